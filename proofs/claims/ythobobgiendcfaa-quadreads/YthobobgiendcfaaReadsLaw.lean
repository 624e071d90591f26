/- QuadReads: the law's walk. -/
import Derived.Test.YthobobgiendcfaaSqLaw
namespace Go.Proofs.Ythobobgiendcfaa.A
open Go.RowKit Go.Maps

theorem row_shape {w : World} {u : Value} {ys : List (Int × Int)} (h : Row w u ys) : ∃ a c, u = .slice a ys.length c := by
  obtain ⟨a, c, hv, _⟩ := h.shape
  exact ⟨a, c, hv⟩
theorem Row.below {w w' : World} {v : Value} {zs : List (Int × Int)} (h : Row w v zs) (hb : Below w.heap.size w w') : Row w' v zs := by
  rcases h with h | ⟨h0, b, off, c, hv, hl, h1, h2, h3⟩
  · exact Or.inl h
  · refine Or.inr ⟨h0, b, off, c, hv, Nat.lt_of_lt_of_le hl hb.size, h1, h2, fun j hj => ?_⟩
    obtain ⟨a1, a2⟩ := h3 j hj
    exact ⟨(World.cell?_of_block (a := ⟨b, off + j * 2, none⟩) (hb.block b hl)).trans a1, (World.cell?_of_block (a := ⟨b, off + j * 2 + 1, none⟩) (hb.block b hl)).trans a2⟩

set_option maxRecDepth 20000 in
set_option maxHeartbeats 8000000 in
theorem reads_any (v : Value) (zs0 : List (Int × Int)) (w : World) (hrow0 : RRow w v zs0) :
    Calls Try.prog 8 #[v] w fun e w' => e = .returned (.bool true) ∧ Below w.heap.size w w' := by
  obtain ⟨a0, c0, hv0, hc0, _, ha0, hp0⟩ := id hrow0
  have HR0 : Hid (RRow w v zs0) := hrow0
  clear hrow0
  subst hv0
  go_enter Try.func8, Try.ntmps8
  go_upto_if 18 with fail
  go_cut [0] from 16 to 20 (fun s0 wc => ∃ (a : Option Addr) (c m : Nat) (zs : List (Int × Int)), s0 = .slice a m c ∧ m = zs.length ∧ zs.length ≤ 300 ∧ RRow w s0 zs ∧ wc = w)
  case first =>
    by_cases hl : 300 < zs0.length
    · have hl3 : (300 : Int) < (zs0.length : Int) := by omega
      have hd3 : decide ((300 : Int) < (zs0.length : Int)) = true := by simpa using hl3
      have hc3 : (300 : Int) ≤ (c0 : Int) := by omega
      obtain ⟨b, off, rfl, _⟩ : ∃ b off, a0 = some (⟨b, off, none⟩ : Addr) ∧ True := by
        rcases hp0 with h | ⟨b, off, h, _⟩
        · omega
        · exact ⟨b, off, h, trivial⟩
      have HREL : Hid (∃ (a : Option Addr) (c m : Nat) (zs : List (Int × Int)), Value.slice (some ⟨b, off, none⟩) 300 c0 = .slice a m c ∧ m = zs.length ∧ zs.length ≤ 300 ∧ RRow w (.slice (some ⟨b, off, none⟩) 300 c0) zs) := by
        have hlen : (zs0.take 300).length = 300 := by rw [List.length_take]; omega
        exact ⟨_, _, 300, zs0.take 300, rfl, hlen.symm, Nat.le_of_eq hlen, cut_row HR0.out hl⟩
      generalize zs0.length = M at *
      clear hp0 HR0
      go_wp2_with fail
      go_meet
      case rel =>
        obtain ⟨a, c, m, zs, h1, h2, h3, h4⟩ := HREL.out
        exact ⟨a, c, m, zs, h1, h2, h3, h4, rfl⟩
    · have hl3 : ¬ (300 : Int) < (zs0.length : Int) := by omega
      have hd3 : decide ((300 : Int) < (zs0.length : Int)) = false := by simpa using hl3
      have HREL : Hid (∃ (a : Option Addr) (c m : Nat) (zs : List (Int × Int)), Value.slice a0 zs0.length c0 = .slice a m c ∧ m = zs.length ∧ zs.length ≤ 300 ∧ RRow w (.slice a0 zs0.length c0) zs) := ⟨_, _, _, zs0, rfl, rfl, by omega, HR0.out⟩
      generalize zs0.length = M at *
      clear hp0 HR0
      go_wp2_with fail
      go_meet
      case rel =>
        obtain ⟨a, c, m, zs, h1, h2, h3, h4⟩ := HREL.out
        exact ⟨a, c, m, zs, h1, h2, h3, h4, rfl⟩
  case rest =>
  obtain ⟨a, c, m, zs, rfl, hm, hlen, hrow, rfl⟩ := hcut
  clear HR0 hp0 hc0 ha0
  obtain ⟨ys, hys⟩ := tidied_exists zs
  have HLEN : Hid (zs.length ≤ 300) := hlen
  have hMA := fun W h => made_any (.slice a m c) zs ys W h hlen hys
  have hRT := fun W h => refTidy_told (.slice a m c) zs W h
  have HR : Hid (RRow wc (.slice a m c) zs) := hrow
  have HYS : Hid (Tidied zs ys) := hys
  clear hrow hys hlen hm
  go_wp2_with fail
  refine (hMA _ HR.out).mono ?_
  rintro e w1 ⟨b, id, rfl, hb1, hid, hmade⟩
  have hr1 := RRow.below HR.out hb1
  clear hMA
  obtain ⟨tc, htc⟩ : ∃ tc, tc = tcode zs := ⟨_, rfl⟩
  rw [← htc] at hRT hid hmade ⊢
  have HTC : Hid (tc = tcode zs) := htc
  clear htc
  go_wp2_with fail
  refine (hRT _ hr1).mono ?_
  rintro e w2 ⟨u, ys', rfl, hb2, ht2, hr2⟩
  obtain rfl : ys' = ys := ht2.unique HYS.out
  have b2 : Below wc.heap.size wc w2 := hb1.trans (hb2.mono hb1.size)
  clear hRT ht2 hid
  by_cases h0 : tc = 0
  · obtain ⟨A, F, nn, lv, hA, hF, hI, hP, hL, hlv, hlev, hcells⟩ := hmade h0
    subst h0
    clear hmade
    have hA2 := hA.below hb2
    have hmask := hP.bud.mask
    have hfew := hP.bud.young.few
    have hlen2 := made_len hI.good (glevel_of hlev) HYS.out.1 hcells
    have hmem := made_mem hcells
    have hyl : ys'.length ≤ 300 := Nat.le_trans (tidied_len HYS.out) HLEN.out
    have hbig : (cellsF A.ths lv id).length < 4611686018427387904 := by omega
    have hCo := fun W h => Count_root b nn 3 lv id F A W h hI (by omega) hmask hfew hlev (by omega) hbig
    have hBo := fun W h => Box_root b nn 3 lv id F A W h hI (by omega) hmask hfew hlev (by have := hL.two; omega) (by omega) hbig
    rw [hlen2] at hCo
    have hne : decide (cellsF A.ths lv id ≠ []) = decide (ys' ≠ []) := by
      have : cellsF A.ths lv id = [] ↔ ys' = [] := by rw [← List.length_eq_zero_iff, hlen2, List.length_eq_zero_iff]
      simp [this]
    rw [hne] at hBo
    have HMEM : Hid (∀ p, p ∈ shiftL (-(halfN lv : Int)) (-(halfN lv : Int)) (cellsF A.ths lv id) ↔ p ∈ ys') := hmem
    obtain ⟨bl, hbl⟩ : ∃ bl, bl = decide (ys' ≠ []) := ⟨_, rfl⟩
    obtain ⟨ua, uc, hu⟩ := row_shape hr2
    have HU : Hid (Row w2 u ys') := hr2
    clear hne hlen2 hmem hbig hyl hcells hlev hL hI hP hr2 hA
    have hCo3 : ∀ W, ArAt W b F nn A → Calls Try.prog 44 #[.pointer (some ⟨b, 0, none⟩), .int .i64 3, .int .i64 id] W fun x w' => x = .returned (.tuple #[.int .i64 (ys'.length : Int), .int .i64 0]) ∧ Below W.heap.size W w' := fun W h => hCo W h
    have hBo3 : ∀ W, ArAt W b F nn A → Calls Try.prog 45 #[.pointer (some ⟨b, 0, none⟩), .int .i64 3, .int .i64 id] W fun x w' => ∃ x0 y0 x1 y1, x = .returned (.tuple #[.agg #[.int .i64 x0, .int .i64 y0, .int .i64 x1, .int .i64 y1], .bool (decide (ys' ≠ [])), .int .i64 0]) ∧ BoxOr (shiftL (-(halfN lv : Int)) (-(halfN lv : Int)) (cellsF A.ths lv id)) x0 y0 x1 y1 ∧ Below W.heap.size W w' := fun W h => hBo W h
    clear hCo hBo
    subst hu
    go_wp2_with fail
    refine (hCo3 _ hA2).mono ?_
    rintro e w3 ⟨rfl, hb3⟩
    have hA3 := hA2.below hb3
    have b3 : Below wc.heap.size wc w3 := b2.trans (hb3.mono b2.size)
    go_wp2_with fail
    refine (hBo3 _ hA3).mono ?_
    rintro e w4 ⟨x0, y0, x1, y1, rfl, hbx, hb4⟩
    have b4 : Below wc.heap.size wc w4 := b3.trans (hb4.mono b3.size)
    obtain ⟨u0, v0, u1, v1, hbx2, hRB⟩ := refBounds_or (.slice ua ys'.length uc) ys' (w4.alloc (.cells #[.int .i64 x0, .int .i64 y0, .int .i64 x1, .int .i64 y1] 81)) (HU.out.below ((hb3.trans (hb4.mono hb3.size)).alloc (Nat.le_trans hb3.size hb4.size) _))
    obtain ⟨e0, e1, e2, e3⟩ := (hbx.same HMEM.out).unique hbx2
    subst e0; subst e1; subst e2; subst e3
    rw [← hbl] at hRB ⊢
    clear hbx hbx2 hbl hCo3 hBo3
    have b5 := b4.alloc (Nat.le_trans b4.size (Nat.le_refl _)) (.cells #[.int .i64 x0, .int .i64 y0, .int .i64 x1, .int .i64 y1] 81)
    go_wp2_with fail
    refine hRB.mono ?_
    rintro e w5 ⟨rfl, hb5⟩
    have b6 := b5.trans (hb5.mono b5.size)
    have hB5 : w5.heap[w4.heap.size]? = some (.cells #[.int .i64 x0, .int .i64 y0, .int .i64 x1, .int .i64 y1] 81 (0, 0)) := (hb5.block w4.heap.size (by simp)).trans (heap_alloc_new w4 _)
    have hl45 : w4.heap.size < w5.heap.size := (Array.getElem?_eq_some_iff.1 hB5).1
    have p0 : w5.cell? ⟨w4.heap.size, 0, none⟩ = some (.int .i64 x0) := Lib.cell_of_heap hB5 0
    have p1 : w5.cell? ⟨w4.heap.size, 1, none⟩ = some (.int .i64 y0) := Lib.cell_of_heap hB5 1
    have p2 : w5.cell? ⟨w4.heap.size, 2, none⟩ = some (.int .i64 x1) := Lib.cell_of_heap hB5 2
    have p3 : w5.cell? ⟨w4.heap.size, 3, none⟩ = some (.int .i64 y1) := Lib.cell_of_heap hB5 3
    have b7 := b6.alloc (Nat.le_trans b6.size (Nat.le_refl _)) (.cells #[.int .i64 x0, .int .i64 y0, .int .i64 x1, .int .i64 y1] 81)
    have hbb : (bl == bl) = true := by simp
    clear hRB hb5 hB5
    go_wp2_with fail
    go_ret
    exact ⟨rfl, b7⟩
  · have h0' : (tc != 0) = true := by simpa using h0
    clear hmade
    go_wp2_with fail
    go_ret
    exact ⟨rfl, b2⟩

end Go.Proofs.Ythobobgiendcfaa.A
