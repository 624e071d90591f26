/- QuadWraps: the law's walk. -/
import Derived.Test.YtplnnlfmehfaiaaFromsLaw
import Derived.Test.YtplnnlfmehfaiaaSqWrap
import Derived.Test.YtplnnlfmehfaiaaSqPeel2
import Derived.Test.YtplnnlfmehfaiaaSqTidy
namespace Go.Proofs.Ytplnnlfmehfaiaa.A
open Go.RowKit Go.Maps

/-- a row in a block from lo to below hi -/
def RowIn (w : World) (lo hi : Nat) (u : Value) (ys : List (Int × Int)) : Prop :=
  (ys = [] ∧ u = .slice none 0 0) ∨ (ys ≠ [] ∧ ∃ b off c, u = .slice (some ⟨b, off, none⟩) ys.length c ∧ lo ≤ b ∧ b < hi ∧ hi ≤ w.heap.size ∧ ys.length ≤ c ∧ c ≤ maxLen ∧ HoldsR w b off ys)
theorem RowIn.row {w : World} {lo hi : Nat} {u : Value} {ys : List (Int × Int)} (h : RowIn w lo hi u ys) : Row w u ys := by
  rcases h with h | ⟨hz, b, off, c, hv, hlo, hhi, hw, hl, hm, hh⟩
  · exact Or.inl h
  · exact Or.inr ⟨hz, b, off, c, hv, by omega, hl, hm, hh⟩
theorem RowIn.apart {w w' : World} {lo hi : Nat} {u : Value} {ys : List (Int × Int)} {F : Nat → Prop} (h : RowIn w lo hi u ys) (P : Apart F w w') (hn : ∀ k, lo ≤ k → k < hi → ¬ F k) : RowIn w' lo hi u ys := by
  rcases h with h | ⟨hz, b, off, c, hv, hlo, hhi, hw, hl, hm, hh⟩
  · exact Or.inl h
  · have e := P.block b (by omega) (hn b hlo hhi)
    refine Or.inr ⟨hz, b, off, c, hv, hlo, hhi, Nat.le_trans hw P.size, hl, hm, fun j hj => ?_⟩
    obtain ⟨a1, a2⟩ := hh j hj
    exact ⟨(World.cell?_of_block (a := ⟨b, off + j * 2, none⟩) e).trans a1, (World.cell?_of_block (a := ⟨b, off + j * 2 + 1, none⟩) e).trans a2⟩
theorem rowIn_kept {w : World} {base : Nat} {u : Value} {ys : List (Int × Int)} (h : Kept w base u ys) : RowIn w base w.heap.size u ys := by
  rcases h with ⟨rfl, rfl⟩ | ⟨hz, hown⟩
  · exact Or.inl ⟨rfl, rfl⟩
  · rcases id hown with ⟨_, ⟨_, h0⟩ | ⟨g, cap, cur, hv, hB, _, hc, hm, _⟩⟩
    · exact absurd (List.length_eq_zero_iff.1 h0) hz
    · subst hv
      exact Or.inr ⟨hz, g, 0, cap, rfl, hB, (hown.lt g rfl).2, Nat.le_refl _, hc, hm, holdsR_of_owns hown⟩
theorem rowIn_orow {w : World} {base : Nat} {u : Value} {ys : List (Int × Int)} (h : ORow w base u ys) : RowIn w base w.heap.size u ys := by
  rcases h with h | ⟨hz, b, off, c, hv, hB, hlt, hl, hm, hh⟩
  · exact Or.inl h
  · exact Or.inr ⟨hz, b, off, c, hv, hB, hlt, Nat.le_refl _, hl, hm, hh.read⟩
theorem apart_of_below {w w' : World} (h : Below w.heap.size w w') (F : Nat → Prop) : Apart F w w' := ⟨h.os, h.tape, h.output, h.size, fun k hk _ => h.block k hk⟩
theorem below_apart {w w1 w2 : World} {F : Nat → Prop} (b : Below w.heap.size w w1) (P : Apart F w1 w2) (hF : ∀ k, F k → w.heap.size ≤ k) : Below w.heap.size w w2 :=
  ⟨P.os.trans b.os, P.tape.trans b.tape, P.output.trans b.output, Nat.le_trans b.size P.size, fun k hk => (P.block k (Nat.lt_of_lt_of_le hk b.size) (fun e => by have := hF k e; omega)).trans (b.block k hk)⟩

/-- what a wrapped square holds -/
theorem wrap_cells {l l4 : List Th} {m : Nat} {id id4 : Int} {ys : List (Int × Int)} (hc : ∀ p : Int × Int, p ∈ cellsF l (m + 1) id ↔ (p.1 - (halfN (m + 1) : Int), p.2 - (halfN (m + 1) : Int)) ∈ ys) (h4 : ∀ p : Int × Int, p ∈ cellsF l4 (m + 1 + 1) id4 ↔ (p.1 - (halfN (m + 1) : Int), p.2 - (halfN (m + 1) : Int)) ∈ cellsF l (m + 1) id) :
    ∀ p : Int × Int, p ∈ cellsF l4 (m + 1 + 1) id4 ↔ (p.1 - (halfN (m + 1 + 1) : Int), p.2 - (halfN (m + 1 + 1) : Int)) ∈ ys := fun p => by
  rw [h4, hc]
  have e : halfN (m + 1 + 1) = halfN (m + 1) + halfN (m + 1) := by rw [halfN_succ, halfN_succ, Nat.pow_succ]; omega
  rw [e]
  generalize halfN (m + 1) = k
  simp only
  rw [show p.1 - (k : Int) - (k : Int) = p.1 - ((k + k : Nat) : Int) by omega, show p.2 - (k : Int) - (k : Int) = p.2 - ((k + k : Nat) : Int) by omega]
theorem LeastLv.congr {N : Nat} {S T : List (Int × Int)} (h : LeastLv N S) (hm : ∀ p, p ∈ S ↔ p ∈ T) : LeastLv N T := ⟨h.two, fun p hp => h.fits p ((hm p).2 hp), fun j h2 hj hf => h.least j h2 hj fun p hp => hf p ((hm p).1 hp)⟩
/-- what is peeled of a wrapped root is that root -/
theorem peel_same {A A7 : Ar} {m N' : Nat} {id id7 : Int} {S ys : List (Int × Int)} (hG : Good A.ths) (hI7 : Inv A7) (hx : Ext A.ths A7.ths) (hlev : glevel A.ths id = some ((m + 1 : Nat) : Int)) (hL : LeastLv (m + 1) ys) (hS : ∀ p, p ∈ S ↔ p ∈ ys) (hc : ∀ p : Int × Int, p ∈ cellsF A.ths (m + 1) id ↔ (p.1 - (halfN (m + 1) : Int), p.2 - (halfN (m + 1) : Int)) ∈ ys) (hL7 : LeastLv N' S) (hl7 : glevel A7.ths id7 = some (N' : Int)) (hc7 : ∀ p : Int × Int, p ∈ cellsF A7.ths N' id7 ↔ (p.1 - (halfN N' : Int), p.2 - (halfN N' : Int)) ∈ S) : id7 = id := by
  obtain rfl : N' = m + 1 := (hL7.congr hS).unique hL
  refine cells_one hI7.good hI7.uniq (m + 1) id7 id hl7 (glevel_ext hlev hx) fun p => ?_
  rw [hc7, hS, cells_ext hG hx (m + 1) id hlev, hc]

set_option maxRecDepth 20000 in
set_option maxHeartbeats 8000000 in
theorem wraps_any (v : Value) (zs0 : List (Int × Int)) (w : World) (hrow0 : RRow w v zs0) :
    Calls Try.prog 9 #[v] w fun e w' => e = .returned (.bool true) ∧ Below w.heap.size w w' := by
  obtain ⟨a0, c0, hv0, hc0, _, ha0, hp0⟩ := id hrow0
  have HR0 : Hid (RRow w v zs0) := hrow0
  clear hrow0
  subst hv0
  go_enter Try.func9, Try.ntmps9
  go_upto_if 21 with fail
  go_cut [0] from 19 to 23 (fun s0 wc => ∃ (a : Option Addr) (c m : Nat) (zs : List (Int × Int)), s0 = .slice a m c ∧ m = zs.length ∧ zs.length ≤ 300 ∧ RRow w s0 zs ∧ wc = w)
  case first =>
    by_cases hl : 300 < zs0.length
    · have hl3 : (300 : Int) < (zs0.length : Int) := by omega
      have hd3 : decide ((300 : Int) < (zs0.length : Int)) = true := by simpa using hl3
      have hc3 : (300 : Int) ≤ (c0 : Int) := by omega
      obtain ⟨b, off, rfl, _⟩ : ∃ b off, a0 = some (⟨b, off, none⟩ : Addr) ∧ True := by
        rcases hp0 with h | ⟨b, off, h, _⟩
        · omega
        · exact ⟨b, off, h, trivial⟩
      have HREL : Hid (∃ (a : Option Addr) (c m : Nat) (zs : List (Int × Int)), Value.slice (some ⟨b, off, none⟩) 300 c0 = .slice a m c ∧ m = zs.length ∧ zs.length ≤ 300 ∧ RRow w (.slice (some ⟨b, off, none⟩) 300 c0) zs) := by
        have hlen : (zs0.take 300).length = 300 := by rw [List.length_take]; omega
        exact ⟨_, _, 300, zs0.take 300, rfl, hlen.symm, Nat.le_of_eq hlen, cut_row HR0.out hl⟩
      generalize zs0.length = M at *
      clear hp0 HR0
      go_wp2_with fail
      go_meet
      case rel =>
        obtain ⟨a, c, m, zs, h1, h2, h3, h4⟩ := HREL.out
        exact ⟨a, c, m, zs, h1, h2, h3, h4, rfl⟩
    · have hl3 : ¬ (300 : Int) < (zs0.length : Int) := by omega
      have hd3 : decide ((300 : Int) < (zs0.length : Int)) = false := by simpa using hl3
      have HREL : Hid (∃ (a : Option Addr) (c m : Nat) (zs : List (Int × Int)), Value.slice a0 zs0.length c0 = .slice a m c ∧ m = zs.length ∧ zs.length ≤ 300 ∧ RRow w (.slice a0 zs0.length c0) zs) := ⟨_, _, _, zs0, rfl, rfl, by omega, HR0.out⟩
      generalize zs0.length = M at *
      clear hp0 HR0
      go_wp2_with fail
      go_meet
      case rel =>
        obtain ⟨a, c, m, zs, h1, h2, h3, h4⟩ := HREL.out
        exact ⟨a, c, m, zs, h1, h2, h3, h4, rfl⟩
  case rest =>
  obtain ⟨a, c, m, zs, rfl, hm, hlen, hrow, rfl⟩ := hcut
  clear HR0 hp0 hc0 ha0
  obtain ⟨ys, hys⟩ := tidied_exists zs
  have HLEN : Hid (zs.length ≤ 300) := hlen
  have hMA := fun W h => made_any (.slice a m c) zs ys W h hlen hys
  have hRT := fun W h => refTidy_own (.slice a m c) zs W h
  have HR : Hid (RRow wc (.slice a m c) zs) := hrow
  have HYS : Hid (Tidied zs ys) := hys
  clear hrow hys hlen hm
  go_wp2_with fail
  refine (hMA _ HR.out).mono ?_
  rintro e w1 ⟨b, id, rfl, hb1, hid, hmade⟩
  have hr1 := RRow.below HR.out hb1
  clear hMA
  obtain ⟨tc, htc⟩ : ∃ tc, tc = tcode zs := ⟨_, rfl⟩
  rw [← htc] at hRT hid hmade ⊢
  have HTC : Hid (tc = tcode zs) := htc
  clear htc
  go_wp2_with fail
  refine (hRT _ hr1).mono ?_
  rintro e w2 ⟨u, ys', rfl, hb2, ht2, hr2⟩
  obtain rfl : ys' = ys := ht2.unique HYS.out
  have b2 : Below wc.heap.size wc w2 := hb1.trans (hb2.mono hb1.size)
  clear hRT ht2 hid
  by_cases h0 : tc = 0
  · obtain ⟨A, F, nn, lv, hA, hF, hI, hP, hL, hlv, hlev, hcells⟩ := hmade h0
    subst h0
    clear hmade
    have hA2 := hA.below hb2
    have hmask := hP.bud.mask
    have hfew := hP.bud.young.few
    have hyl : ys'.length ≤ 300 := Nat.le_trans (tidied_len HYS.out) HLEN.out
    have hlv2 := hL.two
    obtain ⟨m', rfl⟩ : ∃ m', lv = m' + 1 := ⟨lv - 1, by omega⟩
    have hLv : ∀ (A1 : Ar) (F1 : Nat → Prop) (n1 : Nat) (i l : Int) W, ArAt W b F1 n1 A1 → (∀ x ∈ A1.ths, x.mask < 18446744073709551616) → A1.ths.length < 1000000 → levelF A1.ths 3 i = some l → Calls Try.prog 27 #[.pointer (some ⟨b, 0, none⟩), .int .i64 3, .int .i64 i] W fun x w' => x = .returned (.tuple #[.int .i64 l, .int .i64 0]) ∧ Below W.heap.size W w' := fun A1 F1 n1 i l W ⟨r, D, h⟩ hm1 hf1 hl1 => by
      have := Level_any b 0 3 i r A1.ths W h.raw h.ths (by omega) hm1 (fits_of hl1 hf1)
      rw [hl1] at this
      exact this
    have hWr : ∀ W, ArAt W b F nn A → Calls Try.prog 47 #[.pointer (some ⟨b, 0, none⟩), .int .i64 3, .int .i64 id] W fun x w' => ∃ id', x = .returned (.tuple #[.int .i64 id', .int .i64 0]) ∧ WrapOut W b 3 1000 (m' + 1) F A id id' w' := fun W h => Wrap_root b nn 3 1000 m' id F A W h hI (by omega) hlev (by omega) (hP.less (by omega))
    have R2 := rowIn_kept hr2
    obtain ⟨ua, uc, hu⟩ := row_shape R2.row
    clear hr2
    subst hu
    have HU2 : Hid (RowIn w2 w1.heap.size w2.heap.size (.slice ua ys'.length uc) ys') := R2
    clear R2
    generalize hyn : ys'.length = yn at *
    obtain ⟨lvl, hlvl⟩ : ∃ lvl : Int, lvl = ((m' + 1 : Nat) : Int) := ⟨_, rfl⟩
    have hlvb : 0 ≤ lvl ∧ lvl ≤ 44 := by omega
    have hL0 := hLv A F nn id _ w2 hA2 hmask hfew hlev
    rw [← hlvl] at hL0
    have HLVL : Hid (lvl = ((m' + 1 : Nat) : Int)) := hlvl
    have HM : Hid (2 ≤ m' + 1 ∧ m' + 1 ≤ 41) := ⟨hlv2, hlv⟩
    have HYN : Hid (ys'.length = yn ∧ yn ≤ 300) := ⟨hyn, hyl⟩
    clear hlvl hlv2 hlv hyn hyl
    go_wp2_with fail
    refine hL0.mono ?_
    rintro e w3 ⟨rfl, hb3⟩
    have hA3 := hA2.below hb3
    have b3 : Below wc.heap.size wc w3 := b2.trans (hb3.mono b2.size)
    clear hL0
    go_wp2_with fail
    refine (hWr _ hA3).mono ?_
    rintro e w4 ⟨id4, rfl, A4, F4, n4, N4, hA4, hF4, P4, hI4, hP4, g4, hl4, hc4⟩
    have hm4 := hP4.bud.mask
    have hf4 := hP4.bud.young.few
    have b4 : Below wc.heap.size wc w4 := below_apart b3 P4 hF
    have hF4' : ∀ k, F4 k → wc.heap.size ≤ k := fun k hk => by
      rcases hF4 k hk with e | e
      · exact hF k e
      · exact Nat.le_trans b3.size e
    have HU4 : Hid (RowIn w4 w1.heap.size w2.heap.size (.slice ua yn uc) ys') := (HU2.out.apart (apart_of_below hb3 F) (fun k h1 _ e => by have := hA.flt k e; omega)).apart P4 (fun k h1 _ e => by have := hA.flt k e; omega)
    have HNF4 : Hid (∀ k, w1.heap.size ≤ k → k < w2.heap.size → ¬ F4 k) := fun k h1 h2 e => by
      rcases hF4 k e with e | e
      · have := hA.flt k e; omega
      · have := hb3.size; omega
    have HC4 : Hid (∀ p : Int × Int, p ∈ cellsF A4.ths (m' + 1 + 1) id4 ↔ (p.1 - (halfN (m' + 1 + 1) : Int), p.2 - (halfN (m' + 1 + 1) : Int)) ∈ ys') := wrap_cells hcells hc4
    have hlen4 := made_len hI4.good (glevel_of hl4) HYS.out.1 HC4.out
    have hmem4 := made_mem HC4.out
    have htid4 := made_tidied HYS.out hmem4 (by rw [shift_len]; have := HYN.out; omega)
    have hCe0 := fun W h => Cells_root b n4 3 (m' + 1 + 1) id4 F4 A4 W h hI4 (by omega) hm4 hf4 hl4 (by omega) (by have := HM.out; omega) (by have := HYN.out; omega)
    have hCe : ∀ W, ArAt W b F4 n4 A4 → Calls Try.prog 41 #[.pointer (some ⟨b, 0, none⟩), .int .i64 3, .int .i64 id4] W fun x w' => ∃ u, x = .returned (.tuple #[u, .int .i64 0]) ∧ RowIn w' W.heap.size w'.heap.size u ys' ∧ Below W.heap.size W w' := fun W h => (hCe0 W h).mono fun x w' ⟨u, ys2, h1, h2, h3, h4⟩ => ⟨u, by rw [h1, htid4.2], rowIn_orow (by rw [← h2.unique htid4.1]; exact h3), h4⟩
    have hPe : ∀ W, ArAt W b F4 n4 A4 → Calls Try.prog 48 #[.pointer (some ⟨b, 0, none⟩), .int .i64 3, .int .i64 id4] W fun x w' => x = .returned (.tuple #[.int .i64 id, .int .i64 0]) ∧ Apart F4 W w' := fun W h => (Peel_root b n4 3 0 (m' + 1) id4 F4 A4 W h hI4 (by omega) hl4 (by omega) (by have := HM.out; omega) (by have := HYN.out; omega) (hP4.less (by omega))).mono fun x w' ⟨id7, h1, A7, F7, n7, N', N7, h2, h3, h4, h5, h6, h7, h8, h9, h10⟩ => ⟨by rw [h1, peel_same hI.good h5 (g4.ext.trans h7.ext) (glevel_of hlev) hL hmem4 hcells h8 (glevel_of h9) h10], h4⟩
    have hL4 := hLv A4 F4 n4 id4 _ w4 hA4 hm4 hf4 hl4
    have hlv4 : ((m' + 1 + 1 : Nat) : Int) = lvl + 1 := by rw [HLVL.out]; omega
    rw [hlv4] at hL4
    have hSa := fun (u1 : Value) W h1 h2 => sameCells_any u1 (.slice ua yn uc) ys' W h1 h2
    have hflt4 := hA4.flt
    clear hlv4 hLv hWr hCe0 htid4 hmem4 hlen4 hc4 hcells hl4 hlev hL hI hI4 hP hP4 g4 hmask hfew hm4 hf4 hA hA2 hA3 hF4
    go_wp2_with fail
    refine hL4.mono ?_
    rintro e w5 ⟨rfl, hb5⟩
    have hA5 := hA4.below hb5
    have b5 : Below wc.heap.size wc w5 := b4.trans (hb5.mono b4.size)
    clear hL4
    go_wp2_with fail
    refine (hCe _ hA5).mono ?_
    rintro e w6 ⟨u6, rfl, hr6, hb6⟩
    have hA6 := hA5.below hb6
    have b6 : Below wc.heap.size wc w6 := b5.trans (hb6.mono b5.size)
    clear hCe
    go_wp2_with fail
    refine (hPe _ hA6).mono ?_
    rintro e w7 ⟨rfl, P7⟩
    have b7 : Below wc.heap.size wc w7 := below_apart b6 P7 hF4'
    have hr7 := (hr6.apart P7 (fun k h1 _ e => by have := hflt4 k e; have := hb5.size; omega)).row
    have hu7 := (((HU4.out.apart (apart_of_below hb5 F4) HNF4.out).apart (apart_of_below hb6 F4) HNF4.out).apart P7 HNF4.out).row
    clear hPe
    go_wp2_with fail
    refine (hSa _ _ hr7 hu7).mono ?_
    rintro e w8 ⟨rfl, hb8⟩
    go_wp2_with fail
    go_ret
    exact ⟨rfl, b7.trans (hb8.mono b7.size)⟩
  · have h0' : (tc != 0) = true := by simpa using h0
    clear hmade
    go_wp2_with fail
    go_ret
    exact ⟨rfl, b2⟩

end Go.Proofs.Ytplnnlfmehfaiaa.A
