/- QuadPuts: the law's walk. -/
import Derived.Test.YthobobgiendcfaaWrapsLaw
import Derived.Test.YthobobgiendcfaaSqPut3
import Derived.Test.YthobobgiendcfaaSqSets
namespace Go.Proofs.Ythobobgiendcfaa.A
open Go.RowKit Go.Maps

/-- the cells with one set alive or dead -/
theorem put_cells {l l4 : List Th} {n : Nat} {id id4 X Y : Int} {alive : Bool} {ys R : List (Int × Int)} (hc : ∀ p : Int × Int, p ∈ cellsF l n id ↔ (p.1 - (halfN n : Int), p.2 - (halfN n : Int)) ∈ ys) (h4 : PutC alive (X + (halfN n : Int)) (Y + (halfN n : Int)) (cellsF l n id) (cellsF l4 n id4)) (hR : ∀ p, p ∈ R ↔ (p = (X, Y) ∧ alive = true) ∨ (p ≠ (X, Y) ∧ p ∈ ys)) :
    ∀ p : Int × Int, p ∈ cellsF l4 n id4 ↔ (p.1 - (halfN n : Int), p.2 - (halfN n : Int)) ∈ R := fun p => by
  rw [h4 p, hR, hc]
  have e : p = (X + (halfN n : Int), Y + (halfN n : Int)) ↔ (p.1 - (halfN n : Int), p.2 - (halfN n : Int)) = (X, Y) := by
    obtain ⟨a, b⟩ := p
    simp only [Prod.mk.injEq]
    omega
  rw [e, Ne, Ne, e]
theorem put_len {l l4 : List Th} {n : Nat} {id id4 X Y : Int} {alive : Bool} (hG : Good l4) (hg : glevel l4 id4 = some (n : Int)) (h4 : PutC alive X Y (cellsF l n id) (cellsF l4 n id4)) : (cellsF l4 n id4).length ≤ (cellsF l n id).length + 1 := by
  have := len_le (ys := cellsF l4 n id4) (zs := (X, Y) :: cellsF l n id) (cells_nodup hG n id4 hg) (fun p hp => by
    rcases (h4 p).1 hp with ⟨h, _⟩ | ⟨_, h⟩
    · rw [h]; simp
    · exact List.mem_cons_of_mem _ h)
  simpa using this
theorem union_mem {ys R : List (Int × Int)} {c : Int × Int} (h : ∀ p, p ∈ R ↔ (p ∈ ys ∨ p = c) ∧ (fun _ _ : Bool => true) (decide (p ∈ ys)) (decide (p = c)) = true) : ∀ p, p ∈ R ↔ (p = c ∧ true = true) ∨ (p ≠ c ∧ p ∈ ys) := fun p => by
  rw [h p]
  by_cases e : p = c <;> simp [e]
theorem minus_mem {ys R : List (Int × Int)} {c : Int × Int} (h : ∀ p, p ∈ R ↔ (p ∈ ys ∨ p = c) ∧ (fun _ y : Bool => !y) (decide (p ∈ ys)) (decide (p = c)) = true) : ∀ p, p ∈ R ↔ (p = c ∧ false = true) ∨ (p ≠ c ∧ p ∈ ys) := fun p => by
  rw [h p]
  by_cases e : p = c <;> simp [e]

theorem one_row (w : World) (X Y : Int) : RRow (w.alloc (.cells #[.int .i64 X, .int .i64 Y] 87)) (.slice (some ⟨w.heap.size, 0, none⟩) 1 1) [(X, Y)] := by
  have h : (w.alloc (.cells #[.int .i64 X, .int .i64 Y] 87)).heap[w.heap.size]? = some (.cells #[.int .i64 X, .int .i64 Y] 87 (0, 0)) := heap_alloc_new w _
  have hr : Row (w.alloc (.cells #[.int .i64 X, .int .i64 Y] 87)) (.slice (some ⟨w.heap.size, 0, none⟩) 1 1) [(X, Y)] := Or.inr ⟨by simp, w.heap.size, 0, 1, rfl, by simp, by simp, by unfold maxLen; omega, fun j hj => by
    simp only [List.length_cons, List.length_nil] at hj
    obtain rfl : j = 0 := by omega
    exact ⟨Lib.cell_of_heap h 0, Lib.cell_of_heap h 1⟩⟩
  exact hr.isRow
/-- a tidy list that is short and near is told as it is -/
theorem tidied_self {zs ys R : List (Int × Int)} {c : Int × Int} (h : Tidied zs ys) (hl : ys.length ≤ 300) (hT : Tidy R) (hc : farP c = false) (hm : ∀ p, p ∈ R → p = c ∨ p ∈ ys) : Tidied R R ∧ R.length ≤ 301 := by
  have hlen : R.length ≤ 301 := by
    have := len_le (ys := R) (zs := c :: ys) (tidy_nodup hT) (fun p hp => by
      rcases hm p hp with h | h
      · rw [h]; simp
      · exact List.mem_cons_of_mem _ h)
    simp only [List.length_cons] at this
    omega
  have hz : tcode R = 0 := by
    unfold tcode
    rw [if_neg (by omega), if_neg]
    simp only [Bool.not_eq_true, List.any_eq_false]
    intro p hp
    rcases hm p hp with h1 | h1
    · rw [h1, hc]
    · have := tidied_far h p h1
      simp [this]
  exact ⟨⟨hT, fun p => by rw [hz]; simp⟩, hlen⟩

set_option maxRecDepth 20000 in
set_option maxHeartbeats 8000000 in
theorem puts_any (v : Value) (zs0 : List (Int × Int)) (X Y : Int) (alive : Bool) (w : World) (hrow0 : RRow w v zs0) :
    Calls Try.prog 10 #[v, .agg #[.int .i64 X, .int .i64 Y], .bool alive] w fun e w' => e = .returned (.bool true) ∧ Below w.heap.size w w' := by
  obtain ⟨W0, hW0⟩ : ∃ W0, W0 = w.alloc (.cells #[.int .i64 X, .int .i64 Y] 87) := ⟨_, rfl⟩
  have hB0 : Below w.heap.size w W0 := by rw [hW0]; exact (Below.refl _ _).alloc (Nat.le_refl _) _
  have hC0 : W0.heap[w.heap.size]? = some (.cells #[.int .i64 X, .int .i64 Y] 87 (0, 0)) := by rw [hW0]; exact heap_alloc_new w _
  have hx0 : W0.cell? ⟨w.heap.size, 0, none⟩ = some (.int .i64 X) := Lib.cell_of_heap hC0 0
  have hy0 : W0.cell? ⟨w.heap.size, 1, none⟩ = some (.int .i64 Y) := Lib.cell_of_heap hC0 1
  have hsz0 : W0.heap.size = w.heap.size + 1 := by rw [hW0]; simp
  have hrow1 := RRow.below hrow0 hB0
  obtain ⟨a0, c0, hv0, hc0, _, ha0, hp0⟩ := id hrow1
  have HR0 : Hid (RRow W0 v zs0) := hrow1
  have HW : Hid (W0 = w.alloc (.cells #[.int .i64 X, .int .i64 Y] 87) ∧ Below w.heap.size w W0) := ⟨hW0, hB0⟩
  clear hrow0 hrow1 hC0 hB0
  subst hv0
  go_enter Try.func10, Try.ntmps10
  go_upto_if 25 with fail
  rw [← hW0]
  go_cut [0] from 23 to 27 (fun s0 wc => ∃ (a : Option Addr) (c m : Nat) (zs : List (Int × Int)), s0 = .slice a m c ∧ m = zs.length ∧ zs.length ≤ 300 ∧ RRow W0 s0 zs ∧ wc = W0)
  case first =>
    clear hW0
    by_cases hl : 300 < zs0.length
    · have hl3 : (300 : Int) < (zs0.length : Int) := by omega
      have hd3 : decide ((300 : Int) < (zs0.length : Int)) = true := by simpa using hl3
      have hc3 : (300 : Int) ≤ (c0 : Int) := by omega
      obtain ⟨b, off, rfl, _⟩ : ∃ b off, a0 = some (⟨b, off, none⟩ : Addr) ∧ True := by
        rcases hp0 with h | ⟨b, off, h, _⟩
        · omega
        · exact ⟨b, off, h, trivial⟩
      have HREL : Hid (∃ (a : Option Addr) (c m : Nat) (zs : List (Int × Int)), Value.slice (some ⟨b, off, none⟩) 300 c0 = .slice a m c ∧ m = zs.length ∧ zs.length ≤ 300 ∧ RRow W0 (.slice (some ⟨b, off, none⟩) 300 c0) zs) := by
        have hlen : (zs0.take 300).length = 300 := by rw [List.length_take]; omega
        exact ⟨_, _, 300, zs0.take 300, rfl, hlen.symm, Nat.le_of_eq hlen, cut_row HR0.out hl⟩
      generalize zs0.length = M at *
      clear hp0 HR0
      go_wp2_with fail
      go_meet
      case rel =>
        obtain ⟨a, c, m, zs, h1, h2, h3, h4⟩ := HREL.out
        exact ⟨a, c, m, zs, h1, h2, h3, h4, rfl⟩
    · have hl3 : ¬ (300 : Int) < (zs0.length : Int) := by omega
      have hd3 : decide ((300 : Int) < (zs0.length : Int)) = false := by simpa using hl3
      have HREL : Hid (∃ (a : Option Addr) (c m : Nat) (zs : List (Int × Int)), Value.slice a0 zs0.length c0 = .slice a m c ∧ m = zs.length ∧ zs.length ≤ 300 ∧ RRow W0 (.slice a0 zs0.length c0) zs) := ⟨_, _, _, zs0, rfl, rfl, by omega, HR0.out⟩
      generalize zs0.length = M at *
      clear hp0 HR0
      go_wp2_with fail
      go_meet
      case rel =>
        obtain ⟨a, c, m, zs, h1, h2, h3, h4⟩ := HREL.out
        exact ⟨a, c, m, zs, h1, h2, h3, h4, rfl⟩
  case rest =>
  obtain ⟨a, c, m, zs, rfl, hm, hlen, hrow, hwc⟩ := hcut
  have hwc' := hwc.symm
  subst hwc'
  clear HR0 hp0 hc0 ha0 hW0
  obtain ⟨ys, hys⟩ := tidied_exists zs
  have HLEN : Hid (zs.length ≤ 300) := hlen
  have hMA := fun W h => made_any (.slice a m c) zs ys W h hlen hys
  have hRT := fun W h => refTidy_own (.slice a m c) zs W h
  have HR : Hid (RRow W0 (.slice a m c) zs) := hrow
  have HYS : Hid (Tidied zs ys) := hys
  clear hrow hys hlen hm
  go_wp2_with fail
  refine (hMA _ HR.out).mono ?_
  rintro e w1 ⟨b, id, rfl, hb1, hid, hmade⟩
  have hr1 := RRow.below HR.out hb1
  clear hMA
  obtain ⟨tc, htc⟩ : ∃ tc, tc = tcode zs := ⟨_, rfl⟩
  rw [← htc] at hRT hid hmade ⊢
  have HTC : Hid (tc = tcode zs) := htc
  clear htc
  go_wp2_with fail
  refine (hRT _ hr1).mono ?_
  rintro e w2 ⟨u, ys', rfl, hb2, ht2, hr2⟩
  obtain rfl : ys' = ys := ht2.unique HYS.out
  have b2 : Below W0.heap.size W0 w2 := hb1.trans (hb2.mono hb1.size)
  clear hRT ht2 hid
  by_cases h0 : tc = 0
  · obtain ⟨A, F, nn, lv, hA, hF, hI, hP, hL, hlv, hlev, hcells⟩ := hmade h0
    have HTC0 : Hid (tcode zs = 0) := by rw [← h0]; exact HTC.out.symm
    subst h0
    clear hmade
    have hA2 := hA.below hb2
    have hmask := hP.bud.mask
    have hfew := hP.bud.young.few
    have hyl : ys'.length ≤ 300 := Nat.le_trans (tidied_len HYS.out) HLEN.out
    have hlv2 := hL.two
    obtain ⟨m', rfl⟩ : ∃ m', lv = m' + 1 := ⟨lv - 1, by omega⟩
    have hLv : ∀ (A1 : Ar) (F1 : Nat → Prop) (n1 : Nat) (i l : Int) W, ArAt W b F1 n1 A1 → (∀ x ∈ A1.ths, x.mask < 18446744073709551616) → A1.ths.length < 1000000 → levelF A1.ths 3 i = some l → Calls Try.prog 27 #[.pointer (some ⟨b, 0, none⟩), .int .i64 3, .int .i64 i] W fun x w' => x = .returned (.tuple #[.int .i64 l, .int .i64 0]) ∧ Below W.heap.size W w' := fun A1 F1 n1 i l W ⟨r, D, h⟩ hm1 hf1 hl1 => by
      have := Level_any b 0 3 i r A1.ths W h.raw h.ths (by omega) hm1 (fits_of hl1 hf1)
      rw [hl1] at this
      exact this
    have R2 := rowIn_kept hr2
    obtain ⟨ua, uc, hu⟩ := row_shape R2.row
    clear hr2
    subst hu
    have HU2 : Hid (RowIn w2 w1.heap.size w2.heap.size (.slice ua ys'.length uc) ys') := R2
    clear R2
    obtain ⟨lvl, hlvl⟩ : ∃ lvl : Int, lvl = ((m' + 1 : Nat) : Int) := ⟨_, rfl⟩
    have hlvb : 2 ≤ lvl ∧ lvl ≤ 44 := by omega
    have hL0 := hLv A F nn id _ w2 hA2 hmask hfew hlev
    rw [← hlvl] at hL0
    have HLVL : Hid (lvl = ((m' + 1 : Nat) : Int)) := hlvl
    have HM : Hid (2 ≤ m' + 1 ∧ m' + 1 ≤ 41) := ⟨hlv2, hlv⟩
    clear hlvl hlv2 hlv
    go_wp2_with fail
    refine hL0.mono ?_
    rintro e w3 ⟨rfl, hb3⟩
    have hA3 := hA2.below hb3
    have b3 : Below W0.heap.size W0 w3 := b2.trans (hb3.mono b2.size)
    have hx3 : w3.cell? ⟨w.heap.size, 0, none⟩ = some (.int .i64 X) := (World.cell?_of_block (a := ⟨w.heap.size, 0, none⟩) (b3.block w.heap.size (by omega))).trans hx0
    have hy3 : w3.cell? ⟨w.heap.size, 1, none⟩ = some (.int .i64 Y) := (World.cell?_of_block (a := ⟨w.heap.size, 1, none⟩) (b3.block w.heap.size (by omega))).trans hy0
    clear hL0
    obtain ⟨H, hH⟩ : ∃ H : Int, H = (halfN (m' + 1) : Int) := ⟨_, rfl⟩
    have hHb := halfN_bd (m' + 1) (by have := HM.out; omega)
    have hwh : wrap64 (2 ^ m') = H := by rw [hH]; exact wrap_half (m' + 1) (by have := HM.out; omega)
    have hw1 : IntKind.i64.wrap (lvl - 1) = (m' : Int) := by rw [IntKind.wrap_i64]; have := HLVL.out; have := HM.out; omega
    have hw2 : IntKind.u64.wrap (m' : Int) = (m' : Int) := by rw [IntKind.wrap_u64]; have := HM.out; omega
    have hm' : m' ≤ 43 := by have := HM.out; omega
    have HH : Hid (H = (halfN (m' + 1) : Int)) := hH
    have hHb2 : 0 < H ∧ H ≤ 2305843009213693952 := by omega
    clear hH hHb
    go_wp2_with fail
    rw [hwh]
    have hwn : IntKind.i64.wrap (-H) = -H := by rw [IntKind.wrap_i64]; omega
    clear hwh hw1 hw2
    cases hr : reachB (m' + 1) X Y X Y with
    | false =>
      have HFAR : Hid (X < -H ∨ H ≤ X ∨ Y < -H ∨ H ≤ Y) := by
        have h := hr
        unfold reachB at h
        rw [← HH.out] at h
        have h2 := of_decide_eq_false h
        show X < -H ∨ H ≤ X ∨ Y < -H ∨ H ≤ Y
        omega
      refine (Put_far b nn 3 0 m' id X Y alive F A _ hA3 (by omega) hlev (by have := HM.out; omega) (hP.less (by omega)) hr).mono ?_
      rintro e w4 ⟨rfl, hA4, P4⟩
      have b4 : Below W0.heap.size W0 w4 := below_apart b3 P4 hF
      have hx4 : w4.cell? ⟨w.heap.size, 0, none⟩ = some (.int .i64 X) := (World.cell?_of_block (a := ⟨w.heap.size, 0, none⟩) (b4.block w.heap.size (by omega))).trans hx0
      have hy4 : w4.cell? ⟨w.heap.size, 1, none⟩ = some (.int .i64 Y) := (World.cell?_of_block (a := ⟨w.heap.size, 1, none⟩) (b4.block w.heap.size (by omega))).trans hy0
      have HB4 : Hid (Below w.heap.size w w4) := HW.out.2.trans (b4.mono (by omega))
      clear hA hA2 hA3 hA4 P4 b4 b3 b2 hLv hcells hlev hL hI hP hmask hfew hF hr
      by_cases q1 : X < -H
      · go_wp2_with fail
        go_ret
        exact ⟨rfl, HB4.out⟩
      · by_cases q2 : H ≤ X
        · go_wp2_with fail
          go_ret
          exact ⟨rfl, HB4.out⟩
        · by_cases q3 : Y < -H
          · go_wp2_with fail
            go_ret
            exact ⟨rfl, HB4.out⟩
          · have q4 : H ≤ Y := by have := HFAR.out; omega
            go_wp2_with fail
            go_ret
            exact ⟨rfl, HB4.out⟩
    | true =>
      have hnear : ¬ X < -H ∧ ¬ H ≤ X ∧ ¬ Y < -H ∧ ¬ H ≤ Y := by
        have h := hr
        unfold reachB at h
        rw [← HH.out] at h
        have h2 := of_decide_eq_true h
        omega
      obtain ⟨q1, q2, q3, q4⟩ := hnear
      refine (Put_root b nn 3 1000 m' id X Y alive F A _ hA3 hI (by omega) hlev (by have := HM.out; omega) (hP.less (by omega)) hr).mono ?_
      rintro e w4 ⟨id4, rfl, A4, F4, n4, N4, hA4, hF4, P4, hI4, hP4, g4, hl4, hc4⟩
      have b4 : Below W0.heap.size W0 w4 := below_apart b3 P4 hF
      have hx4 : w4.cell? ⟨w.heap.size, 0, none⟩ = some (.int .i64 X) := (World.cell?_of_block (a := ⟨w.heap.size, 0, none⟩) (b4.block w.heap.size (by omega))).trans hx0
      have hy4 : w4.cell? ⟨w.heap.size, 1, none⟩ = some (.int .i64 Y) := (World.cell?_of_block (a := ⟨w.heap.size, 1, none⟩) (b4.block w.heap.size (by omega))).trans hy0
      have HU4 : Hid (RowIn w4 w1.heap.size w2.heap.size (.slice ua ys'.length uc) ys') := (HU2.out.apart (apart_of_below hb3 F) (fun k h1 _ e => by have := hA.flt k e; omega)).apart P4 (fun k h1 _ e => by have := hA.flt k e; omega)
      have hm4 := hP4.bud.mask
      have hf4 := hP4.bud.young.few
      have hclen : (cellsF A.ths (m' + 1) id).length = ys'.length := made_len hI.good (glevel_of hlev) HYS.out.1 hcells
      have hclen4 : (cellsF A4.ths (m' + 1) id4).length ≤ 301 := by
        have := put_len hI4.good (glevel_of hl4) hc4
        omega
      have hCe0 := fun W h => Cells_root b n4 3 (m' + 1) id4 F4 A4 W h hI4 (by omega) hm4 hf4 hl4 (by omega) (by have := HM.out; omega) (by omega)
      have hL4 := fun W h => hLv A4 F4 n4 id4 _ W h hm4 hf4 hl4
      rw [← HLVL.out] at hL4
      have HC4 : Hid (∀ R : List (Int × Int), (∀ p, p ∈ R ↔ (p = (X, Y) ∧ alive = true) ∨ (p ≠ (X, Y) ∧ p ∈ ys')) → ∀ p : Int × Int, p ∈ cellsF A4.ths (m' + 1) id4 ↔ (p.1 - (halfN (m' + 1) : Int), p.2 - (halfN (m' + 1) : Int)) ∈ R) := fun R hR => put_cells hcells hc4 hR
      have HSH : Hid ((shiftL (-(halfN (m' + 1) : Int)) (-(halfN (m' + 1) : Int)) (cellsF A4.ths (m' + 1) id4)).length ≤ 4096) := by
        show _ ≤ 4096
        rw [shift_len]
        omega
      have hYL : Hid (ys'.length ≤ 300) := hyl
      obtain ⟨yn, hyn⟩ : ∃ n, n = ys'.length := ⟨_, rfl⟩
      rw [← hyn] at HU4 hyl ⊢
      have hRow4 := HU4.out.row
      clear hyn hA hA2 hA3 P4 b3 b2 hLv hcells hlev hL hI hP hmask hfew hF hr hc4 hclen hclen4 hl4 hm4 hf4 hP4 hI4 g4 HU2 hb1 hb2 hb3 hr1
      cases alive with
      | true =>
        have HONE : RRow (w4.alloc (.cells #[.int .i64 X, .int .i64 Y] 87)) (.slice (some ⟨w4.heap.size, 0, none⟩) 1 1) [(X, Y)] := one_row w4 X Y
        have b5 : Below w4.heap.size w4 (w4.alloc (.cells #[.int .i64 X, .int .i64 Y] 87)) := (Below.refl _ _).alloc (Nat.le_refl _) _
        have hRow5 := (hRow4.below b5).isRow
        have c5 := refUnion_any (.slice ua yn uc) (.slice (some ⟨w4.heap.size, 0, none⟩) 1 1) ys' [(X, Y)] _ hRow5 HONE
        have hA5 := hA4.below b5
        have bw5 : Below W0.heap.size W0 (w4.alloc (.cells #[.int .i64 X, .int .i64 Y] 87)) := b4.trans (b5.mono b4.size)
        clear HONE hRow5 hRow4 hx0 hy0
        go_wp2_with fail
        refine c5.mono ?_
        intro e w6 h6
        clear c5
        cases hfar : farP (X, Y) with
        | false =>
          obtain ⟨u6, R, rfl, hb6, hr6, hT6, hmem⟩ := merge_one HYS.out HTC0.out hfar (by have := hYL.out; omega) h6
          have hmem2 := union_mem hmem
          have htd := tidied_self HYS.out hYL.out hT6 hfar (fun p hp => by
            rcases (hmem2 p).1 hp with h | h
            · exact Or.inl h.1
            · exact Or.inr h.2)
          have hcm := made_mem (HC4.out R (by simpa using hmem2))
          have htid := made_tidied htd.1 hcm HSH.out
          have hA6 := hA5.below hb6
          have b6 : Below W0.heap.size W0 w6 := bw5.trans (hb6.mono bw5.size)
          have hCe : Calls Try.prog 41 #[.pointer (some ⟨b, 0, none⟩), .int .i64 3, .int .i64 id4] w6 fun x w' => ∃ u, x = .returned (.tuple #[u, .int .i64 0]) ∧ Row w' u R ∧ Below w6.heap.size w6 w' := (hCe0 w6 hA6).mono fun x w' ⟨u, ys2, h1, h2, h3, h4⟩ => ⟨u, by rw [h1, htid.2], (rowIn_orow (by rw [← h2.unique htid.1]; exact h3)).row, h4⟩
          obtain ⟨ra, rc, rfl⟩ := row_shape hr6
          have HR6 : Hid (Row w6 (.slice ra R.length rc) R) := hr6
          obtain ⟨rn, hrn⟩ : ∃ n, n = R.length := ⟨_, rfl⟩
          rw [← hrn] at HR6 ⊢
          have hrn2 : rn ≤ 301 := by rw [hrn]; exact htd.2
          clear h6 hCe0 hmem hmem2 htd hcm htid hfar hT6 hr6 hrn HC4
          go_wp2_with fail
          refine hCe.mono ?_
          rintro e w7 ⟨u7, rfl, hr7, hb7⟩
          have hA7 := hA6.below hb7
          have b7 : Below W0.heap.size W0 w7 := b6.trans (hb7.mono b6.size)
          have HR7 : Hid (Row w7 (.slice ra rn rc) R) := HR6.out.below hb7
          obtain ⟨sa, sc, rfl⟩ := row_shape hr7
          have HS7 : Hid (Row w7 (.slice sa R.length sc) R) := hr7
          obtain ⟨sn, hsn⟩ : ∃ n, n = R.length := ⟨_, rfl⟩
          rw [← hsn] at HS7 ⊢
          clear hCe hr7 hsn
          go_wp2_with fail
          refine (hL4 _ hA7).mono ?_
          rintro e w8 ⟨rfl, hb8⟩
          have b8 : Below W0.heap.size W0 w8 := b7.trans (hb8.mono b7.size)
          have c9 := sameCells_any _ _ R w8 (HS7.out.below hb8) (HR7.out.below hb8)
          clear hL4
          go_wp2_with fail
          refine c9.mono ?_
          rintro e w9 ⟨rfl, hb9⟩
          clear c9
          go_wp2_with fail
          go_ret
          exact ⟨rfl, HW.out.2.trans ((b8.trans (hb9.mono b8.size)).mono (by omega))⟩
        | true =>
          obtain ⟨rfl, hb6⟩ := merge_far HYS.out HTC0.out hfar (by have := hYL.out; omega) h6
          have hA6 := hA5.below hb6
          have b6 : Below W0.heap.size W0 w6 := bw5.trans (hb6.mono bw5.size)
          have hCe : Calls Try.prog 41 #[.pointer (some ⟨b, 0, none⟩), .int .i64 3, .int .i64 id4] w6 fun x w' => ∃ u k, x = .returned (.tuple #[u, .int .i64 k]) ∧ Below w6.heap.size w6 w' := (hCe0 w6 hA6).mono fun x w' ⟨u, ys2, h1, h2, h3, h4⟩ => ⟨u, _, h1, h4⟩
          clear h6 hCe0 hfar HC4
          go_wp2_with fail
          refine hCe.mono ?_
          rintro e w7 ⟨u7, k7, rfl, hb7⟩
          have hA7 := hA6.below hb7
          have b7 : Below W0.heap.size W0 w7 := b6.trans (hb7.mono b6.size)
          clear hCe
          go_wp2_with fail
          refine (hL4 _ hA7).mono ?_
          rintro e w8 ⟨rfl, hb8⟩
          have b8 : Below W0.heap.size W0 w8 := b7.trans (hb8.mono b7.size)
          clear hL4
          go_wp2_with fail
          go_ret
          exact ⟨rfl, HW.out.2.trans (b8.mono (by omega))⟩
      | false =>
        have HONE : RRow (w4.alloc (.cells #[.int .i64 X, .int .i64 Y] 87)) (.slice (some ⟨w4.heap.size, 0, none⟩) 1 1) [(X, Y)] := one_row w4 X Y
        have b5 : Below w4.heap.size w4 (w4.alloc (.cells #[.int .i64 X, .int .i64 Y] 87)) := (Below.refl _ _).alloc (Nat.le_refl _) _
        have hRow5 := (hRow4.below b5).isRow
        have c5 := refMinus_any (.slice ua yn uc) (.slice (some ⟨w4.heap.size, 0, none⟩) 1 1) ys' [(X, Y)] _ hRow5 HONE
        have hA5 := hA4.below b5
        have bw5 : Below W0.heap.size W0 (w4.alloc (.cells #[.int .i64 X, .int .i64 Y] 87)) := b4.trans (b5.mono b4.size)
        clear HONE hRow5 hRow4 hx0 hy0
        go_wp2_with fail
        refine c5.mono ?_
        intro e w6 h6
        clear c5
        cases hfar : farP (X, Y) with
        | false =>
          obtain ⟨u6, R, rfl, hb6, hr6, hT6, hmem⟩ := merge_one HYS.out HTC0.out hfar (by have := hYL.out; omega) h6
          have hmem2 := minus_mem hmem
          have htd := tidied_self HYS.out hYL.out hT6 hfar (fun p hp => by
            rcases (hmem2 p).1 hp with h | h
            · exact Or.inl h.1
            · exact Or.inr h.2)
          have hcm := made_mem (HC4.out R (by simpa using hmem2))
          have htid := made_tidied htd.1 hcm HSH.out
          have hA6 := hA5.below hb6
          have b6 : Below W0.heap.size W0 w6 := bw5.trans (hb6.mono bw5.size)
          have hCe : Calls Try.prog 41 #[.pointer (some ⟨b, 0, none⟩), .int .i64 3, .int .i64 id4] w6 fun x w' => ∃ u, x = .returned (.tuple #[u, .int .i64 0]) ∧ Row w' u R ∧ Below w6.heap.size w6 w' := (hCe0 w6 hA6).mono fun x w' ⟨u, ys2, h1, h2, h3, h4⟩ => ⟨u, by rw [h1, htid.2], (rowIn_orow (by rw [← h2.unique htid.1]; exact h3)).row, h4⟩
          obtain ⟨ra, rc, rfl⟩ := row_shape hr6
          have HR6 : Hid (Row w6 (.slice ra R.length rc) R) := hr6
          obtain ⟨rn, hrn⟩ : ∃ n, n = R.length := ⟨_, rfl⟩
          rw [← hrn] at HR6 ⊢
          have hrn2 : rn ≤ 301 := by rw [hrn]; exact htd.2
          clear h6 hCe0 hmem hmem2 htd hcm htid hfar hT6 hr6 hrn HC4
          go_wp2_with fail
          refine hCe.mono ?_
          rintro e w7 ⟨u7, rfl, hr7, hb7⟩
          have hA7 := hA6.below hb7
          have b7 : Below W0.heap.size W0 w7 := b6.trans (hb7.mono b6.size)
          have HR7 : Hid (Row w7 (.slice ra rn rc) R) := HR6.out.below hb7
          obtain ⟨sa, sc, rfl⟩ := row_shape hr7
          have HS7 : Hid (Row w7 (.slice sa R.length sc) R) := hr7
          obtain ⟨sn, hsn⟩ : ∃ n, n = R.length := ⟨_, rfl⟩
          rw [← hsn] at HS7 ⊢
          clear hCe hr7 hsn
          go_wp2_with fail
          refine (hL4 _ hA7).mono ?_
          rintro e w8 ⟨rfl, hb8⟩
          have b8 : Below W0.heap.size W0 w8 := b7.trans (hb8.mono b7.size)
          have c9 := sameCells_any _ _ R w8 (HS7.out.below hb8) (HR7.out.below hb8)
          clear hL4
          go_wp2_with fail
          refine c9.mono ?_
          rintro e w9 ⟨rfl, hb9⟩
          clear c9
          go_wp2_with fail
          go_ret
          exact ⟨rfl, HW.out.2.trans ((b8.trans (hb9.mono b8.size)).mono (by omega))⟩
        | true =>
          obtain ⟨rfl, hb6⟩ := merge_far HYS.out HTC0.out hfar (by have := hYL.out; omega) h6
          have hA6 := hA5.below hb6
          have b6 : Below W0.heap.size W0 w6 := bw5.trans (hb6.mono bw5.size)
          have hCe : Calls Try.prog 41 #[.pointer (some ⟨b, 0, none⟩), .int .i64 3, .int .i64 id4] w6 fun x w' => ∃ u k, x = .returned (.tuple #[u, .int .i64 k]) ∧ Below w6.heap.size w6 w' := (hCe0 w6 hA6).mono fun x w' ⟨u, ys2, h1, h2, h3, h4⟩ => ⟨u, _, h1, h4⟩
          clear h6 hCe0 hfar HC4
          go_wp2_with fail
          refine hCe.mono ?_
          rintro e w7 ⟨u7, k7, rfl, hb7⟩
          have hA7 := hA6.below hb7
          have b7 : Below W0.heap.size W0 w7 := b6.trans (hb7.mono b6.size)
          clear hCe
          go_wp2_with fail
          refine (hL4 _ hA7).mono ?_
          rintro e w8 ⟨rfl, hb8⟩
          have b8 : Below W0.heap.size W0 w8 := b7.trans (hb8.mono b7.size)
          clear hL4
          go_wp2_with fail
          go_ret
          exact ⟨rfl, HW.out.2.trans (b8.mono (by omega))⟩
  · have h0' : (tc != 0) = true := by simpa using h0
    clear hmade
    go_wp2_with fail
    go_ret
    exact ⟨rfl, HW.out.2.trans (b2.mono (by omega))⟩
end Go.Proofs.Ythobobgiendcfaa.A
