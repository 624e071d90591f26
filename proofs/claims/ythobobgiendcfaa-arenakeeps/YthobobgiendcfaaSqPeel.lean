/- Peel: plain words. -/
import Derived.Test.YthobobgiendcfaaSqStep
namespace Go.Proofs.Ythobobgiendcfaa.A
open Go.RowKit Go.Maps Go.ChangeMaps Go.WideElems

set_option maxRecDepth 20000 in
set_option maxHeartbeats 4000000 in
/-- walker.box -/
theorem box_any (wb m b nn t k n : Nat) (id level : Int) (v : Value) (F : Nat → Prop) (A : Ar) (D : DataW Unit) (w : World) (hI : Inv A) (ht : t < 64) (hm : ∀ x ∈ A.ths, x.mask < 18446744073709551616) (hf : A.ths.length < 1000000) (hn1 : 1 ≤ n) (hn : n ≤ 44) (hl : levelF A.ths t id = some (n : Int)) (hbig : (cellsF A.ths n id).length < 4611686018427387904) (hlev : level = (n : Int)) (hw : WG w wb m b nn t k v F A D) :
    Calls Try.prog 91 #[.pointer (some ⟨wb, 0, none⟩), .int .i64 id, .int .i64 level] w fun y w' => ∃ x0 y0 x1 y1, y = .returned (.tuple #[.agg #[.int .i64 x0, .int .i64 y0, .int .i64 x1, .int .i64 y1], .bool (decide (cellsF A.ths n id ≠ []))]) ∧ BoxOr (shiftL (-(halfN n : Int)) (-(halfN n : Int)) (cellsF A.ths n id)) x0 y0 x1 y1 ∧ TG w wb m b nn t v F A (Kn D A.ths t n) w' := by
  have b0 : Below w.heap.size w (w.alloc (.cells #[.int .i64 0, .int .i64 0, .int .i64 0, .int .i64 0] 81)) := (Below.refl _ _).alloc (Nat.le_refl _) _
  have q0 := hw.below b0
  have hta := tally_any wb m b nn t v F A hI ht hm hf n id hn hl hbig k D _ level hlev q0
  have hh : ∀ W, Calls Try.prog 99 #[.int .i64 level] W fun x w' => x = .returned (.int .i64 (halfN n : Int)) ∧ w' = W := fun W => by rw [hlev]; exact half_any n W hn1 (by omega)
  have hbd := halfN_bd n (by omega)
  have hin := cells_in hI.good n id (glevel_of hl)
  have hY : (w.alloc (.cells #[.int .i64 0, .int .i64 0, .int .i64 0, .int .i64 0] 81)).heap[w.heap.size]? = some (.cells #[.int .i64 0, .int .i64 0, .int .i64 0, .int .i64 0] 81 (0, 0)) := heap_alloc_new w _
  have hwl := hw.hand.lt
  have hml := hw.lt
  have hflt := hw.ar.flt
  have hp44 : ((2 ^ n : Nat) : Int) ≤ 17592186044416 := by
    have : (2 : Nat) ^ n ≤ 2 ^ 44 := Nat.pow_le_pow_right (by omega) (by omega)
    have e : (2 : Nat) ^ 44 = 17592186044416 := by decide
    omega
  have HLEV : Hid (level = (n : Int)) := hlev
  have HIN : Hid (∀ c ∈ cellsF A.ths n id, 0 ≤ c.1 ∧ c.1 < ((2 ^ n : Nat) : Int) ∧ 0 ≤ c.2 ∧ c.2 < ((2 ^ n : Nat) : Int)) := hin
  obtain ⟨hf', hhf⟩ : ∃ hf' : Int, hf' = (halfN n : Int) := ⟨_, rfl⟩
  have hfb : 0 ≤ hf' ∧ hf' ≤ 2305843009213693952 := by omega
  rw [← hhf] at hh
  have HHF : Hid (hf' = (halfN n : Int)) := hhf
  clear hlev hin hhf hbd
  go_enter Try.func91, Try.ntmps91
  go_wp2_with fail
  refine hta.mono ?_
  rintro y w1 ⟨c, x0, y0, x1, y1, rfl, hT, T1⟩
  have hY1 := (T1.block w.heap.size (by simp) (by omega) (by omega)).trans hY
  have hfz := field_tv c x0 y0 x1 y1
  have TW : TG w wb m b nn t v F A (Kn D A.ths t n) w1 := ⟨T1.wg, Nat.le_trans b0.size T1.size, T1.os.trans b0.os, T1.tape.trans b0.tape, T1.output.trans b0.output, fun j h1 h2 h3 => (T1.block j (by simp; omega) h2 h3).trans (b0.block j h1)⟩
  have HFIN : Hid (∀ w', Below w.heap.size w1 w' → TG w wb m b nn t v F A (Kn D A.ths t n) w') := fun w' hb' => by
    obtain ⟨k1, D1, q1, hK⟩ := TW.wg
    have hsz := TW.size
    exact ⟨⟨k1, D1, q1.other hb'.size fun j hj => hb'.block j (by rcases hj with rfl | rfl | h; exact hwl; exact hml; exact hflt j h), hK⟩, Nat.le_trans hsz hb'.size, hb'.os.trans TW.os, hb'.tape.trans TW.tape, hb'.output.trans TW.output, fun j h1 h2 h3 => (hb'.block j h1).trans (TW.block j h1 h2 h3)⟩
  have hlt1 : w.heap.size < w1.heap.size := (Array.getElem?_eq_some_iff.1 hY1).1
  have hcl : c = ((cellsF A.ths n id).length : Int) := hT.1
  have HT : Hid (Tal (cellsF A.ths n id) c x0 y0 x1 y1) := hT
  clear hT T1 TW hta q0 hw b0 hY
  have r0 : w1.cell? ⟨w.heap.size, 0, none⟩ = some (.int .i64 0) := Lib.cell_of_heap hY1 0
  have r1 : w1.cell? ⟨w.heap.size, 1, none⟩ = some (.int .i64 0) := Lib.cell_of_heap hY1 1
  have r2 : w1.cell? ⟨w.heap.size, 2, none⟩ = some (.int .i64 0) := Lib.cell_of_heap hY1 2
  have r3 : w1.cell? ⟨w.heap.size, 3, none⟩ = some (.int .i64 0) := Lib.cell_of_heap hY1 3
  have z0 := Lib.frozen_of_heap hY1 0
  have z1 := Lib.frozen_of_heap hY1 1
  have z2 := Lib.frozen_of_heap hY1 2
  have z3 := Lib.frozen_of_heap hY1 3
  by_cases hc0 : c = 0
  · have hc1 : (c == 0) = true := by simpa using hc0
    have hnil : cellsF A.ths n id = [] := List.length_eq_zero_iff.1 (by omega)
    have HR : Hid (∀ w', TG w wb m b nn t v F A (Kn D A.ths t n) w' → ∃ x0 y0 x1 y1, Ending.returned (.tuple #[.agg #[.int .i64 0, .int .i64 0, .int .i64 0, .int .i64 0], .bool false]) = .returned (.tuple #[.agg #[.int .i64 x0, .int .i64 y0, .int .i64 x1, .int .i64 y1], .bool (decide (cellsF A.ths n id ≠ []))]) ∧ BoxOr (shiftL (-(halfN n : Int)) (-(halfN n : Int)) (cellsF A.ths n id)) x0 y0 x1 y1 ∧ TG w wb m b nn t v F A (Kn D A.ths t n) w') := fun w' h => ⟨0, 0, 0, 0, by rw [hnil]; rfl, by rw [hnil]; exact Or.inl ⟨rfl, rfl, rfl, rfl, rfl⟩, h⟩
    clear hcl hc0 hnil
    go_wp2_with fail
    refine bodyPost_ret (v := .tuple #[.agg #[.int .i64 0, .int .i64 0, .int .i64 0, .int .i64 0], .bool false]) ?_ rfl (HR.out _ (HFIN.out _ ?_))
    · have hR : ((((w1.setCell ⟨w.heap.size, 0, none⟩ (.int .i64 0)).setCell ⟨w.heap.size, 1, none⟩ (.int .i64 0)).setCell ⟨w.heap.size, 2, none⟩ (.int .i64 0)).setCell ⟨w.heap.size, 3, none⟩ (.int .i64 0)).heap[w.heap.size]? = some (.cells #[.int .i64 0, .int .i64 0, .int .i64 0, .int .i64 0] 81 (0, 0)) := Go.Joins.block_setCell (Go.Joins.block_setCell (Go.Joins.block_setCell (Go.Joins.block_setCell hY1 _) _) _) _
      have hR2 := (push_old (o := .cells #[.int .i64 c, .int .i64 x0, .int .i64 y0, .int .i64 x1, .int .i64 y1] 138) (Array.getElem?_eq_some_iff.1 hR).1).trans hR
      simp [results, Try.results91, go_sem, Lib.cell_of_heap hR2]
    · exact ((((Below.refl _ _).setCell (p := ⟨w.heap.size, 0, none⟩) (Nat.le_refl _) _).setCell (p := ⟨w.heap.size, 1, none⟩) (Nat.le_refl _) _).setCell (p := ⟨w.heap.size, 2, none⟩) (Nat.le_refl _) _).setCell (p := ⟨w.heap.size, 3, none⟩) (Nat.le_refl _) _ |>.alloc (by simp [World.setCell]; omega) _
  · have hc1 : (c == 0) = false := by simpa using hc0
    have hbx : IsBox (cellsF A.ths n id) x0 y0 x1 y1 := by
      rcases HT.out.2 with ⟨h0, _⟩ | h0
      · exact absurd (by rw [hcl, h0]; rfl) hc0
      · exact h0
    have hxb : 0 ≤ x0 ∧ x0 ≤ 17592186044416 ∧ 0 ≤ y0 ∧ y0 ≤ 17592186044416 ∧ 0 ≤ x1 ∧ x1 ≤ 17592186044416 ∧ 0 ≤ y1 ∧ y1 ≤ 17592186044416 := by
      have hq := HIN.out
      obtain ⟨p, hp, e0⟩ := hbx.a0
      obtain ⟨q, hqq, e1⟩ := hbx.b0
      obtain ⟨r, hr, e2⟩ := hbx.a1
      obtain ⟨s, hs, e3⟩ := hbx.b1
      have := hq p hp; have := hq q hqq; have := hq r hr; have := hq s hs
      omega
    have hnn : cellsF A.ths n id ≠ [] := fun e => by rw [e] at hcl; exact hc0 (by simpa using hcl)
    have HR : Hid (∀ w', TG w wb m b nn t v F A (Kn D A.ths t n) w' → ∃ u0 v0 u1 v1, Ending.returned (.tuple #[.agg #[.int .i64 (x0 - hf'), .int .i64 (y0 - hf'), .int .i64 (x1 - hf'), .int .i64 (y1 - hf')], .bool true]) = .returned (.tuple #[.agg #[.int .i64 u0, .int .i64 v0, .int .i64 u1, .int .i64 v1], .bool (decide (cellsF A.ths n id ≠ []))]) ∧ BoxOr (shiftL (-(halfN n : Int)) (-(halfN n : Int)) (cellsF A.ths n id)) u0 v0 u1 v1 ∧ TG w wb m b nn t v F A (Kn D A.ths t n) w') := fun w' h => ⟨_, _, _, _, by rw [decide_eq_true hnn], by
      rw [← HHF.out]
      have hm2 : ∀ p ∈ cellsF A.ths n id, (p.1 + -hf', p.2 + -hf') ∈ shiftL (-hf') (-hf') (cellsF A.ths n id) := fun p hp => mem_shift.2 (by rw [show p.1 + -hf' - -hf' = p.1 by omega, show p.2 + -hf' - -hf' = p.2 by omega]; exact hp)
      refine Or.inr ⟨fun p hp => ?_, ?_, ?_, ?_, ?_⟩
      · have := hbx.all _ (mem_shift.1 hp); simp only at this; omega
      · obtain ⟨p, hp, e⟩ := hbx.a0; exact ⟨_, hm2 p hp, by show p.1 + -hf' = _; omega⟩
      · obtain ⟨p, hp, e⟩ := hbx.b0; exact ⟨_, hm2 p hp, by show p.2 + -hf' = _; omega⟩
      · obtain ⟨p, hp, e⟩ := hbx.a1; exact ⟨_, hm2 p hp, by show p.1 + -hf' = _; omega⟩
      · obtain ⟨p, hp, e⟩ := hbx.b1; exact ⟨_, hm2 p hp, by show p.2 + -hf' = _; omega⟩, h⟩
    clear hbx hnn hcl hc0
    go_wp2_with fail
    go_region_with ((go_at_call 99; refine (hh _).mono ?_; rintro e w5 ⟨rfl, rfl⟩))
    all_goals
      go_wp2_with fail
      refine bodyPost_ret (v := .tuple #[.agg #[.int .i64 (x0 - hf'), .int .i64 (y0 - hf'), .int .i64 (x1 - hf'), .int .i64 (y1 - hf')], .bool true]) ?_ rfl (HR.out _ (HFIN.out _ ?_))
      · have hR : ((((w1.setCell ⟨w.heap.size, 0, none⟩ (.int .i64 (x0 - hf'))).setCell ⟨w.heap.size, 1, none⟩ (.int .i64 (y0 - hf'))).setCell ⟨w.heap.size, 2, none⟩ (.int .i64 (x1 - hf'))).setCell ⟨w.heap.size, 3, none⟩ (.int .i64 (y1 - hf'))).heap[w.heap.size]? = some (.cells #[.int .i64 (x0 - hf'), .int .i64 (y0 - hf'), .int .i64 (x1 - hf'), .int .i64 (y1 - hf')] 81 (0, 0)) := Go.Joins.block_setCell (Go.Joins.block_setCell (Go.Joins.block_setCell (Go.Joins.block_setCell hY1 _) _) _) _
        have hR2 := (push_old (o := .cells #[.int .i64 c, .int .i64 x0, .int .i64 y0, .int .i64 x1, .int .i64 y1] 138) (Array.getElem?_eq_some_iff.1 hR).1).trans hR
        have hR3 := (push_old (o := .cells #[.int .i64 x0, .int .i64 y0, .int .i64 x1, .int .i64 y1] 81) (Array.getElem?_eq_some_iff.1 hR2).1).trans hR2
        simp [results, Try.results91, go_sem, Lib.cell_of_heap hR3]
      · exact (((((((Below.refl _ _).setCell (p := ⟨w.heap.size, 0, none⟩) (Nat.le_refl _) _).setCell (p := ⟨w.heap.size, 1, none⟩) (Nat.le_refl _) _).setCell (p := ⟨w.heap.size, 2, none⟩) (Nat.le_refl _) _).setCell (p := ⟨w.heap.size, 3, none⟩) (Nat.le_refl _) _).alloc (by simp [World.setCell]; omega) _).alloc (by simp [World.setCell]; omega) _).drew

end Go.Proofs.Ythobobgiendcfaa.A

namespace Go.Proofs.Ythobobgiendcfaa.A
open Go.RowKit Go.Maps Go.ChangeMaps Go.WideElems

set_option maxRecDepth 20000 in
set_option maxHeartbeats 4000000 in
/-- Box of a root -/
theorem Box_root (b n t lv : Nat) (id : Int) (F : Nat → Prop) (A : Ar) (w : World) (hA : ArAt w b F n A) (hI : Inv A) (ht : t < 64) (hm : ∀ x ∈ A.ths, x.mask < 18446744073709551616) (hf : A.ths.length < 1000000) (hl : levelF A.ths t id = some (lv : Int)) (hlv1 : 1 ≤ lv) (hlv : lv ≤ 44) (hbig : (cellsF A.ths lv id).length < 4611686018427387904) :
    Calls Try.prog 45 #[.pointer (some ⟨b, 0, none⟩), .int .i64 t, .int .i64 id] w fun x w' => ∃ x0 y0 x1 y1, x = .returned (.tuple #[.agg #[.int .i64 x0, .int .i64 y0, .int .i64 x1, .int .i64 y1], .bool (decide (cellsF A.ths lv id ≠ [])), .int .i64 0]) ∧ BoxOr (shiftL (-(halfN lv : Int)) (-(halfN lv : Int)) (cellsF A.ths lv id)) x0 y0 x1 y1 ∧ Below w.heap.size w w' := by
  have hr := fits_of hl hf
  have hflt := hA.flt
  have hlev := fun W hb v (hh : HandAt W hb b t 0 v) (hW : ArAt W b F n A) (hn : ¬ F hb) => handLevel_ok hb b n t id 1 44 lv v F A W hh hW hn ht hm hr hl (by omega) (by omega)
  have hta := fun wb m v k D W => box_any wb m b n t k lv id (lv : Int) v F A D W hI ht hm hf hlv1 hlv hl hbig rfl
  have HL : Hid (levelF A.ths t id = some (lv : Int)) := hl
  clear hl
  have b00 : Below w.heap.size w (w.alloc (.cells #[.int .i64 0, .int .i64 0, .int .i64 0, .int .i64 0] 81)) := (Below.refl _ _).alloc (Nat.le_refl _) _
  have hY : (w.alloc (.cells #[.int .i64 0, .int .i64 0, .int .i64 0, .int .i64 0] 81)).heap[w.heap.size]? = some (.cells #[.int .i64 0, .int .i64 0, .int .i64 0, .int .i64 0] 81 (0, 0)) := heap_alloc_new w _
  have hA0 := hA.below b00
  go_enter Try.func45, Try.ntmps45
  go_wp2_with fail
  refine (newWalker_G b t _).mono ?_
  rintro x w1 ⟨g, m, D, rfl, hb1, hown, hkn, hmg, _, _, _⟩
  obtain ⟨Q0, b2⟩ := WG.born (g := g) (t := t) hA0 hf hb1 hown hkn hmg
  have hh := Q0.hand
  have hs1 := hb1.size
  have hs0 : (w.alloc (.cells #[.int .i64 0, .int .i64 0, .int .i64 0, .int .i64 0] 81)).heap.size = w.heap.size + 1 := by simp
  go_wp2_with fail
  refine (hlev _ _ _ hh (hA0.below b2) Q0.nFw).mono ?_
  rintro x w3 ⟨rfl, h3, g3, h34⟩
  have c2 := h3.c2
  have Q3 := Q0.kids h3 g3 (h34.trans Q0.c4)
  have b3 : Below (w.heap.size + 1) (w.alloc (.cells #[.int .i64 0, .int .i64 0, .int .i64 0, .int .i64 0] 81)) w3 := by
    have e := b2.trans (c := w3) ⟨g3.os, g3.tape, g3.output, g3.size, fun k hk => g3.block k (by have := b2.size; omega) (by simp; omega)⟩
    rw [hs0] at e
    exact e
  clear hlev
  go_wp2_with fail
  refine (hta _ _ _ 2 D _ Q3).mono ?_
  rintro x w4 ⟨x0, y0, x1, y1, rfl, hB, T4⟩
  obtain ⟨k4, D4, Q4, _⟩ := T4.wg
  have hlt3 := Q3.hand.lt
  have d2 := Q4.hand.c2
  have b4 : Below (w.heap.size + 1) (w.alloc (.cells #[.int .i64 0, .int .i64 0, .int .i64 0, .int .i64 0] 81)) w4 := ⟨T4.os.trans b3.os, T4.tape.trans b3.tape, T4.output.trans b3.output, Nat.le_trans b3.size T4.size, fun k hk => (T4.block k (by have := b3.size; omega) (by omega) (by omega)).trans (b3.block k hk)⟩
  have hY4 := (b4.block w.heap.size (by omega)).trans hY
  obtain ⟨bl, hbl⟩ : ∃ bl, bl = decide (cellsF A.ths lv id ≠ []) := ⟨_, rfl⟩
  have HBL : Hid (bl = decide (cellsF A.ths lv id ≠ [])) := hbl
  rw [← hbl]
  have b5 : Below w.heap.size w w4 := b00.trans (b4.mono (by omega))
  have HB : Hid (BoxOr (shiftL (-(halfN lv : Int)) (-(halfN lv : Int)) (cellsF A.ths lv id)) x0 y0 x1 y1) := hB
  clear hta hbl hB
  have b6 : Below w4.heap.size w4 (w4.alloc (.cells #[.int .i64 x0, .int .i64 y0, .int .i64 x1, .int .i64 y1] 81)) := (Below.refl _ _).alloc (Nat.le_refl _) _
  have hl4 := Q4.hand.lt
  have d3 : (w4.alloc (.cells #[.int .i64 x0, .int .i64 y0, .int .i64 x1, .int .i64 y1] 81)).cell? ⟨w1.heap.size, 2, none⟩ = some (.int .i64 0) := (Q4.hand.below b6).c2
  have hs4 := b4.size
  have r0 : w4.cell? ⟨w.heap.size, 0, none⟩ = some (.int .i64 0) := Lib.cell_of_heap hY4 0
  have r1 : w4.cell? ⟨w.heap.size, 1, none⟩ = some (.int .i64 0) := Lib.cell_of_heap hY4 1
  have r2 : w4.cell? ⟨w.heap.size, 2, none⟩ = some (.int .i64 0) := Lib.cell_of_heap hY4 2
  have r3 : w4.cell? ⟨w.heap.size, 3, none⟩ = some (.int .i64 0) := Lib.cell_of_heap hY4 3
  have z0 := Lib.frozen_of_heap hY4 0
  have z1 := Lib.frozen_of_heap hY4 1
  have z2 := Lib.frozen_of_heap hY4 2
  have z3 := Lib.frozen_of_heap hY4 3
  have hwl4 : w.heap.size < w4.heap.size := (Array.getElem?_eq_some_iff.1 hY4).1
  clear b6 hb1 hown
  go_wp2_with fail
  refine bodyPost_ret (v := .tuple #[.agg #[.int .i64 x0, .int .i64 y0, .int .i64 x1, .int .i64 y1], .bool bl, .int .i64 0]) ?_ rfl ⟨x0, y0, x1, y1, by rw [HBL.out], HB.out, ?_⟩
  · have hR : ((((w4.setCell ⟨w.heap.size, 0, none⟩ (.int .i64 x0)).setCell ⟨w.heap.size, 1, none⟩ (.int .i64 y0)).setCell ⟨w.heap.size, 2, none⟩ (.int .i64 x1)).setCell ⟨w.heap.size, 3, none⟩ (.int .i64 y1)).heap[w.heap.size]? = some (.cells #[.int .i64 x0, .int .i64 y0, .int .i64 x1, .int .i64 y1] 81 (0, 0)) := Go.Joins.block_setCell (Go.Joins.block_setCell (Go.Joins.block_setCell (Go.Joins.block_setCell hY4 _) _) _) _
    have hR2 := (push_old (o := .cells #[.int .i64 x0, .int .i64 y0, .int .i64 x1, .int .i64 y1] 81) (Array.getElem?_eq_some_iff.1 hR).1).trans hR
    simp [results, Try.results45, go_sem, Lib.cell_of_heap hR2]
  · exact (((((b5.setCell (p := ⟨w.heap.size, 0, none⟩) (Nat.le_refl _) _).setCell (p := ⟨w.heap.size, 1, none⟩) (Nat.le_refl _) _).setCell (p := ⟨w.heap.size, 2, none⟩) (Nat.le_refl _) _).setCell (p := ⟨w.heap.size, 3, none⟩) (Nat.le_refl _) _).alloc (by simp [World.setCell]; omega) _)
end Go.Proofs.Ythobobgiendcfaa.A

namespace Go.Proofs.Ythobobgiendcfaa.A
open Go.RowKit Go.Maps Go.ChangeMaps Go.WideElems

/-- the cells of four quarters -/
def fourC (l : List Th) (n : Nat) (q0 q1 q2 q3 : Int) : List (Int × Int) := cellsF l n q0 ++ shiftL ((2 ^ n : Nat) : Int) 0 (cellsF l n q1) ++ shiftL 0 ((2 ^ n : Nat) : Int) (cellsF l n q2) ++ shiftL ((2 ^ n : Nat) : Int) ((2 ^ n : Nat) : Int) (cellsF l n q3)
theorem peel_step {l : List Th} (hG : Good l) {n : Nat} {q0 q1 q2 q3 : Int} {S : List (Int × Int)} (g0 : glevel l q0 = some ((n + 1 : Nat) : Int)) (g1 : glevel l q1 = some ((n + 1 : Nat) : Int)) (g2 : glevel l q2 = some ((n + 1 : Nat) : Int)) (g3 : glevel l q3 = some ((n + 1 : Nat) : Int))
    (hV : ∀ p : Int × Int, p ∈ fourC l (n + 1) q0 q1 q2 q3 ↔ (p.1 - ((2 ^ (n + 1) : Nat) : Int), p.2 - ((2 ^ (n + 1) : Nat) : Int)) ∈ S) (hS : ∀ s ∈ S, -((2 ^ n : Nat) : Int) ≤ s.1 ∧ s.1 < ((2 ^ n : Nat) : Int) ∧ -((2 ^ n : Nat) : Int) ≤ s.2 ∧ s.2 < ((2 ^ n : Nat) : Int)) :
    ∀ p : Int × Int, p ∈ fourC l n (thAt l q0).p3 (thAt l q1).p2 (thAt l q2).p1 (thAt l q3).p0 ↔ (p.1 - ((2 ^ n : Nat) : Int), p.2 - ((2 ^ n : Nat) : Int)) ∈ S := by
  obtain ⟨x0, hx0, _, _, _, a0, a1, a2, a3⟩ := thing_of hG g0
  obtain ⟨x1, hx1, _, _, _, b0, b1, b2, b3⟩ := thing_of hG g1
  obtain ⟨x2, hx2, _, _, _, c0, c1, c2, c3⟩ := thing_of hG g2
  obtain ⟨x3, hx3, _, _, _, d0, d1, d2, d3⟩ := thing_of hG g3
  rw [thAt_eq hx0, thAt_eq hx1, thAt_eq hx2, thAt_eq hx3]
  have i0 := cells_in hG (n + 1) q0 g0
  have i1 := cells_in hG (n + 1) q1 g1
  have i2 := cells_in hG (n + 1) q2 g2
  have i3 := cells_in hG (n + 1) q3 g3
  have j0 := cells_in hG n _ a3
  have j1 := cells_in hG n _ b2
  have j2 := cells_in hG n _ c1
  have j3 := cells_in hG n _ d0
  have e0 := fun c h1 h2 h3 h4 => (cells_quarter hG hx0 a0 a1 a2 a3 c h1 h2 h3 h4).2.2.2
  have e1 := fun c h1 h2 h3 h4 => (cells_quarter hG hx1 b0 b1 b2 b3 c h1 h2 h3 h4).2.2.1
  have e2 := fun c h1 h2 h3 h4 => (cells_quarter hG hx2 c0 c1 c2 c3 c h1 h2 h3 h4).2.1
  have e3 := fun c h1 h2 h3 h4 => (cells_quarter hG hx3 d0 d1 d2 d3 c h1 h2 h3 h4).1
  have hpw : ((2 ^ (n + 1) : Nat) : Int) = ((2 ^ n : Nat) : Int) + ((2 ^ n : Nat) : Int) := by rw [Nat.pow_succ]; omega
  rw [hpw] at hV i0 i1 i2 i3
  have hz : (0 : Int) < ((2 ^ n : Nat) : Int) := by have := Nat.two_pow_pos n; omega
  unfold fourC at hV ⊢
  rw [hpw] at hV
  simp only [List.mem_append, mem_shift] at hV ⊢
  generalize ((2 ^ n : Nat) : Int) = z at *
  intro p
  constructor
  · rintro (((h | h) | h) | h)
    · have r := j0 _ h
      have := (hV (p.1 + z, p.2 + z)).1 (Or.inl (Or.inl (Or.inl ((e0 p r.1 r.2.1 r.2.2.1 r.2.2.2).2 h))))
      simp only at this
      rw [show p.1 + z - (z + z) = p.1 - z by omega, show p.2 + z - (z + z) = p.2 - z by omega] at this
      exact this
    · have r := j1 _ h
      simp only at r
      have k := (e1 (p.1 - z, p.2 - 0) r.1 r.2.1 r.2.2.1 r.2.2.2).2 h
      simp only at k
      have := (hV (p.1 + z, p.2 + z)).1 (Or.inl (Or.inl (Or.inr (by simp only; rw [show p.1 + z - (z + z) = p.1 - z by omega, show p.2 + z - 0 = p.2 - 0 + z by omega]; exact k))))
      simp only at this
      rw [show p.1 + z - (z + z) = p.1 - z by omega, show p.2 + z - (z + z) = p.2 - z by omega] at this
      exact this
    · have r := j2 _ h
      simp only at r
      have k := (e2 (p.1 - 0, p.2 - z) r.1 r.2.1 r.2.2.1 r.2.2.2).2 h
      simp only at k
      have := (hV (p.1 + z, p.2 + z)).1 (Or.inl (Or.inr (by simp only; rw [show p.2 + z - (z + z) = p.2 - z by omega, show p.1 + z - 0 = p.1 - 0 + z by omega]; exact k)))
      simp only at this
      rw [show p.1 + z - (z + z) = p.1 - z by omega, show p.2 + z - (z + z) = p.2 - z by omega] at this
      exact this
    · have r := j3 _ h
      simp only at r
      have k := (e3 (p.1 - z, p.2 - z) r.1 r.2.1 r.2.2.1 r.2.2.2).2 h
      simp only at k
      have := (hV (p.1 + z, p.2 + z)).1 (Or.inr (by simp only; rw [show p.1 + z - (z + z) = p.1 - z by omega, show p.2 + z - (z + z) = p.2 - z by omega]; exact k))
      simp only at this
      rw [show p.1 + z - (z + z) = p.1 - z by omega, show p.2 + z - (z + z) = p.2 - z by omega] at this
      exact this
  · intro h
    have f := hS _ h
    simp only at f
    have v := (hV (p.1 + z, p.2 + z)).2 (by simp only; rw [show p.1 + z - (z + z) = p.1 - z by omega, show p.2 + z - (z + z) = p.2 - z by omega]; exact h)
    simp only at v
    rcases v with ((v | v) | v) | v
    · have r := i0 _ v
      simp only at r
      exact Or.inl (Or.inl (Or.inl ((e0 p (by omega) (by omega) (by omega) (by omega)).1 v)))
    · have r := i1 _ v
      simp only at r
      refine Or.inl (Or.inl (Or.inr ((e1 (p.1 - z, p.2 - 0) (by show 0 ≤ p.1 - z; omega) (by show p.1 - z < z; omega) (by show 0 ≤ p.2 - 0; omega) (by show p.2 - 0 < z; omega)).1 ?_)))
      simp only
      rw [show p.1 - z = p.1 + z - (z + z) by omega, show p.2 - 0 + z = p.2 + z - 0 by omega]
      exact v
    · have r := i2 _ v
      simp only at r
      refine Or.inl (Or.inr ((e2 (p.1 - 0, p.2 - z) (by show 0 ≤ p.1 - 0; omega) (by show p.1 - 0 < z; omega) (by show 0 ≤ p.2 - z; omega) (by show p.2 - z < z; omega)).1 ?_))
      simp only
      rw [show p.2 - z = p.2 + z - (z + z) by omega, show p.1 - 0 + z = p.1 + z - 0 by omega]
      exact v
    · have r := i3 _ v
      simp only at r
      refine Or.inr ((e3 (p.1 - z, p.2 - z) (by show 0 ≤ p.1 - z; omega) (by show p.1 - z < z; omega) (by show 0 ≤ p.2 - z; omega) (by show p.2 - z < z; omega)).1 ?_)
      simp only
      rw [show p.1 - z = p.1 + z - (z + z) by omega, show p.2 - z = p.2 + z - (z + z) by omega]
      exact v
/-- a root's cells, at their places -/
def absC (l : List Th) (n : Nat) (id : Int) : List (Int × Int) := shiftL (-(halfN n : Int)) (-(halfN n : Int)) (cellsF l n id)
theorem mem_abs {l : List Th} {n : Nat} {id : Int} {p : Int × Int} : p ∈ absC l n id ↔ (p.1 + (halfN n : Int), p.2 + (halfN n : Int)) ∈ cellsF l n id := by
  unfold absC
  rw [mem_shift, show p.1 - -(halfN n : Int) = p.1 + (halfN n : Int) by omega, show p.2 - -(halfN n : Int) = p.2 + (halfN n : Int) by omega]
theorem abs_fits {l : List Th} (hG : Good l) {n : Nat} {id : Int} (h : glevel l id = some ((n + 1 : Nat) : Int)) : fitsLv (n + 1) (absC l (n + 1) id) := fun p hp => by
  have := cells_in hG (n + 1) id h _ (mem_abs.1 hp)
  have hpw : ((2 ^ (n + 1) : Nat) : Int) = ((2 ^ n : Nat) : Int) + ((2 ^ n : Nat) : Int) := by rw [Nat.pow_succ]; omega
  rw [halfN_succ] at this ⊢
  simp only at this
  rw [hpw] at this
  omega
end Go.Proofs.Ythobobgiendcfaa.A
