/- Peel: the walk. -/
import Derived.Test.YtofbcngcblleaabGreatSqBox
import Derived.Test.YtofbcngcblleaabGreatSqRead
import Derived.Test.YtofbcngcblleaabGreatLpWrapA
namespace Go.Proofs.YtofbcngcblleaabGreat.A
open Go.RowKit Go.Maps
def FromOut (w : World) (b t c : Nat) (F : Nat → Prop) (A : Ar) (ys : List (Int × Int)) (id : Int) (w' : World) : Prop :=
  ∃ (A' : Ar) (F' : Nat → Prop) (nn' : Nat) (N : List Int) (lv : Nat), ArAt w' b F' nn' A' ∧ (∀ k, F' k → F k ∨ w.heap.size ≤ k) ∧ Apart F w w' ∧ Inv A' ∧ Pur A' t c nn' ∧ Gain t A A' N ∧ (∀ j ∈ N, Sub A'.ths id j) ∧ LeastLv lv ys ∧ lv ≤ 41 ∧ levelF A'.ths t id = some (lv : Int) ∧ ∀ p : Int × Int, p ∈ cellsF A'.ths lv id ↔ (p.1 - (halfN lv : Int), p.2 - (halfN lv : Int)) ∈ ys
end Go.Proofs.YtofbcngcblleaabGreat.A

namespace Go.Proofs.YtofbcngcblleaabGreat.A
open Go.RowKit Go.Maps
structure HS (w : World) (hb b t nn : Nat) (F H : Nat → Prop) (A : Ar) (E : List Int) : Prop where
  ar : ArAt w b F nn A
  hand : HandIn w hb b t 0 E H
  dis : ∀ k, F k → ¬ H k
structure Step (w : World) (F H : Nat → Prop) (w' : World) (F' H' : Nat → Prop) : Prop where
  sub : ∀ k, F' k ∨ H' k → (F k ∨ H k) ∨ w.heap.size ≤ k
  ap : Apart (fun k => F k ∨ H k) w w'
section
variable {w w1 w2 : World} {hb b t nn : Nat} {F H F1 H1 F2 H2 : Nat → Prop} {A : Ar} {E : List Int}
end
end Go.Proofs.YtofbcngcblleaabGreat.A

namespace Go.Proofs.YtofbcngcblleaabGreat.A
open Go.RowKit Go.Maps Go.ChangeMaps Go.WideElems
set_option maxRecDepth 20000 in
set_option maxHeartbeats 4000000 in
theorem box_any (wb m b nn t k n : Nat) (id level : Int) (v : Value) (F : Nat → Prop) (A : Ar) (D : DataW Unit) (w : World) (hI : Inv A) (ht : t < 64) (hm : ∀ x ∈ A.ths, x.mask < 18446744073709551616) (hf : A.ths.length < 1000000) (hn1 : 1 ≤ n) (hn : n ≤ 44) (hl : levelF A.ths t id = some (n : Int)) (hbig : (cellsF A.ths n id).length < 4611686018427387904) (hlev : level = (n : Int)) (hw : WG w wb m b nn t k v F A D) :
    Calls Tryz.prog 89 #[.pointer (some ⟨wb, 0, none⟩), .int .i64 id, .int .i64 level] w fun y w' => ∃ x0 y0 x1 y1, y = .returned (.tuple #[.agg #[.int .i64 x0, .int .i64 y0, .int .i64 x1, .int .i64 y1], .bool (decide (cellsF A.ths n id ≠ []))]) ∧ BoxOr (shiftL (-(halfN n : Int)) (-(halfN n : Int)) (cellsF A.ths n id)) x0 y0 x1 y1 ∧ TG w wb m b nn t v F A (Kn D A.ths t n) w' := by
  have b0 : Below w.heap.size w (w.alloc (.cells #[.int .i64 0, .int .i64 0, .int .i64 0, .int .i64 0] 49)) := (Below.refl _ _).alloc (Nat.le_refl _) _
  have q0 := hw.below b0
  have hta := tally_any wb m b nn t v F A hI ht hm hf n id hn hl hbig k D _ level hlev q0
  have hh : ∀ W, Calls Tryz.prog 19 #[.int .i64 level] W fun x w' => x = .returned (.int .i64 (halfN n : Int)) ∧ w' = W := fun W => by rw [hlev]; exact half_any n W hn1 (by omega)
  have hbd := halfN_bd n (by omega)
  have hin := cells_in hI.good n id (glevel_of hl)
  have hY : (w.alloc (.cells #[.int .i64 0, .int .i64 0, .int .i64 0, .int .i64 0] 49)).heap[w.heap.size]? = some (.cells #[.int .i64 0, .int .i64 0, .int .i64 0, .int .i64 0] 49 (0, 0)) := heap_alloc_new w _
  have hwl := hw.hand.lt
  have hml := hw.lt
  have hflt := hw.ar.flt
  have hp44 : ((2 ^ n : Nat) : Int) ≤ 17592186044416 := by
    have : (2 : Nat) ^ n ≤ 2 ^ 44 := Nat.pow_le_pow_right (by omega) (by omega)
    have e : (2 : Nat) ^ 44 = 17592186044416 := by decide
    omega
  have HLEV : Hid (level = (n : Int)) := hlev
  have HIN : Hid (∀ c ∈ cellsF A.ths n id, 0 ≤ c.1 ∧ c.1 < ((2 ^ n : Nat) : Int) ∧ 0 ≤ c.2 ∧ c.2 < ((2 ^ n : Nat) : Int)) := hin
  obtain ⟨hf', hhf⟩ : ∃ hf' : Int, hf' = (halfN n : Int) := ⟨_, rfl⟩
  have hfb : 0 ≤ hf' ∧ hf' ≤ 2305843009213693952 := by omega
  rw [← hhf] at hh
  have HHF : Hid (hf' = (halfN n : Int)) := hhf
  clear hlev hin hhf hbd
  go_enter Tryz.func89, Tryz.ntmps89
  go_wp2_with fail
  refine hta.mono ?_
  rintro y w1 ⟨c, x0, y0, x1, y1, rfl, hT, T1⟩
  have hY1 := (T1.block w.heap.size (by simp) (by omega) (by omega)).trans hY
  have hfz := field_tv c x0 y0 x1 y1
  have TW : TG w wb m b nn t v F A (Kn D A.ths t n) w1 := ⟨T1.wg, Nat.le_trans b0.size T1.size, T1.os.trans b0.os, T1.tape.trans b0.tape, T1.output.trans b0.output, fun j h1 h2 h3 => (T1.block j (by simp; omega) h2 h3).trans (b0.block j h1)⟩
  have HFIN : Hid (∀ w', Below w.heap.size w1 w' → TG w wb m b nn t v F A (Kn D A.ths t n) w') := fun w' hb' => by
    obtain ⟨k1, D1, q1, hK⟩ := TW.wg
    have hsz := TW.size
    exact ⟨⟨k1, D1, q1.other hb'.size fun j hj => hb'.block j (by rcases hj with rfl | rfl | h; exact hwl; exact hml; exact hflt j h), hK⟩, Nat.le_trans hsz hb'.size, hb'.os.trans TW.os, hb'.tape.trans TW.tape, hb'.output.trans TW.output, fun j h1 h2 h3 => (hb'.block j h1).trans (TW.block j h1 h2 h3)⟩
  have hlt1 : w.heap.size < w1.heap.size := (Array.getElem?_eq_some_iff.1 hY1).1
  have hcl : c = ((cellsF A.ths n id).length : Int) := hT.1
  have HT : Hid (Tal (cellsF A.ths n id) c x0 y0 x1 y1) := hT
  clear hT T1 TW hta q0 hw b0 hY
  have r0 : w1.cell? ⟨w.heap.size, 0, none⟩ = some (.int .i64 0) := Lib.cell_of_heap hY1 0
  have r1 : w1.cell? ⟨w.heap.size, 1, none⟩ = some (.int .i64 0) := Lib.cell_of_heap hY1 1
  have r2 : w1.cell? ⟨w.heap.size, 2, none⟩ = some (.int .i64 0) := Lib.cell_of_heap hY1 2
  have r3 : w1.cell? ⟨w.heap.size, 3, none⟩ = some (.int .i64 0) := Lib.cell_of_heap hY1 3
  have z0 := Lib.frozen_of_heap hY1 0
  have z1 := Lib.frozen_of_heap hY1 1
  have z2 := Lib.frozen_of_heap hY1 2
  have z3 := Lib.frozen_of_heap hY1 3
  by_cases hc0 : c = 0
  · have hc1 : (c == 0) = true := by simpa using hc0
    have hnil : cellsF A.ths n id = [] := List.length_eq_zero_iff.1 (by omega)
    have HR : Hid (∀ w', TG w wb m b nn t v F A (Kn D A.ths t n) w' → ∃ x0 y0 x1 y1, Ending.returned (.tuple #[.agg #[.int .i64 0, .int .i64 0, .int .i64 0, .int .i64 0], .bool false]) = .returned (.tuple #[.agg #[.int .i64 x0, .int .i64 y0, .int .i64 x1, .int .i64 y1], .bool (decide (cellsF A.ths n id ≠ []))]) ∧ BoxOr (shiftL (-(halfN n : Int)) (-(halfN n : Int)) (cellsF A.ths n id)) x0 y0 x1 y1 ∧ TG w wb m b nn t v F A (Kn D A.ths t n) w') := fun w' h => ⟨0, 0, 0, 0, by rw [hnil]; rfl, by rw [hnil]; exact Or.inl ⟨rfl, rfl, rfl, rfl, rfl⟩, h⟩
    clear hcl hc0 hnil
    go_wp2_with fail
    refine bodyPost_ret (v := .tuple #[.agg #[.int .i64 0, .int .i64 0, .int .i64 0, .int .i64 0], .bool false]) ?_ rfl (HR.out _ (HFIN.out _ ?_))
    · have hR : ((((w1.setCell ⟨w.heap.size, 0, none⟩ (.int .i64 0)).setCell ⟨w.heap.size, 1, none⟩ (.int .i64 0)).setCell ⟨w.heap.size, 2, none⟩ (.int .i64 0)).setCell ⟨w.heap.size, 3, none⟩ (.int .i64 0)).heap[w.heap.size]? = some (.cells #[.int .i64 0, .int .i64 0, .int .i64 0, .int .i64 0] 49 (0, 0)) := Go.Joins.block_setCell (Go.Joins.block_setCell (Go.Joins.block_setCell (Go.Joins.block_setCell hY1 _) _) _) _
      have hR2 := (push_old (o := .cells #[.int .i64 c, .int .i64 x0, .int .i64 y0, .int .i64 x1, .int .i64 y1] 156) (Array.getElem?_eq_some_iff.1 hR).1).trans hR
      simp [results, Tryz.results89, go_sem, Lib.cell_of_heap hR2]
    · exact ((((Below.refl _ _).setCell (p := ⟨w.heap.size, 0, none⟩) (Nat.le_refl _) _).setCell (p := ⟨w.heap.size, 1, none⟩) (Nat.le_refl _) _).setCell (p := ⟨w.heap.size, 2, none⟩) (Nat.le_refl _) _).setCell (p := ⟨w.heap.size, 3, none⟩) (Nat.le_refl _) _ |>.alloc (by simp [World.setCell]; omega) _
  · have hc1 : (c == 0) = false := by simpa using hc0
    have hbx : IsBox (cellsF A.ths n id) x0 y0 x1 y1 := by
      rcases HT.out.2 with ⟨h0, _⟩ | h0
      · exact absurd (by rw [hcl, h0]; rfl) hc0
      · exact h0
    have hxb : 0 ≤ x0 ∧ x0 ≤ 17592186044416 ∧ 0 ≤ y0 ∧ y0 ≤ 17592186044416 ∧ 0 ≤ x1 ∧ x1 ≤ 17592186044416 ∧ 0 ≤ y1 ∧ y1 ≤ 17592186044416 := by
      have hq := HIN.out
      obtain ⟨p, hp, e0⟩ := hbx.a0
      obtain ⟨q, hqq, e1⟩ := hbx.b0
      obtain ⟨r, hr, e2⟩ := hbx.a1
      obtain ⟨s, hs, e3⟩ := hbx.b1
      have := hq p hp; have := hq q hqq; have := hq r hr; have := hq s hs
      omega
    have hnn : cellsF A.ths n id ≠ [] := fun e => by rw [e] at hcl; exact hc0 (by simpa using hcl)
    have HR : Hid (∀ w', TG w wb m b nn t v F A (Kn D A.ths t n) w' → ∃ u0 v0 u1 v1, Ending.returned (.tuple #[.agg #[.int .i64 (x0 - hf'), .int .i64 (y0 - hf'), .int .i64 (x1 - hf'), .int .i64 (y1 - hf')], .bool true]) = .returned (.tuple #[.agg #[.int .i64 u0, .int .i64 v0, .int .i64 u1, .int .i64 v1], .bool (decide (cellsF A.ths n id ≠ []))]) ∧ BoxOr (shiftL (-(halfN n : Int)) (-(halfN n : Int)) (cellsF A.ths n id)) u0 v0 u1 v1 ∧ TG w wb m b nn t v F A (Kn D A.ths t n) w') := fun w' h => ⟨_, _, _, _, by rw [decide_eq_true hnn], by
      rw [← HHF.out]
      have hm2 : ∀ p ∈ cellsF A.ths n id, (p.1 + -hf', p.2 + -hf') ∈ shiftL (-hf') (-hf') (cellsF A.ths n id) := fun p hp => mem_shift.2 (by rw [show p.1 + -hf' - -hf' = p.1 by omega, show p.2 + -hf' - -hf' = p.2 by omega]; exact hp)
      refine Or.inr ⟨fun p hp => ?_, ?_, ?_, ?_, ?_⟩
      · have := hbx.all _ (mem_shift.1 hp); simp only at this; omega
      · obtain ⟨p, hp, e⟩ := hbx.a0; exact ⟨_, hm2 p hp, by show p.1 + -hf' = _; omega⟩
      · obtain ⟨p, hp, e⟩ := hbx.b0; exact ⟨_, hm2 p hp, by show p.2 + -hf' = _; omega⟩
      · obtain ⟨p, hp, e⟩ := hbx.a1; exact ⟨_, hm2 p hp, by show p.1 + -hf' = _; omega⟩
      · obtain ⟨p, hp, e⟩ := hbx.b1; exact ⟨_, hm2 p hp, by show p.2 + -hf' = _; omega⟩, h⟩
    clear hbx hnn hcl hc0
    go_wp2_with fail
    go_region_with ((go_at_call 19; refine (hh _).mono ?_; rintro e w5 ⟨rfl, rfl⟩))
    all_goals
      go_wp2_with fail
      refine bodyPost_ret (v := .tuple #[.agg #[.int .i64 (x0 - hf'), .int .i64 (y0 - hf'), .int .i64 (x1 - hf'), .int .i64 (y1 - hf')], .bool true]) ?_ rfl (HR.out _ (HFIN.out _ ?_))
      · have hR : ((((w1.setCell ⟨w.heap.size, 0, none⟩ (.int .i64 (x0 - hf'))).setCell ⟨w.heap.size, 1, none⟩ (.int .i64 (y0 - hf'))).setCell ⟨w.heap.size, 2, none⟩ (.int .i64 (x1 - hf'))).setCell ⟨w.heap.size, 3, none⟩ (.int .i64 (y1 - hf'))).heap[w.heap.size]? = some (.cells #[.int .i64 (x0 - hf'), .int .i64 (y0 - hf'), .int .i64 (x1 - hf'), .int .i64 (y1 - hf')] 49 (0, 0)) := Go.Joins.block_setCell (Go.Joins.block_setCell (Go.Joins.block_setCell (Go.Joins.block_setCell hY1 _) _) _) _
        have hR2 := (push_old (o := .cells #[.int .i64 c, .int .i64 x0, .int .i64 y0, .int .i64 x1, .int .i64 y1] 156) (Array.getElem?_eq_some_iff.1 hR).1).trans hR
        have hR3 := (push_old (o := .cells #[.int .i64 x0, .int .i64 y0, .int .i64 x1, .int .i64 y1] 49) (Array.getElem?_eq_some_iff.1 hR2).1).trans hR2
        simp [results, Tryz.results89, go_sem, Lib.cell_of_heap hR3]
      · exact (((((((Below.refl _ _).setCell (p := ⟨w.heap.size, 0, none⟩) (Nat.le_refl _) _).setCell (p := ⟨w.heap.size, 1, none⟩) (Nat.le_refl _) _).setCell (p := ⟨w.heap.size, 2, none⟩) (Nat.le_refl _) _).setCell (p := ⟨w.heap.size, 3, none⟩) (Nat.le_refl _) _).alloc (by simp [World.setCell]; omega) _).alloc (by simp [World.setCell]; omega) _).drew
end Go.Proofs.YtofbcngcblleaabGreat.A

namespace Go.Proofs.YtofbcngcblleaabGreat.A
open Go.RowKit Go.Maps Go.ChangeMaps Go.WideElems
set_option maxRecDepth 20000 in
set_option maxHeartbeats 4000000 in
theorem Box_root (b n t lv : Nat) (id : Int) (F : Nat → Prop) (A : Ar) (w : World) (hA : ArAt w b F n A) (hI : Inv A) (ht : t < 64) (hm : ∀ x ∈ A.ths, x.mask < 18446744073709551616) (hf : A.ths.length < 1000000) (hl : levelF A.ths t id = some (lv : Int)) (hlv1 : 1 ≤ lv) (hlv : lv ≤ 44) (hbig : (cellsF A.ths lv id).length < 4611686018427387904) :
    Calls Tryz.prog 81 #[.pointer (some ⟨b, 0, none⟩), .int .i64 t, .int .i64 id] w fun x w' => ∃ x0 y0 x1 y1, x = .returned (.tuple #[.agg #[.int .i64 x0, .int .i64 y0, .int .i64 x1, .int .i64 y1], .bool (decide (cellsF A.ths lv id ≠ [])), .int .i64 0]) ∧ BoxOr (shiftL (-(halfN lv : Int)) (-(halfN lv : Int)) (cellsF A.ths lv id)) x0 y0 x1 y1 ∧ Below w.heap.size w w' := by
  have hr := fits_of hl hf
  have hflt := hA.flt
  have hlev := fun W hb v (hh : HandAt W hb b t 0 v) (hW : ArAt W b F n A) (hn : ¬ F hb) => handLevel_ok hb b n t id 1 44 lv v F A W hh hW hn ht hm hr hl (by omega) (by omega)
  have hta := fun wb m v k D W => box_any wb m b n t k lv id (lv : Int) v F A D W hI ht hm hf hlv1 hlv hl hbig rfl
  have HL : Hid (levelF A.ths t id = some (lv : Int)) := hl
  clear hl
  have b00 : Below w.heap.size w (w.alloc (.cells #[.int .i64 0, .int .i64 0, .int .i64 0, .int .i64 0] 49)) := (Below.refl _ _).alloc (Nat.le_refl _) _
  have hY : (w.alloc (.cells #[.int .i64 0, .int .i64 0, .int .i64 0, .int .i64 0] 49)).heap[w.heap.size]? = some (.cells #[.int .i64 0, .int .i64 0, .int .i64 0, .int .i64 0] 49 (0, 0)) := heap_alloc_new w _
  have hA0 := hA.below b00
  go_enter Tryz.func81, Tryz.ntmps81
  go_wp2_with fail
  refine (newWalker_G b t _).mono ?_
  rintro x w1 ⟨g, m, D, rfl, hb1, hown, hkn, hmg, _, _, _⟩
  obtain ⟨Q0, b2⟩ := WG.born (g := g) (t := t) hA0 hf hb1 hown hkn hmg
  have hh := Q0.hand
  have hs1 := hb1.size
  have hs0 : (w.alloc (.cells #[.int .i64 0, .int .i64 0, .int .i64 0, .int .i64 0] 49)).heap.size = w.heap.size + 1 := by simp
  go_wp2_with fail
  refine (hlev _ _ _ hh (hA0.below b2) Q0.nFw).mono ?_
  rintro x w3 ⟨rfl, h3, g3, h34⟩
  have c2 := h3.c2
  have Q3 := Q0.kids h3 g3 (h34.trans Q0.c4)
  have b3 : Below (w.heap.size + 1) (w.alloc (.cells #[.int .i64 0, .int .i64 0, .int .i64 0, .int .i64 0] 49)) w3 := by
    have e := b2.trans (c := w3) ⟨g3.os, g3.tape, g3.output, g3.size, fun k hk => g3.block k (by have := b2.size; omega) (by simp; omega)⟩
    rw [hs0] at e
    exact e
  clear hlev
  go_wp2_with fail
  refine (hta _ _ _ 2 D _ Q3).mono ?_
  rintro x w4 ⟨x0, y0, x1, y1, rfl, hB, T4⟩
  obtain ⟨k4, D4, Q4, _⟩ := T4.wg
  have hlt3 := Q3.hand.lt
  have d2 := Q4.hand.c2
  have b4 : Below (w.heap.size + 1) (w.alloc (.cells #[.int .i64 0, .int .i64 0, .int .i64 0, .int .i64 0] 49)) w4 := ⟨T4.os.trans b3.os, T4.tape.trans b3.tape, T4.output.trans b3.output, Nat.le_trans b3.size T4.size, fun k hk => (T4.block k (by have := b3.size; omega) (by omega) (by omega)).trans (b3.block k hk)⟩
  have hY4 := (b4.block w.heap.size (by omega)).trans hY
  obtain ⟨bl, hbl⟩ : ∃ bl, bl = decide (cellsF A.ths lv id ≠ []) := ⟨_, rfl⟩
  have HBL : Hid (bl = decide (cellsF A.ths lv id ≠ [])) := hbl
  rw [← hbl]
  have b5 : Below w.heap.size w w4 := b00.trans (b4.mono (by omega))
  have HB : Hid (BoxOr (shiftL (-(halfN lv : Int)) (-(halfN lv : Int)) (cellsF A.ths lv id)) x0 y0 x1 y1) := hB
  clear hta hbl hB
  have b6 : Below w4.heap.size w4 (w4.alloc (.cells #[.int .i64 x0, .int .i64 y0, .int .i64 x1, .int .i64 y1] 49)) := (Below.refl _ _).alloc (Nat.le_refl _) _
  have hl4 := Q4.hand.lt
  have d3 : (w4.alloc (.cells #[.int .i64 x0, .int .i64 y0, .int .i64 x1, .int .i64 y1] 49)).cell? ⟨w1.heap.size, 2, none⟩ = some (.int .i64 0) := (Q4.hand.below b6).c2
  have hs4 := b4.size
  have r0 : w4.cell? ⟨w.heap.size, 0, none⟩ = some (.int .i64 0) := Lib.cell_of_heap hY4 0
  have r1 : w4.cell? ⟨w.heap.size, 1, none⟩ = some (.int .i64 0) := Lib.cell_of_heap hY4 1
  have r2 : w4.cell? ⟨w.heap.size, 2, none⟩ = some (.int .i64 0) := Lib.cell_of_heap hY4 2
  have r3 : w4.cell? ⟨w.heap.size, 3, none⟩ = some (.int .i64 0) := Lib.cell_of_heap hY4 3
  have z0 := Lib.frozen_of_heap hY4 0
  have z1 := Lib.frozen_of_heap hY4 1
  have z2 := Lib.frozen_of_heap hY4 2
  have z3 := Lib.frozen_of_heap hY4 3
  have hwl4 : w.heap.size < w4.heap.size := (Array.getElem?_eq_some_iff.1 hY4).1
  clear b6 hb1 hown
  go_wp2_with fail
  refine bodyPost_ret (v := .tuple #[.agg #[.int .i64 x0, .int .i64 y0, .int .i64 x1, .int .i64 y1], .bool bl, .int .i64 0]) ?_ rfl ⟨x0, y0, x1, y1, by rw [HBL.out], HB.out, ?_⟩
  · have hR : ((((w4.setCell ⟨w.heap.size, 0, none⟩ (.int .i64 x0)).setCell ⟨w.heap.size, 1, none⟩ (.int .i64 y0)).setCell ⟨w.heap.size, 2, none⟩ (.int .i64 x1)).setCell ⟨w.heap.size, 3, none⟩ (.int .i64 y1)).heap[w.heap.size]? = some (.cells #[.int .i64 x0, .int .i64 y0, .int .i64 x1, .int .i64 y1] 49 (0, 0)) := Go.Joins.block_setCell (Go.Joins.block_setCell (Go.Joins.block_setCell (Go.Joins.block_setCell hY4 _) _) _) _
    have hR2 := (push_old (o := .cells #[.int .i64 x0, .int .i64 y0, .int .i64 x1, .int .i64 y1] 49) (Array.getElem?_eq_some_iff.1 hR).1).trans hR
    simp [results, Tryz.results81, go_sem, Lib.cell_of_heap hR2]
  · exact (((((b5.setCell (p := ⟨w.heap.size, 0, none⟩) (Nat.le_refl _) _).setCell (p := ⟨w.heap.size, 1, none⟩) (Nat.le_refl _) _).setCell (p := ⟨w.heap.size, 2, none⟩) (Nat.le_refl _) _).setCell (p := ⟨w.heap.size, 3, none⟩) (Nat.le_refl _) _).alloc (by simp [World.setCell]; omega) _)
end Go.Proofs.YtofbcngcblleaabGreat.A

namespace Go.Proofs.YtofbcngcblleaabGreat.A
open Go.RowKit Go.Maps Go.ChangeMaps Go.WideElems
def fourC (l : List Th) (n : Nat) (q0 q1 q2 q3 : Int) : List (Int × Int) := cellsF l n q0 ++ shiftL ((2 ^ n : Nat) : Int) 0 (cellsF l n q1) ++ shiftL 0 ((2 ^ n : Nat) : Int) (cellsF l n q2) ++ shiftL ((2 ^ n : Nat) : Int) ((2 ^ n : Nat) : Int) (cellsF l n q3)
def absC (l : List Th) (n : Nat) (id : Int) : List (Int × Int) := shiftL (-(halfN n : Int)) (-(halfN n : Int)) (cellsF l n id)
theorem mem_abs {l : List Th} {n : Nat} {id : Int} {p : Int × Int} : p ∈ absC l n id ↔ (p.1 + (halfN n : Int), p.2 + (halfN n : Int)) ∈ cellsF l n id := by
  unfold absC
  rw [mem_shift, show p.1 - -(halfN n : Int) = p.1 + (halfN n : Int) by omega, show p.2 - -(halfN n : Int) = p.2 + (halfN n : Int) by omega]
theorem abs_fits {l : List Th} (hG : Good l) {n : Nat} {id : Int} (h : glevel l id = some ((n + 1 : Nat) : Int)) : fitsLv (n + 1) (absC l (n + 1) id) := fun p hp => by
  have := cells_in hG (n + 1) id h _ (mem_abs.1 hp)
  have hpw : ((2 ^ (n + 1) : Nat) : Int) = ((2 ^ n : Nat) : Int) + ((2 ^ n : Nat) : Int) := by rw [Nat.pow_succ]; omega
  rw [halfN_succ] at this ⊢
  simp only at this
  rw [hpw] at this
  omega
end Go.Proofs.YtofbcngcblleaabGreat.A

namespace Go.Proofs.YtofbcngcblleaabGreat.A
open Go.RowKit Go.Maps Go.Proofs.YtofbcngcblleaabGreat.L
variable {w : World} {b t : Nat} {A : Ar} {PR : (Bool → Nat → Bool) → Int → Prop} {q : Nat → Int}
theorem closed_of (hS : Sound A) (hG : Glob A) (u : Nat) : Closed A.ths u := fun x hx hk hb => by
  have hu : u < 64 := by
    rcases Nat.lt_or_ge u 64 with h | h
    · exact h
    · have h1 := hS.mask x hx
      have h2 : x.mask.testBit u = false := Nat.testBit_lt_two_pow (Nat.lt_of_lt_of_le h1 (by rw [show (18446744073709551616 : Nat) = 2 ^ 64 by decide]; exact Nat.pow_le_pow_right (by omega) h))
      rw [h2] at hb
      cases hb
  obtain ⟨j, hj⟩ := List.getElem?_of_mem hx
  have hV : (view A u).V ((j : Int) + 2) = some x.face := ownV_iff.2 ⟨by omega, x, by rw [show (((j : Int) + 2 - 2).toNat) = j by omega]; exact hj, hb, rfl⟩
  have hl := (hG.wel u hu).lev _ _ hV hk
  have hr : refsV x.face = [x.p0, x.p1, x.p2, x.p3] := by unfold refsV; rw [if_pos (show x.face.1.k = 1 from hk)]; rfl
  rw [hr] at hl
  have f : ∀ r, levV (view A u).V r = some (x.lv - 1) → levelF A.ths u r = some (x.lv - 1) := fun r h => by rw [levelF_V]; exact h
  exact ⟨f _ (hl _ (by simp)), f _ (hl _ (by simp)), f _ (hl _ (by simp)), f _ (hl _ (by simp))⟩
theorem good_of (hS : Sound A) (hG : Glob A) : Good A.ths := by
  refine ⟨fun x hx hk => ?_⟩
  have h := hG.gl.sq x hx hk
  have g : ∀ r ∈ partsT x, glevel A.ths r = some (x.lv - 1) := fun r hr => h r hr
  have h0 := glev_nn (lv0_of hS) (h x.p0 (by simp [partsT]))
  exact ⟨by omega, (hS.lv x hx).2, g _ (by simp [partsT]), g _ (by simp [partsT]), g _ (by simp [partsT]), g _ (by simp [partsT])⟩
theorem inv_of (hS : Sound A) (hG : Glob A) (L : List Int) : Inv { A with free := L } := ⟨good_of (A := A) hS hG, hS.uniq, closed_of (A := A) hS hG, hS.cnt⟩
theorem mem_shiftI {dx dy : Int} {zs : List (Int × Int)} {p : Int × Int} : p ∈ shiftL dx dy zs ↔ (p.1 - dx, p.2 - dy) ∈ zs := by
  unfold shiftL
  rw [List.mem_map]
  constructor
  · rintro ⟨c, h, rfl⟩
    simpa [show c.1 + dx - dx = c.1 by omega, show c.2 + dy - dy = c.2 by omega] using h
  · intro h
    exact ⟨_, h, by simp [show p.1 - dx + dx = p.1 by omega, show p.2 - dy + dy = p.2 by omega]⟩
theorem cells_shows {l : List Th} : ∀ (n : Nat) {id : Int} {g : Gr} {a c : Int}, IsSq (QG l) n id → Shows (QG l) n id g a c → ∀ p : Int × Int, p ∈ cellsF l n id ↔ 0 ≤ p.1 ∧ p.1 < 2 ^ n ∧ 0 ≤ p.2 ∧ p.2 < 2 ^ n ∧ g (a + p.1) (c + p.2) = true
  | 0, id, g, a, c, hi, hs, p => by
    have h0 := hs 0 0 (by decide) (by decide)
    rw [cellV] at h0
    simp only [Int.natCast_zero, Int.add_zero] at h0
    rw [cellsF]
    obtain ⟨x, y⟩ := p
    constructor
    · intro h
      split at h
      · rename_i h1
        simp only [List.mem_singleton, Prod.mk.injEq] at h
        obtain ⟨rfl, rfl⟩ := h
        refine ⟨by decide, by decide, by decide, by decide, ?_⟩
        simp only [Int.add_zero]
        rw [← h0]
        simpa using h1
      · cases h
    · rintro ⟨h1, h2, h3, h4, h5⟩
      simp only at h1 h2 h3 h4 h5
      have hx : x = 0 := by simp at h2; omega
      have hy : y = 0 := by simp at h4; omega
      subst hx hy
      simp only [Int.add_zero] at h5
      rw [h5] at h0
      rw [if_pos (by simpa using h0)]
      simp
  | n + 1, id, g, a, c, ⟨k, hk, i0, i1, i2, i3⟩, hs, p => by
    obtain ⟨s0, s1, s2, s3⟩ := shows_kids hk hs
    obtain ⟨h2, x, hx, _, rfl⟩ := QG_iff.1 hk
    have c0 := cells_shows n i0 s0
    have c1 := cells_shows n i1 s1
    have c2 := cells_shows n i2 s2
    have c3 := cells_shows n i3 s3
    simp only at c0 c1 c2 c3
    have hp := two_powI n
    have hI := powI n
    have hpos : (0 : Int) < 2 ^ n := by have : 0 < 2 ^ n := Nat.pow_pos (by omega); omega
    rw [cellsF, thAt_eq hx, List.mem_append, List.mem_append, List.mem_append, mem_shiftI, mem_shiftI, mem_shiftI, c0, c1, c2, c3]
    obtain ⟨u, v⟩ := p
    simp only
    rw [show a + 2 ^ n + (u - ((2 ^ n : Nat) : Int)) = a + u by omega, show c + 2 ^ n + (v - ((2 ^ n : Nat) : Int)) = c + v by omega, show c + (v - 0) = c + v by omega, show a + (u - 0) = a + u by omega, hp, hI]
    generalize (2 : Int) ^ n = z at *
    cases g (a + u) (c + v) with
    | false => simp
    | true => simp only [and_true]; omega
end Go.Proofs.YtofbcngcblleaabGreat.A

namespace Go.Proofs.YtofbcngcblleaabGreat.A
open Go.RowKit Go.Maps Go.ChangeMaps Go.WideElems
def PeelOut (w : World) (b t c : Nat) (F : Nat → Prop) (A : Ar) (S : List (Int × Int)) (id' : Int) (w' : World) : Prop :=
  ∃ (A' : Ar) (F' : Nat → Prop) (nn' N' : Nat) (N : List Int), ArAt w' b F' nn' A' ∧ (∀ k, F' k → F k ∨ w.heap.size ≤ k) ∧ Apart F w w' ∧ Inv A' ∧ Pur A' t c nn' ∧ Gain t A A' N ∧ LeastLv N' S ∧ levelF A'.ths t id' = some (N' : Int) ∧ ∀ p : Int × Int, p ∈ cellsF A'.ths N' id' ↔ (p.1 - (halfN N' : Int), p.2 - (halfN N' : Int)) ∈ S
structure QL (w W : World) (wb b t nn qb : Nat) (v : Value) (F : Nat → Prop) (A : Ar) (q0 q1 q2 q3 : Int) : Prop where
  hand : HandAt W wb b t 0 v
  ar : ArAt W b F nn A
  bel : Below w.heap.size w W
  blk : W.heap[qb]? = some (.cells #[.int .i64 q0, .int .i64 q1, .int .i64 q2, .int .i64 q3] 41 (0, 0))
  nF : ¬ F qb
  nw : qb ≠ wb
  nFw : ¬ F wb
  l0 : w.heap.size ≤ qb
  l1 : w.heap.size ≤ wb
section
variable {w W W' : World} {wb b t nn qb : Nat} {v : Value} {F : Nat → Prop} {A : Ar} {q0 q1 q2 q3 : Int}
theorem QL.kids (h : QL w W wb b t nn qb v F A q0 q1 q2 q3) (h2 : HandAt W' wb b t 0 v) (hg : W.grownBy W' (some wb)) : QL w W' wb b t nn qb v F A q0 q1 q2 q3 := by
  have hl : qb < W.heap.size := (Array.getElem?_eq_some_iff.1 h.blk).1
  have l1 := h.l1
  have hs := h.bel.size
  refine ⟨h2, h.ar.other hg.size fun k hk => hg.block k (h.ar.flt k hk) (fun e => h.nFw (by cases e; exact hk)), h.bel.trans ⟨hg.os, hg.tape, hg.output, hg.size, fun k hk => hg.block k (by omega) (by simp; omega)⟩, (hg.block qb hl (fun e => h.nw (by cases e; rfl))).trans h.blk, h.nF, h.nw, h.nFw, h.l0, h.l1⟩
theorem QL.set (h : QL w W wb b t nn qb v F A q0 q1 q2 q3) (i : Nat) (u : Value) {r0 r1 r2 r3 : Int} (hq : (W.setCell ⟨qb, i, none⟩ u).heap[qb]? = some (.cells #[.int .i64 r0, .int .i64 r1, .int .i64 r2, .int .i64 r3] 41 (0, 0))) : QL w (W.setCell ⟨qb, i, none⟩ u) wb b t nn qb v F A r0 r1 r2 r3 := by
  have hz : (W.setCell ⟨qb, i, none⟩ u).heap.size = W.heap.size := size_set
  refine ⟨h.hand.go (heap_set (fun e => h.nw e.symm)), h.ar.other (by omega) fun k hk => heap_set (by rintro rfl; exact h.nF hk), h.bel.setCell (p := ⟨qb, i, none⟩) h.l0 u, hq, h.nF, h.nw, h.nFw, h.l0, h.l1⟩
theorem QL.cells (h : QL w W wb b t nn qb v F A q0 q1 q2 q3) : (W.cell? ⟨qb, 0, none⟩ = some (.int .i64 q0) ∧ W.cell? ⟨qb, 1, none⟩ = some (.int .i64 q1) ∧ W.cell? ⟨qb, 2, none⟩ = some (.int .i64 q2) ∧ W.cell? ⟨qb, 3, none⟩ = some (.int .i64 q3)) ∧ (W.frozen? ⟨qb, 0, none⟩ = false ∧ W.frozen? ⟨qb, 1, none⟩ = false ∧ W.frozen? ⟨qb, 2, none⟩ = false ∧ W.frozen? ⟨qb, 3, none⟩ = false) ∧ qb < W.heap.size :=
  ⟨⟨Lib.cell_of_heap h.blk 0, Lib.cell_of_heap h.blk 1, Lib.cell_of_heap h.blk 2, Lib.cell_of_heap h.blk 3⟩, ⟨Lib.frozen_of_heap h.blk 0, Lib.frozen_of_heap h.blk 1, Lib.frozen_of_heap h.blk 2, Lib.frozen_of_heap h.blk 3⟩, (Array.getElem?_eq_some_iff.1 h.blk).1⟩
end
end Go.Proofs.YtofbcngcblleaabGreat.A
