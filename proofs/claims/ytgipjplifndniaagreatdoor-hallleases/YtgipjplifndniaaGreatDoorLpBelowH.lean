/- What below answers of a square: its quarters. -/
import Derived.Test.YtgipjplifndniaaGreatDoorLpSqG
import Derived.Deep.Cut
namespace Go.Proofs.YtgipjplifndniaaGreatDoor.A
open Go.RowKit Go.Maps Go.Proofs.YtgipjplifndniaaGreatDoor.L

variable {w w1 w2 : World} {o o1 o2 : Nat → Nat} {hb b t : Nat} {e : Int} {A A' : Ar} {PR : (Bool → Nat → Bool) → Int → Prop} {q : Nat → Int} {E : List Int}
theorem he_set {W : World} {o' : Nat → Nat} (h : HE W o' hb b t e E A ∧ Ch HM o w o' W) {k : Nat} (hk : o' k = 0) (hge : w.heap.size ≤ k) (i : Nat) (u : Value) : HE (W.setCell ⟨k, i, none⟩ u) o' hb b t e E A ∧ Ch HM o w o' (W.setCell ⟨k, i, none⟩ u) := by
  have c : Ch (fun l => l = 0) o' W o' (W.setCell ⟨k, i, none⟩ u) := Ch.set o' W ⟨k, i, none⟩ u hk
  exact ⟨h.1.ch c (fun l hl => by unfold HM; omega), c.os.trans h.2.os, c.tape.trans h.2.tape, c.output.trans h.2.output, Nat.le_trans h.2.size c.size, h.2.lab, fun j hj hn => (Below.heap_setCell _ _ _ _ (by show j ≠ k; omega)).trans (h.2.block j hj hn)⟩
theorem put12 {W : World} {o' : Nat → Nat} {k : Nat} {T : TypeId} {b0 b1 b2 b3 b4 b5 b6 b7 b8 b9 b10 b11 a0 a1 a2 a3 a4 a5 a6 a7 a8 a9 a10 a11 : Value} (y : W.heap[k]? = some (.cells #[b0, b1, b2, b3, b4, b5, b6, b7, b8, b9, b10, b11] T (0, 0))) (h : HE W o' hb b t e E A ∧ Ch HM o w o' W) (hk : o' k = 0) (hge : w.heap.size ≤ k) :
    ((((((((((((W.setCell ⟨k, 0, none⟩ a0).setCell ⟨k, 1, none⟩ a1).setCell ⟨k, 2, none⟩ a2).setCell ⟨k, 3, none⟩ a3).setCell ⟨k, 4, none⟩ a4).setCell ⟨k, 5, none⟩ a5).setCell ⟨k, 6, none⟩ a6).setCell ⟨k, 7, none⟩ a7).setCell ⟨k, 8, none⟩ a8).setCell ⟨k, 9, none⟩ a9).setCell ⟨k, 10, none⟩ a10).setCell ⟨k, 11, none⟩ a11).heap[k]? = some (.cells #[a0, a1, a2, a3, a4, a5, a6, a7, a8, a9, a10, a11] T (0, 0)) ∧ HE ((((((((((((W.setCell ⟨k, 0, none⟩ a0).setCell ⟨k, 1, none⟩ a1).setCell ⟨k, 2, none⟩ a2).setCell ⟨k, 3, none⟩ a3).setCell ⟨k, 4, none⟩ a4).setCell ⟨k, 5, none⟩ a5).setCell ⟨k, 6, none⟩ a6).setCell ⟨k, 7, none⟩ a7).setCell ⟨k, 8, none⟩ a8).setCell ⟨k, 9, none⟩ a9).setCell ⟨k, 10, none⟩ a10).setCell ⟨k, 11, none⟩ a11) o' hb b t e E A ∧ Ch HM o w o' ((((((((((((W.setCell ⟨k, 0, none⟩ a0).setCell ⟨k, 1, none⟩ a1).setCell ⟨k, 2, none⟩ a2).setCell ⟨k, 3, none⟩ a3).setCell ⟨k, 4, none⟩ a4).setCell ⟨k, 5, none⟩ a5).setCell ⟨k, 6, none⟩ a6).setCell ⟨k, 7, none⟩ a7).setCell ⟨k, 8, none⟩ a8).setCell ⟨k, 9, none⟩ a9).setCell ⟨k, 10, none⟩ a10).setCell ⟨k, 11, none⟩ a11) := by
  have e := Go.Joins.block_setCell (i := 11) (Go.Joins.block_setCell (i := 10) (Go.Joins.block_setCell (i := 9) (Go.Joins.block_setCell (i := 8) (Go.Joins.block_setCell (i := 7) (Go.Joins.block_setCell (i := 6) (Go.Joins.block_setCell (i := 5) (Go.Joins.block_setCell (i := 4) (Go.Joins.block_setCell (i := 3) (Go.Joins.block_setCell (i := 2) (Go.Joins.block_setCell (i := 1) (Go.Joins.block_setCell (i := 0) y a0) a1) a2) a3) a4) a5) a6) a7) a8) a9) a10) a11
  simp only [List.setIfInBounds_toArray, List.set_cons_zero, List.set_cons_succ] at e
  exact ⟨e, he_set (he_set (he_set (he_set (he_set (he_set (he_set (he_set (he_set (he_set (he_set (he_set h hk hge 0 a0) hk hge 1 a1) hk hge 2 a2) hk hge 3 a3) hk hge 4 a4) hk hge 5 a5) hk hge 6 a6) hk hge 7 a7) hk hge 8 a8) hk hge 9 a9) hk hge 10 a10) hk hge 11 a11⟩
theorem st3 {W : World} {o' : Nat → Nat} {k u : Nat} {T : TypeId} {vs : Array Value} {X : Obj} (y : W.heap[k]? = some (.cells vs T (0, 0))) (hu : W.heap[u]? = some X) (hne : k ≠ u) (h : HE W o' hb b t e E A ∧ Ch HM o w o' W) (hk : o' k = 0) (hge : w.heap.size ≤ k) (i j l : Nat) (a c d : Value) :
    (((W.setCell ⟨k, i, none⟩ a).setCell ⟨k, j, none⟩ c).setCell ⟨k, l, none⟩ d).heap[k]? = some (.cells (((vs.setIfInBounds i a).setIfInBounds j c).setIfInBounds l d) T (0, 0)) ∧ (((W.setCell ⟨k, i, none⟩ a).setCell ⟨k, j, none⟩ c).setCell ⟨k, l, none⟩ d).heap[u]? = some X ∧ HE (((W.setCell ⟨k, i, none⟩ a).setCell ⟨k, j, none⟩ c).setCell ⟨k, l, none⟩ d) o' hb b t e E A ∧ Ch HM o w o' (((W.setCell ⟨k, i, none⟩ a).setCell ⟨k, j, none⟩ c).setCell ⟨k, l, none⟩ d) :=
  ⟨Go.Joins.block_setCell (Go.Joins.block_setCell (Go.Joins.block_setCell y _) _) _, (Below.heap_setCell _ _ _ _ (by show u ≠ k; exact hne.symm)).trans ((Below.heap_setCell _ _ _ _ (by show u ≠ k; exact hne.symm)).trans ((Below.heap_setCell _ _ _ _ (by show u ≠ k; exact hne.symm)).trans hu)), he_set (he_set (he_set h hk hge i a) hk hge j c) hk hge l d⟩
set_option maxRecDepth 20000 in
set_option maxHeartbeats 8000000 in
theorem below_here (id c k0 k1 k2 k3 : Int) (h : HE w o hb b t 0 E A) (hst : NxSt PR t q A) (ht : t < 64) (h0 : 0 ≤ id) (hid : Fits id) (hq : QV (view A t) id = some (k0, k1, k2, k3)) : Calls Tryz.prog 127 #[.pointer (some ⟨hb, 0, none⟩), gV (id, c, 0)] w fun e w' => e = .returned (.agg #[.int .i64 k0, .int .i64 0, .int .i64 0, .int .i64 k1, .int .i64 0, .int .i64 0, .int .i64 k2, .int .i64 0, .int .i64 0, .int .i64 k3, .int .i64 0, .int .i64 0]) ∧ ∃ o', HE w' o' hb b t 0 E A ∧ Ch HM o w o' w' := by
  unfold gV
  simp only
  have hne1 : (id != -1) = true := by simp; omega
  have hbr := fun W => bare_any W
  unfold bareV at hbr
  have hb0 : Below w.heap.size w (w.alloc (.cells #[.int .i64 id, .int .i64 c, .int .i64 0] 151)) := (Below.refl _ _).alloc (Nat.le_refl _) _
  have hb1 : Below w.heap.size w ((w.alloc (.cells #[.int .i64 id, .int .i64 c, .int .i64 0] 151)).alloc (.cells #[.int .i64 0, .int .i64 0, .int .i64 0, .int .i64 0, .int .i64 0, .int .i64 0, .int .i64 0, .int .i64 0, .int .i64 0, .int .i64 0, .int .i64 0, .int .i64 0] 163)) := hb0.alloc hb0.size _
  have x0 : ((w.alloc (.cells #[.int .i64 id, .int .i64 c, .int .i64 0] 151)).alloc (.cells #[.int .i64 0, .int .i64 0, .int .i64 0, .int .i64 0, .int .i64 0, .int .i64 0, .int .i64 0, .int .i64 0, .int .i64 0, .int .i64 0, .int .i64 0, .int .i64 0] 163)).heap[w.heap.size]? = some (.cells #[.int .i64 id, .int .i64 c, .int .i64 0] 151 (0, 0)) := heap_alloc2_old w _ _
  have x1 : ((w.alloc (.cells #[.int .i64 id, .int .i64 c, .int .i64 0] 151)).alloc (.cells #[.int .i64 0, .int .i64 0, .int .i64 0, .int .i64 0, .int .i64 0, .int .i64 0, .int .i64 0, .int .i64 0, .int .i64 0, .int .i64 0, .int .i64 0, .int .i64 0] 163)).heap[w.heap.size + 1]? = some (.cells #[.int .i64 0, .int .i64 0, .int .i64 0, .int .i64 0, .int .i64 0, .int .i64 0, .int .i64 0, .int .i64 0, .int .i64 0, .int .i64 0, .int .i64 0, .int .i64 0] 163 (0, 0)) := heap_alloc2_new w _ _
  go_enter Tryz.func127, Tryz.ntmps127
  go_wp2_with fail
  generalize ((w.alloc (.cells #[.int .i64 id, .int .i64 c, .int .i64 0] 151)).alloc (.cells #[.int .i64 0, .int .i64 0, .int .i64 0, .int .i64 0, .int .i64 0, .int .i64 0, .int .i64 0, .int .i64 0, .int .i64 0, .int .i64 0, .int .i64 0, .int .i64 0] 163)) = v0 at *
  have l1 : w.heap.size + 1 < v0.heap.size := (Array.getElem?_eq_some_iff.1 x1).1
  refine (hbr _).mono ?_
  rintro e v1 ⟨rfl, b1⟩
  go_wp2_with fail
  refine (hbr _).mono ?_
  rintro e v2 ⟨rfl, b2⟩
  go_wp2_with fail
  refine (hbr _).mono ?_
  rintro e v3 ⟨rfl, b3⟩
  go_wp2_with fail
  refine (hbr _).mono ?_
  rintro e v4 ⟨rfl, b4⟩
  have b04 : Below v0.heap.size v0 v4 := ((b1.trans (b2.mono b1.size)).trans (b3.mono (Nat.le_trans b1.size b2.size))).trans (b4.mono (Nat.le_trans (Nat.le_trans b1.size b2.size) b3.size))
  have y0 := (b04.block _ (by omega)).trans x0
  have y1 := (b04.block _ l1).trans x1
  have b5 : Below v4.heap.size v4 (v4.alloc (.cells #[.int .i64 (-1), .int .i64 0, .int .i64 0, .int .i64 (-1), .int .i64 0, .int .i64 0, .int .i64 (-1), .int .i64 0, .int .i64 0, .int .i64 (-1), .int .i64 0, .int .i64 0] 163)) := (Below.refl _ _).alloc (Nat.le_refl _) _
  have y2 : (v4.alloc (.cells #[.int .i64 (-1), .int .i64 0, .int .i64 0, .int .i64 (-1), .int .i64 0, .int .i64 0, .int .i64 (-1), .int .i64 0, .int .i64 0, .int .i64 (-1), .int .i64 0, .int .i64 0] 163)).heap[v4.heap.size]? = some (.cells #[.int .i64 (-1), .int .i64 0, .int .i64 0, .int .i64 (-1), .int .i64 0, .int .i64 0, .int .i64 (-1), .int .i64 0, .int .i64 0, .int .i64 (-1), .int .i64 0, .int .i64 0] 163 (0, 0)) := heap_alloc_new v4 _
  have l4 : w.heap.size + 1 < v4.heap.size := Nat.lt_of_lt_of_le l1 b04.size
  generalize hv5 : v4.alloc (.cells #[.int .i64 (-1), .int .i64 0, .int .i64 0, .int .i64 (-1), .int .i64 0, .int .i64 0, .int .i64 (-1), .int .i64 0, .int .i64 0, .int .i64 (-1), .int .i64 0, .int .i64 0] 163) = v5 at *
  have u0 := (b5.block _ (by omega)).trans y0
  have u1 := (b5.block _ l4).trans y1
  have hb4 := hb1.trans (b04.mono hb1.size)
  have hb5 : Below w.heap.size w v5 := hb4.trans (b5.mono hb4.size)
  have r0 : v5.cell? ⟨v4.heap.size, 0, none⟩ = some (.int .i64 (-1)) := by rw [Lib.cell_of_heap y2]; rfl
  have f0 : v5.frozen? ⟨v4.heap.size, 0, none⟩ = false := Lib.frozen_of_heap y2 0
  have r1 : v5.cell? ⟨v4.heap.size, 1, none⟩ = some (.int .i64 0) := by rw [Lib.cell_of_heap y2]; rfl
  have f1 : v5.frozen? ⟨v4.heap.size, 1, none⟩ = false := Lib.frozen_of_heap y2 1
  have r2 : v5.cell? ⟨v4.heap.size, 2, none⟩ = some (.int .i64 0) := by rw [Lib.cell_of_heap y2]; rfl
  have f2 : v5.frozen? ⟨v4.heap.size, 2, none⟩ = false := Lib.frozen_of_heap y2 2
  have r3 : v5.cell? ⟨v4.heap.size, 3, none⟩ = some (.int .i64 (-1)) := by rw [Lib.cell_of_heap y2]; rfl
  have f3 : v5.frozen? ⟨v4.heap.size, 3, none⟩ = false := Lib.frozen_of_heap y2 3
  have r4 : v5.cell? ⟨v4.heap.size, 4, none⟩ = some (.int .i64 0) := by rw [Lib.cell_of_heap y2]; rfl
  have f4 : v5.frozen? ⟨v4.heap.size, 4, none⟩ = false := Lib.frozen_of_heap y2 4
  have r5 : v5.cell? ⟨v4.heap.size, 5, none⟩ = some (.int .i64 0) := by rw [Lib.cell_of_heap y2]; rfl
  have f5 : v5.frozen? ⟨v4.heap.size, 5, none⟩ = false := Lib.frozen_of_heap y2 5
  have r6 : v5.cell? ⟨v4.heap.size, 6, none⟩ = some (.int .i64 (-1)) := by rw [Lib.cell_of_heap y2]; rfl
  have f6 : v5.frozen? ⟨v4.heap.size, 6, none⟩ = false := Lib.frozen_of_heap y2 6
  have r7 : v5.cell? ⟨v4.heap.size, 7, none⟩ = some (.int .i64 0) := by rw [Lib.cell_of_heap y2]; rfl
  have f7 : v5.frozen? ⟨v4.heap.size, 7, none⟩ = false := Lib.frozen_of_heap y2 7
  have r8 : v5.cell? ⟨v4.heap.size, 8, none⟩ = some (.int .i64 0) := by rw [Lib.cell_of_heap y2]; rfl
  have f8 : v5.frozen? ⟨v4.heap.size, 8, none⟩ = false := Lib.frozen_of_heap y2 8
  have r9 : v5.cell? ⟨v4.heap.size, 9, none⟩ = some (.int .i64 (-1)) := by rw [Lib.cell_of_heap y2]; rfl
  have f9 : v5.frozen? ⟨v4.heap.size, 9, none⟩ = false := Lib.frozen_of_heap y2 9
  have r10 : v5.cell? ⟨v4.heap.size, 10, none⟩ = some (.int .i64 0) := by rw [Lib.cell_of_heap y2]; rfl
  have f10 : v5.frozen? ⟨v4.heap.size, 10, none⟩ = false := Lib.frozen_of_heap y2 10
  have r11 : v5.cell? ⟨v4.heap.size, 11, none⟩ = some (.int .i64 0) := by rw [Lib.cell_of_heap y2]; rfl
  have f11 : v5.frozen? ⟨v4.heap.size, 11, none⟩ = false := Lib.frozen_of_heap y2 11
  have g0 : v5.cell? ⟨w.heap.size, 0, none⟩ = some (.int .i64 id) := by rw [Lib.cell_of_heap u0]; rfl
  have g2 : v5.cell? ⟨w.heap.size, 2, none⟩ = some (.int .i64 0) := by rw [Lib.cell_of_heap u0]; rfl
  have HB5 : Hid (Below w.heap.size w v5) := hb5
  have HLE4 : Hid (w.heap.size ≤ v4.heap.size) := by show _ ≤ _; omega
  have HLE : Hid (w.heap.size ≤ w.heap.size + 1) := Nat.le_succ _
  have HLT : Hid (w.heap.size + 1 < v4.heap.size ∧ v4.heap.size < v5.heap.size) := ⟨l4, (Array.getElem?_eq_some_iff.1 y2).1⟩
  have HY : Hid (v5.heap[v4.heap.size]? = some (.cells #[.int .i64 (-1), .int .i64 0, .int .i64 0, .int .i64 (-1), .int .i64 0, .int .i64 0, .int .i64 (-1), .int .i64 0, .int .i64 0, .int .i64 (-1), .int .i64 0, .int .i64 0] 163 (0, 0)) ∧ v5.heap[w.heap.size + 1]? = some (.cells #[.int .i64 0, .int .i64 0, .int .i64 0, .int .i64 0, .int .i64 0, .int .i64 0, .int .i64 0, .int .i64 0, .int .i64 0, .int .i64 0, .int .i64 0, .int .i64 0] 163 (0, 0))) := ⟨y2, u1⟩
  have hne : v4.heap.size ≠ w.heap.size + 1 := by omega
  clear hbr b1 b2 b3 b4 b04 x0 x1 y0 y1 y2 u0 u1 b5 hb0 hb1 hb4 l1 hb5 l4
  go_upto_region 5 with fail
  have y3 : ((v5.setCell ⟨v4.heap.size, 10, none⟩ (.int .i64 0)).setCell ⟨v4.heap.size, 11, none⟩ (.int .i64 0)).heap[v4.heap.size]? = some (.cells #[.int .i64 (-1), .int .i64 0, .int .i64 0, .int .i64 (-1), .int .i64 0, .int .i64 0, .int .i64 (-1), .int .i64 0, .int .i64 0, .int .i64 (-1), .int .i64 0, .int .i64 0] 163 (0, 0)) := Go.Joins.block_setCell (Go.Joins.block_setCell HY.out.1 _) _
  have u3 : ((v5.setCell ⟨v4.heap.size, 10, none⟩ (.int .i64 0)).setCell ⟨v4.heap.size, 11, none⟩ (.int .i64 0)).heap[w.heap.size + 1]? = some (.cells #[.int .i64 0, .int .i64 0, .int .i64 0, .int .i64 0, .int .i64 0, .int .i64 0, .int .i64 0, .int .i64 0, .int .i64 0, .int .i64 0, .int .i64 0, .int .i64 0] 163 (0, 0)) := (Below.heap_setCell _ _ _ _ hne.symm).trans ((Below.heap_setCell _ _ _ _ hne.symm).trans HY.out.2)
  have b6 : Below w.heap.size w ((v5.setCell ⟨v4.heap.size, 10, none⟩ (.int .i64 0)).setCell ⟨v4.heap.size, 11, none⟩ (.int .i64 0)) := (HB5.out.setCell HLE4.out _).setCell HLE4.out _
  have g3 : ((v5.setCell ⟨v4.heap.size, 10, none⟩ (.int .i64 0)).setCell ⟨v4.heap.size, 11, none⟩ (.int .i64 0)).cell? ⟨w.heap.size, 0, none⟩ = some (.int .i64 id) := by rw [World.cell?_setCell_other _ _ _ _ (by simp), World.cell?_setCell_other _ _ _ _ (by simp)]; exact g0
  have s6 : w.heap.size + 1 < v4.heap.size ∧ v4.heap.size < ((v5.setCell ⟨v4.heap.size, 10, none⟩ (.int .i64 0)).setCell ⟨v4.heap.size, 11, none⟩ (.int .i64 0)).heap.size := ⟨HLT.out.1, by rw [size_set, size_set]; exact HLT.out.2⟩
  clear r0 r1 r2 r3 r4 r5 r6 r7 r8 r9 r10 r11 f0 f1 f2 f3 f4 f5 f6 f7 f8 f9 f10 f11 g0 g2
  generalize (v5.setCell ⟨v4.heap.size, 10, none⟩ (.int .i64 0)).setCell ⟨v4.heap.size, 11, none⟩ (.int .i64 0) = v6 at *
  have hkd := hdKids_he (h.below b6) hst ht id hid k0 k1 k2 k3 hq
  have H6 : Hid (v6.heap[v4.heap.size]? = some (.cells #[.int .i64 (-1), .int .i64 0, .int .i64 0, .int .i64 (-1), .int .i64 0, .int .i64 0, .int .i64 (-1), .int .i64 0, .int .i64 0, .int .i64 (-1), .int .i64 0, .int .i64 0] 163 (0, 0)) ∧ v6.heap[w.heap.size + 1]? = some (.cells #[.int .i64 0, .int .i64 0, .int .i64 0, .int .i64 0, .int .i64 0, .int .i64 0, .int .i64 0, .int .i64 0, .int .i64 0, .int .i64 0, .int .i64 0, .int .i64 0] 163 (0, 0)) ∧ Below w.heap.size w v6 ∧ v4.heap.size < v6.heap.size) := ⟨y3, u3, b6, s6.2⟩
  unfold quad4 at hkd
  clear y3 u3 b6 s6 h hst hq
  go_wp2_with fail
  refine hkd.mono ?_
  rintro r v7 ⟨rfl, o7, h7, c7⟩
  have y7 : v7.heap[v4.heap.size]? = some (.cells #[.int .i64 (-1), .int .i64 0, .int .i64 0, .int .i64 (-1), .int .i64 0, .int .i64 0, .int .i64 (-1), .int .i64 0, .int .i64 0, .int .i64 (-1), .int .i64 0, .int .i64 0] 163 (0, 0)) := (c7.block _ H6.out.2.2.2 (by rw [ext_new HLE4.out]; unfold HM; omega)).trans H6.out.1
  have u7 : v7.heap[w.heap.size + 1]? = some (.cells #[.int .i64 0, .int .i64 0, .int .i64 0, .int .i64 0, .int .i64 0, .int .i64 0, .int .i64 0, .int .i64 0, .int .i64 0, .int .i64 0, .int .i64 0, .int .i64 0] 163 (0, 0)) := (c7.block _ (by have := H6.out.2.2.2; have := HLT.out.1; omega) (by rw [ext_new HLE.out]; unfold HM; omega)).trans H6.out.2.1
  have H7 : Hid (HE v7 o7 hb b t 0 E A ∧ Ch HM o w o7 v7 ∧ o7 v4.heap.size = 0 ∧ o7 (w.heap.size + 1) = 0) := ⟨h7, (Ch.ofBelow H6.out.2.2.1 0).trans c7, (c7.lab _ H6.out.2.2.2).trans (ext_new HLE4.out), (c7.lab _ (by have := H6.out.2.2.2; have := HLT.out.1; omega)).trans (ext_new HLE.out)⟩
  clear hkd h7 c7 g3
  have r0 : v7.cell? ⟨v4.heap.size, 0, none⟩ = some (.int .i64 (-1)) := by rw [Lib.cell_of_heap y7]; rfl
  have f0 : v7.frozen? ⟨v4.heap.size, 0, none⟩ = false := Lib.frozen_of_heap y7 0
  have r1 : v7.cell? ⟨v4.heap.size, 1, none⟩ = some (.int .i64 0) := by rw [Lib.cell_of_heap y7]; rfl
  have f1 : v7.frozen? ⟨v4.heap.size, 1, none⟩ = false := Lib.frozen_of_heap y7 1
  have r2 : v7.cell? ⟨v4.heap.size, 2, none⟩ = some (.int .i64 0) := by rw [Lib.cell_of_heap y7]; rfl
  have f2 : v7.frozen? ⟨v4.heap.size, 2, none⟩ = false := Lib.frozen_of_heap y7 2
  have r3 : v7.cell? ⟨v4.heap.size, 3, none⟩ = some (.int .i64 (-1)) := by rw [Lib.cell_of_heap y7]; rfl
  have f3 : v7.frozen? ⟨v4.heap.size, 3, none⟩ = false := Lib.frozen_of_heap y7 3
  have r4 : v7.cell? ⟨v4.heap.size, 4, none⟩ = some (.int .i64 0) := by rw [Lib.cell_of_heap y7]; rfl
  have f4 : v7.frozen? ⟨v4.heap.size, 4, none⟩ = false := Lib.frozen_of_heap y7 4
  have r5 : v7.cell? ⟨v4.heap.size, 5, none⟩ = some (.int .i64 0) := by rw [Lib.cell_of_heap y7]; rfl
  have f5 : v7.frozen? ⟨v4.heap.size, 5, none⟩ = false := Lib.frozen_of_heap y7 5
  have r6 : v7.cell? ⟨v4.heap.size, 6, none⟩ = some (.int .i64 (-1)) := by rw [Lib.cell_of_heap y7]; rfl
  have f6 : v7.frozen? ⟨v4.heap.size, 6, none⟩ = false := Lib.frozen_of_heap y7 6
  have r7 : v7.cell? ⟨v4.heap.size, 7, none⟩ = some (.int .i64 0) := by rw [Lib.cell_of_heap y7]; rfl
  have f7 : v7.frozen? ⟨v4.heap.size, 7, none⟩ = false := Lib.frozen_of_heap y7 7
  have r8 : v7.cell? ⟨v4.heap.size, 8, none⟩ = some (.int .i64 0) := by rw [Lib.cell_of_heap y7]; rfl
  have f8 : v7.frozen? ⟨v4.heap.size, 8, none⟩ = false := Lib.frozen_of_heap y7 8
  have r9 : v7.cell? ⟨v4.heap.size, 9, none⟩ = some (.int .i64 (-1)) := by rw [Lib.cell_of_heap y7]; rfl
  have f9 : v7.frozen? ⟨v4.heap.size, 9, none⟩ = false := Lib.frozen_of_heap y7 9
  have r10 : v7.cell? ⟨v4.heap.size, 10, none⟩ = some (.int .i64 0) := by rw [Lib.cell_of_heap y7]; rfl
  have f10 : v7.frozen? ⟨v4.heap.size, 10, none⟩ = false := Lib.frozen_of_heap y7 10
  have r11 : v7.cell? ⟨v4.heap.size, 11, none⟩ = some (.int .i64 0) := by rw [Lib.cell_of_heap y7]; rfl
  have f11 : v7.frozen? ⟨v4.heap.size, 11, none⟩ = false := Lib.frozen_of_heap y7 11
  have HY7 : Hid (v7.heap[v4.heap.size]? = some (.cells #[.int .i64 (-1), .int .i64 0, .int .i64 0, .int .i64 (-1), .int .i64 0, .int .i64 0, .int .i64 (-1), .int .i64 0, .int .i64 0, .int .i64 (-1), .int .i64 0, .int .i64 0] 163 (0, 0)) ∧ v7.heap[w.heap.size + 1]? = some (.cells #[.int .i64 0, .int .i64 0, .int .i64 0, .int .i64 0, .int .i64 0, .int .i64 0, .int .i64 0, .int .i64 0, .int .i64 0, .int .i64 0, .int .i64 0, .int .i64 0] 163 (0, 0))) := ⟨y7, u7⟩
  clear y7 u7
  go_wp2_with fail
  have a0 := fun W => Tryz.at0 (.int .i64 k0) (.int .i64 k1) (.int .i64 k2) (.int .i64 k3) W
  have a1 := fun W => Tryz.at1 (.int .i64 k0) (.int .i64 k1) (.int .i64 k2) (.int .i64 k3) W
  have a2 := fun W => Tryz.at2 (.int .i64 k0) (.int .i64 k1) (.int .i64 k2) (.int .i64 k3) W
  have a3 := fun W => Tryz.at3 (.int .i64 k0) (.int .i64 k1) (.int .i64 k2) (.int .i64 k3) W
  refine wp_loop_rounds 5 ?_
  rw [rounds_succ]
  go_wp2_with fail
  obtain ⟨y20, u20, m20⟩ := st3 (e := 0) (hb := hb) (b := b) (t := t) (E := E) (A := A) (o := o) (w := w) HY7.out.1 HY7.out.2 hne ⟨H7.out.1, H7.out.2.1⟩ H7.out.2.2.1 HLE4.out 0 1 2 (.int .i64 k0) (.int .i64 0) (.int .i64 0)
  generalize hp0 : ((v7.setCell ⟨v4.heap.size, 0, none⟩ (.int .i64 k0)).setCell ⟨v4.heap.size, 1, none⟩ (.int .i64 0)).setCell ⟨v4.heap.size, 2, none⟩ (.int .i64 0) = p0 at *
  have y30 : p0.heap[v4.heap.size]? = some (.cells #[.int .i64 k0, .int .i64 0, .int .i64 0, .int .i64 (-1), .int .i64 0, .int .i64 0, .int .i64 (-1), .int .i64 0, .int .i64 0, .int .i64 (-1), .int .i64 0, .int .i64 0] 163 (0, 0)) := y20
  clear hp0 y20 r0 f0 r1 f1 r2 f2 r3 f3 r4 f4 r5 f5 r6 f6 r7 f7 r8 f8 r9 f9 r10 f10 r11 f11
  have r0 : p0.cell? ⟨v4.heap.size, 0, none⟩ = some (.int .i64 k0) := by rw [Lib.cell_of_heap y30]; rfl
  have f0 : p0.frozen? ⟨v4.heap.size, 0, none⟩ = false := Lib.frozen_of_heap y30 0
  have r1 : p0.cell? ⟨v4.heap.size, 1, none⟩ = some (.int .i64 0) := by rw [Lib.cell_of_heap y30]; rfl
  have f1 : p0.frozen? ⟨v4.heap.size, 1, none⟩ = false := Lib.frozen_of_heap y30 1
  have r2 : p0.cell? ⟨v4.heap.size, 2, none⟩ = some (.int .i64 0) := by rw [Lib.cell_of_heap y30]; rfl
  have f2 : p0.frozen? ⟨v4.heap.size, 2, none⟩ = false := Lib.frozen_of_heap y30 2
  have r3 : p0.cell? ⟨v4.heap.size, 3, none⟩ = some (.int .i64 (-1)) := by rw [Lib.cell_of_heap y30]; rfl
  have f3 : p0.frozen? ⟨v4.heap.size, 3, none⟩ = false := Lib.frozen_of_heap y30 3
  have r4 : p0.cell? ⟨v4.heap.size, 4, none⟩ = some (.int .i64 0) := by rw [Lib.cell_of_heap y30]; rfl
  have f4 : p0.frozen? ⟨v4.heap.size, 4, none⟩ = false := Lib.frozen_of_heap y30 4
  have r5 : p0.cell? ⟨v4.heap.size, 5, none⟩ = some (.int .i64 0) := by rw [Lib.cell_of_heap y30]; rfl
  have f5 : p0.frozen? ⟨v4.heap.size, 5, none⟩ = false := Lib.frozen_of_heap y30 5
  have r6 : p0.cell? ⟨v4.heap.size, 6, none⟩ = some (.int .i64 (-1)) := by rw [Lib.cell_of_heap y30]; rfl
  have f6 : p0.frozen? ⟨v4.heap.size, 6, none⟩ = false := Lib.frozen_of_heap y30 6
  have r7 : p0.cell? ⟨v4.heap.size, 7, none⟩ = some (.int .i64 0) := by rw [Lib.cell_of_heap y30]; rfl
  have f7 : p0.frozen? ⟨v4.heap.size, 7, none⟩ = false := Lib.frozen_of_heap y30 7
  have r8 : p0.cell? ⟨v4.heap.size, 8, none⟩ = some (.int .i64 0) := by rw [Lib.cell_of_heap y30]; rfl
  have f8 : p0.frozen? ⟨v4.heap.size, 8, none⟩ = false := Lib.frozen_of_heap y30 8
  have r9 : p0.cell? ⟨v4.heap.size, 9, none⟩ = some (.int .i64 (-1)) := by rw [Lib.cell_of_heap y30]; rfl
  have f9 : p0.frozen? ⟨v4.heap.size, 9, none⟩ = false := Lib.frozen_of_heap y30 9
  have r10 : p0.cell? ⟨v4.heap.size, 10, none⟩ = some (.int .i64 0) := by rw [Lib.cell_of_heap y30]; rfl
  have f10 : p0.frozen? ⟨v4.heap.size, 10, none⟩ = false := Lib.frozen_of_heap y30 10
  have r11 : p0.cell? ⟨v4.heap.size, 11, none⟩ = some (.int .i64 0) := by rw [Lib.cell_of_heap y30]; rfl
  have f11 : p0.frozen? ⟨v4.heap.size, 11, none⟩ = false := Lib.frozen_of_heap y30 11
  have HY10 : Hid (_ ∧ _ ∧ _) := ⟨y30, u20, m20⟩
  clear y30 u20 m20
  rw [rounds_succ]
  go_wp2_with fail
  obtain ⟨y21, u21, m21⟩ := st3 (e := 0) (hb := hb) (b := b) (t := t) (E := E) (A := A) (o := o) (w := w) HY10.out.1 HY10.out.2.1 hne HY10.out.2.2 H7.out.2.2.1 HLE4.out 3 4 5 (.int .i64 k1) (.int .i64 0) (.int .i64 0)
  generalize hp1 : ((p0.setCell ⟨v4.heap.size, 3, none⟩ (.int .i64 k1)).setCell ⟨v4.heap.size, 4, none⟩ (.int .i64 0)).setCell ⟨v4.heap.size, 5, none⟩ (.int .i64 0) = p1 at *
  have y31 : p1.heap[v4.heap.size]? = some (.cells #[.int .i64 k0, .int .i64 0, .int .i64 0, .int .i64 k1, .int .i64 0, .int .i64 0, .int .i64 (-1), .int .i64 0, .int .i64 0, .int .i64 (-1), .int .i64 0, .int .i64 0] 163 (0, 0)) := y21
  clear hp1 y21 r0 f0 r1 f1 r2 f2 r3 f3 r4 f4 r5 f5 r6 f6 r7 f7 r8 f8 r9 f9 r10 f10 r11 f11
  have r0 : p1.cell? ⟨v4.heap.size, 0, none⟩ = some (.int .i64 k0) := by rw [Lib.cell_of_heap y31]; rfl
  have f0 : p1.frozen? ⟨v4.heap.size, 0, none⟩ = false := Lib.frozen_of_heap y31 0
  have r1 : p1.cell? ⟨v4.heap.size, 1, none⟩ = some (.int .i64 0) := by rw [Lib.cell_of_heap y31]; rfl
  have f1 : p1.frozen? ⟨v4.heap.size, 1, none⟩ = false := Lib.frozen_of_heap y31 1
  have r2 : p1.cell? ⟨v4.heap.size, 2, none⟩ = some (.int .i64 0) := by rw [Lib.cell_of_heap y31]; rfl
  have f2 : p1.frozen? ⟨v4.heap.size, 2, none⟩ = false := Lib.frozen_of_heap y31 2
  have r3 : p1.cell? ⟨v4.heap.size, 3, none⟩ = some (.int .i64 k1) := by rw [Lib.cell_of_heap y31]; rfl
  have f3 : p1.frozen? ⟨v4.heap.size, 3, none⟩ = false := Lib.frozen_of_heap y31 3
  have r4 : p1.cell? ⟨v4.heap.size, 4, none⟩ = some (.int .i64 0) := by rw [Lib.cell_of_heap y31]; rfl
  have f4 : p1.frozen? ⟨v4.heap.size, 4, none⟩ = false := Lib.frozen_of_heap y31 4
  have r5 : p1.cell? ⟨v4.heap.size, 5, none⟩ = some (.int .i64 0) := by rw [Lib.cell_of_heap y31]; rfl
  have f5 : p1.frozen? ⟨v4.heap.size, 5, none⟩ = false := Lib.frozen_of_heap y31 5
  have r6 : p1.cell? ⟨v4.heap.size, 6, none⟩ = some (.int .i64 (-1)) := by rw [Lib.cell_of_heap y31]; rfl
  have f6 : p1.frozen? ⟨v4.heap.size, 6, none⟩ = false := Lib.frozen_of_heap y31 6
  have r7 : p1.cell? ⟨v4.heap.size, 7, none⟩ = some (.int .i64 0) := by rw [Lib.cell_of_heap y31]; rfl
  have f7 : p1.frozen? ⟨v4.heap.size, 7, none⟩ = false := Lib.frozen_of_heap y31 7
  have r8 : p1.cell? ⟨v4.heap.size, 8, none⟩ = some (.int .i64 0) := by rw [Lib.cell_of_heap y31]; rfl
  have f8 : p1.frozen? ⟨v4.heap.size, 8, none⟩ = false := Lib.frozen_of_heap y31 8
  have r9 : p1.cell? ⟨v4.heap.size, 9, none⟩ = some (.int .i64 (-1)) := by rw [Lib.cell_of_heap y31]; rfl
  have f9 : p1.frozen? ⟨v4.heap.size, 9, none⟩ = false := Lib.frozen_of_heap y31 9
  have r10 : p1.cell? ⟨v4.heap.size, 10, none⟩ = some (.int .i64 0) := by rw [Lib.cell_of_heap y31]; rfl
  have f10 : p1.frozen? ⟨v4.heap.size, 10, none⟩ = false := Lib.frozen_of_heap y31 10
  have r11 : p1.cell? ⟨v4.heap.size, 11, none⟩ = some (.int .i64 0) := by rw [Lib.cell_of_heap y31]; rfl
  have f11 : p1.frozen? ⟨v4.heap.size, 11, none⟩ = false := Lib.frozen_of_heap y31 11
  have HY11 : Hid (_ ∧ _ ∧ _) := ⟨y31, u21, m21⟩
  clear y31 u21 m21
  rw [rounds_succ]
  go_wp2_with fail
  obtain ⟨y22, u22, m22⟩ := st3 (e := 0) (hb := hb) (b := b) (t := t) (E := E) (A := A) (o := o) (w := w) HY11.out.1 HY11.out.2.1 hne HY11.out.2.2 H7.out.2.2.1 HLE4.out 6 7 8 (.int .i64 k2) (.int .i64 0) (.int .i64 0)
  generalize hp2 : ((p1.setCell ⟨v4.heap.size, 6, none⟩ (.int .i64 k2)).setCell ⟨v4.heap.size, 7, none⟩ (.int .i64 0)).setCell ⟨v4.heap.size, 8, none⟩ (.int .i64 0) = p2 at *
  have y32 : p2.heap[v4.heap.size]? = some (.cells #[.int .i64 k0, .int .i64 0, .int .i64 0, .int .i64 k1, .int .i64 0, .int .i64 0, .int .i64 k2, .int .i64 0, .int .i64 0, .int .i64 (-1), .int .i64 0, .int .i64 0] 163 (0, 0)) := y22
  clear hp2 y22 r0 f0 r1 f1 r2 f2 r3 f3 r4 f4 r5 f5 r6 f6 r7 f7 r8 f8 r9 f9 r10 f10 r11 f11
  have r0 : p2.cell? ⟨v4.heap.size, 0, none⟩ = some (.int .i64 k0) := by rw [Lib.cell_of_heap y32]; rfl
  have f0 : p2.frozen? ⟨v4.heap.size, 0, none⟩ = false := Lib.frozen_of_heap y32 0
  have r1 : p2.cell? ⟨v4.heap.size, 1, none⟩ = some (.int .i64 0) := by rw [Lib.cell_of_heap y32]; rfl
  have f1 : p2.frozen? ⟨v4.heap.size, 1, none⟩ = false := Lib.frozen_of_heap y32 1
  have r2 : p2.cell? ⟨v4.heap.size, 2, none⟩ = some (.int .i64 0) := by rw [Lib.cell_of_heap y32]; rfl
  have f2 : p2.frozen? ⟨v4.heap.size, 2, none⟩ = false := Lib.frozen_of_heap y32 2
  have r3 : p2.cell? ⟨v4.heap.size, 3, none⟩ = some (.int .i64 k1) := by rw [Lib.cell_of_heap y32]; rfl
  have f3 : p2.frozen? ⟨v4.heap.size, 3, none⟩ = false := Lib.frozen_of_heap y32 3
  have r4 : p2.cell? ⟨v4.heap.size, 4, none⟩ = some (.int .i64 0) := by rw [Lib.cell_of_heap y32]; rfl
  have f4 : p2.frozen? ⟨v4.heap.size, 4, none⟩ = false := Lib.frozen_of_heap y32 4
  have r5 : p2.cell? ⟨v4.heap.size, 5, none⟩ = some (.int .i64 0) := by rw [Lib.cell_of_heap y32]; rfl
  have f5 : p2.frozen? ⟨v4.heap.size, 5, none⟩ = false := Lib.frozen_of_heap y32 5
  have r6 : p2.cell? ⟨v4.heap.size, 6, none⟩ = some (.int .i64 k2) := by rw [Lib.cell_of_heap y32]; rfl
  have f6 : p2.frozen? ⟨v4.heap.size, 6, none⟩ = false := Lib.frozen_of_heap y32 6
  have r7 : p2.cell? ⟨v4.heap.size, 7, none⟩ = some (.int .i64 0) := by rw [Lib.cell_of_heap y32]; rfl
  have f7 : p2.frozen? ⟨v4.heap.size, 7, none⟩ = false := Lib.frozen_of_heap y32 7
  have r8 : p2.cell? ⟨v4.heap.size, 8, none⟩ = some (.int .i64 0) := by rw [Lib.cell_of_heap y32]; rfl
  have f8 : p2.frozen? ⟨v4.heap.size, 8, none⟩ = false := Lib.frozen_of_heap y32 8
  have r9 : p2.cell? ⟨v4.heap.size, 9, none⟩ = some (.int .i64 (-1)) := by rw [Lib.cell_of_heap y32]; rfl
  have f9 : p2.frozen? ⟨v4.heap.size, 9, none⟩ = false := Lib.frozen_of_heap y32 9
  have r10 : p2.cell? ⟨v4.heap.size, 10, none⟩ = some (.int .i64 0) := by rw [Lib.cell_of_heap y32]; rfl
  have f10 : p2.frozen? ⟨v4.heap.size, 10, none⟩ = false := Lib.frozen_of_heap y32 10
  have r11 : p2.cell? ⟨v4.heap.size, 11, none⟩ = some (.int .i64 0) := by rw [Lib.cell_of_heap y32]; rfl
  have f11 : p2.frozen? ⟨v4.heap.size, 11, none⟩ = false := Lib.frozen_of_heap y32 11
  have HY12 : Hid (_ ∧ _ ∧ _) := ⟨y32, u22, m22⟩
  clear y32 u22 m22
  rw [rounds_succ]
  go_wp2_with fail
  obtain ⟨y23, u23, m23⟩ := st3 (e := 0) (hb := hb) (b := b) (t := t) (E := E) (A := A) (o := o) (w := w) HY12.out.1 HY12.out.2.1 hne HY12.out.2.2 H7.out.2.2.1 HLE4.out 9 10 11 (.int .i64 k3) (.int .i64 0) (.int .i64 0)
  generalize hp3 : ((p2.setCell ⟨v4.heap.size, 9, none⟩ (.int .i64 k3)).setCell ⟨v4.heap.size, 10, none⟩ (.int .i64 0)).setCell ⟨v4.heap.size, 11, none⟩ (.int .i64 0) = p3 at *
  have y33 : p3.heap[v4.heap.size]? = some (.cells #[.int .i64 k0, .int .i64 0, .int .i64 0, .int .i64 k1, .int .i64 0, .int .i64 0, .int .i64 k2, .int .i64 0, .int .i64 0, .int .i64 k3, .int .i64 0, .int .i64 0] 163 (0, 0)) := y23
  clear hp3 y23 r0 f0 r1 f1 r2 f2 r3 f3 r4 f4 r5 f5 r6 f6 r7 f7 r8 f8 r9 f9 r10 f10 r11 f11
  clear a0 a1 a2 a3
  rw [rounds_succ]
  have r0 : p3.cell? ⟨v4.heap.size, 0, none⟩ = some (.int .i64 k0) := by rw [Lib.cell_of_heap y33]; rfl
  have r1 : p3.cell? ⟨v4.heap.size, 1, none⟩ = some (.int .i64 0) := by rw [Lib.cell_of_heap y33]; rfl
  have r2 : p3.cell? ⟨v4.heap.size, 2, none⟩ = some (.int .i64 0) := by rw [Lib.cell_of_heap y33]; rfl
  have r3 : p3.cell? ⟨v4.heap.size, 3, none⟩ = some (.int .i64 k1) := by rw [Lib.cell_of_heap y33]; rfl
  have r4 : p3.cell? ⟨v4.heap.size, 4, none⟩ = some (.int .i64 0) := by rw [Lib.cell_of_heap y33]; rfl
  have r5 : p3.cell? ⟨v4.heap.size, 5, none⟩ = some (.int .i64 0) := by rw [Lib.cell_of_heap y33]; rfl
  have r6 : p3.cell? ⟨v4.heap.size, 6, none⟩ = some (.int .i64 k2) := by rw [Lib.cell_of_heap y33]; rfl
  have r7 : p3.cell? ⟨v4.heap.size, 7, none⟩ = some (.int .i64 0) := by rw [Lib.cell_of_heap y33]; rfl
  have r8 : p3.cell? ⟨v4.heap.size, 8, none⟩ = some (.int .i64 0) := by rw [Lib.cell_of_heap y33]; rfl
  have r9 : p3.cell? ⟨v4.heap.size, 9, none⟩ = some (.int .i64 k3) := by rw [Lib.cell_of_heap y33]; rfl
  have r10 : p3.cell? ⟨v4.heap.size, 10, none⟩ = some (.int .i64 0) := by rw [Lib.cell_of_heap y33]; rfl
  have r11 : p3.cell? ⟨v4.heap.size, 11, none⟩ = some (.int .i64 0) := by rw [Lib.cell_of_heap y33]; rfl
  have q0 : p3.cell? ⟨w.heap.size + 1, 0, none⟩ = some (.int .i64 0) := by rw [Lib.cell_of_heap u23]; rfl
  have z0 : p3.frozen? ⟨w.heap.size + 1, 0, none⟩ = false := Lib.frozen_of_heap u23 0
  have q1 : p3.cell? ⟨w.heap.size + 1, 1, none⟩ = some (.int .i64 0) := by rw [Lib.cell_of_heap u23]; rfl
  have z1 : p3.frozen? ⟨w.heap.size + 1, 1, none⟩ = false := Lib.frozen_of_heap u23 1
  have q2 : p3.cell? ⟨w.heap.size + 1, 2, none⟩ = some (.int .i64 0) := by rw [Lib.cell_of_heap u23]; rfl
  have z2 : p3.frozen? ⟨w.heap.size + 1, 2, none⟩ = false := Lib.frozen_of_heap u23 2
  have q3 : p3.cell? ⟨w.heap.size + 1, 3, none⟩ = some (.int .i64 0) := by rw [Lib.cell_of_heap u23]; rfl
  have z3 : p3.frozen? ⟨w.heap.size + 1, 3, none⟩ = false := Lib.frozen_of_heap u23 3
  have q4 : p3.cell? ⟨w.heap.size + 1, 4, none⟩ = some (.int .i64 0) := by rw [Lib.cell_of_heap u23]; rfl
  have z4 : p3.frozen? ⟨w.heap.size + 1, 4, none⟩ = false := Lib.frozen_of_heap u23 4
  have q5 : p3.cell? ⟨w.heap.size + 1, 5, none⟩ = some (.int .i64 0) := by rw [Lib.cell_of_heap u23]; rfl
  have z5 : p3.frozen? ⟨w.heap.size + 1, 5, none⟩ = false := Lib.frozen_of_heap u23 5
  have q6 : p3.cell? ⟨w.heap.size + 1, 6, none⟩ = some (.int .i64 0) := by rw [Lib.cell_of_heap u23]; rfl
  have z6 : p3.frozen? ⟨w.heap.size + 1, 6, none⟩ = false := Lib.frozen_of_heap u23 6
  have q7 : p3.cell? ⟨w.heap.size + 1, 7, none⟩ = some (.int .i64 0) := by rw [Lib.cell_of_heap u23]; rfl
  have z7 : p3.frozen? ⟨w.heap.size + 1, 7, none⟩ = false := Lib.frozen_of_heap u23 7
  have q8 : p3.cell? ⟨w.heap.size + 1, 8, none⟩ = some (.int .i64 0) := by rw [Lib.cell_of_heap u23]; rfl
  have z8 : p3.frozen? ⟨w.heap.size + 1, 8, none⟩ = false := Lib.frozen_of_heap u23 8
  have q9 : p3.cell? ⟨w.heap.size + 1, 9, none⟩ = some (.int .i64 0) := by rw [Lib.cell_of_heap u23]; rfl
  have z9 : p3.frozen? ⟨w.heap.size + 1, 9, none⟩ = false := Lib.frozen_of_heap u23 9
  have q10 : p3.cell? ⟨w.heap.size + 1, 10, none⟩ = some (.int .i64 0) := by rw [Lib.cell_of_heap u23]; rfl
  have z10 : p3.frozen? ⟨w.heap.size + 1, 10, none⟩ = false := Lib.frozen_of_heap u23 10
  have q11 : p3.cell? ⟨w.heap.size + 1, 11, none⟩ = some (.int .i64 0) := by rw [Lib.cell_of_heap u23]; rfl
  have z11 : p3.frozen? ⟨w.heap.size + 1, 11, none⟩ = false := Lib.frozen_of_heap u23 11
  have H8 : Hid (HE p3 o7 hb b t 0 E A ∧ Ch HM o w o7 p3) := m23
  have HU : Hid (p3.heap[w.heap.size + 1]? = some (.cells _ _ _)) := u23
  clear y33 u23 m23
  go_wp2_with fail
  obtain ⟨e12, h12⟩ := put12 (e := 0) (hb := hb) (b := b) (t := t) (E := E) (A := A) (o := o) (w := w) (a0 := .int .i64 k0) (a1 := .int .i64 0) (a2 := .int .i64 0) (a3 := .int .i64 k1) (a4 := .int .i64 0) (a5 := .int .i64 0) (a6 := .int .i64 k2) (a7 := .int .i64 0) (a8 := .int .i64 0) (a9 := .int .i64 k3) (a10 := .int .i64 0) (a11 := .int .i64 0) HU.out H8.out H7.out.2.2.2 HLE.out
  clear q0 z0 q1 z1 q2 z2 q3 z3 q4 z4 q5 z5 q6 z6 q7 z7 q8 z8 q9 z9 q10 z10 q11 z11
  generalize (((((((((((p3.setCell ⟨w.heap.size + 1, 0, none⟩ (.int .i64 k0)).setCell ⟨w.heap.size + 1, 1, none⟩ (.int .i64 0)).setCell ⟨w.heap.size + 1, 2, none⟩ (.int .i64 0)).setCell ⟨w.heap.size + 1, 3, none⟩ (.int .i64 k1)).setCell ⟨w.heap.size + 1, 4, none⟩ (.int .i64 0)).setCell ⟨w.heap.size + 1, 5, none⟩ (.int .i64 0)).setCell ⟨w.heap.size + 1, 6, none⟩ (.int .i64 k2)).setCell ⟨w.heap.size + 1, 7, none⟩ (.int .i64 0)).setCell ⟨w.heap.size + 1, 8, none⟩ (.int .i64 0)).setCell ⟨w.heap.size + 1, 9, none⟩ (.int .i64 k3)).setCell ⟨w.heap.size + 1, 10, none⟩ (.int .i64 0)).setCell ⟨w.heap.size + 1, 11, none⟩ (.int .i64 0) = wz at e12 h12 ⊢
  have q0 : wz.cell? ⟨w.heap.size + 1, 0, none⟩ = some (.int .i64 k0) := by rw [Lib.cell_of_heap e12]; rfl
  have q1 : wz.cell? ⟨w.heap.size + 1, 1, none⟩ = some (.int .i64 0) := by rw [Lib.cell_of_heap e12]; rfl
  have q2 : wz.cell? ⟨w.heap.size + 1, 2, none⟩ = some (.int .i64 0) := by rw [Lib.cell_of_heap e12]; rfl
  have q3 : wz.cell? ⟨w.heap.size + 1, 3, none⟩ = some (.int .i64 k1) := by rw [Lib.cell_of_heap e12]; rfl
  have q4 : wz.cell? ⟨w.heap.size + 1, 4, none⟩ = some (.int .i64 0) := by rw [Lib.cell_of_heap e12]; rfl
  have q5 : wz.cell? ⟨w.heap.size + 1, 5, none⟩ = some (.int .i64 0) := by rw [Lib.cell_of_heap e12]; rfl
  have q6 : wz.cell? ⟨w.heap.size + 1, 6, none⟩ = some (.int .i64 k2) := by rw [Lib.cell_of_heap e12]; rfl
  have q7 : wz.cell? ⟨w.heap.size + 1, 7, none⟩ = some (.int .i64 0) := by rw [Lib.cell_of_heap e12]; rfl
  have q8 : wz.cell? ⟨w.heap.size + 1, 8, none⟩ = some (.int .i64 0) := by rw [Lib.cell_of_heap e12]; rfl
  have q9 : wz.cell? ⟨w.heap.size + 1, 9, none⟩ = some (.int .i64 k3) := by rw [Lib.cell_of_heap e12]; rfl
  have q10 : wz.cell? ⟨w.heap.size + 1, 10, none⟩ = some (.int .i64 0) := by rw [Lib.cell_of_heap e12]; rfl
  have q11 : wz.cell? ⟨w.heap.size + 1, 11, none⟩ = some (.int .i64 0) := by rw [Lib.cell_of_heap e12]; rfl
  refine bodyPost_ret (v := .agg #[.int .i64 k0, .int .i64 0, .int .i64 0, .int .i64 k1, .int .i64 0, .int .i64 0, .int .i64 k2, .int .i64 0, .int .i64 0, .int .i64 k3, .int .i64 0, .int .i64 0]) ?_ rfl ⟨rfl, o7, h12⟩
  simp [results, Tryz.results127, go_sem, q0, q1, q2, q3, q4, q5, q6, q7, q8, q9, q10, q11]
end Go.Proofs.YtgipjplifndniaaGreatDoor.A
