/- What below answers of a ground that lies further down, and of a square. -/
import Derived.Test.YtgipjplifndniaaGreatDoorLpSqG
import Derived.Deep.Cut
namespace Go.Proofs.YtgipjplifndniaaGreatDoor.A
open Go.RowKit Go.Maps Go.Proofs.YtgipjplifndniaaGreatDoor.L

variable {w w1 w2 : World} {o o1 o2 : Nat → Nat} {hb b t : Nat} {e : Int} {A A' : Ar} {PR : (Bool → Nat → Bool) → Int → Prop} {q : Nat → Int} {E : List Int}
set_option maxRecDepth 20000 in
set_option maxHeartbeats 8000000 in
theorem below_dn (hb : Nat) (id c d : Int) (w : World) (hc : 0 ≤ c ∧ c < 4) (hd : 0 < d ∧ d ≤ 44) : Calls Tryz.prog 127 #[.pointer (some ⟨hb, 0, none⟩), gV (id, c, d)] w fun e w' => e = .returned (gV4 (dnG id c d)) ∧ Below w.heap.size w w' := by
  have hcs : c = 0 ∨ c = 1 ∨ c = 2 ∨ c = 3 := by omega
  unfold gV
  simp only
  have wd : IntKind.i64.wrap (d - 1) = d - 1 := by rw [IntKind.wrap_i64]; omega
  have hd0 : 0 < d := hd.1
  clear hc hd
  have hbr := fun W => bare_any W
  unfold bareV at hbr
  have hb0 : Below w.heap.size w (w.alloc (.cells #[.int .i64 id, .int .i64 c, .int .i64 d] 151)) := (Below.refl _ _).alloc (Nat.le_refl _) _
  have hb1 : Below w.heap.size w ((w.alloc (.cells #[.int .i64 id, .int .i64 c, .int .i64 d] 151)).alloc (.cells #[.int .i64 0, .int .i64 0, .int .i64 0, .int .i64 0, .int .i64 0, .int .i64 0, .int .i64 0, .int .i64 0, .int .i64 0, .int .i64 0, .int .i64 0, .int .i64 0] 163)) := hb0.alloc hb0.size _
  have x0 : ((w.alloc (.cells #[.int .i64 id, .int .i64 c, .int .i64 d] 151)).alloc (.cells #[.int .i64 0, .int .i64 0, .int .i64 0, .int .i64 0, .int .i64 0, .int .i64 0, .int .i64 0, .int .i64 0, .int .i64 0, .int .i64 0, .int .i64 0, .int .i64 0] 163)).heap[w.heap.size]? = some (.cells #[.int .i64 id, .int .i64 c, .int .i64 d] 151 (0, 0)) := heap_alloc2_old w _ _
  have x1 : ((w.alloc (.cells #[.int .i64 id, .int .i64 c, .int .i64 d] 151)).alloc (.cells #[.int .i64 0, .int .i64 0, .int .i64 0, .int .i64 0, .int .i64 0, .int .i64 0, .int .i64 0, .int .i64 0, .int .i64 0, .int .i64 0, .int .i64 0, .int .i64 0] 163)).heap[w.heap.size + 1]? = some (.cells #[.int .i64 0, .int .i64 0, .int .i64 0, .int .i64 0, .int .i64 0, .int .i64 0, .int .i64 0, .int .i64 0, .int .i64 0, .int .i64 0, .int .i64 0, .int .i64 0] 163 (0, 0)) := heap_alloc2_new w _ _
  go_enter Tryz.func127, Tryz.ntmps127
  go_wp2_with fail
  generalize ((w.alloc (.cells #[.int .i64 id, .int .i64 c, .int .i64 d] 151)).alloc (.cells #[.int .i64 0, .int .i64 0, .int .i64 0, .int .i64 0, .int .i64 0, .int .i64 0, .int .i64 0, .int .i64 0, .int .i64 0, .int .i64 0, .int .i64 0, .int .i64 0] 163)) = v0 at *
  have l1 : w.heap.size + 1 < v0.heap.size := (Array.getElem?_eq_some_iff.1 x1).1
  refine (hbr _).mono ?_
  rintro e v1 ⟨rfl, b1⟩
  go_wp2_with fail
  refine (hbr _).mono ?_
  rintro e v2 ⟨rfl, b2⟩
  go_wp2_with fail
  refine (hbr _).mono ?_
  rintro e v3 ⟨rfl, b3⟩
  go_wp2_with fail
  refine (hbr _).mono ?_
  rintro e v4 ⟨rfl, b4⟩
  have b04 : Below v0.heap.size v0 v4 := ((b1.trans (b2.mono b1.size)).trans (b3.mono (Nat.le_trans b1.size b2.size))).trans (b4.mono (Nat.le_trans (Nat.le_trans b1.size b2.size) b3.size))
  have y0 := (b04.block _ (by omega)).trans x0
  have y1 := (b04.block _ l1).trans x1
  have b5 : Below v4.heap.size v4 (v4.alloc (.cells #[.int .i64 (-1), .int .i64 0, .int .i64 0, .int .i64 (-1), .int .i64 0, .int .i64 0, .int .i64 (-1), .int .i64 0, .int .i64 0, .int .i64 (-1), .int .i64 0, .int .i64 0] 163)) := (Below.refl _ _).alloc (Nat.le_refl _) _
  have y2 : (v4.alloc (.cells #[.int .i64 (-1), .int .i64 0, .int .i64 0, .int .i64 (-1), .int .i64 0, .int .i64 0, .int .i64 (-1), .int .i64 0, .int .i64 0, .int .i64 (-1), .int .i64 0, .int .i64 0] 163)).heap[v4.heap.size]? = some (.cells #[.int .i64 (-1), .int .i64 0, .int .i64 0, .int .i64 (-1), .int .i64 0, .int .i64 0, .int .i64 (-1), .int .i64 0, .int .i64 0, .int .i64 (-1), .int .i64 0, .int .i64 0] 163 (0, 0)) := heap_alloc_new v4 _
  have l4 : w.heap.size + 1 < v4.heap.size := Nat.lt_of_lt_of_le l1 b04.size
  generalize hv5 : v4.alloc (.cells #[.int .i64 (-1), .int .i64 0, .int .i64 0, .int .i64 (-1), .int .i64 0, .int .i64 0, .int .i64 (-1), .int .i64 0, .int .i64 0, .int .i64 (-1), .int .i64 0, .int .i64 0] 163) = v5 at *
  have u0 := (b5.block _ (by omega)).trans y0
  have u1 := (b5.block _ l4).trans y1
  have hb4 := hb1.trans (b04.mono hb1.size)
  have hb5 : Below w.heap.size w v5 := hb4.trans (b5.mono hb4.size)
  have r0 : v5.cell? ⟨v4.heap.size, 0, none⟩ = some (.int .i64 (-1)) := by rw [Lib.cell_of_heap y2]; rfl
  have f0 : v5.frozen? ⟨v4.heap.size, 0, none⟩ = false := Lib.frozen_of_heap y2 0
  have r1 : v5.cell? ⟨v4.heap.size, 1, none⟩ = some (.int .i64 0) := by rw [Lib.cell_of_heap y2]; rfl
  have f1 : v5.frozen? ⟨v4.heap.size, 1, none⟩ = false := Lib.frozen_of_heap y2 1
  have r2 : v5.cell? ⟨v4.heap.size, 2, none⟩ = some (.int .i64 0) := by rw [Lib.cell_of_heap y2]; rfl
  have f2 : v5.frozen? ⟨v4.heap.size, 2, none⟩ = false := Lib.frozen_of_heap y2 2
  have r3 : v5.cell? ⟨v4.heap.size, 3, none⟩ = some (.int .i64 (-1)) := by rw [Lib.cell_of_heap y2]; rfl
  have f3 : v5.frozen? ⟨v4.heap.size, 3, none⟩ = false := Lib.frozen_of_heap y2 3
  have r4 : v5.cell? ⟨v4.heap.size, 4, none⟩ = some (.int .i64 0) := by rw [Lib.cell_of_heap y2]; rfl
  have f4 : v5.frozen? ⟨v4.heap.size, 4, none⟩ = false := Lib.frozen_of_heap y2 4
  have r5 : v5.cell? ⟨v4.heap.size, 5, none⟩ = some (.int .i64 0) := by rw [Lib.cell_of_heap y2]; rfl
  have f5 : v5.frozen? ⟨v4.heap.size, 5, none⟩ = false := Lib.frozen_of_heap y2 5
  have r6 : v5.cell? ⟨v4.heap.size, 6, none⟩ = some (.int .i64 (-1)) := by rw [Lib.cell_of_heap y2]; rfl
  have f6 : v5.frozen? ⟨v4.heap.size, 6, none⟩ = false := Lib.frozen_of_heap y2 6
  have r7 : v5.cell? ⟨v4.heap.size, 7, none⟩ = some (.int .i64 0) := by rw [Lib.cell_of_heap y2]; rfl
  have f7 : v5.frozen? ⟨v4.heap.size, 7, none⟩ = false := Lib.frozen_of_heap y2 7
  have r8 : v5.cell? ⟨v4.heap.size, 8, none⟩ = some (.int .i64 0) := by rw [Lib.cell_of_heap y2]; rfl
  have f8 : v5.frozen? ⟨v4.heap.size, 8, none⟩ = false := Lib.frozen_of_heap y2 8
  have r9 : v5.cell? ⟨v4.heap.size, 9, none⟩ = some (.int .i64 (-1)) := by rw [Lib.cell_of_heap y2]; rfl
  have f9 : v5.frozen? ⟨v4.heap.size, 9, none⟩ = false := Lib.frozen_of_heap y2 9
  have r10 : v5.cell? ⟨v4.heap.size, 10, none⟩ = some (.int .i64 0) := by rw [Lib.cell_of_heap y2]; rfl
  have f10 : v5.frozen? ⟨v4.heap.size, 10, none⟩ = false := Lib.frozen_of_heap y2 10
  have r11 : v5.cell? ⟨v4.heap.size, 11, none⟩ = some (.int .i64 0) := by rw [Lib.cell_of_heap y2]; rfl
  have f11 : v5.frozen? ⟨v4.heap.size, 11, none⟩ = false := Lib.frozen_of_heap y2 11
  have g0 : v5.cell? ⟨w.heap.size, 0, none⟩ = some (.int .i64 id) := by rw [Lib.cell_of_heap u0]; rfl
  have g1 : v5.cell? ⟨w.heap.size, 1, none⟩ = some (.int .i64 c) := by rw [Lib.cell_of_heap u0]; rfl
  have g2 : v5.cell? ⟨w.heap.size, 2, none⟩ = some (.int .i64 d) := by rw [Lib.cell_of_heap u0]; rfl
  have HB5 : Hid (Below w.heap.size w v5) := hb5
  have HY : Hid (v5.heap[v4.heap.size]? = some (.cells #[.int .i64 (-1), .int .i64 0, .int .i64 0, .int .i64 (-1), .int .i64 0, .int .i64 0, .int .i64 (-1), .int .i64 0, .int .i64 0, .int .i64 (-1), .int .i64 0, .int .i64 0] 163 (0, 0)) ∧ v5.heap[w.heap.size + 1]? = some (.cells #[.int .i64 0, .int .i64 0, .int .i64 0, .int .i64 0, .int .i64 0, .int .i64 0, .int .i64 0, .int .i64 0, .int .i64 0, .int .i64 0, .int .i64 0, .int .i64 0] 163 (0, 0))) := ⟨y2, u1⟩
  have HLE : Hid (w.heap.size ≤ w.heap.size + 1) := Nat.le_succ _
  have HLE4 : Hid (w.heap.size ≤ v4.heap.size) := by show _ ≤ _; omega
  clear hbr b1 b2 b3 b4 b04 x0 x1 y0 y1 y2 u0 u1 b5 hb0 hb1 hb4 l1 hb5
  have hne : v4.heap.size ≠ w.heap.size + 1 := by omega
  have hne1 : v4.heap.size ≠ w.heap.size := by omega
  clear l4
  rcases hcs with rfl | rfl | rfl | rfl
  · go_upto_region 10 with fail
    have y3 : (((((v5.setCell ⟨v4.heap.size, 10, none⟩ (.int .i64 0)).setCell ⟨v4.heap.size, 11, none⟩ (.int .i64 0)).setCell ⟨v4.heap.size, 0, none⟩ (.int .i64 id)).setCell ⟨v4.heap.size, 1, none⟩ (.int .i64 0)).setCell ⟨v4.heap.size, 2, none⟩ (.int .i64 (d - 1))).heap[v4.heap.size]? = some (.cells #[.int .i64 id, .int .i64 0, .int .i64 (d - 1), .int .i64 (-1), .int .i64 0, .int .i64 0, .int .i64 (-1), .int .i64 0, .int .i64 0, .int .i64 (-1), .int .i64 0, .int .i64 0] 163 (0, 0)) := Go.Joins.block_setCell (Go.Joins.block_setCell (Go.Joins.block_setCell (Go.Joins.block_setCell (Go.Joins.block_setCell HY.out.1 _) _) _) _) _
    have u3 : (((((v5.setCell ⟨v4.heap.size, 10, none⟩ (.int .i64 0)).setCell ⟨v4.heap.size, 11, none⟩ (.int .i64 0)).setCell ⟨v4.heap.size, 0, none⟩ (.int .i64 id)).setCell ⟨v4.heap.size, 1, none⟩ (.int .i64 0)).setCell ⟨v4.heap.size, 2, none⟩ (.int .i64 (d - 1))).heap[w.heap.size + 1]? = some (.cells #[.int .i64 0, .int .i64 0, .int .i64 0, .int .i64 0, .int .i64 0, .int .i64 0, .int .i64 0, .int .i64 0, .int .i64 0, .int .i64 0, .int .i64 0, .int .i64 0] 163 (0, 0)) := (Below.heap_setCell _ _ _ _ hne.symm).trans ((Below.heap_setCell _ _ _ _ hne.symm).trans ((Below.heap_setCell _ _ _ _ hne.symm).trans ((Below.heap_setCell _ _ _ _ hne.symm).trans ((Below.heap_setCell _ _ _ _ hne.symm).trans HY.out.2))))
    have HB6 : Hid (Below w.heap.size w (((((v5.setCell ⟨v4.heap.size, 10, none⟩ (.int .i64 0)).setCell ⟨v4.heap.size, 11, none⟩ (.int .i64 0)).setCell ⟨v4.heap.size, 0, none⟩ (.int .i64 id)).setCell ⟨v4.heap.size, 1, none⟩ (.int .i64 0)).setCell ⟨v4.heap.size, 2, none⟩ (.int .i64 (d - 1)))) := ((((HB5.out.setCell HLE4.out _).setCell HLE4.out _).setCell HLE4.out _).setCell HLE4.out _).setCell HLE4.out _
    generalize ((((v5.setCell ⟨v4.heap.size, 10, none⟩ (.int .i64 0)).setCell ⟨v4.heap.size, 11, none⟩ (.int .i64 0)).setCell ⟨v4.heap.size, 0, none⟩ (.int .i64 id)).setCell ⟨v4.heap.size, 1, none⟩ (.int .i64 0)).setCell ⟨v4.heap.size, 2, none⟩ (.int .i64 (d - 1)) = v6 at *
    clear r0 r1 r2 r3 r4 r5 r6 r7 r8 r9 r10 r11 f0 f1 f2 f3 f4 f5 f6 f7 f8 f9 f10 f11 g0 g1 g2
    have r0 : v6.cell? ⟨v4.heap.size, 0, none⟩ = some (.int .i64 id) := by rw [Lib.cell_of_heap y3]; rfl
    have r1 : v6.cell? ⟨v4.heap.size, 1, none⟩ = some (.int .i64 0) := by rw [Lib.cell_of_heap y3]; rfl
    have r2 : v6.cell? ⟨v4.heap.size, 2, none⟩ = some (.int .i64 (d - 1)) := by rw [Lib.cell_of_heap y3]; rfl
    have r3 : v6.cell? ⟨v4.heap.size, 3, none⟩ = some (.int .i64 (-1)) := by rw [Lib.cell_of_heap y3]; rfl
    have r4 : v6.cell? ⟨v4.heap.size, 4, none⟩ = some (.int .i64 0) := by rw [Lib.cell_of_heap y3]; rfl
    have r5 : v6.cell? ⟨v4.heap.size, 5, none⟩ = some (.int .i64 0) := by rw [Lib.cell_of_heap y3]; rfl
    have r6 : v6.cell? ⟨v4.heap.size, 6, none⟩ = some (.int .i64 (-1)) := by rw [Lib.cell_of_heap y3]; rfl
    have r7 : v6.cell? ⟨v4.heap.size, 7, none⟩ = some (.int .i64 0) := by rw [Lib.cell_of_heap y3]; rfl
    have r8 : v6.cell? ⟨v4.heap.size, 8, none⟩ = some (.int .i64 0) := by rw [Lib.cell_of_heap y3]; rfl
    have r9 : v6.cell? ⟨v4.heap.size, 9, none⟩ = some (.int .i64 (-1)) := by rw [Lib.cell_of_heap y3]; rfl
    have r10 : v6.cell? ⟨v4.heap.size, 10, none⟩ = some (.int .i64 0) := by rw [Lib.cell_of_heap y3]; rfl
    have r11 : v6.cell? ⟨v4.heap.size, 11, none⟩ = some (.int .i64 0) := by rw [Lib.cell_of_heap y3]; rfl
    have q0 : v6.cell? ⟨w.heap.size + 1, 0, none⟩ = some (.int .i64 0) := by rw [Lib.cell_of_heap u3]; rfl
    have z0 : v6.frozen? ⟨w.heap.size + 1, 0, none⟩ = false := Lib.frozen_of_heap u3 0
    have q1 : v6.cell? ⟨w.heap.size + 1, 1, none⟩ = some (.int .i64 0) := by rw [Lib.cell_of_heap u3]; rfl
    have z1 : v6.frozen? ⟨w.heap.size + 1, 1, none⟩ = false := Lib.frozen_of_heap u3 1
    have q2 : v6.cell? ⟨w.heap.size + 1, 2, none⟩ = some (.int .i64 0) := by rw [Lib.cell_of_heap u3]; rfl
    have z2 : v6.frozen? ⟨w.heap.size + 1, 2, none⟩ = false := Lib.frozen_of_heap u3 2
    have q3 : v6.cell? ⟨w.heap.size + 1, 3, none⟩ = some (.int .i64 0) := by rw [Lib.cell_of_heap u3]; rfl
    have z3 : v6.frozen? ⟨w.heap.size + 1, 3, none⟩ = false := Lib.frozen_of_heap u3 3
    have q4 : v6.cell? ⟨w.heap.size + 1, 4, none⟩ = some (.int .i64 0) := by rw [Lib.cell_of_heap u3]; rfl
    have z4 : v6.frozen? ⟨w.heap.size + 1, 4, none⟩ = false := Lib.frozen_of_heap u3 4
    have q5 : v6.cell? ⟨w.heap.size + 1, 5, none⟩ = some (.int .i64 0) := by rw [Lib.cell_of_heap u3]; rfl
    have z5 : v6.frozen? ⟨w.heap.size + 1, 5, none⟩ = false := Lib.frozen_of_heap u3 5
    have q6 : v6.cell? ⟨w.heap.size + 1, 6, none⟩ = some (.int .i64 0) := by rw [Lib.cell_of_heap u3]; rfl
    have z6 : v6.frozen? ⟨w.heap.size + 1, 6, none⟩ = false := Lib.frozen_of_heap u3 6
    have q7 : v6.cell? ⟨w.heap.size + 1, 7, none⟩ = some (.int .i64 0) := by rw [Lib.cell_of_heap u3]; rfl
    have z7 : v6.frozen? ⟨w.heap.size + 1, 7, none⟩ = false := Lib.frozen_of_heap u3 7
    have q8 : v6.cell? ⟨w.heap.size + 1, 8, none⟩ = some (.int .i64 0) := by rw [Lib.cell_of_heap u3]; rfl
    have z8 : v6.frozen? ⟨w.heap.size + 1, 8, none⟩ = false := Lib.frozen_of_heap u3 8
    have q9 : v6.cell? ⟨w.heap.size + 1, 9, none⟩ = some (.int .i64 0) := by rw [Lib.cell_of_heap u3]; rfl
    have z9 : v6.frozen? ⟨w.heap.size + 1, 9, none⟩ = false := Lib.frozen_of_heap u3 9
    have q10 : v6.cell? ⟨w.heap.size + 1, 10, none⟩ = some (.int .i64 0) := by rw [Lib.cell_of_heap u3]; rfl
    have z10 : v6.frozen? ⟨w.heap.size + 1, 10, none⟩ = false := Lib.frozen_of_heap u3 10
    have q11 : v6.cell? ⟨w.heap.size + 1, 11, none⟩ = some (.int .i64 0) := by rw [Lib.cell_of_heap u3]; rfl
    have z11 : v6.frozen? ⟨w.heap.size + 1, 11, none⟩ = false := Lib.frozen_of_heap u3 11
    clear y3 u3
    go_wp2_with fail
    refine bodyPost_ret (v := gV4 (dnG id 0 d)) ?_ rfl ⟨rfl, ?_⟩
    · simp [results, Tryz.results127, go_sem, q0, q1, q2, q3, q4, q5, q6, q7, q8, q9, q10, q11, gV4, dnG, noG]
    · repeat (refine Below.setCell ?_ HLE.out _)
      exact HB6.out
  · go_upto_region 10 with fail
    have y3 : (((((v5.setCell ⟨v4.heap.size, 10, none⟩ (.int .i64 0)).setCell ⟨v4.heap.size, 11, none⟩ (.int .i64 0)).setCell ⟨v4.heap.size, 3, none⟩ (.int .i64 id)).setCell ⟨v4.heap.size, 4, none⟩ (.int .i64 1)).setCell ⟨v4.heap.size, 5, none⟩ (.int .i64 (d - 1))).heap[v4.heap.size]? = some (.cells #[.int .i64 (-1), .int .i64 0, .int .i64 0, .int .i64 id, .int .i64 1, .int .i64 (d - 1), .int .i64 (-1), .int .i64 0, .int .i64 0, .int .i64 (-1), .int .i64 0, .int .i64 0] 163 (0, 0)) := Go.Joins.block_setCell (Go.Joins.block_setCell (Go.Joins.block_setCell (Go.Joins.block_setCell (Go.Joins.block_setCell HY.out.1 _) _) _) _) _
    have u3 : (((((v5.setCell ⟨v4.heap.size, 10, none⟩ (.int .i64 0)).setCell ⟨v4.heap.size, 11, none⟩ (.int .i64 0)).setCell ⟨v4.heap.size, 3, none⟩ (.int .i64 id)).setCell ⟨v4.heap.size, 4, none⟩ (.int .i64 1)).setCell ⟨v4.heap.size, 5, none⟩ (.int .i64 (d - 1))).heap[w.heap.size + 1]? = some (.cells #[.int .i64 0, .int .i64 0, .int .i64 0, .int .i64 0, .int .i64 0, .int .i64 0, .int .i64 0, .int .i64 0, .int .i64 0, .int .i64 0, .int .i64 0, .int .i64 0] 163 (0, 0)) := (Below.heap_setCell _ _ _ _ hne.symm).trans ((Below.heap_setCell _ _ _ _ hne.symm).trans ((Below.heap_setCell _ _ _ _ hne.symm).trans ((Below.heap_setCell _ _ _ _ hne.symm).trans ((Below.heap_setCell _ _ _ _ hne.symm).trans HY.out.2))))
    have HB6 : Hid (Below w.heap.size w (((((v5.setCell ⟨v4.heap.size, 10, none⟩ (.int .i64 0)).setCell ⟨v4.heap.size, 11, none⟩ (.int .i64 0)).setCell ⟨v4.heap.size, 3, none⟩ (.int .i64 id)).setCell ⟨v4.heap.size, 4, none⟩ (.int .i64 1)).setCell ⟨v4.heap.size, 5, none⟩ (.int .i64 (d - 1)))) := ((((HB5.out.setCell HLE4.out _).setCell HLE4.out _).setCell HLE4.out _).setCell HLE4.out _).setCell HLE4.out _
    generalize ((((v5.setCell ⟨v4.heap.size, 10, none⟩ (.int .i64 0)).setCell ⟨v4.heap.size, 11, none⟩ (.int .i64 0)).setCell ⟨v4.heap.size, 3, none⟩ (.int .i64 id)).setCell ⟨v4.heap.size, 4, none⟩ (.int .i64 1)).setCell ⟨v4.heap.size, 5, none⟩ (.int .i64 (d - 1)) = v6 at *
    clear r0 r1 r2 r3 r4 r5 r6 r7 r8 r9 r10 r11 f0 f1 f2 f3 f4 f5 f6 f7 f8 f9 f10 f11 g0 g1 g2
    have r0 : v6.cell? ⟨v4.heap.size, 0, none⟩ = some (.int .i64 (-1)) := by rw [Lib.cell_of_heap y3]; rfl
    have r1 : v6.cell? ⟨v4.heap.size, 1, none⟩ = some (.int .i64 0) := by rw [Lib.cell_of_heap y3]; rfl
    have r2 : v6.cell? ⟨v4.heap.size, 2, none⟩ = some (.int .i64 0) := by rw [Lib.cell_of_heap y3]; rfl
    have r3 : v6.cell? ⟨v4.heap.size, 3, none⟩ = some (.int .i64 id) := by rw [Lib.cell_of_heap y3]; rfl
    have r4 : v6.cell? ⟨v4.heap.size, 4, none⟩ = some (.int .i64 1) := by rw [Lib.cell_of_heap y3]; rfl
    have r5 : v6.cell? ⟨v4.heap.size, 5, none⟩ = some (.int .i64 (d - 1)) := by rw [Lib.cell_of_heap y3]; rfl
    have r6 : v6.cell? ⟨v4.heap.size, 6, none⟩ = some (.int .i64 (-1)) := by rw [Lib.cell_of_heap y3]; rfl
    have r7 : v6.cell? ⟨v4.heap.size, 7, none⟩ = some (.int .i64 0) := by rw [Lib.cell_of_heap y3]; rfl
    have r8 : v6.cell? ⟨v4.heap.size, 8, none⟩ = some (.int .i64 0) := by rw [Lib.cell_of_heap y3]; rfl
    have r9 : v6.cell? ⟨v4.heap.size, 9, none⟩ = some (.int .i64 (-1)) := by rw [Lib.cell_of_heap y3]; rfl
    have r10 : v6.cell? ⟨v4.heap.size, 10, none⟩ = some (.int .i64 0) := by rw [Lib.cell_of_heap y3]; rfl
    have r11 : v6.cell? ⟨v4.heap.size, 11, none⟩ = some (.int .i64 0) := by rw [Lib.cell_of_heap y3]; rfl
    have q0 : v6.cell? ⟨w.heap.size + 1, 0, none⟩ = some (.int .i64 0) := by rw [Lib.cell_of_heap u3]; rfl
    have z0 : v6.frozen? ⟨w.heap.size + 1, 0, none⟩ = false := Lib.frozen_of_heap u3 0
    have q1 : v6.cell? ⟨w.heap.size + 1, 1, none⟩ = some (.int .i64 0) := by rw [Lib.cell_of_heap u3]; rfl
    have z1 : v6.frozen? ⟨w.heap.size + 1, 1, none⟩ = false := Lib.frozen_of_heap u3 1
    have q2 : v6.cell? ⟨w.heap.size + 1, 2, none⟩ = some (.int .i64 0) := by rw [Lib.cell_of_heap u3]; rfl
    have z2 : v6.frozen? ⟨w.heap.size + 1, 2, none⟩ = false := Lib.frozen_of_heap u3 2
    have q3 : v6.cell? ⟨w.heap.size + 1, 3, none⟩ = some (.int .i64 0) := by rw [Lib.cell_of_heap u3]; rfl
    have z3 : v6.frozen? ⟨w.heap.size + 1, 3, none⟩ = false := Lib.frozen_of_heap u3 3
    have q4 : v6.cell? ⟨w.heap.size + 1, 4, none⟩ = some (.int .i64 0) := by rw [Lib.cell_of_heap u3]; rfl
    have z4 : v6.frozen? ⟨w.heap.size + 1, 4, none⟩ = false := Lib.frozen_of_heap u3 4
    have q5 : v6.cell? ⟨w.heap.size + 1, 5, none⟩ = some (.int .i64 0) := by rw [Lib.cell_of_heap u3]; rfl
    have z5 : v6.frozen? ⟨w.heap.size + 1, 5, none⟩ = false := Lib.frozen_of_heap u3 5
    have q6 : v6.cell? ⟨w.heap.size + 1, 6, none⟩ = some (.int .i64 0) := by rw [Lib.cell_of_heap u3]; rfl
    have z6 : v6.frozen? ⟨w.heap.size + 1, 6, none⟩ = false := Lib.frozen_of_heap u3 6
    have q7 : v6.cell? ⟨w.heap.size + 1, 7, none⟩ = some (.int .i64 0) := by rw [Lib.cell_of_heap u3]; rfl
    have z7 : v6.frozen? ⟨w.heap.size + 1, 7, none⟩ = false := Lib.frozen_of_heap u3 7
    have q8 : v6.cell? ⟨w.heap.size + 1, 8, none⟩ = some (.int .i64 0) := by rw [Lib.cell_of_heap u3]; rfl
    have z8 : v6.frozen? ⟨w.heap.size + 1, 8, none⟩ = false := Lib.frozen_of_heap u3 8
    have q9 : v6.cell? ⟨w.heap.size + 1, 9, none⟩ = some (.int .i64 0) := by rw [Lib.cell_of_heap u3]; rfl
    have z9 : v6.frozen? ⟨w.heap.size + 1, 9, none⟩ = false := Lib.frozen_of_heap u3 9
    have q10 : v6.cell? ⟨w.heap.size + 1, 10, none⟩ = some (.int .i64 0) := by rw [Lib.cell_of_heap u3]; rfl
    have z10 : v6.frozen? ⟨w.heap.size + 1, 10, none⟩ = false := Lib.frozen_of_heap u3 10
    have q11 : v6.cell? ⟨w.heap.size + 1, 11, none⟩ = some (.int .i64 0) := by rw [Lib.cell_of_heap u3]; rfl
    have z11 : v6.frozen? ⟨w.heap.size + 1, 11, none⟩ = false := Lib.frozen_of_heap u3 11
    clear y3 u3
    go_wp2_with fail
    refine bodyPost_ret (v := gV4 (dnG id 1 d)) ?_ rfl ⟨rfl, ?_⟩
    · simp [results, Tryz.results127, go_sem, q0, q1, q2, q3, q4, q5, q6, q7, q8, q9, q10, q11, gV4, dnG, noG]
    · repeat (refine Below.setCell ?_ HLE.out _)
      exact HB6.out
  · go_upto_region 10 with fail
    have y3 : (((((v5.setCell ⟨v4.heap.size, 10, none⟩ (.int .i64 0)).setCell ⟨v4.heap.size, 11, none⟩ (.int .i64 0)).setCell ⟨v4.heap.size, 6, none⟩ (.int .i64 id)).setCell ⟨v4.heap.size, 7, none⟩ (.int .i64 2)).setCell ⟨v4.heap.size, 8, none⟩ (.int .i64 (d - 1))).heap[v4.heap.size]? = some (.cells #[.int .i64 (-1), .int .i64 0, .int .i64 0, .int .i64 (-1), .int .i64 0, .int .i64 0, .int .i64 id, .int .i64 2, .int .i64 (d - 1), .int .i64 (-1), .int .i64 0, .int .i64 0] 163 (0, 0)) := Go.Joins.block_setCell (Go.Joins.block_setCell (Go.Joins.block_setCell (Go.Joins.block_setCell (Go.Joins.block_setCell HY.out.1 _) _) _) _) _
    have u3 : (((((v5.setCell ⟨v4.heap.size, 10, none⟩ (.int .i64 0)).setCell ⟨v4.heap.size, 11, none⟩ (.int .i64 0)).setCell ⟨v4.heap.size, 6, none⟩ (.int .i64 id)).setCell ⟨v4.heap.size, 7, none⟩ (.int .i64 2)).setCell ⟨v4.heap.size, 8, none⟩ (.int .i64 (d - 1))).heap[w.heap.size + 1]? = some (.cells #[.int .i64 0, .int .i64 0, .int .i64 0, .int .i64 0, .int .i64 0, .int .i64 0, .int .i64 0, .int .i64 0, .int .i64 0, .int .i64 0, .int .i64 0, .int .i64 0] 163 (0, 0)) := (Below.heap_setCell _ _ _ _ hne.symm).trans ((Below.heap_setCell _ _ _ _ hne.symm).trans ((Below.heap_setCell _ _ _ _ hne.symm).trans ((Below.heap_setCell _ _ _ _ hne.symm).trans ((Below.heap_setCell _ _ _ _ hne.symm).trans HY.out.2))))
    have HB6 : Hid (Below w.heap.size w (((((v5.setCell ⟨v4.heap.size, 10, none⟩ (.int .i64 0)).setCell ⟨v4.heap.size, 11, none⟩ (.int .i64 0)).setCell ⟨v4.heap.size, 6, none⟩ (.int .i64 id)).setCell ⟨v4.heap.size, 7, none⟩ (.int .i64 2)).setCell ⟨v4.heap.size, 8, none⟩ (.int .i64 (d - 1)))) := ((((HB5.out.setCell HLE4.out _).setCell HLE4.out _).setCell HLE4.out _).setCell HLE4.out _).setCell HLE4.out _
    generalize ((((v5.setCell ⟨v4.heap.size, 10, none⟩ (.int .i64 0)).setCell ⟨v4.heap.size, 11, none⟩ (.int .i64 0)).setCell ⟨v4.heap.size, 6, none⟩ (.int .i64 id)).setCell ⟨v4.heap.size, 7, none⟩ (.int .i64 2)).setCell ⟨v4.heap.size, 8, none⟩ (.int .i64 (d - 1)) = v6 at *
    clear r0 r1 r2 r3 r4 r5 r6 r7 r8 r9 r10 r11 f0 f1 f2 f3 f4 f5 f6 f7 f8 f9 f10 f11 g0 g1 g2
    have r0 : v6.cell? ⟨v4.heap.size, 0, none⟩ = some (.int .i64 (-1)) := by rw [Lib.cell_of_heap y3]; rfl
    have r1 : v6.cell? ⟨v4.heap.size, 1, none⟩ = some (.int .i64 0) := by rw [Lib.cell_of_heap y3]; rfl
    have r2 : v6.cell? ⟨v4.heap.size, 2, none⟩ = some (.int .i64 0) := by rw [Lib.cell_of_heap y3]; rfl
    have r3 : v6.cell? ⟨v4.heap.size, 3, none⟩ = some (.int .i64 (-1)) := by rw [Lib.cell_of_heap y3]; rfl
    have r4 : v6.cell? ⟨v4.heap.size, 4, none⟩ = some (.int .i64 0) := by rw [Lib.cell_of_heap y3]; rfl
    have r5 : v6.cell? ⟨v4.heap.size, 5, none⟩ = some (.int .i64 0) := by rw [Lib.cell_of_heap y3]; rfl
    have r6 : v6.cell? ⟨v4.heap.size, 6, none⟩ = some (.int .i64 id) := by rw [Lib.cell_of_heap y3]; rfl
    have r7 : v6.cell? ⟨v4.heap.size, 7, none⟩ = some (.int .i64 2) := by rw [Lib.cell_of_heap y3]; rfl
    have r8 : v6.cell? ⟨v4.heap.size, 8, none⟩ = some (.int .i64 (d - 1)) := by rw [Lib.cell_of_heap y3]; rfl
    have r9 : v6.cell? ⟨v4.heap.size, 9, none⟩ = some (.int .i64 (-1)) := by rw [Lib.cell_of_heap y3]; rfl
    have r10 : v6.cell? ⟨v4.heap.size, 10, none⟩ = some (.int .i64 0) := by rw [Lib.cell_of_heap y3]; rfl
    have r11 : v6.cell? ⟨v4.heap.size, 11, none⟩ = some (.int .i64 0) := by rw [Lib.cell_of_heap y3]; rfl
    have q0 : v6.cell? ⟨w.heap.size + 1, 0, none⟩ = some (.int .i64 0) := by rw [Lib.cell_of_heap u3]; rfl
    have z0 : v6.frozen? ⟨w.heap.size + 1, 0, none⟩ = false := Lib.frozen_of_heap u3 0
    have q1 : v6.cell? ⟨w.heap.size + 1, 1, none⟩ = some (.int .i64 0) := by rw [Lib.cell_of_heap u3]; rfl
    have z1 : v6.frozen? ⟨w.heap.size + 1, 1, none⟩ = false := Lib.frozen_of_heap u3 1
    have q2 : v6.cell? ⟨w.heap.size + 1, 2, none⟩ = some (.int .i64 0) := by rw [Lib.cell_of_heap u3]; rfl
    have z2 : v6.frozen? ⟨w.heap.size + 1, 2, none⟩ = false := Lib.frozen_of_heap u3 2
    have q3 : v6.cell? ⟨w.heap.size + 1, 3, none⟩ = some (.int .i64 0) := by rw [Lib.cell_of_heap u3]; rfl
    have z3 : v6.frozen? ⟨w.heap.size + 1, 3, none⟩ = false := Lib.frozen_of_heap u3 3
    have q4 : v6.cell? ⟨w.heap.size + 1, 4, none⟩ = some (.int .i64 0) := by rw [Lib.cell_of_heap u3]; rfl
    have z4 : v6.frozen? ⟨w.heap.size + 1, 4, none⟩ = false := Lib.frozen_of_heap u3 4
    have q5 : v6.cell? ⟨w.heap.size + 1, 5, none⟩ = some (.int .i64 0) := by rw [Lib.cell_of_heap u3]; rfl
    have z5 : v6.frozen? ⟨w.heap.size + 1, 5, none⟩ = false := Lib.frozen_of_heap u3 5
    have q6 : v6.cell? ⟨w.heap.size + 1, 6, none⟩ = some (.int .i64 0) := by rw [Lib.cell_of_heap u3]; rfl
    have z6 : v6.frozen? ⟨w.heap.size + 1, 6, none⟩ = false := Lib.frozen_of_heap u3 6
    have q7 : v6.cell? ⟨w.heap.size + 1, 7, none⟩ = some (.int .i64 0) := by rw [Lib.cell_of_heap u3]; rfl
    have z7 : v6.frozen? ⟨w.heap.size + 1, 7, none⟩ = false := Lib.frozen_of_heap u3 7
    have q8 : v6.cell? ⟨w.heap.size + 1, 8, none⟩ = some (.int .i64 0) := by rw [Lib.cell_of_heap u3]; rfl
    have z8 : v6.frozen? ⟨w.heap.size + 1, 8, none⟩ = false := Lib.frozen_of_heap u3 8
    have q9 : v6.cell? ⟨w.heap.size + 1, 9, none⟩ = some (.int .i64 0) := by rw [Lib.cell_of_heap u3]; rfl
    have z9 : v6.frozen? ⟨w.heap.size + 1, 9, none⟩ = false := Lib.frozen_of_heap u3 9
    have q10 : v6.cell? ⟨w.heap.size + 1, 10, none⟩ = some (.int .i64 0) := by rw [Lib.cell_of_heap u3]; rfl
    have z10 : v6.frozen? ⟨w.heap.size + 1, 10, none⟩ = false := Lib.frozen_of_heap u3 10
    have q11 : v6.cell? ⟨w.heap.size + 1, 11, none⟩ = some (.int .i64 0) := by rw [Lib.cell_of_heap u3]; rfl
    have z11 : v6.frozen? ⟨w.heap.size + 1, 11, none⟩ = false := Lib.frozen_of_heap u3 11
    clear y3 u3
    go_wp2_with fail
    refine bodyPost_ret (v := gV4 (dnG id 2 d)) ?_ rfl ⟨rfl, ?_⟩
    · simp [results, Tryz.results127, go_sem, q0, q1, q2, q3, q4, q5, q6, q7, q8, q9, q10, q11, gV4, dnG, noG]
    · repeat (refine Below.setCell ?_ HLE.out _)
      exact HB6.out
  · go_upto_region 10 with fail
    have y3 : (((((v5.setCell ⟨v4.heap.size, 10, none⟩ (.int .i64 0)).setCell ⟨v4.heap.size, 11, none⟩ (.int .i64 0)).setCell ⟨v4.heap.size, 9, none⟩ (.int .i64 id)).setCell ⟨v4.heap.size, 10, none⟩ (.int .i64 3)).setCell ⟨v4.heap.size, 11, none⟩ (.int .i64 (d - 1))).heap[v4.heap.size]? = some (.cells #[.int .i64 (-1), .int .i64 0, .int .i64 0, .int .i64 (-1), .int .i64 0, .int .i64 0, .int .i64 (-1), .int .i64 0, .int .i64 0, .int .i64 id, .int .i64 3, .int .i64 (d - 1)] 163 (0, 0)) := Go.Joins.block_setCell (Go.Joins.block_setCell (Go.Joins.block_setCell (Go.Joins.block_setCell (Go.Joins.block_setCell HY.out.1 _) _) _) _) _
    have u3 : (((((v5.setCell ⟨v4.heap.size, 10, none⟩ (.int .i64 0)).setCell ⟨v4.heap.size, 11, none⟩ (.int .i64 0)).setCell ⟨v4.heap.size, 9, none⟩ (.int .i64 id)).setCell ⟨v4.heap.size, 10, none⟩ (.int .i64 3)).setCell ⟨v4.heap.size, 11, none⟩ (.int .i64 (d - 1))).heap[w.heap.size + 1]? = some (.cells #[.int .i64 0, .int .i64 0, .int .i64 0, .int .i64 0, .int .i64 0, .int .i64 0, .int .i64 0, .int .i64 0, .int .i64 0, .int .i64 0, .int .i64 0, .int .i64 0] 163 (0, 0)) := (Below.heap_setCell _ _ _ _ hne.symm).trans ((Below.heap_setCell _ _ _ _ hne.symm).trans ((Below.heap_setCell _ _ _ _ hne.symm).trans ((Below.heap_setCell _ _ _ _ hne.symm).trans ((Below.heap_setCell _ _ _ _ hne.symm).trans HY.out.2))))
    have HB6 : Hid (Below w.heap.size w (((((v5.setCell ⟨v4.heap.size, 10, none⟩ (.int .i64 0)).setCell ⟨v4.heap.size, 11, none⟩ (.int .i64 0)).setCell ⟨v4.heap.size, 9, none⟩ (.int .i64 id)).setCell ⟨v4.heap.size, 10, none⟩ (.int .i64 3)).setCell ⟨v4.heap.size, 11, none⟩ (.int .i64 (d - 1)))) := ((((HB5.out.setCell HLE4.out _).setCell HLE4.out _).setCell HLE4.out _).setCell HLE4.out _).setCell HLE4.out _
    generalize ((((v5.setCell ⟨v4.heap.size, 10, none⟩ (.int .i64 0)).setCell ⟨v4.heap.size, 11, none⟩ (.int .i64 0)).setCell ⟨v4.heap.size, 9, none⟩ (.int .i64 id)).setCell ⟨v4.heap.size, 10, none⟩ (.int .i64 3)).setCell ⟨v4.heap.size, 11, none⟩ (.int .i64 (d - 1)) = v6 at *
    clear r0 r1 r2 r3 r4 r5 r6 r7 r8 r9 r10 r11 f0 f1 f2 f3 f4 f5 f6 f7 f8 f9 f10 f11 g0 g1 g2
    have r0 : v6.cell? ⟨v4.heap.size, 0, none⟩ = some (.int .i64 (-1)) := by rw [Lib.cell_of_heap y3]; rfl
    have r1 : v6.cell? ⟨v4.heap.size, 1, none⟩ = some (.int .i64 0) := by rw [Lib.cell_of_heap y3]; rfl
    have r2 : v6.cell? ⟨v4.heap.size, 2, none⟩ = some (.int .i64 0) := by rw [Lib.cell_of_heap y3]; rfl
    have r3 : v6.cell? ⟨v4.heap.size, 3, none⟩ = some (.int .i64 (-1)) := by rw [Lib.cell_of_heap y3]; rfl
    have r4 : v6.cell? ⟨v4.heap.size, 4, none⟩ = some (.int .i64 0) := by rw [Lib.cell_of_heap y3]; rfl
    have r5 : v6.cell? ⟨v4.heap.size, 5, none⟩ = some (.int .i64 0) := by rw [Lib.cell_of_heap y3]; rfl
    have r6 : v6.cell? ⟨v4.heap.size, 6, none⟩ = some (.int .i64 (-1)) := by rw [Lib.cell_of_heap y3]; rfl
    have r7 : v6.cell? ⟨v4.heap.size, 7, none⟩ = some (.int .i64 0) := by rw [Lib.cell_of_heap y3]; rfl
    have r8 : v6.cell? ⟨v4.heap.size, 8, none⟩ = some (.int .i64 0) := by rw [Lib.cell_of_heap y3]; rfl
    have r9 : v6.cell? ⟨v4.heap.size, 9, none⟩ = some (.int .i64 id) := by rw [Lib.cell_of_heap y3]; rfl
    have r10 : v6.cell? ⟨v4.heap.size, 10, none⟩ = some (.int .i64 3) := by rw [Lib.cell_of_heap y3]; rfl
    have r11 : v6.cell? ⟨v4.heap.size, 11, none⟩ = some (.int .i64 (d - 1)) := by rw [Lib.cell_of_heap y3]; rfl
    have q0 : v6.cell? ⟨w.heap.size + 1, 0, none⟩ = some (.int .i64 0) := by rw [Lib.cell_of_heap u3]; rfl
    have z0 : v6.frozen? ⟨w.heap.size + 1, 0, none⟩ = false := Lib.frozen_of_heap u3 0
    have q1 : v6.cell? ⟨w.heap.size + 1, 1, none⟩ = some (.int .i64 0) := by rw [Lib.cell_of_heap u3]; rfl
    have z1 : v6.frozen? ⟨w.heap.size + 1, 1, none⟩ = false := Lib.frozen_of_heap u3 1
    have q2 : v6.cell? ⟨w.heap.size + 1, 2, none⟩ = some (.int .i64 0) := by rw [Lib.cell_of_heap u3]; rfl
    have z2 : v6.frozen? ⟨w.heap.size + 1, 2, none⟩ = false := Lib.frozen_of_heap u3 2
    have q3 : v6.cell? ⟨w.heap.size + 1, 3, none⟩ = some (.int .i64 0) := by rw [Lib.cell_of_heap u3]; rfl
    have z3 : v6.frozen? ⟨w.heap.size + 1, 3, none⟩ = false := Lib.frozen_of_heap u3 3
    have q4 : v6.cell? ⟨w.heap.size + 1, 4, none⟩ = some (.int .i64 0) := by rw [Lib.cell_of_heap u3]; rfl
    have z4 : v6.frozen? ⟨w.heap.size + 1, 4, none⟩ = false := Lib.frozen_of_heap u3 4
    have q5 : v6.cell? ⟨w.heap.size + 1, 5, none⟩ = some (.int .i64 0) := by rw [Lib.cell_of_heap u3]; rfl
    have z5 : v6.frozen? ⟨w.heap.size + 1, 5, none⟩ = false := Lib.frozen_of_heap u3 5
    have q6 : v6.cell? ⟨w.heap.size + 1, 6, none⟩ = some (.int .i64 0) := by rw [Lib.cell_of_heap u3]; rfl
    have z6 : v6.frozen? ⟨w.heap.size + 1, 6, none⟩ = false := Lib.frozen_of_heap u3 6
    have q7 : v6.cell? ⟨w.heap.size + 1, 7, none⟩ = some (.int .i64 0) := by rw [Lib.cell_of_heap u3]; rfl
    have z7 : v6.frozen? ⟨w.heap.size + 1, 7, none⟩ = false := Lib.frozen_of_heap u3 7
    have q8 : v6.cell? ⟨w.heap.size + 1, 8, none⟩ = some (.int .i64 0) := by rw [Lib.cell_of_heap u3]; rfl
    have z8 : v6.frozen? ⟨w.heap.size + 1, 8, none⟩ = false := Lib.frozen_of_heap u3 8
    have q9 : v6.cell? ⟨w.heap.size + 1, 9, none⟩ = some (.int .i64 0) := by rw [Lib.cell_of_heap u3]; rfl
    have z9 : v6.frozen? ⟨w.heap.size + 1, 9, none⟩ = false := Lib.frozen_of_heap u3 9
    have q10 : v6.cell? ⟨w.heap.size + 1, 10, none⟩ = some (.int .i64 0) := by rw [Lib.cell_of_heap u3]; rfl
    have z10 : v6.frozen? ⟨w.heap.size + 1, 10, none⟩ = false := Lib.frozen_of_heap u3 10
    have q11 : v6.cell? ⟨w.heap.size + 1, 11, none⟩ = some (.int .i64 0) := by rw [Lib.cell_of_heap u3]; rfl
    have z11 : v6.frozen? ⟨w.heap.size + 1, 11, none⟩ = false := Lib.frozen_of_heap u3 11
    clear y3 u3
    go_wp2_with fail
    refine bodyPost_ret (v := gV4 (dnG id 3 d)) ?_ rfl ⟨rfl, ?_⟩
    · simp [results, Tryz.results127, go_sem, q0, q1, q2, q3, q4, q5, q6, q7, q8, q9, q10, q11, gV4, dnG, noG]
    · repeat (refine Below.setCell ?_ HLE.out _)
      exact HB6.out
end Go.Proofs.YtgipjplifndniaaGreatDoor.A
