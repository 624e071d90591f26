/- The quarters of a square's quarters. -/
import Derived.Test.YtofbcngcblleaabGreatLpGood
namespace Go.Proofs.YtofbcngcblleaabGreat.A
open Go.RowKit Go.Proofs.YtofbcngcblleaabGreat.L
variable {w w1 : World} {o : Nat → Nat} {lb b t : Nat} {rb rl e : Int} {A : Ar}
def Sx (f : Nat → Int) : Array Value := #[.int .i64 (f 0), .int .i64 (f 1), .int .i64 (f 2), .int .i64 (f 3), .int .i64 (f 4), .int .i64 (f 5), .int .i64 (f 6), .int .i64 (f 7), .int .i64 (f 8), .int .i64 (f 9), .int .i64 (f 10), .int .i64 (f 11), .int .i64 (f 12), .int .i64 (f 13), .int .i64 (f 14), .int .i64 (f 15)]
def G16 (w : World) (pb : Nat) (f : Nat → Int) : Prop := w.heap[pb]? = some (.cells (Sx f) 148 (0, 0))
theorem G16.lt {pb : Nat} {f : Nat → Int} (h : G16 w pb f) : pb < w.heap.size := (Array.getElem?_eq_some_iff.1 h).1
theorem G16.cell {pb : Nat} {f : Nat → Int} (h : G16 w pb f) (p : Nat) (hp : p < 16) : w.cell? ⟨pb, p, none⟩ = some (.int .i64 (f p)) := by
  have hp' : p = 0 ∨ p = 1 ∨ p = 2 ∨ p = 3 ∨ p = 4 ∨ p = 5 ∨ p = 6 ∨ p = 7 ∨ p = 8 ∨ p = 9 ∨ p = 10 ∨ p = 11 ∨ p = 12 ∨ p = 13 ∨ p = 14 ∨ p = 15 := by omega
  rcases hp' with rfl | rfl | rfl | rfl | rfl | rfl | rfl | rfl | rfl | rfl | rfl | rfl | rfl | rfl | rfl | rfl <;> exact Lib.cell_of_heap h _
theorem G16.fz {pb : Nat} {f : Nat → Int} (h : G16 w pb f) (p : Nat) : w.frozen? ⟨pb, p, none⟩ = false := Lib.frozen_of_heap h p
structure GI (o1 : Nat → Nat) (W : World) (lb b t : Nat) (rb rl e : Int) (A : Ar) (ab pb : Nat) (f : Nat → Int) (w : World) (o : Nat → Nat) : Prop where
  ls : LS w o lb b t rb rl e A
  ch : Ch AL o1 W o w
  a : G16 w ab (fun _ => 0)
  p : G16 w pb f
  la : o ab = 0
  lp : o pb = 0
  na : W.heap.size ≤ ab
  np : W.heap.size ≤ pb
  ne : ab ≠ pb
variable {o1 : Nat → Nat} {W : World} {ab pb : Nat} {f g : Nat → Int}
structure AI (o1 : Nat → Nat) (W : World) (lb b t : Nat) (rb rl e : Int) (A : Ar) (ab : Nat) (w : World) (o : Nat → Nat) : Prop where
  ls : LS w o lb b t rb rl e A
  ch : Ch AL o1 W o w
  la : o ab = 0
  na : W.heap.size ≤ ab
theorem AI.set (h : AI o1 W lb b t rb rl e A ab w o) (i : Nat) (v : Value) : AI o1 W lb b t rb rl e A ab (w.setCell ⟨ab, i, none⟩ v) o := by
  refine ⟨h.ls.ch (Ch.set (L := fun l => l = 0) o w ⟨ab, i, none⟩ _ h.la) (fun l hl => by unfold AL; omega), ?_, h.la, h.na⟩
  exact ⟨h.ch.os, h.ch.tape, h.ch.output, by simpa [World.setCell] using h.ch.size, h.ch.lab, fun k hk hn => (Below.heap_setCell _ _ _ _ (by have := h.na; show k ≠ ab; omega)).trans (h.ch.block k hk hn)⟩
theorem fill16 (h : G16 w ab f) (g : Nat → Int) : G16 ((((((((((((((((w.setCell ⟨ab, 0, none⟩ (.int .i64 (g 0))).setCell ⟨ab, 1, none⟩ (.int .i64 (g 1))).setCell ⟨ab, 2, none⟩ (.int .i64 (g 2))).setCell ⟨ab, 3, none⟩ (.int .i64 (g 3))).setCell ⟨ab, 4, none⟩ (.int .i64 (g 4))).setCell ⟨ab, 5, none⟩ (.int .i64 (g 5))).setCell ⟨ab, 6, none⟩ (.int .i64 (g 6))).setCell ⟨ab, 7, none⟩ (.int .i64 (g 7))).setCell ⟨ab, 8, none⟩ (.int .i64 (g 8))).setCell ⟨ab, 9, none⟩ (.int .i64 (g 9))).setCell ⟨ab, 10, none⟩ (.int .i64 (g 10))).setCell ⟨ab, 11, none⟩ (.int .i64 (g 11))).setCell ⟨ab, 12, none⟩ (.int .i64 (g 12))).setCell ⟨ab, 13, none⟩ (.int .i64 (g 13))).setCell ⟨ab, 14, none⟩ (.int .i64 (g 14))).setCell ⟨ab, 15, none⟩ (.int .i64 (g 15))) ab g := by
  have q0 : w.heap[ab]? = some (.cells #[.int .i64 (f 0), .int .i64 (f 1), .int .i64 (f 2), .int .i64 (f 3), .int .i64 (f 4), .int .i64 (f 5), .int .i64 (f 6), .int .i64 (f 7), .int .i64 (f 8), .int .i64 (f 9), .int .i64 (f 10), .int .i64 (f 11), .int .i64 (f 12), .int .i64 (f 13), .int .i64 (f 14), .int .i64 (f 15)] 148 (0, 0)) := h
  have q1 : (w.setCell ⟨ab, 0, none⟩ (.int .i64 (g 0))).heap[ab]? = some (.cells #[.int .i64 (g 0), .int .i64 (f 1), .int .i64 (f 2), .int .i64 (f 3), .int .i64 (f 4), .int .i64 (f 5), .int .i64 (f 6), .int .i64 (f 7), .int .i64 (f 8), .int .i64 (f 9), .int .i64 (f 10), .int .i64 (f 11), .int .i64 (f 12), .int .i64 (f 13), .int .i64 (f 14), .int .i64 (f 15)] 148 (0, 0)) := Go.Joins.block_setCell q0 _
  have q2 : ((w.setCell ⟨ab, 0, none⟩ (.int .i64 (g 0))).setCell ⟨ab, 1, none⟩ (.int .i64 (g 1))).heap[ab]? = some (.cells #[.int .i64 (g 0), .int .i64 (g 1), .int .i64 (f 2), .int .i64 (f 3), .int .i64 (f 4), .int .i64 (f 5), .int .i64 (f 6), .int .i64 (f 7), .int .i64 (f 8), .int .i64 (f 9), .int .i64 (f 10), .int .i64 (f 11), .int .i64 (f 12), .int .i64 (f 13), .int .i64 (f 14), .int .i64 (f 15)] 148 (0, 0)) := Go.Joins.block_setCell q1 _
  have q3 : (((w.setCell ⟨ab, 0, none⟩ (.int .i64 (g 0))).setCell ⟨ab, 1, none⟩ (.int .i64 (g 1))).setCell ⟨ab, 2, none⟩ (.int .i64 (g 2))).heap[ab]? = some (.cells #[.int .i64 (g 0), .int .i64 (g 1), .int .i64 (g 2), .int .i64 (f 3), .int .i64 (f 4), .int .i64 (f 5), .int .i64 (f 6), .int .i64 (f 7), .int .i64 (f 8), .int .i64 (f 9), .int .i64 (f 10), .int .i64 (f 11), .int .i64 (f 12), .int .i64 (f 13), .int .i64 (f 14), .int .i64 (f 15)] 148 (0, 0)) := Go.Joins.block_setCell q2 _
  have q4 : ((((w.setCell ⟨ab, 0, none⟩ (.int .i64 (g 0))).setCell ⟨ab, 1, none⟩ (.int .i64 (g 1))).setCell ⟨ab, 2, none⟩ (.int .i64 (g 2))).setCell ⟨ab, 3, none⟩ (.int .i64 (g 3))).heap[ab]? = some (.cells #[.int .i64 (g 0), .int .i64 (g 1), .int .i64 (g 2), .int .i64 (g 3), .int .i64 (f 4), .int .i64 (f 5), .int .i64 (f 6), .int .i64 (f 7), .int .i64 (f 8), .int .i64 (f 9), .int .i64 (f 10), .int .i64 (f 11), .int .i64 (f 12), .int .i64 (f 13), .int .i64 (f 14), .int .i64 (f 15)] 148 (0, 0)) := Go.Joins.block_setCell q3 _
  have q5 : (((((w.setCell ⟨ab, 0, none⟩ (.int .i64 (g 0))).setCell ⟨ab, 1, none⟩ (.int .i64 (g 1))).setCell ⟨ab, 2, none⟩ (.int .i64 (g 2))).setCell ⟨ab, 3, none⟩ (.int .i64 (g 3))).setCell ⟨ab, 4, none⟩ (.int .i64 (g 4))).heap[ab]? = some (.cells #[.int .i64 (g 0), .int .i64 (g 1), .int .i64 (g 2), .int .i64 (g 3), .int .i64 (g 4), .int .i64 (f 5), .int .i64 (f 6), .int .i64 (f 7), .int .i64 (f 8), .int .i64 (f 9), .int .i64 (f 10), .int .i64 (f 11), .int .i64 (f 12), .int .i64 (f 13), .int .i64 (f 14), .int .i64 (f 15)] 148 (0, 0)) := Go.Joins.block_setCell q4 _
  have q6 : ((((((w.setCell ⟨ab, 0, none⟩ (.int .i64 (g 0))).setCell ⟨ab, 1, none⟩ (.int .i64 (g 1))).setCell ⟨ab, 2, none⟩ (.int .i64 (g 2))).setCell ⟨ab, 3, none⟩ (.int .i64 (g 3))).setCell ⟨ab, 4, none⟩ (.int .i64 (g 4))).setCell ⟨ab, 5, none⟩ (.int .i64 (g 5))).heap[ab]? = some (.cells #[.int .i64 (g 0), .int .i64 (g 1), .int .i64 (g 2), .int .i64 (g 3), .int .i64 (g 4), .int .i64 (g 5), .int .i64 (f 6), .int .i64 (f 7), .int .i64 (f 8), .int .i64 (f 9), .int .i64 (f 10), .int .i64 (f 11), .int .i64 (f 12), .int .i64 (f 13), .int .i64 (f 14), .int .i64 (f 15)] 148 (0, 0)) := Go.Joins.block_setCell q5 _
  have q7 : (((((((w.setCell ⟨ab, 0, none⟩ (.int .i64 (g 0))).setCell ⟨ab, 1, none⟩ (.int .i64 (g 1))).setCell ⟨ab, 2, none⟩ (.int .i64 (g 2))).setCell ⟨ab, 3, none⟩ (.int .i64 (g 3))).setCell ⟨ab, 4, none⟩ (.int .i64 (g 4))).setCell ⟨ab, 5, none⟩ (.int .i64 (g 5))).setCell ⟨ab, 6, none⟩ (.int .i64 (g 6))).heap[ab]? = some (.cells #[.int .i64 (g 0), .int .i64 (g 1), .int .i64 (g 2), .int .i64 (g 3), .int .i64 (g 4), .int .i64 (g 5), .int .i64 (g 6), .int .i64 (f 7), .int .i64 (f 8), .int .i64 (f 9), .int .i64 (f 10), .int .i64 (f 11), .int .i64 (f 12), .int .i64 (f 13), .int .i64 (f 14), .int .i64 (f 15)] 148 (0, 0)) := Go.Joins.block_setCell q6 _
  have q8 : ((((((((w.setCell ⟨ab, 0, none⟩ (.int .i64 (g 0))).setCell ⟨ab, 1, none⟩ (.int .i64 (g 1))).setCell ⟨ab, 2, none⟩ (.int .i64 (g 2))).setCell ⟨ab, 3, none⟩ (.int .i64 (g 3))).setCell ⟨ab, 4, none⟩ (.int .i64 (g 4))).setCell ⟨ab, 5, none⟩ (.int .i64 (g 5))).setCell ⟨ab, 6, none⟩ (.int .i64 (g 6))).setCell ⟨ab, 7, none⟩ (.int .i64 (g 7))).heap[ab]? = some (.cells #[.int .i64 (g 0), .int .i64 (g 1), .int .i64 (g 2), .int .i64 (g 3), .int .i64 (g 4), .int .i64 (g 5), .int .i64 (g 6), .int .i64 (g 7), .int .i64 (f 8), .int .i64 (f 9), .int .i64 (f 10), .int .i64 (f 11), .int .i64 (f 12), .int .i64 (f 13), .int .i64 (f 14), .int .i64 (f 15)] 148 (0, 0)) := Go.Joins.block_setCell q7 _
  have q9 : (((((((((w.setCell ⟨ab, 0, none⟩ (.int .i64 (g 0))).setCell ⟨ab, 1, none⟩ (.int .i64 (g 1))).setCell ⟨ab, 2, none⟩ (.int .i64 (g 2))).setCell ⟨ab, 3, none⟩ (.int .i64 (g 3))).setCell ⟨ab, 4, none⟩ (.int .i64 (g 4))).setCell ⟨ab, 5, none⟩ (.int .i64 (g 5))).setCell ⟨ab, 6, none⟩ (.int .i64 (g 6))).setCell ⟨ab, 7, none⟩ (.int .i64 (g 7))).setCell ⟨ab, 8, none⟩ (.int .i64 (g 8))).heap[ab]? = some (.cells #[.int .i64 (g 0), .int .i64 (g 1), .int .i64 (g 2), .int .i64 (g 3), .int .i64 (g 4), .int .i64 (g 5), .int .i64 (g 6), .int .i64 (g 7), .int .i64 (g 8), .int .i64 (f 9), .int .i64 (f 10), .int .i64 (f 11), .int .i64 (f 12), .int .i64 (f 13), .int .i64 (f 14), .int .i64 (f 15)] 148 (0, 0)) := Go.Joins.block_setCell q8 _
  have q10 : ((((((((((w.setCell ⟨ab, 0, none⟩ (.int .i64 (g 0))).setCell ⟨ab, 1, none⟩ (.int .i64 (g 1))).setCell ⟨ab, 2, none⟩ (.int .i64 (g 2))).setCell ⟨ab, 3, none⟩ (.int .i64 (g 3))).setCell ⟨ab, 4, none⟩ (.int .i64 (g 4))).setCell ⟨ab, 5, none⟩ (.int .i64 (g 5))).setCell ⟨ab, 6, none⟩ (.int .i64 (g 6))).setCell ⟨ab, 7, none⟩ (.int .i64 (g 7))).setCell ⟨ab, 8, none⟩ (.int .i64 (g 8))).setCell ⟨ab, 9, none⟩ (.int .i64 (g 9))).heap[ab]? = some (.cells #[.int .i64 (g 0), .int .i64 (g 1), .int .i64 (g 2), .int .i64 (g 3), .int .i64 (g 4), .int .i64 (g 5), .int .i64 (g 6), .int .i64 (g 7), .int .i64 (g 8), .int .i64 (g 9), .int .i64 (f 10), .int .i64 (f 11), .int .i64 (f 12), .int .i64 (f 13), .int .i64 (f 14), .int .i64 (f 15)] 148 (0, 0)) := Go.Joins.block_setCell q9 _
  have q11 : (((((((((((w.setCell ⟨ab, 0, none⟩ (.int .i64 (g 0))).setCell ⟨ab, 1, none⟩ (.int .i64 (g 1))).setCell ⟨ab, 2, none⟩ (.int .i64 (g 2))).setCell ⟨ab, 3, none⟩ (.int .i64 (g 3))).setCell ⟨ab, 4, none⟩ (.int .i64 (g 4))).setCell ⟨ab, 5, none⟩ (.int .i64 (g 5))).setCell ⟨ab, 6, none⟩ (.int .i64 (g 6))).setCell ⟨ab, 7, none⟩ (.int .i64 (g 7))).setCell ⟨ab, 8, none⟩ (.int .i64 (g 8))).setCell ⟨ab, 9, none⟩ (.int .i64 (g 9))).setCell ⟨ab, 10, none⟩ (.int .i64 (g 10))).heap[ab]? = some (.cells #[.int .i64 (g 0), .int .i64 (g 1), .int .i64 (g 2), .int .i64 (g 3), .int .i64 (g 4), .int .i64 (g 5), .int .i64 (g 6), .int .i64 (g 7), .int .i64 (g 8), .int .i64 (g 9), .int .i64 (g 10), .int .i64 (f 11), .int .i64 (f 12), .int .i64 (f 13), .int .i64 (f 14), .int .i64 (f 15)] 148 (0, 0)) := Go.Joins.block_setCell q10 _
  have q12 : ((((((((((((w.setCell ⟨ab, 0, none⟩ (.int .i64 (g 0))).setCell ⟨ab, 1, none⟩ (.int .i64 (g 1))).setCell ⟨ab, 2, none⟩ (.int .i64 (g 2))).setCell ⟨ab, 3, none⟩ (.int .i64 (g 3))).setCell ⟨ab, 4, none⟩ (.int .i64 (g 4))).setCell ⟨ab, 5, none⟩ (.int .i64 (g 5))).setCell ⟨ab, 6, none⟩ (.int .i64 (g 6))).setCell ⟨ab, 7, none⟩ (.int .i64 (g 7))).setCell ⟨ab, 8, none⟩ (.int .i64 (g 8))).setCell ⟨ab, 9, none⟩ (.int .i64 (g 9))).setCell ⟨ab, 10, none⟩ (.int .i64 (g 10))).setCell ⟨ab, 11, none⟩ (.int .i64 (g 11))).heap[ab]? = some (.cells #[.int .i64 (g 0), .int .i64 (g 1), .int .i64 (g 2), .int .i64 (g 3), .int .i64 (g 4), .int .i64 (g 5), .int .i64 (g 6), .int .i64 (g 7), .int .i64 (g 8), .int .i64 (g 9), .int .i64 (g 10), .int .i64 (g 11), .int .i64 (f 12), .int .i64 (f 13), .int .i64 (f 14), .int .i64 (f 15)] 148 (0, 0)) := Go.Joins.block_setCell q11 _
  have q13 : (((((((((((((w.setCell ⟨ab, 0, none⟩ (.int .i64 (g 0))).setCell ⟨ab, 1, none⟩ (.int .i64 (g 1))).setCell ⟨ab, 2, none⟩ (.int .i64 (g 2))).setCell ⟨ab, 3, none⟩ (.int .i64 (g 3))).setCell ⟨ab, 4, none⟩ (.int .i64 (g 4))).setCell ⟨ab, 5, none⟩ (.int .i64 (g 5))).setCell ⟨ab, 6, none⟩ (.int .i64 (g 6))).setCell ⟨ab, 7, none⟩ (.int .i64 (g 7))).setCell ⟨ab, 8, none⟩ (.int .i64 (g 8))).setCell ⟨ab, 9, none⟩ (.int .i64 (g 9))).setCell ⟨ab, 10, none⟩ (.int .i64 (g 10))).setCell ⟨ab, 11, none⟩ (.int .i64 (g 11))).setCell ⟨ab, 12, none⟩ (.int .i64 (g 12))).heap[ab]? = some (.cells #[.int .i64 (g 0), .int .i64 (g 1), .int .i64 (g 2), .int .i64 (g 3), .int .i64 (g 4), .int .i64 (g 5), .int .i64 (g 6), .int .i64 (g 7), .int .i64 (g 8), .int .i64 (g 9), .int .i64 (g 10), .int .i64 (g 11), .int .i64 (g 12), .int .i64 (f 13), .int .i64 (f 14), .int .i64 (f 15)] 148 (0, 0)) := Go.Joins.block_setCell q12 _
  have q14 : ((((((((((((((w.setCell ⟨ab, 0, none⟩ (.int .i64 (g 0))).setCell ⟨ab, 1, none⟩ (.int .i64 (g 1))).setCell ⟨ab, 2, none⟩ (.int .i64 (g 2))).setCell ⟨ab, 3, none⟩ (.int .i64 (g 3))).setCell ⟨ab, 4, none⟩ (.int .i64 (g 4))).setCell ⟨ab, 5, none⟩ (.int .i64 (g 5))).setCell ⟨ab, 6, none⟩ (.int .i64 (g 6))).setCell ⟨ab, 7, none⟩ (.int .i64 (g 7))).setCell ⟨ab, 8, none⟩ (.int .i64 (g 8))).setCell ⟨ab, 9, none⟩ (.int .i64 (g 9))).setCell ⟨ab, 10, none⟩ (.int .i64 (g 10))).setCell ⟨ab, 11, none⟩ (.int .i64 (g 11))).setCell ⟨ab, 12, none⟩ (.int .i64 (g 12))).setCell ⟨ab, 13, none⟩ (.int .i64 (g 13))).heap[ab]? = some (.cells #[.int .i64 (g 0), .int .i64 (g 1), .int .i64 (g 2), .int .i64 (g 3), .int .i64 (g 4), .int .i64 (g 5), .int .i64 (g 6), .int .i64 (g 7), .int .i64 (g 8), .int .i64 (g 9), .int .i64 (g 10), .int .i64 (g 11), .int .i64 (g 12), .int .i64 (g 13), .int .i64 (f 14), .int .i64 (f 15)] 148 (0, 0)) := Go.Joins.block_setCell q13 _
  have q15 : (((((((((((((((w.setCell ⟨ab, 0, none⟩ (.int .i64 (g 0))).setCell ⟨ab, 1, none⟩ (.int .i64 (g 1))).setCell ⟨ab, 2, none⟩ (.int .i64 (g 2))).setCell ⟨ab, 3, none⟩ (.int .i64 (g 3))).setCell ⟨ab, 4, none⟩ (.int .i64 (g 4))).setCell ⟨ab, 5, none⟩ (.int .i64 (g 5))).setCell ⟨ab, 6, none⟩ (.int .i64 (g 6))).setCell ⟨ab, 7, none⟩ (.int .i64 (g 7))).setCell ⟨ab, 8, none⟩ (.int .i64 (g 8))).setCell ⟨ab, 9, none⟩ (.int .i64 (g 9))).setCell ⟨ab, 10, none⟩ (.int .i64 (g 10))).setCell ⟨ab, 11, none⟩ (.int .i64 (g 11))).setCell ⟨ab, 12, none⟩ (.int .i64 (g 12))).setCell ⟨ab, 13, none⟩ (.int .i64 (g 13))).setCell ⟨ab, 14, none⟩ (.int .i64 (g 14))).heap[ab]? = some (.cells #[.int .i64 (g 0), .int .i64 (g 1), .int .i64 (g 2), .int .i64 (g 3), .int .i64 (g 4), .int .i64 (g 5), .int .i64 (g 6), .int .i64 (g 7), .int .i64 (g 8), .int .i64 (g 9), .int .i64 (g 10), .int .i64 (g 11), .int .i64 (g 12), .int .i64 (g 13), .int .i64 (g 14), .int .i64 (f 15)] 148 (0, 0)) := Go.Joins.block_setCell q14 _
  have q16 : ((((((((((((((((w.setCell ⟨ab, 0, none⟩ (.int .i64 (g 0))).setCell ⟨ab, 1, none⟩ (.int .i64 (g 1))).setCell ⟨ab, 2, none⟩ (.int .i64 (g 2))).setCell ⟨ab, 3, none⟩ (.int .i64 (g 3))).setCell ⟨ab, 4, none⟩ (.int .i64 (g 4))).setCell ⟨ab, 5, none⟩ (.int .i64 (g 5))).setCell ⟨ab, 6, none⟩ (.int .i64 (g 6))).setCell ⟨ab, 7, none⟩ (.int .i64 (g 7))).setCell ⟨ab, 8, none⟩ (.int .i64 (g 8))).setCell ⟨ab, 9, none⟩ (.int .i64 (g 9))).setCell ⟨ab, 10, none⟩ (.int .i64 (g 10))).setCell ⟨ab, 11, none⟩ (.int .i64 (g 11))).setCell ⟨ab, 12, none⟩ (.int .i64 (g 12))).setCell ⟨ab, 13, none⟩ (.int .i64 (g 13))).setCell ⟨ab, 14, none⟩ (.int .i64 (g 14))).setCell ⟨ab, 15, none⟩ (.int .i64 (g 15))).heap[ab]? = some (.cells #[.int .i64 (g 0), .int .i64 (g 1), .int .i64 (g 2), .int .i64 (g 3), .int .i64 (g 4), .int .i64 (g 5), .int .i64 (g 6), .int .i64 (g 7), .int .i64 (g 8), .int .i64 (g 9), .int .i64 (g 10), .int .i64 (g 11), .int .i64 (g 12), .int .i64 (g 13), .int .i64 (g 14), .int .i64 (g 15)] 148 (0, 0)) := Go.Joins.block_setCell q15 _
  exact q16
theorem GI.kp (h : GI o1 W lb b t rb rl e A ab pb f w o) (k : Kp o w lb b t rb rl e A w1) : ∃ o', GI o1 W lb b t rb rl e A ab pb f w1 o' := by
  obtain ⟨o', h1, h2⟩ := k
  have x := h2.at h.a.lt h.la (by unfold AL; omega)
  have y := h2.at h.p.lt h.lp (by unfold AL; omega)
  exact ⟨o', h1, h.ch.trans h2, x.1.trans h.a, y.1.trans h.p, x.2, y.2, h.na, h.np, h.ne⟩
theorem GI.set (h : GI o1 W lb b t rb rl e A ab pb f w o) (i : Nat) (v : Int) (hq : G16 (w.setCell ⟨pb, i, none⟩ (.int .i64 v)) pb g) : GI o1 W lb b t rb rl e A ab pb g (w.setCell ⟨pb, i, none⟩ (.int .i64 v)) o := by
  refine ⟨h.ls.ch (Ch.set (L := fun l => l = 0) o w ⟨pb, i, none⟩ _ h.lp) (fun l hl => by unfold AL; omega), ?_, (Below.heap_setCell _ _ _ _ h.ne).trans h.a, hq, h.la, h.lp, h.na, h.np, h.ne⟩
  exact ⟨h.ch.os, h.ch.tape, h.ch.output, by simpa [World.setCell] using h.ch.size, h.ch.lab, fun k hk hn => (Below.heap_setCell _ _ _ _ (by have := h.np; show k ≠ pb; omega)).trans (h.ch.block k hk hn)⟩
def gvf (P : Nat → Nat → Int) (n p : Nat) : Int := if 4 * (p / 4 / 2 * 2 + p % 4 / 2) + (p / 4 % 2 * 2 + p % 4 % 2) < n then P (p / 4 / 2 * 2 + p % 4 / 2) (p / 4 % 2 * 2 + p % 4 % 2) else 0
def gridV (f : Nat → Int) : Value := .agg (Sx f)
set_option maxRecDepth 20000 in
set_option maxHeartbeats 4000000 in
theorem lpGrid_any (h : LS w o lb b t rb rl e A) (hS : Sound A) (ht : t < 64) (id : Int) (r : Nat → Int) (P : Nat → Nat → Int) (hr : KidR e A t id (r 0, r 1, r 2, r 3)) (hP : ∀ i, i < 4 → KidR e A t (r i) (P i 0, P i 1, P i 2, P i 3)) :
    Calls Tryz.prog 98 #[.pointer (some ⟨lb, 0, none⟩), .int .i64 id] w fun v w' => v = .returned (gridV (gvf P 16)) ∧ Kp o w lb b t rb rl e A w' := by
  have hbx : Below w.heap.size w ((w.alloc (.cells #[.int .i64 0, .int .i64 0, .int .i64 0, .int .i64 0, .int .i64 0, .int .i64 0, .int .i64 0, .int .i64 0, .int .i64 0, .int .i64 0, .int .i64 0, .int .i64 0, .int .i64 0, .int .i64 0, .int .i64 0, .int .i64 0] 148)).alloc (.cells #[.int .i64 0, .int .i64 0, .int .i64 0, .int .i64 0, .int .i64 0, .int .i64 0, .int .i64 0, .int .i64 0, .int .i64 0, .int .i64 0, .int .i64 0, .int .i64 0, .int .i64 0, .int .i64 0, .int .i64 0, .int .i64 0] 148)) := ((Below.refl _ _).alloc (Nat.le_refl _) _).alloc (by simp) _
  have M0 : GI o w lb b t rb rl e A w.heap.size (w.heap.size + 1) (gvf P 0) ((w.alloc (.cells #[.int .i64 0, .int .i64 0, .int .i64 0, .int .i64 0, .int .i64 0, .int .i64 0, .int .i64 0, .int .i64 0, .int .i64 0, .int .i64 0, .int .i64 0, .int .i64 0, .int .i64 0, .int .i64 0, .int .i64 0, .int .i64 0] 148)).alloc (.cells #[.int .i64 0, .int .i64 0, .int .i64 0, .int .i64 0, .int .i64 0, .int .i64 0, .int .i64 0, .int .i64 0, .int .i64 0, .int .i64 0, .int .i64 0, .int .i64 0, .int .i64 0, .int .i64 0, .int .i64 0, .int .i64 0] 148)) (ext o w.heap.size 0) := ⟨h.below hbx, Ch.ofBelow hbx 0, heap_alloc2_old w _ _, heap_alloc2_new w _ _, ext_new (Nat.le_refl _), ext_new (by omega), Nat.le_refl _, by omega, by omega⟩
  have hk0 := lpKids_any M0.ls hS ht id (r 0) (r 1) (r 2) (r 3) hr
  generalize hWW : (w.alloc (.cells #[.int .i64 0, .int .i64 0, .int .i64 0, .int .i64 0, .int .i64 0, .int .i64 0, .int .i64 0, .int .i64 0, .int .i64 0, .int .i64 0, .int .i64 0, .int .i64 0, .int .i64 0, .int .i64 0, .int .i64 0, .int .i64 0] 148)).alloc (.cells #[.int .i64 0, .int .i64 0, .int .i64 0, .int .i64 0, .int .i64 0, .int .i64 0, .int .i64 0, .int .i64 0, .int .i64 0, .int .i64 0, .int .i64 0, .int .i64 0, .int .i64 0, .int .i64 0, .int .i64 0, .int .i64 0] 148) = WW at *
  have HM0 : Hid (GI o w lb b t rb rl e A w.heap.size (w.heap.size + 1) (gvf P 0) WW (ext o w.heap.size 0)) := M0
  have HP : Hid (∀ i, i < 4 → KidR e A t (r i) (P i 0, P i 1, P i 2, P i 3)) := hP
  clear h hbx M0 hP hr
  go_enter Tryz.func98, Tryz.ntmps98
  go_wp2_with fail
  (try rw [hWW])
  clear hWW
  refine hk0.mono ?_
  rintro v w1 ⟨rfl, hkp⟩
  obtain ⟨o1, M1⟩ := HM0.out.kp hkp
  have HM1 : Hid (GI o w lb b t rb rl e A w.heap.size (w.heap.size + 1) (gvf P 0) w1 o1) := M1
  clear HM0 M1 hkp
  unfold quad4
  go_wp2_with fail
  go_loopg [13] 4 (fun g s13 wr => ∃ i : Nat, i + g = 4 ∧ s13 = .int .i64 i ∧ ∃ o', GI o w lb b t rb rl e A w.heap.size (w.heap.size + 1) (gvf P (4 * i)) wr o')
  case atStart => exact ⟨0, by omega, rfl, _, HM1.out⟩
  case round =>
    clear HM1
    obtain ⟨i, hig, rfl, o', M⟩ := hrel
    obtain ⟨GK, hGK⟩ : ∃ a, a = gk := ⟨_, rfl⟩
    subst hGK
    have HI : Hid (i + GK = 4) := hig
    have HM : Hid (GI o w lb b t rb rl e A w.heap.size (w.heap.size + 1) (gvf P (4 * i)) wr o') := M
    clear M
    have hk : i = 0 ∨ i = 1 ∨ i = 2 ∨ i = 3 ∨ i = 4 := by omega
    clear hig
    rcases hk with rfl | rfl | rfl | rfl | rfl
    · have hkid := lpKids_any HM.out.ls hS ht (r 0) (P 0 0) (P 0 1) (P 0 2) (P 0 3) (HP.out 0 (by omega))
      obtain ⟨ix0, ix1, ix2, ix3⟩ := idx_four (r 0) (r 1) (r 2) (r 3)
      go_wp2_with fail
      refine hkid.mono ?_
      rintro v w2 ⟨rfl, hkp⟩
      obtain ⟨o2, M2⟩ := HM.out.kp hkp
      have HM2 : Hid (GI o w lb b t rb rl e A w.heap.size (w.heap.size + 1) (gvf P (0 + 0)) w2 o2) := M2
      clear M2 hkp HM ix0 ix1 ix2 ix3
      unfold quad4
      go_wp2_with fail
      go_loopg [20] 4 (fun g s20 wr => ∃ k : Nat, k + g = 4 ∧ s20 = .int .i64 k ∧ ∃ o', GI o w lb b t rb rl e A w.heap.size (w.heap.size + 1) (gvf P (0 + k)) wr o')
      case atStart => exact ⟨0, by omega, rfl, _, HM2.out⟩
      case round =>
        clear HM2
        obtain ⟨k, hkg, rfl, o', M⟩ := hrel
        have HK : Hid (k + gk = 4) := hkg
        have HM : Hid (GI o w lb b t rb rl e A w.heap.size (w.heap.size + 1) (gvf P (0 + k)) wr o') := M
        clear M
        have hk : k = 0 ∨ k = 1 ∨ k = 2 ∨ k = 3 ∨ k = 4 := by omega
        clear hkg
        obtain ⟨ix0, ix1, ix2, ix3⟩ := idx_four (P 0 0) (P 0 1) (P 0 2) (P 0 3)
        rcases hk with rfl | rfl | rfl | rfl | rfl
        · have hc := HM.out.p.cell 0 (by omega)
          have hz := HM.out.p.fz 0
          go_wp2_with fail
          go_roundg (gk - 1)
          case measure => have := HK.out; omega
          case rel => exact ⟨1, by have := HK.out; omega, by go_num, o', HM.out.set 0 _ (Go.Joins.block_setCell HM.out.p _)⟩
        · have hc := HM.out.p.cell 1 (by omega)
          have hz := HM.out.p.fz 1
          go_wp2_with fail
          go_roundg (gk - 1)
          case measure => have := HK.out; omega
          case rel => exact ⟨2, by have := HK.out; omega, by go_num, o', HM.out.set 1 _ (Go.Joins.block_setCell HM.out.p _)⟩
        · have hc := HM.out.p.cell 4 (by omega)
          have hz := HM.out.p.fz 4
          go_wp2_with fail
          go_roundg (gk - 1)
          case measure => have := HK.out; omega
          case rel => exact ⟨3, by have := HK.out; omega, by go_num, o', HM.out.set 4 _ (Go.Joins.block_setCell HM.out.p _)⟩
        · have hc := HM.out.p.cell 5 (by omega)
          have hz := HM.out.p.fz 5
          go_wp2_with fail
          go_roundg (gk - 1)
          case measure => have := HK.out; omega
          case rel => exact ⟨4, by have := HK.out; omega, by go_num, o', HM.out.set 5 _ (Go.Joins.block_setCell HM.out.p _)⟩
        · go_wp2_with fail
          go_roundg (GK - 1)
          case measure => have := HI.out; omega
          case rel => exact ⟨1, by have := HI.out; omega, by go_num, o', HM.out⟩
    · have hkid := lpKids_any HM.out.ls hS ht (r 1) (P 1 0) (P 1 1) (P 1 2) (P 1 3) (HP.out 1 (by omega))
      obtain ⟨ix0, ix1, ix2, ix3⟩ := idx_four (r 0) (r 1) (r 2) (r 3)
      go_wp2_with fail
      refine hkid.mono ?_
      rintro v w2 ⟨rfl, hkp⟩
      obtain ⟨o2, M2⟩ := HM.out.kp hkp
      have HM2 : Hid (GI o w lb b t rb rl e A w.heap.size (w.heap.size + 1) (gvf P (4 + 0)) w2 o2) := M2
      clear M2 hkp HM ix0 ix1 ix2 ix3
      unfold quad4
      go_wp2_with fail
      go_loopg [20] 4 (fun g s20 wr => ∃ k : Nat, k + g = 4 ∧ s20 = .int .i64 k ∧ ∃ o', GI o w lb b t rb rl e A w.heap.size (w.heap.size + 1) (gvf P (4 + k)) wr o')
      case atStart => exact ⟨0, by omega, rfl, _, HM2.out⟩
      case round =>
        clear HM2
        obtain ⟨k, hkg, rfl, o', M⟩ := hrel
        have HK : Hid (k + gk = 4) := hkg
        have HM : Hid (GI o w lb b t rb rl e A w.heap.size (w.heap.size + 1) (gvf P (4 + k)) wr o') := M
        clear M
        have hk : k = 0 ∨ k = 1 ∨ k = 2 ∨ k = 3 ∨ k = 4 := by omega
        clear hkg
        obtain ⟨ix0, ix1, ix2, ix3⟩ := idx_four (P 1 0) (P 1 1) (P 1 2) (P 1 3)
        rcases hk with rfl | rfl | rfl | rfl | rfl
        · have hc := HM.out.p.cell 2 (by omega)
          have hz := HM.out.p.fz 2
          go_wp2_with fail
          go_roundg (gk - 1)
          case measure => have := HK.out; omega
          case rel => exact ⟨1, by have := HK.out; omega, by go_num, o', HM.out.set 2 _ (Go.Joins.block_setCell HM.out.p _)⟩
        · have hc := HM.out.p.cell 3 (by omega)
          have hz := HM.out.p.fz 3
          go_wp2_with fail
          go_roundg (gk - 1)
          case measure => have := HK.out; omega
          case rel => exact ⟨2, by have := HK.out; omega, by go_num, o', HM.out.set 3 _ (Go.Joins.block_setCell HM.out.p _)⟩
        · have hc := HM.out.p.cell 6 (by omega)
          have hz := HM.out.p.fz 6
          go_wp2_with fail
          go_roundg (gk - 1)
          case measure => have := HK.out; omega
          case rel => exact ⟨3, by have := HK.out; omega, by go_num, o', HM.out.set 6 _ (Go.Joins.block_setCell HM.out.p _)⟩
        · have hc := HM.out.p.cell 7 (by omega)
          have hz := HM.out.p.fz 7
          go_wp2_with fail
          go_roundg (gk - 1)
          case measure => have := HK.out; omega
          case rel => exact ⟨4, by have := HK.out; omega, by go_num, o', HM.out.set 7 _ (Go.Joins.block_setCell HM.out.p _)⟩
        · go_wp2_with fail
          go_roundg (GK - 1)
          case measure => have := HI.out; omega
          case rel => exact ⟨2, by have := HI.out; omega, by go_num, o', HM.out⟩
    · have hkid := lpKids_any HM.out.ls hS ht (r 2) (P 2 0) (P 2 1) (P 2 2) (P 2 3) (HP.out 2 (by omega))
      obtain ⟨ix0, ix1, ix2, ix3⟩ := idx_four (r 0) (r 1) (r 2) (r 3)
      go_wp2_with fail
      refine hkid.mono ?_
      rintro v w2 ⟨rfl, hkp⟩
      obtain ⟨o2, M2⟩ := HM.out.kp hkp
      have HM2 : Hid (GI o w lb b t rb rl e A w.heap.size (w.heap.size + 1) (gvf P (8 + 0)) w2 o2) := M2
      clear M2 hkp HM ix0 ix1 ix2 ix3
      unfold quad4
      go_wp2_with fail
      go_loopg [20] 4 (fun g s20 wr => ∃ k : Nat, k + g = 4 ∧ s20 = .int .i64 k ∧ ∃ o', GI o w lb b t rb rl e A w.heap.size (w.heap.size + 1) (gvf P (8 + k)) wr o')
      case atStart => exact ⟨0, by omega, rfl, _, HM2.out⟩
      case round =>
        clear HM2
        obtain ⟨k, hkg, rfl, o', M⟩ := hrel
        have HK : Hid (k + gk = 4) := hkg
        have HM : Hid (GI o w lb b t rb rl e A w.heap.size (w.heap.size + 1) (gvf P (8 + k)) wr o') := M
        clear M
        have hk : k = 0 ∨ k = 1 ∨ k = 2 ∨ k = 3 ∨ k = 4 := by omega
        clear hkg
        obtain ⟨ix0, ix1, ix2, ix3⟩ := idx_four (P 2 0) (P 2 1) (P 2 2) (P 2 3)
        rcases hk with rfl | rfl | rfl | rfl | rfl
        · have hc := HM.out.p.cell 8 (by omega)
          have hz := HM.out.p.fz 8
          go_wp2_with fail
          go_roundg (gk - 1)
          case measure => have := HK.out; omega
          case rel => exact ⟨1, by have := HK.out; omega, by go_num, o', HM.out.set 8 _ (Go.Joins.block_setCell HM.out.p _)⟩
        · have hc := HM.out.p.cell 9 (by omega)
          have hz := HM.out.p.fz 9
          go_wp2_with fail
          go_roundg (gk - 1)
          case measure => have := HK.out; omega
          case rel => exact ⟨2, by have := HK.out; omega, by go_num, o', HM.out.set 9 _ (Go.Joins.block_setCell HM.out.p _)⟩
        · have hc := HM.out.p.cell 12 (by omega)
          have hz := HM.out.p.fz 12
          go_wp2_with fail
          go_roundg (gk - 1)
          case measure => have := HK.out; omega
          case rel => exact ⟨3, by have := HK.out; omega, by go_num, o', HM.out.set 12 _ (Go.Joins.block_setCell HM.out.p _)⟩
        · have hc := HM.out.p.cell 13 (by omega)
          have hz := HM.out.p.fz 13
          go_wp2_with fail
          go_roundg (gk - 1)
          case measure => have := HK.out; omega
          case rel => exact ⟨4, by have := HK.out; omega, by go_num, o', HM.out.set 13 _ (Go.Joins.block_setCell HM.out.p _)⟩
        · go_wp2_with fail
          go_roundg (GK - 1)
          case measure => have := HI.out; omega
          case rel => exact ⟨3, by have := HI.out; omega, by go_num, o', HM.out⟩
    · have hkid := lpKids_any HM.out.ls hS ht (r 3) (P 3 0) (P 3 1) (P 3 2) (P 3 3) (HP.out 3 (by omega))
      obtain ⟨ix0, ix1, ix2, ix3⟩ := idx_four (r 0) (r 1) (r 2) (r 3)
      go_wp2_with fail
      refine hkid.mono ?_
      rintro v w2 ⟨rfl, hkp⟩
      obtain ⟨o2, M2⟩ := HM.out.kp hkp
      have HM2 : Hid (GI o w lb b t rb rl e A w.heap.size (w.heap.size + 1) (gvf P (12 + 0)) w2 o2) := M2
      clear M2 hkp HM ix0 ix1 ix2 ix3
      unfold quad4
      go_wp2_with fail
      go_loopg [20] 4 (fun g s20 wr => ∃ k : Nat, k + g = 4 ∧ s20 = .int .i64 k ∧ ∃ o', GI o w lb b t rb rl e A w.heap.size (w.heap.size + 1) (gvf P (12 + k)) wr o')
      case atStart => exact ⟨0, by omega, rfl, _, HM2.out⟩
      case round =>
        clear HM2
        obtain ⟨k, hkg, rfl, o', M⟩ := hrel
        have HK : Hid (k + gk = 4) := hkg
        have HM : Hid (GI o w lb b t rb rl e A w.heap.size (w.heap.size + 1) (gvf P (12 + k)) wr o') := M
        clear M
        have hk : k = 0 ∨ k = 1 ∨ k = 2 ∨ k = 3 ∨ k = 4 := by omega
        clear hkg
        obtain ⟨ix0, ix1, ix2, ix3⟩ := idx_four (P 3 0) (P 3 1) (P 3 2) (P 3 3)
        rcases hk with rfl | rfl | rfl | rfl | rfl
        · have hc := HM.out.p.cell 10 (by omega)
          have hz := HM.out.p.fz 10
          go_wp2_with fail
          go_roundg (gk - 1)
          case measure => have := HK.out; omega
          case rel => exact ⟨1, by have := HK.out; omega, by go_num, o', HM.out.set 10 _ (Go.Joins.block_setCell HM.out.p _)⟩
        · have hc := HM.out.p.cell 11 (by omega)
          have hz := HM.out.p.fz 11
          go_wp2_with fail
          go_roundg (gk - 1)
          case measure => have := HK.out; omega
          case rel => exact ⟨2, by have := HK.out; omega, by go_num, o', HM.out.set 11 _ (Go.Joins.block_setCell HM.out.p _)⟩
        · have hc := HM.out.p.cell 14 (by omega)
          have hz := HM.out.p.fz 14
          go_wp2_with fail
          go_roundg (gk - 1)
          case measure => have := HK.out; omega
          case rel => exact ⟨3, by have := HK.out; omega, by go_num, o', HM.out.set 14 _ (Go.Joins.block_setCell HM.out.p _)⟩
        · have hc := HM.out.p.cell 15 (by omega)
          have hz := HM.out.p.fz 15
          go_wp2_with fail
          go_roundg (gk - 1)
          case measure => have := HK.out; omega
          case rel => exact ⟨4, by have := HK.out; omega, by go_num, o', HM.out.set 15 _ (Go.Joins.block_setCell HM.out.p _)⟩
        · go_wp2_with fail
          go_roundg (GK - 1)
          case measure => have := HI.out; omega
          case rel => exact ⟨4, by have := HI.out; omega, by go_num, o', HM.out⟩
    · have A' : G16 wr w.heap.size (fun _ => 0) := HM.out.a
      have B' : G16 wr (w.heap.size + 1) (gvf P 16) := HM.out.p
      have a0 : wr.cell? ⟨w.heap.size, 0, none⟩ = some (.int .i64 0) := A'.cell 0 (by omega)
      have b0 : wr.cell? ⟨w.heap.size + 1, 0, none⟩ = some (.int .i64 (P 0 0)) := B'.cell 0 (by omega)
      have z0 := A'.fz 0
      have a1 : wr.cell? ⟨w.heap.size, 1, none⟩ = some (.int .i64 0) := A'.cell 1 (by omega)
      have b1 : wr.cell? ⟨w.heap.size + 1, 1, none⟩ = some (.int .i64 (P 0 1)) := B'.cell 1 (by omega)
      have z1 := A'.fz 1
      have a2 : wr.cell? ⟨w.heap.size, 2, none⟩ = some (.int .i64 0) := A'.cell 2 (by omega)
      have b2 : wr.cell? ⟨w.heap.size + 1, 2, none⟩ = some (.int .i64 (P 1 0)) := B'.cell 2 (by omega)
      have z2 := A'.fz 2
      have a3 : wr.cell? ⟨w.heap.size, 3, none⟩ = some (.int .i64 0) := A'.cell 3 (by omega)
      have b3 : wr.cell? ⟨w.heap.size + 1, 3, none⟩ = some (.int .i64 (P 1 1)) := B'.cell 3 (by omega)
      have z3 := A'.fz 3
      have a4 : wr.cell? ⟨w.heap.size, 4, none⟩ = some (.int .i64 0) := A'.cell 4 (by omega)
      have b4 : wr.cell? ⟨w.heap.size + 1, 4, none⟩ = some (.int .i64 (P 0 2)) := B'.cell 4 (by omega)
      have z4 := A'.fz 4
      have a5 : wr.cell? ⟨w.heap.size, 5, none⟩ = some (.int .i64 0) := A'.cell 5 (by omega)
      have b5 : wr.cell? ⟨w.heap.size + 1, 5, none⟩ = some (.int .i64 (P 0 3)) := B'.cell 5 (by omega)
      have z5 := A'.fz 5
      have a6 : wr.cell? ⟨w.heap.size, 6, none⟩ = some (.int .i64 0) := A'.cell 6 (by omega)
      have b6 : wr.cell? ⟨w.heap.size + 1, 6, none⟩ = some (.int .i64 (P 1 2)) := B'.cell 6 (by omega)
      have z6 := A'.fz 6
      have a7 : wr.cell? ⟨w.heap.size, 7, none⟩ = some (.int .i64 0) := A'.cell 7 (by omega)
      have b7 : wr.cell? ⟨w.heap.size + 1, 7, none⟩ = some (.int .i64 (P 1 3)) := B'.cell 7 (by omega)
      have z7 := A'.fz 7
      have a8 : wr.cell? ⟨w.heap.size, 8, none⟩ = some (.int .i64 0) := A'.cell 8 (by omega)
      have b8 : wr.cell? ⟨w.heap.size + 1, 8, none⟩ = some (.int .i64 (P 2 0)) := B'.cell 8 (by omega)
      have z8 := A'.fz 8
      have a9 : wr.cell? ⟨w.heap.size, 9, none⟩ = some (.int .i64 0) := A'.cell 9 (by omega)
      have b9 : wr.cell? ⟨w.heap.size + 1, 9, none⟩ = some (.int .i64 (P 2 1)) := B'.cell 9 (by omega)
      have z9 := A'.fz 9
      have a10 : wr.cell? ⟨w.heap.size, 10, none⟩ = some (.int .i64 0) := A'.cell 10 (by omega)
      have b10 : wr.cell? ⟨w.heap.size + 1, 10, none⟩ = some (.int .i64 (P 3 0)) := B'.cell 10 (by omega)
      have z10 := A'.fz 10
      have a11 : wr.cell? ⟨w.heap.size, 11, none⟩ = some (.int .i64 0) := A'.cell 11 (by omega)
      have b11 : wr.cell? ⟨w.heap.size + 1, 11, none⟩ = some (.int .i64 (P 3 1)) := B'.cell 11 (by omega)
      have z11 := A'.fz 11
      have a12 : wr.cell? ⟨w.heap.size, 12, none⟩ = some (.int .i64 0) := A'.cell 12 (by omega)
      have b12 : wr.cell? ⟨w.heap.size + 1, 12, none⟩ = some (.int .i64 (P 2 2)) := B'.cell 12 (by omega)
      have z12 := A'.fz 12
      have a13 : wr.cell? ⟨w.heap.size, 13, none⟩ = some (.int .i64 0) := A'.cell 13 (by omega)
      have b13 : wr.cell? ⟨w.heap.size + 1, 13, none⟩ = some (.int .i64 (P 2 3)) := B'.cell 13 (by omega)
      have z13 := A'.fz 13
      have a14 : wr.cell? ⟨w.heap.size, 14, none⟩ = some (.int .i64 0) := A'.cell 14 (by omega)
      have b14 : wr.cell? ⟨w.heap.size + 1, 14, none⟩ = some (.int .i64 (P 3 2)) := B'.cell 14 (by omega)
      have z14 := A'.fz 14
      have a15 : wr.cell? ⟨w.heap.size, 15, none⟩ = some (.int .i64 0) := A'.cell 15 (by omega)
      have b15 : wr.cell? ⟨w.heap.size + 1, 15, none⟩ = some (.int .i64 (P 3 3)) := B'.cell 15 (by omega)
      have z15 := A'.fz 15
      clear A' B'
      go_wp2_with fail
      have hQ : G16 ((((((((((((((((wr.setCell ⟨w.heap.size, 0, none⟩ (.int .i64 (P 0 0))).setCell ⟨w.heap.size, 1, none⟩ (.int .i64 (P 0 1))).setCell ⟨w.heap.size, 2, none⟩ (.int .i64 (P 1 0))).setCell ⟨w.heap.size, 3, none⟩ (.int .i64 (P 1 1))).setCell ⟨w.heap.size, 4, none⟩ (.int .i64 (P 0 2))).setCell ⟨w.heap.size, 5, none⟩ (.int .i64 (P 0 3))).setCell ⟨w.heap.size, 6, none⟩ (.int .i64 (P 1 2))).setCell ⟨w.heap.size, 7, none⟩ (.int .i64 (P 1 3))).setCell ⟨w.heap.size, 8, none⟩ (.int .i64 (P 2 0))).setCell ⟨w.heap.size, 9, none⟩ (.int .i64 (P 2 1))).setCell ⟨w.heap.size, 10, none⟩ (.int .i64 (P 3 0))).setCell ⟨w.heap.size, 11, none⟩ (.int .i64 (P 3 1))).setCell ⟨w.heap.size, 12, none⟩ (.int .i64 (P 2 2))).setCell ⟨w.heap.size, 13, none⟩ (.int .i64 (P 2 3))).setCell ⟨w.heap.size, 14, none⟩ (.int .i64 (P 3 2))).setCell ⟨w.heap.size, 15, none⟩ (.int .i64 (P 3 3))) w.heap.size (gvf P 16) := fill16 HM.out.a (gvf P 16)
      have hA := (((((((((((((((((⟨HM.out.ls, HM.out.ch, HM.out.la, HM.out.na⟩ : AI o w lb b t rb rl e A w.heap.size wr o').set 0 (.int .i64 (P 0 0))).set 1 (.int .i64 (P 0 1))).set 2 (.int .i64 (P 1 0))).set 3 (.int .i64 (P 1 1))).set 4 (.int .i64 (P 0 2))).set 5 (.int .i64 (P 0 3))).set 6 (.int .i64 (P 1 2))).set 7 (.int .i64 (P 1 3))).set 8 (.int .i64 (P 2 0))).set 9 (.int .i64 (P 2 1))).set 10 (.int .i64 (P 3 0))).set 11 (.int .i64 (P 3 1))).set 12 (.int .i64 (P 2 2))).set 13 (.int .i64 (P 2 3))).set 14 (.int .i64 (P 3 2))).set 15 (.int .i64 (P 3 3)))
      refine bodyPost_ret (v := gridV (gvf P 16)) ?_ rfl ⟨rfl, ⟨_, hA.ls, hA.ch⟩⟩
      simp [results, Tryz.results98, go_sem, Lib.cell_of_heap (show _ = _ from hQ), gridV, Sx, gvf]
end Go.Proofs.YtofbcngcblleaabGreat.A
