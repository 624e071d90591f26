/- What lifelodgeref.Bounds answers: the least box of a row of cells, or none. -/
import Derived.Test.YtmpjlbafjmocbadGreatDoorFour
import Derived.Deep.CutRange
import Derived.Deep.LoopGhost
namespace Go.Proofs.YtmpjlbafjmocbadGreatDoor
open Go.RowKit

def lo' (f : Nat → Int) : Nat → Int
  | 0 => 0
  | k + 1 => lo f k
def hi' (f : Nat → Int) : Nat → Int
  | 0 => 0
  | k + 1 => hi f k
theorem lo'_one (f : Nat → Int) : lo' f 1 = f 0 := rfl
theorem hi'_one (f : Nat → Int) : hi' f 1 = f 0 := rfl
theorem lo'_lt (f : Nat → Int) (k : Nat) (h : 0 < k) (hl : f k < lo' f k) : lo' f (k + 1) = f k := by
  cases k with
  | zero => omega
  | succ k => simp only [lo', lo] at *; omega
theorem lo'_ge (f : Nat → Int) (k : Nat) (h : 0 < k) (hl : ¬ f k < lo' f k) : lo' f (k + 1) = lo' f k := by
  cases k with
  | zero => omega
  | succ k => simp only [lo', lo] at *; omega
theorem hi'_lt (f : Nat → Int) (k : Nat) (h : 0 < k) (hl : hi' f k < f k) : hi' f (k + 1) = f k := by
  cases k with
  | zero => omega
  | succ k => simp only [hi', hi] at *; omega
theorem hi'_ge (f : Nat → Int) (k : Nat) (h : 0 < k) (hl : ¬ hi' f k < f k) : hi' f (k + 1) = hi' f k := by
  cases k with
  | zero => omega
  | succ k => simp only [hi', hi] at *; omega

theorem zero_born (w : World) : Below w.heap.size w ((w.alloc (.cells #[.int .i64 0, .int .i64 0, .int .i64 0, .int .i64 0] 36)).alloc (.cells #[.int .i64 0, .int .i64 0, .int .i64 0, .int .i64 0] 36)) ∧
    Four ((w.alloc (.cells #[.int .i64 0, .int .i64 0, .int .i64 0, .int .i64 0] 36)).alloc (.cells #[.int .i64 0, .int .i64 0, .int .i64 0, .int .i64 0] 36)) w.heap.size 0 0 0 0 ∧
    Four ((w.alloc (.cells #[.int .i64 0, .int .i64 0, .int .i64 0, .int .i64 0] 36)).alloc (.cells #[.int .i64 0, .int .i64 0, .int .i64 0, .int .i64 0] 36)) (w.heap.size + 1) 0 0 0 0 := by
  refine ⟨(((Below.refl _ _).alloc (Nat.le_refl _) _).alloc (by simp) _), ((Four.born w 0 0 0 0 36).alloc _), ?_⟩
  have hf := (Four.born (w.alloc (Obj.cells #[Value.int IntKind.i64 0, Value.int IntKind.i64 0, Value.int IntKind.i64 0, Value.int IntKind.i64 0] 36)) 0 0 0 0 36)
  simpa using hf

/-- in the midst of a round: the answer's block, the box's block, the cell that is looked at -/
structure Mid (w wc : World) (g : Nat) (x y a0 a1 a2 a3 : Int) : Prop where
  bel : Below w.heap.size w wc
  z : Four wc w.heap.size 0 0 0 0
  q : Four wc (w.heap.size + 1) a0 a1 a2 a3
  cx : wc.cell? ⟨g, 0, none⟩ = some (.int .i64 x)
  cy : wc.cell? ⟨g, 1, none⟩ = some (.int .i64 y)
  lt : g < wc.heap.size
  gt : w.heap.size + 1 < g
end Go.Proofs.YtmpjlbafjmocbadGreatDoor
