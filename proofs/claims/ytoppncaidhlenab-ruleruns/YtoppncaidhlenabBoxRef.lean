/- What lifelodgeref.Bounds answers: the least box of a row of cells, or none. -/
import Derived.Test.YtoppncaidhlenabFour
import Derived.Deep.CutRange
import Derived.Deep.LoopGhost
namespace Go.Proofs.Ytoppncaidhlenab
open Go.RowKit

def lo' (f : Nat → Int) : Nat → Int
  | 0 => 0
  | k + 1 => lo f k
def hi' (f : Nat → Int) : Nat → Int
  | 0 => 0
  | k + 1 => hi f k
theorem lo'_one (f : Nat → Int) : lo' f 1 = f 0 := rfl
theorem hi'_one (f : Nat → Int) : hi' f 1 = f 0 := rfl
theorem lo'_lt (f : Nat → Int) (k : Nat) (h : 0 < k) (hl : f k < lo' f k) : lo' f (k + 1) = f k := by
  cases k with
  | zero => omega
  | succ k => simp only [lo', lo] at *; omega
theorem lo'_ge (f : Nat → Int) (k : Nat) (h : 0 < k) (hl : ¬ f k < lo' f k) : lo' f (k + 1) = lo' f k := by
  cases k with
  | zero => omega
  | succ k => simp only [lo', lo] at *; omega
theorem hi'_lt (f : Nat → Int) (k : Nat) (h : 0 < k) (hl : hi' f k < f k) : hi' f (k + 1) = f k := by
  cases k with
  | zero => omega
  | succ k => simp only [hi', hi] at *; omega
theorem hi'_ge (f : Nat → Int) (k : Nat) (h : 0 < k) (hl : ¬ hi' f k < f k) : hi' f (k + 1) = hi' f k := by
  cases k with
  | zero => omega
  | succ k => simp only [hi', hi] at *; omega

theorem zero_born (w : World) : Below w.heap.size w ((w.alloc (.cells #[.int .i64 0, .int .i64 0, .int .i64 0, .int .i64 0] 30)).alloc (.cells #[.int .i64 0, .int .i64 0, .int .i64 0, .int .i64 0] 30)) ∧
    Four ((w.alloc (.cells #[.int .i64 0, .int .i64 0, .int .i64 0, .int .i64 0] 30)).alloc (.cells #[.int .i64 0, .int .i64 0, .int .i64 0, .int .i64 0] 30)) w.heap.size 0 0 0 0 ∧
    Four ((w.alloc (.cells #[.int .i64 0, .int .i64 0, .int .i64 0, .int .i64 0] 30)).alloc (.cells #[.int .i64 0, .int .i64 0, .int .i64 0, .int .i64 0] 30)) (w.heap.size + 1) 0 0 0 0 := by
  refine ⟨(((Below.refl _ _).alloc (Nat.le_refl _) _).alloc (by simp) _), ((Four.born w 0 0 0 0 30).alloc _), ?_⟩
  have hf := (Four.born (w.alloc (Obj.cells #[Value.int IntKind.i64 0, Value.int IntKind.i64 0, Value.int IntKind.i64 0, Value.int IntKind.i64 0] 30)) 0 0 0 0 30)
  simpa using hf

/-- in the midst of a round: the answer's block, the box's block, the cell that is looked at -/
structure Mid (w wc : World) (g : Nat) (x y a0 a1 a2 a3 : Int) : Prop where
  bel : Below w.heap.size w wc
  z : Four wc w.heap.size 0 0 0 0
  q : Four wc (w.heap.size + 1) a0 a1 a2 a3
  cx : wc.cell? ⟨g, 0, none⟩ = some (.int .i64 x)
  cy : wc.cell? ⟨g, 1, none⟩ = some (.int .i64 y)
  lt : g < wc.heap.size
  gt : w.heap.size + 1 < g
theorem Mid.set0 {w wc : World} {g : Nat} {x y a0 a1 a2 a3 : Int} (h : Mid w wc g x y a0 a1 a2 a3) (v : Int) : Mid w (wc.setCell ⟨w.heap.size + 1, 0, none⟩ (.int .i64 v)) g x y v a1 a2 a3 := by
  have hg := h.gt
  refine ⟨h.bel.setCell (by simp) _, h.z.other (by simp) _, h.q.set0 v, ?_, ?_, by simpa [World.setCell] using h.lt, hg⟩
  · rw [World.cell?_setCell_other _ _ _ _ (by intro e; have := congrArg Addr.block e; simp at this; omega)]; exact h.cx
  · rw [World.cell?_setCell_other _ _ _ _ (by simp)]; exact h.cy
theorem Mid.set1 {w wc : World} {g : Nat} {x y a0 a1 a2 a3 : Int} (h : Mid w wc g x y a0 a1 a2 a3) (v : Int) : Mid w (wc.setCell ⟨w.heap.size + 1, 1, none⟩ (.int .i64 v)) g x y a0 v a2 a3 := by
  have hg := h.gt
  refine ⟨h.bel.setCell (by simp) _, h.z.other (by simp) _, h.q.set1 v, ?_, ?_, by simpa [World.setCell] using h.lt, hg⟩
  · rw [World.cell?_setCell_other _ _ _ _ (by simp)]; exact h.cx
  · rw [World.cell?_setCell_other _ _ _ _ (by intro e; have := congrArg Addr.block e; simp at this; omega)]; exact h.cy
theorem Mid.set2 {w wc : World} {g : Nat} {x y a0 a1 a2 a3 : Int} (h : Mid w wc g x y a0 a1 a2 a3) (v : Int) : Mid w (wc.setCell ⟨w.heap.size + 1, 2, none⟩ (.int .i64 v)) g x y a0 a1 v a3 := by
  have hg := h.gt
  refine ⟨h.bel.setCell (by simp) _, h.z.other (by simp) _, h.q.set2 v, ?_, ?_, by simpa [World.setCell] using h.lt, hg⟩
  · rw [World.cell?_setCell_other _ _ _ _ (by simp)]; exact h.cx
  · rw [World.cell?_setCell_other _ _ _ _ (by simp)]; exact h.cy
theorem Mid.set3 {w wc : World} {g : Nat} {x y a0 a1 a2 a3 : Int} (h : Mid w wc g x y a0 a1 a2 a3) (v : Int) : Mid w (wc.setCell ⟨w.heap.size + 1, 3, none⟩ (.int .i64 v)) g x y a0 a1 a2 v := by
  have hg := h.gt
  refine ⟨h.bel.setCell (by simp) _, h.z.other (by simp) _, h.q.set3 v, ?_, ?_, by simpa [World.setCell] using h.lt, hg⟩
  · rw [World.cell?_setCell_other _ _ _ _ (by simp)]; exact h.cx
  · rw [World.cell?_setCell_other _ _ _ _ (by simp)]; exact h.cy
theorem Mid.start {w wr : World} {x y a0 a1 a2 a3 : Int} (hbel : Below w.heap.size w wr) (hz : Four wr w.heap.size 0 0 0 0) (hq : Four wr (w.heap.size + 1) a0 a1 a2 a3) :
    Mid w (wr.alloc (.cells #[.int .i64 x, .int .i64 y] 53)) wr.heap.size x y a0 a1 a2 a3 := by
  have h1 := hq.lt
  refine ⟨hbel.alloc (by omega) _, hz.alloc _, hq.alloc _, ?_, ?_, by simp, h1⟩
  · rw [World.cell?_alloc_new]; rfl
  · rw [World.cell?_alloc_new]; rfl

end Go.Proofs.Ytoppncaidhlenab
