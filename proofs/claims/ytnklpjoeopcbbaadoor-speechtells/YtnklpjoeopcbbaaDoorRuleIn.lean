/- A rule in a block of the call's own. -/
import Derived.Test.YtnklpjoeopcbbaaDoorText
namespace Go.Proofs.YtnklpjoeopcbbaaDoor
open Go.RowKit

/-- a rule in its block, free to be written -/
def RuleIn (w : World) (x y : Int) (wr : World) : Prop :=
  wr.cell? ⟨w.heap.size, 0, none⟩ = some (.int .i64 x) ∧ wr.cell? ⟨w.heap.size, 1, none⟩ = some (.int .i64 y) ∧ wr.frozen? ⟨w.heap.size, 0, none⟩ = false ∧ wr.frozen? ⟨w.heap.size, 1, none⟩ = false ∧ w.heap.size < wr.heap.size ∧ Below w.heap.size w wr
theorem RuleIn.born (w : World) (x y : Int) (t : TypeId) : RuleIn w x y (w.alloc (.cells #[.int .i64 x, .int .i64 y] t)) :=
  ⟨by rw [World.cell?_alloc_new]; rfl, by rw [World.cell?_alloc_new]; rfl, by simp [World.frozen?_alloc_new], by simp [World.frozen?_alloc_new], by simp, (Below.refl _ _).alloc (Nat.le_refl _) _⟩
theorem RuleIn.go {w w1 w2 : World} {x y : Int} (h : RuleIn w x y w1) (hb : Below w1.heap.size w1 w2) : RuleIn w x y w2 := by
  obtain ⟨h1, h2, h3, h4, h5, h6⟩ := h
  refine ⟨(hb.cell (p := ⟨w.heap.size, 0, none⟩) h5).trans h1, (hb.cell (p := ⟨w.heap.size, 1, none⟩) h5).trans h2, ?_, ?_, Nat.lt_of_lt_of_le h5 hb.size, h6.trans (hb.mono (Nat.le_of_lt h5))⟩
  · rw [hb.frozen (p := ⟨w.heap.size, 0, none⟩) h5]; exact h3
  · rw [hb.frozen (p := ⟨w.heap.size, 1, none⟩) h5]; exact h4
theorem RuleIn.set {w w1 : World} {x y : Int} (h : RuleIn w x y w1) (x' y' : Int) : RuleIn w x' y' ((w1.setCell ⟨w.heap.size, 0, none⟩ (.int .i64 x')).setCell ⟨w.heap.size, 1, none⟩ (.int .i64 y')) := by
  obtain ⟨h1, h2, h3, h4, h5, h6⟩ := h
  have s1 : (w1.setCell ⟨w.heap.size, 0, none⟩ (.int .i64 x')).cell? ⟨w.heap.size, 1, none⟩ = some (.int .i64 y) := by rw [World.cell?_setCell_other _ _ _ _ (by simp)]; exact h2
  refine ⟨?_, World.cell?_setCell_same _ _ _ s1, ?_, ?_, by simpa [World.setCell] using h5, (h6.setCell (Nat.le_refl _) _).setCell (Nat.le_refl _) _⟩
  · rw [World.cell?_setCell_other _ _ _ _ (by simp)]; exact World.cell?_setCell_same _ _ _ h1
  · rw [World.frozen?_setCell, World.frozen?_setCell]; exact h3
  · rw [World.frozen?_setCell, World.frozen?_setCell]; exact h4
theorem below_drewN' (w : World) (q : Nat) : Below w.heap.size w (w.drewN q) := ⟨rfl, rfl, rfl, Nat.le_refl _, fun _ _ => rfl⟩
end Go.Proofs.YtnklpjoeopcbbaaDoor
