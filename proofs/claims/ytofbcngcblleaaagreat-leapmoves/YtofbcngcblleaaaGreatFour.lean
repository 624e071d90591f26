/- Small words for the walks over cells: a row of pairs of numbers, a block of four numbers, the least and greatest of the first ones. -/
import Derived.Test.YtofbcngcblleaaaGreatRows
import Derived.WalkKit
import Derived.WalkSpells
import Derived.WalkLawsBesides
import Derived.RegionTactic
import Derived.BigRegion
namespace Go.Proofs.YtofbcngcblleaaaGreat
open Go.RowKit

def lo (f : Nat → Int) : Nat → Int
  | 0 => f 0
  | k + 1 => min (lo f k) (f (k + 1))
def hi (f : Nat → Int) : Nat → Int
  | 0 => f 0
  | k + 1 => max (hi f k) (f (k + 1))

/-- the cells of n pairs of numbers, from a place on -/
def Pairs (w : World) (b off n : Nat) (X Y : Nat → Int) : Prop :=
  ∀ j, j < n → w.cell? ⟨b, off + j * 2, none⟩ = some (.int .i64 (X j)) ∧ w.cell? ⟨b, off + j * 2 + 1, none⟩ = some (.int .i64 (Y j))


/-- a block of four numbers, free to be written -/
structure Four (w : World) (g : Nat) (a b c d : Int) : Prop where
  lt : g < w.heap.size
  c0 : w.cell? ⟨g, 0, none⟩ = some (.int .i64 a)
  c1 : w.cell? ⟨g, 1, none⟩ = some (.int .i64 b)
  c2 : w.cell? ⟨g, 2, none⟩ = some (.int .i64 c)
  c3 : w.cell? ⟨g, 3, none⟩ = some (.int .i64 d)
  f0 : w.frozen? ⟨g, 0, none⟩ = false
  f1 : w.frozen? ⟨g, 1, none⟩ = false
  f2 : w.frozen? ⟨g, 2, none⟩ = false
  f3 : w.frozen? ⟨g, 3, none⟩ = false


theorem Four.drew {w : World} {g : Nat} {a b c d : Int} (h : Four w g a b c d) : Four w.drew g a b c d := ⟨h.lt, h.c0, h.c1, h.c2, h.c3, h.f0, h.f1, h.f2, h.f3⟩
theorem Four.alloc {w : World} {g : Nat} {a b c d : Int} (h : Four w g a b c d) (o : Obj) : Four (w.alloc o) g a b c d := by
  have hl : (⟨g, 0, none⟩ : Addr).block < w.heap.size := h.lt
  refine ⟨by simp; have := h.lt; omega, ?_, ?_, ?_, ?_, ?_, ?_, ?_, ?_⟩
  · rw [World.cell?_alloc_past _ _ _ h.lt]; exact h.c0
  · rw [World.cell?_alloc_past _ _ _ h.lt]; exact h.c1
  · rw [World.cell?_alloc_past _ _ _ h.lt]; exact h.c2
  · rw [World.cell?_alloc_past _ _ _ h.lt]; exact h.c3
  all_goals rw [World.frozen?_of_block (w := w) (Below.heap_alloc _ _ _ h.lt)]
  · exact h.f0
  · exact h.f1
  · exact h.f2
  · exact h.f3
theorem Four.born (w : World) (a b c d : Int) (t : TypeId) : Four (w.alloc (.cells #[.int .i64 a, .int .i64 b, .int .i64 c, .int .i64 d] t)) w.heap.size a b c d := by
  refine ⟨by simp, ?_, ?_, ?_, ?_, ?_, ?_, ?_, ?_⟩
  all_goals first | (rw [World.cell?_alloc_new]; rfl) | simp [World.frozen?_alloc_new]
theorem Four.other {w : World} {g : Nat} {a b c d : Int} (h : Four w g a b c d) {p : Addr} (hp : p.block ≠ g) (v : Value) : Four (w.setCell p v) g a b c d := by
  have hne : ∀ i, p ≠ (⟨g, i, none⟩ : Addr) := fun i e => hp (by rw [e])
  refine ⟨by simpa [World.setCell] using h.lt, ?_, ?_, ?_, ?_, ?_, ?_, ?_, ?_⟩
  · rw [World.cell?_setCell_other _ _ _ _ (hne 0)]; exact h.c0
  · rw [World.cell?_setCell_other _ _ _ _ (hne 1)]; exact h.c1
  · rw [World.cell?_setCell_other _ _ _ _ (hne 2)]; exact h.c2
  · rw [World.cell?_setCell_other _ _ _ _ (hne 3)]; exact h.c3
  all_goals rw [World.frozen?_setCell]
  · exact h.f0
  · exact h.f1
  · exact h.f2
  · exact h.f3
theorem Four.set0 {w : World} {g : Nat} {a b c d : Int} (h : Four w g a b c d) (v : Int) : Four (w.setCell ⟨g, 0, none⟩ (.int .i64 v)) g v b c d := by
  refine ⟨by simpa [World.setCell] using h.lt, World.cell?_setCell_same _ _ _ h.c0, ?_, ?_, ?_, ?_, ?_, ?_, ?_⟩
  · rw [World.cell?_setCell_other _ _ _ _ (by simp)]; exact h.c1
  · rw [World.cell?_setCell_other _ _ _ _ (by simp)]; exact h.c2
  · rw [World.cell?_setCell_other _ _ _ _ (by simp)]; exact h.c3
  all_goals rw [World.frozen?_setCell]
  · exact h.f0
  · exact h.f1
  · exact h.f2
  · exact h.f3
theorem Four.set1 {w : World} {g : Nat} {a b c d : Int} (h : Four w g a b c d) (v : Int) : Four (w.setCell ⟨g, 1, none⟩ (.int .i64 v)) g a v c d := by
  refine ⟨by simpa [World.setCell] using h.lt, ?_, World.cell?_setCell_same _ _ _ h.c1, ?_, ?_, ?_, ?_, ?_, ?_⟩
  · rw [World.cell?_setCell_other _ _ _ _ (by simp)]; exact h.c0
  · rw [World.cell?_setCell_other _ _ _ _ (by simp)]; exact h.c2
  · rw [World.cell?_setCell_other _ _ _ _ (by simp)]; exact h.c3
  all_goals rw [World.frozen?_setCell]
  · exact h.f0
  · exact h.f1
  · exact h.f2
  · exact h.f3
theorem Four.set2 {w : World} {g : Nat} {a b c d : Int} (h : Four w g a b c d) (v : Int) : Four (w.setCell ⟨g, 2, none⟩ (.int .i64 v)) g a b v d := by
  refine ⟨by simpa [World.setCell] using h.lt, ?_, ?_, World.cell?_setCell_same _ _ _ h.c2, ?_, ?_, ?_, ?_, ?_⟩
  · rw [World.cell?_setCell_other _ _ _ _ (by simp)]; exact h.c0
  · rw [World.cell?_setCell_other _ _ _ _ (by simp)]; exact h.c1
  · rw [World.cell?_setCell_other _ _ _ _ (by simp)]; exact h.c3
  all_goals rw [World.frozen?_setCell]
  · exact h.f0
  · exact h.f1
  · exact h.f2
  · exact h.f3
theorem Four.set3 {w : World} {g : Nat} {a b c d : Int} (h : Four w g a b c d) (v : Int) : Four (w.setCell ⟨g, 3, none⟩ (.int .i64 v)) g a b c v := by
  refine ⟨by simpa [World.setCell] using h.lt, ?_, ?_, ?_, World.cell?_setCell_same _ _ _ h.c3, ?_, ?_, ?_, ?_⟩
  · rw [World.cell?_setCell_other _ _ _ _ (by simp)]; exact h.c0
  · rw [World.cell?_setCell_other _ _ _ _ (by simp)]; exact h.c1
  · rw [World.cell?_setCell_other _ _ _ _ (by simp)]; exact h.c2
  all_goals rw [World.frozen?_setCell]
  · exact h.f0
  · exact h.f1
  · exact h.f2
  · exact h.f3

end Go.Proofs.YtofbcngcblleaaaGreat
