/- put into a list without cells; put into any list in order. -/
import Derived.Test.YtmpjlbafjmocbadGreatDoorPut
namespace Go.Proofs.YtmpjlbafjmocbadGreatDoor
open Go.RowKit Go.Lib Go.Sort

/-- a list in order in a row of its own: nil if there is none -/
def Kept (w : World) (base : Nat) (v : Value) (ys : List (Int × Int)) : Prop := (ys = [] ∧ v = .slice none 0 0) ∨ (ys ≠ [] ∧ w.ownsRow base 45 2 v ys.length (cellsL ys))

theorem Kept.row {w : World} {base : Nat} {v : Value} {ys : List (Int × Int)} (h : Kept w base v ys) : Row w v ys := by
  rcases h with ⟨rfl, rfl⟩ | ⟨hz, hown⟩
  · exact Or.inl ⟨rfl, rfl⟩
  · rcases id hown with ⟨_, ⟨_, h0⟩ | ⟨g, cap, cur, hv, _, _, hc, hm, _⟩⟩
    · exact absurd (List.length_eq_zero_iff.1 h0) hz
    · subst hv
      exact Or.inr ⟨hz, g, 0, cap, rfl, (hown.lt g rfl).2, hc, hm, holdsR_of_owns hown⟩
theorem Kept.block {w w' : World} {base : Nat} {v : Value} {ys : List (Int × Int)} (h : Kept w base v ys) (hb : ∀ g, g < w.heap.size → w'.heap[g]? = w.heap[g]?) : Kept w' base v ys := by
  rcases h with h | ⟨hz, hown⟩
  · exact Or.inl h
  · exact Or.inr ⟨hz, owns_of_block hown (fun g hg => hb g (hown.lt g hg).2)⟩
end Go.Proofs.YtmpjlbafjmocbadGreatDoor
