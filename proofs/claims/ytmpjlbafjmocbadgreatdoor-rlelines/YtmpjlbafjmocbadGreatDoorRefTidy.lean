/- What lifelodgeref.Tidy answers. -/
import Derived.Test.YtmpjlbafjmocbadGreatDoorPutNil
namespace Go.Proofs.YtmpjlbafjmocbadGreatDoor
open Go.RowKit Go.Lib Go.Sort

/-- a slice's value that reads as a list of cells, wherever it lies -/
def RRow (w : World) (v : Value) (zs : List (Int × Int)) : Prop := IsRow w v zs.length (fun j => (zs[j]!).1) (fun j => (zs[j]!).2)

/-- what Tidy answers of a list -/
def TidyOutR (zs : List (Int × Int)) (w : World) (e : Ending) (w' : World) : Prop :=
  ∃ u code, e = .returned (.tuple #[u, .int .i64 code]) ∧ Below w.heap.size w w' ∧
    ((4096 < zs.length ∧ code = 5 ∧ u = .slice none 0 0) ∨ (zs.length ≤ 4096 ∧ zs.any farP = true ∧ code = 3 ∧ u = .slice none 0 0) ∨
    (zs.length ≤ 4096 ∧ zs.any farP = false ∧ code = 0 ∧ ∃ ys, Tidy ys ∧ (∀ p, p ∈ ys ↔ p ∈ zs) ∧ Row w' u ys))

theorem any_true_of {zs : List (Int × Int)} {k : Nat} (hk : k < zs.length) (h : farP zs[k]! = true) : zs.any farP = true := by
  rw [List.any_eq_true]
  exact ⟨zs[k]!, by rw [getElem!_pos zs k hk]; exact List.getElem_mem hk, h⟩
theorem any_false_of {zs : List (Int × Int)} (h : ∀ j, j < zs.length → farP zs[j]! = false) : zs.any farP = false := by
  rw [List.any_eq_false]
  intro p hp
  obtain ⟨j, hj, e⟩ := List.getElem_of_mem hp
  have := h j hj
  rw [getElem!_pos zs j hj, e] at this
  simp [this]

end Go.Proofs.YtmpjlbafjmocbadGreatDoor
