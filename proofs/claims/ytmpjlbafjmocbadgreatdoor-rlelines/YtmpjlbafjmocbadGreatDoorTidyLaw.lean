/- PlaneTidies: both Tidy answer the same of every list. The walk of the law itself. -/
import Derived.Test.YtmpjlbafjmocbadGreatDoorRefTidy
namespace Go.Proofs.YtmpjlbafjmocbadGreatDoor
open Go.RowKit Go.Lib Go.Sort

/-- the error's number that Tidy tells of a list -/
def tcode (zs : List (Int × Int)) : Int := if 4096 < zs.length then 5 else if zs.any farP = true then 3 else 0
/-- the list that Tidy answers -/
def Tidied (zs ys : List (Int × Int)) : Prop := Tidy ys ∧ ∀ p, p ∈ ys ↔ p ∈ zs ∧ tcode zs = 0
theorem Tidied.unique {zs ys ts : List (Int × Int)} (h : Tidied zs ys) (k : Tidied zs ts) : ys = ts := tidy_unique _ _ h.1 k.1 fun p => (h.2 p).trans (k.2 p).symm

theorem tidyOut_row {zs : List (Int × Int)} {w : World} {base : Nat} {u : Value} {code : Int} (h : TidyOut zs w base u code) : code = tcode zs ∧ ∃ ys, Tidied zs ys ∧ ORow w base u ys := by
  rcases h with ⟨h1, rfl, rfl⟩ | ⟨h1, h2, rfl, rfl⟩ | ⟨h1, h2, rfl, ys, h3, h4, h5⟩
  · have e : tcode zs = 5 := by simp [tcode, h1]
    exact ⟨e.symm, [], ⟨List.Pairwise.nil, fun p => by simp [e]⟩, Or.inl ⟨rfl, rfl⟩⟩
  · have e : tcode zs = 3 := by rw [tcode, if_neg (by omega), if_pos h2]
    exact ⟨e.symm, [], ⟨List.Pairwise.nil, fun p => by simp [e]⟩, Or.inl ⟨rfl, rfl⟩⟩
  · have e : tcode zs = 0 := by rw [tcode, if_neg (by omega), if_neg (by rw [h2]; simp)]
    exact ⟨e.symm, ys, ⟨h3, fun p => by rw [h4 p, e]; simp⟩, h5⟩
theorem tidyOutR_row {zs : List (Int × Int)} {w w' : World} {e : Ending} (h : TidyOutR zs w e w') : ∃ u, e = .returned (.tuple #[u, .int .i64 (tcode zs)]) ∧ Below w.heap.size w w' ∧ ∃ ys, Tidied zs ys ∧ Row w' u ys := by
  obtain ⟨u, code, he, hb, h⟩ := h
  rcases h with ⟨h1, rfl, rfl⟩ | ⟨h1, h2, rfl, rfl⟩ | ⟨h1, h2, rfl, ys, h3, h4, h5⟩
  · have e : tcode zs = 5 := by simp [tcode, h1]
    exact ⟨_, by rw [he, e], hb, [], ⟨List.Pairwise.nil, fun p => by simp [e]⟩, Or.inl ⟨rfl, rfl⟩⟩
  · have e : tcode zs = 3 := by rw [tcode, if_neg (by omega), if_pos h2]
    exact ⟨_, by rw [he, e], hb, [], ⟨List.Pairwise.nil, fun p => by simp [e]⟩, Or.inl ⟨rfl, rfl⟩⟩
  · have e : tcode zs = 0 := by rw [tcode, if_neg (by omega), if_neg (by rw [h2]; simp)]
    exact ⟨_, by rw [he, e], hb, ys, ⟨h3, fun p => by rw [h4 p, e]; simp⟩, h5⟩

/-- plane.Tidy, told in one form -/
theorem tidy_told (v : Value) (zs : List (Int × Int)) (w : World) (h : Row w v zs) :
    Calls Tryz.prog 11 #[v] w fun e w' => ∃ u ys, e = .returned (.tuple #[u, .int .i64 (tcode zs)]) ∧ Below w.heap.size w w' ∧ Tidied zs ys ∧ ORow w' w.heap.size u ys :=
  (tidy_any v zs w h).mono fun e w' ⟨u, code, he, hb, ho⟩ => by
    obtain ⟨hc, ys, ht, hr⟩ := tidyOut_row ho
    exact ⟨u, ys, by rw [he, hc], hb, ht, hr⟩
theorem RRow.below {w w' : World} {v : Value} {zs : List (Int × Int)} (h : RRow w v zs) (hb : Below w.heap.size w w') : RRow w' v zs := IsRow.below h hb

/-- a list of one cell, made by the law itself -/
theorem one_row (w : World) (x y : Int) : Row (w.alloc (.cells #[.int .i64 x, .int .i64 y] 45)) (.slice (some ⟨w.heap.size, 0, none⟩) 1 1) [(x, y)] := by
  refine Or.inr ⟨by simp, w.heap.size, 0, 1, rfl, by simp, by simp, by unfold maxLen; simp, fun j hj => ?_⟩
  have : j = 0 := by simpa using hj
  subst this
  simp
theorem tidied_one (ys : List (Int × Int)) (h : Tidied [(1, 0)] ys) : ys = [(1, 0)] :=
  h.unique ⟨List.pairwise_singleton _ _, fun p => by
    have : tcode [(1, 0)] = 0 := by decide
    rw [this]; simp⟩

end Go.Proofs.YtmpjlbafjmocbadGreatDoor
