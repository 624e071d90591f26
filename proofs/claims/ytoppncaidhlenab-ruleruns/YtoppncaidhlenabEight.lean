/- The document's count of live neighbours, place by place, is the number of live cells beside. -/
import Derived.Test.YtoppncaidhlenabLaws
namespace Go.Proofs.Ytoppncaidhlenab
open Go.RowKit

/-- how many of the first places around a cell, itself aside, are in a list -/
def eightTo (ys : List (Int × Int)) (p : Int × Int) (m : Nat) : Nat := ((((nine p).take m).filter (fun q => !decide (q = p))).filter (fun q => decide (q ∈ ys))).length
theorem eightTo_zero (ys : List (Int × Int)) (p : Int × Int) : eightTo ys p 0 = 0 := by simp [eightTo]
theorem eightTo_succ (ys : List (Int × Int)) (p q : Int × Int) (m : Nat) (h : (nine p)[m]? = some q) : eightTo ys p (m + 1) = eightTo ys p m + if q ≠ p ∧ q ∈ ys then 1 else 0 := by
  have e : (nine p).take (m + 1) = (nine p).take m ++ [q] := by
    obtain ⟨hm, he⟩ := List.getElem?_eq_some_iff.1 h
    rw [List.take_succ_eq_append_getElem hm, he]
  unfold eightTo
  rw [e, List.filter_append, List.filter_append, List.length_append]
  by_cases h1 : q = p
  · simp [h1]
  · by_cases h2 : q ∈ ys
    · simp [h1, h2]
    · simp [h1, h2]
theorem eightTo_le (ys : List (Int × Int)) (p : Int × Int) (m : Nat) : eightTo ys p m ≤ m := by
  unfold eightTo
  refine Nat.le_trans (List.length_filter_le _ _) (Nat.le_trans (List.length_filter_le _ _) ?_)
  rw [List.length_take]
  omega

theorem filter_split {c : Int × Int} {ys : List (Int × Int)} (hc : ¬ c ∈ ys) : ∀ qs : List (Int × Int), (qs.filter (fun q => decide (q ∈ c :: ys))).length = (qs.filter (fun q => decide (q = c))).length + (qs.filter (fun q => decide (q ∈ ys))).length
  | [] => rfl
  | q :: r => by
    have ih := filter_split hc r
    simp only [List.filter_cons]
    by_cases h1 : q = c
    · subst h1
      simp [hc] at ih ⊢
      omega
    · by_cases h2 : q ∈ ys
      · simp [h1, h2] at ih ⊢
        omega
      · simp [h1, h2] at ih ⊢
        exact ih
theorem beside_comm (p c : Int × Int) : beside p c ↔ beside c p := by
  unfold beside
  constructor
  · rintro ⟨h1, h2⟩; exact ⟨fun e => h1 e.symm, by omega⟩
  · rintro ⟨h1, h2⟩; exact ⟨fun e => h1 e.symm, by omega⟩

theorem eight_is : ∀ (ys : List (Int × Int)) (p : Int × Int), ys.Nodup → (eightTo ys p 9 : Int) = around ys p
  | [], p, _ => by simp [eightTo, around]
  | c :: r, p, h => by
    rw [List.nodup_cons] at h
    have ih := eight_is r p h.2
    have h1 := total_one p c
    rw [opsTo, total, total_ones] at h1
    unfold eightTo at ih ⊢
    rw [filter_split h.1, around, ← ih]
    have h2 : (if beside p c then (1 : Int) else 0) = if beside c p then 1 else 0 := by
      by_cases hb : beside p c
      · rw [if_pos hb, if_pos ((beside_comm p c).1 hb)]
      · rw [if_neg hb, if_neg (fun k => hb ((beside_comm p c).2 k))]
    rw [h2, ← h1]
    simp

/-- any two lists of what lives next have the same code and are tidied alike -/
theorem next_same {b l : Int} {ys out out2 : List (Int × Int)} (h : NextSet b l ys out) (k : NextSet b l ys out2) : tcode out = tcode out2 ∧ ∀ ts, Tidied out ts → Tidied out2 ts := by
  have hm : ∀ p, p ∈ out ↔ p ∈ out2 := fun p => (h.2 p).trans (k.2 p).symm
  have hp := perm_of h.1 k.1 hm
  have hc : tcode out = tcode out2 := by
    unfold tcode
    rw [hp.length_eq, hp.any_eq]
  exact ⟨hc, fun ts ht => ⟨ht.1, fun p => by rw [ht.2 p, hm p, hc]⟩⟩
end Go.Proofs.Ytoppncaidhlenab
