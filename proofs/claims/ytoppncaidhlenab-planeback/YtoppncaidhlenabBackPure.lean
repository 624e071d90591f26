/- PlaneBack: what moves do to lists in order and to their boxes, in plain words. -/
import Derived.Test.YtoppncaidhlenabMade
namespace Go.Proofs.Ytoppncaidhlenab
open Go.RowKit Go.Lib Go.Sort

theorem lo_le (f : Nat → Int) : ∀ k j, j ≤ k → lo f k ≤ f j
  | 0, j, h => by have : j = 0 := by omega
                  subst this; exact Int.le_refl _
  | k + 1, j, h => by
    have h1 := lo_le f k
    rw [lo]
    by_cases hj : j ≤ k
    · have := h1 j hj; omega
    · have : j = k + 1 := by omega
      subst this; omega
theorem lo_at (f : Nat → Int) : ∀ k, ∃ j, j ≤ k ∧ lo f k = f j
  | 0 => ⟨0, Nat.le_refl _, rfl⟩
  | k + 1 => by
    obtain ⟨j, hj, e⟩ := lo_at f k
    rw [lo]
    by_cases h : lo f k ≤ f (k + 1)
    · exact ⟨j, by omega, by rw [← e]; omega⟩
    · exact ⟨k + 1, Nat.le_refl _, by omega⟩
theorem hi_le (f : Nat → Int) : ∀ k j, j ≤ k → f j ≤ hi f k
  | 0, j, h => by have : j = 0 := by omega
                  subst this; exact Int.le_refl _
  | k + 1, j, h => by
    have h1 := hi_le f k
    rw [hi]
    by_cases hj : j ≤ k
    · have := h1 j hj; omega
    · have : j = k + 1 := by omega
      subst this; omega
theorem hi_at (f : Nat → Int) : ∀ k, ∃ j, j ≤ k ∧ hi f k = f j
  | 0 => ⟨0, Nat.le_refl _, rfl⟩
  | k + 1 => by
    obtain ⟨j, hj, e⟩ := hi_at f k
    rw [hi]
    by_cases h : f (k + 1) ≤ hi f k
    · exact ⟨j, by omega, by rw [← e]; omega⟩
    · exact ⟨k + 1, Nat.le_refl _, by omega⟩
theorem lo_eq (f g : Nat → Int) (m n : Nat) (d : Int) (h1 : ∀ j, j ≤ m → ∃ i, i ≤ n ∧ g i = f j + d) (h2 : ∀ i, i ≤ n → ∃ j, j ≤ m ∧ g i = f j + d) : lo g n = lo f m + d := by
  obtain ⟨j, hj, ej⟩ := lo_at f m
  obtain ⟨i, hi, ei⟩ := h1 j hj
  have a := lo_le g n i hi
  obtain ⟨i', hi', ei'⟩ := lo_at g n
  obtain ⟨j', hj', ej'⟩ := h2 i' hi'
  have b := lo_le f m j' hj'
  omega
theorem hi_eq (f g : Nat → Int) (m n : Nat) (d : Int) (h1 : ∀ j, j ≤ m → ∃ i, i ≤ n ∧ g i = f j + d) (h2 : ∀ i, i ≤ n → ∃ j, j ≤ m ∧ g i = f j + d) : hi g n = hi f m + d := by
  obtain ⟨j, hj, ej⟩ := hi_at f m
  obtain ⟨i, hi, ei⟩ := h1 j hj
  have a := hi_le g n i hi
  obtain ⟨i', hi', ei'⟩ := hi_at g n
  obtain ⟨j', hj', ej'⟩ := h2 i' hi'
  have b := hi_le f m j' hj'
  omega

theorem get_mem (l : List (Int × Int)) (j : Nat) (h : j < l.length) : l[j]! ∈ l := by
  rw [getElem!_pos l j h]; exact List.getElem_mem h
theorem mem_get {l : List (Int × Int)} {p : Int × Int} (h : p ∈ l) : ∃ i, i < l.length ∧ l[i]! = p := by
  obtain ⟨i, hi, e⟩ := List.getElem_of_mem h
  exact ⟨i, hi, by rw [getElem!_pos l i hi, e]⟩

theorem someL_in (zs : List (Int × Int)) (p : Int × Int) (h : p ∈ someL zs) : -549755813888 ≤ p.1 ∧ p.1 < 549755813888 ∧ -549755813888 ≤ p.2 ∧ p.2 < 549755813888 := by
  simp only [someL, List.mem_map] at h
  obtain ⟨q, _, rfl⟩ := h
  have h1 := nearI_bound q.1
  have h2 := nearI_bound q.2
  exact ⟨h1.1, h1.2, h2.1, h2.2⟩

theorem mv_tidy (dx dy : Int) {ys : List (Int × Int)} (h : Tidy ys) : Tidy (ys.map (mv dx dy)) := by
  unfold Tidy at *
  rw [List.pairwise_map]
  refine h.imp ?_
  intro a b hab
  unfold ahead at *
  simp only [mv]
  omega

theorem mv_back (dx dy : Int) (ys : List (Int × Int)) : (ys.map (mv dx dy)).map (mv (-dx) (-dy)) = ys := by
  rw [List.map_map]
  conv => rhs; rw [← List.map_id ys]
  congr 1
  funext p
  simp only [Function.comp, mv, id]
  ext
  · simp; omega
  · simp; omega

/-- what holds of the moved list -/
theorem moved {zs ys : List (Int × Int)} {dx dy : Int} (hx0 : 0 ≤ dx) (hx1 : dx < 549755813888) (hy0 : 0 ≤ dy) (hy1 : dy < 549755813888) (ht : Tidied (someL zs) ys) :
    shiftF ys (tcode (someL zs)) dx dy = (0, ys.map (mv dx dy)) ∧ tcode (ys.map (mv dx dy)) = 0 ∧
    (∀ ts, Tidied (ys.map (mv dx dy)) ts → shiftF ts (tcode (ys.map (mv dx dy))) (-dx) (-dy) = (0, ys)) := by
  have hc := someL_code zs
  have hin : ∀ p ∈ ys, -549755813888 ≤ p.1 ∧ p.1 < 549755813888 ∧ -549755813888 ≤ p.2 ∧ p.2 < 549755813888 := fun p hp => someL_in zs p ((ht.2 p).1 hp).1
  have hlen : ys.length ≤ 4096 := tidied_short ht hc
  have hnear : (ys.map (mv dx dy)).any farP = false := by
    rw [List.any_eq_false]
    intro p hp
    rw [List.mem_map] at hp
    obtain ⟨q, hq, rfl⟩ := hp
    have := hin q hq
    have h1 : farI (q.1 + dx) = false := by unfold farI; simp; omega
    have h2 : farI (q.2 + dy) = false := by unfold farI; simp; omega
    simp [mv, farP, h1, h2]
  have hA : tcode (ys.map (mv dx dy)) = 0 := tcode_zero.2 ⟨by rw [List.length_map]; exact hlen, hnear⟩
  refine ⟨?_, hA, fun ts hts => ?_⟩
  · rw [hc]
    exact shiftF_ok (by simp [far2]; omega) hnear
  · have e : ts = ys.map (mv dx dy) := tidy_unique _ _ hts.1 (mv_tidy dx dy ht.1) fun p => by rw [hts.2 p, hA]; simp
    rw [e, hA]
    rw [shiftF_ok (by simp [far2]; omega) (by rw [mv_back]; exact tidied_near ht), mv_back]

/-- the box of the moved list -/
theorem box_moved {L ys : List (Int × Int)} {dx dy : Int} (hm : ∀ p, p ∈ ys ↔ p ∈ L) :
    ((ys.map (mv dx dy)).length = 0 ↔ L.length = 0) ∧ (0 < L.length →
    lo (fun j => ((ys.map (mv dx dy))[j]!).1) ((ys.map (mv dx dy)).length - 1) = lo (fun j => (L[j]!).1) (L.length - 1) + dx ∧
    lo (fun j => ((ys.map (mv dx dy))[j]!).2) ((ys.map (mv dx dy)).length - 1) = lo (fun j => (L[j]!).2) (L.length - 1) + dy ∧
    hi (fun j => ((ys.map (mv dx dy))[j]!).1) ((ys.map (mv dx dy)).length - 1) = hi (fun j => (L[j]!).1) (L.length - 1) + dx ∧
    hi (fun j => ((ys.map (mv dx dy))[j]!).2) ((ys.map (mv dx dy)).length - 1) = hi (fun j => (L[j]!).2) (L.length - 1) + dy) := by
  generalize hA : ys.map (mv dx dy) = A
  have hAm : ∀ p, p ∈ A ↔ ∃ q, q ∈ L ∧ mv dx dy q = p := fun p => by
    rw [← hA, List.mem_map]
    exact ⟨fun ⟨q, h1, h2⟩ => ⟨q, (hm q).1 h1, h2⟩, fun ⟨q, h1, h2⟩ => ⟨q, (hm q).2 h1, h2⟩⟩
  have hl : A.length = 0 ↔ L.length = 0 := by
    constructor
    · intro h
      cases L with
      | nil => rfl
      | cons q L =>
        have := (hAm (mv dx dy q)).2 ⟨q, by simp, rfl⟩
        have e : A = [] := List.eq_nil_of_length_eq_zero h
        rw [e] at this
        simp at this
    · intro h
      cases A with
      | nil => rfl
      | cons p A =>
        obtain ⟨q, hq, _⟩ := (hAm p).1 (by simp)
        have e : L = [] := List.eq_nil_of_length_eq_zero h
        rw [e] at hq
        simp at hq
  refine ⟨hl, fun h0 => ?_⟩
  have hA0 : 0 < A.length := by
    rcases Nat.eq_zero_or_pos A.length with h | h
    · have := hl.1 h; omega
    · exact h
  have go : ∀ j, j ≤ L.length - 1 → ∃ i, i ≤ A.length - 1 ∧ A[i]! = mv dx dy L[j]! := fun j hj => by
    obtain ⟨i, hi, e⟩ := mem_get ((hAm (mv dx dy L[j]!)).2 ⟨_, get_mem L j (by omega), rfl⟩)
    exact ⟨i, by omega, e⟩
  have come : ∀ i, i ≤ A.length - 1 → ∃ j, j ≤ L.length - 1 ∧ A[i]! = mv dx dy L[j]! := fun i hi => by
    obtain ⟨q, hq, e⟩ := (hAm A[i]!).1 (get_mem A i (by omega))
    obtain ⟨j, hj, e2⟩ := mem_get hq
    exact ⟨j, by omega, by rw [← e, e2]⟩
  have go1 : ∀ j, j ≤ L.length - 1 → ∃ i, i ≤ A.length - 1 ∧ (A[i]!).1 = (L[j]!).1 + dx := fun j hj => by
    obtain ⟨i, hi, e⟩ := go j hj; exact ⟨i, hi, by rw [e]; rfl⟩
  have go2 : ∀ j, j ≤ L.length - 1 → ∃ i, i ≤ A.length - 1 ∧ (A[i]!).2 = (L[j]!).2 + dy := fun j hj => by
    obtain ⟨i, hi, e⟩ := go j hj; exact ⟨i, hi, by rw [e]; rfl⟩
  have come1 : ∀ i, i ≤ A.length - 1 → ∃ j, j ≤ L.length - 1 ∧ (A[i]!).1 = (L[j]!).1 + dx := fun i hi => by
    obtain ⟨j, hj, e⟩ := come i hi; exact ⟨j, hj, by rw [e]; rfl⟩
  have come2 : ∀ i, i ≤ A.length - 1 → ∃ j, j ≤ L.length - 1 ∧ (A[i]!).2 = (L[j]!).2 + dy := fun i hi => by
    obtain ⟨j, hj, e⟩ := come i hi; exact ⟨j, hj, by rw [e]; rfl⟩
  exact ⟨lo_eq _ _ _ _ _ go1 come1, lo_eq _ _ _ _ _ go2 come2, hi_eq _ _ _ _ _ go1 come1, hi_eq _ _ _ _ _ go2 come2⟩
end Go.Proofs.Ytoppncaidhlenab
