/- Boxes around lists of cells, and the least level. -/
import Derived.Test.YtkcngkcfcokboaaSqBuild
namespace Go.Proofs.Ytkcngkcfcokboaa.A
open Go.RowKit Go.Maps

theorem lo_spec (f : Nat → Int) : ∀ n, (∀ j, j ≤ n → lo f n ≤ f j) ∧ ∃ j, j ≤ n ∧ lo f n = f j
  | 0 => ⟨fun j hj => by obtain rfl : j = 0 := (by omega); exact Int.le_refl _, 0, Nat.le_refl _, rfl⟩
  | n + 1 => by
    obtain ⟨h1, k, hk, h2⟩ := lo_spec f n
    refine ⟨fun j hj => ?_, ?_⟩
    · show min _ _ ≤ _
      rcases Nat.lt_or_ge j (n + 1) with h | h
      · have := h1 j (by omega); omega
      · obtain rfl : j = n + 1 := by omega
        omega
    · show ∃ j, j ≤ n + 1 ∧ min _ _ = _
      by_cases h : lo f n ≤ f (n + 1)
      · exact ⟨k, by omega, by rw [Int.min_eq_left h, h2]⟩
      · exact ⟨n + 1, Nat.le_refl _, Int.min_eq_right (by omega)⟩
theorem hi_spec (f : Nat → Int) : ∀ n, (∀ j, j ≤ n → f j ≤ hi f n) ∧ ∃ j, j ≤ n ∧ hi f n = f j
  | 0 => ⟨fun j hj => by obtain rfl : j = 0 := (by omega); exact Int.le_refl _, 0, Nat.le_refl _, rfl⟩
  | n + 1 => by
    obtain ⟨h1, k, hk, h2⟩ := hi_spec f n
    refine ⟨fun j hj => ?_, ?_⟩
    · show _ ≤ max _ _
      rcases Nat.lt_or_ge j (n + 1) with h | h
      · have := h1 j (by omega); omega
      · obtain rfl : j = n + 1 := by omega
        omega
    · show ∃ j, j ≤ n + 1 ∧ max _ _ = _
      by_cases h : f (n + 1) ≤ hi f n
      · exact ⟨k, by omega, by rw [Int.max_eq_left h, h2]⟩
      · exact ⟨n + 1, Nat.le_refl _, Int.max_eq_right (by omega)⟩
/-- the least box around cells -/
structure IsBox (ys : List (Int × Int)) (x0 y0 x1 y1 : Int) : Prop where
  all : ∀ p ∈ ys, x0 ≤ p.1 ∧ y0 ≤ p.2 ∧ p.1 ≤ x1 ∧ p.2 ≤ y1
  a0 : ∃ p ∈ ys, p.1 = x0
  b0 : ∃ p ∈ ys, p.2 = y0
  a1 : ∃ p ∈ ys, p.1 = x1
  b1 : ∃ p ∈ ys, p.2 = y1
theorem IsBox.unique {ys : List (Int × Int)} {x0 y0 x1 y1 u0 v0 u1 v1 : Int} (h : IsBox ys x0 y0 x1 y1) (k : IsBox ys u0 v0 u1 v1) : x0 = u0 ∧ y0 = v0 ∧ x1 = u1 ∧ y1 = v1 := by
  obtain ⟨p, hp, e0⟩ := h.a0
  obtain ⟨q, hq, e1⟩ := h.b0
  obtain ⟨r, hr, e2⟩ := h.a1
  obtain ⟨s, hs, e3⟩ := h.b1
  obtain ⟨p', hp', f0⟩ := k.a0
  obtain ⟨q', hq', f1⟩ := k.b0
  obtain ⟨r', hr', f2⟩ := k.a1
  obtain ⟨s', hs', f3⟩ := k.b1
  have := k.all p hp; have := k.all q hq; have := k.all r hr; have := k.all s hs
  have := h.all p' hp'; have := h.all q' hq'; have := h.all r' hr'; have := h.all s' hs'
  omega
theorem IsBox.same {ys zs : List (Int × Int)} {x0 y0 x1 y1 : Int} (h : IsBox ys x0 y0 x1 y1) (k : ∀ p, p ∈ ys ↔ p ∈ zs) : IsBox zs x0 y0 x1 y1 := by
  refine ⟨fun p hp => h.all p ((k p).2 hp), ?_, ?_, ?_, ?_⟩
  · obtain ⟨p, hp, e⟩ := h.a0; exact ⟨p, (k p).1 hp, e⟩
  · obtain ⟨p, hp, e⟩ := h.b0; exact ⟨p, (k p).1 hp, e⟩
  · obtain ⟨p, hp, e⟩ := h.a1; exact ⟨p, (k p).1 hp, e⟩
  · obtain ⟨p, hp, e⟩ := h.b1; exact ⟨p, (k p).1 hp, e⟩
theorem mem_at {ys : List (Int × Int)} {j : Nat} (h : j < ys.length) : ys[j]! ∈ ys := by
  rw [getElem!_pos ys j h]; exact List.getElem_mem _
theorem at_mem {ys : List (Int × Int)} {p : Int × Int} (h : p ∈ ys) : ∃ j, j < ys.length ∧ ys[j]! = p := by
  obtain ⟨j, hj, e⟩ := List.getElem_of_mem h
  exact ⟨j, hj, by rw [getElem!_pos ys j hj]; exact e⟩
/-- what Bounds tells of a list that is not empty -/
theorem box_is {ys : List (Int × Int)} (h : ys ≠ []) : IsBox ys (lo' (fun j => (ys[j]!).1) ys.length) (lo' (fun j => (ys[j]!).2) ys.length) (hi' (fun j => (ys[j]!).1) ys.length) (hi' (fun j => (ys[j]!).2) ys.length) := by
  obtain ⟨m, hm⟩ : ∃ m, ys.length = m + 1 := ⟨ys.length - 1, by have := List.length_pos_iff.2 h; omega⟩
  have e1 : ∀ f : Nat → Int, lo' f ys.length = lo f m := fun f => by rw [hm]; rfl
  have e2 : ∀ f : Nat → Int, hi' f ys.length = hi f m := fun f => by rw [hm]; rfl
  rw [e1, e1, e2, e2]
  refine ⟨fun p hp => ?_, ?_, ?_, ?_, ?_⟩
  · obtain ⟨j, hj, rfl⟩ := at_mem hp
    exact ⟨(lo_spec (fun j => (ys[j]!).1) m).1 j (by omega), (lo_spec (fun j => (ys[j]!).2) m).1 j (by omega), (hi_spec (fun j => (ys[j]!).1) m).1 j (by omega), (hi_spec (fun j => (ys[j]!).2) m).1 j (by omega)⟩
  · obtain ⟨_, j, hj, e⟩ := lo_spec (fun j => (ys[j]!).1) m; exact ⟨ys[j]!, mem_at (by omega), e.symm⟩
  · obtain ⟨_, j, hj, e⟩ := lo_spec (fun j => (ys[j]!).2) m; exact ⟨ys[j]!, mem_at (by omega), e.symm⟩
  · obtain ⟨_, j, hj, e⟩ := hi_spec (fun j => (ys[j]!).1) m; exact ⟨ys[j]!, mem_at (by omega), e.symm⟩
  · obtain ⟨_, j, hj, e⟩ := hi_spec (fun j => (ys[j]!).2) m; exact ⟨ys[j]!, mem_at (by omega), e.symm⟩

/-- a root of the level has all these places -/
def fitsLv (n : Nat) (ys : List (Int × Int)) : Prop := ∀ p ∈ ys, -(halfN n : Int) ≤ p.1 ∧ p.1 < halfN n ∧ -(halfN n : Int) ≤ p.2 ∧ p.2 < halfN n
/-- a list's box: at 0, 0 if it is empty -/
def BoxOr (ys : List (Int × Int)) (x0 y0 x1 y1 : Int) : Prop := (ys = [] ∧ x0 = 0 ∧ y0 = 0 ∧ x1 = 0 ∧ y1 = 0) ∨ IsBox ys x0 y0 x1 y1
theorem reach_fits {ys : List (Int × Int)} {x0 y0 x1 y1 : Int} (h : BoxOr ys x0 y0 x1 y1) {n : Nat} (hn : n ≤ 62) : reachB n x0 y0 x1 y1 = true ↔ fitsLv n ys := by
  have hp := (halfN_bd n hn).2
  unfold reachB fitsLv
  rw [decide_eq_true_iff]
  rcases h with ⟨rfl, rfl, rfl, rfl, rfl⟩ | h
  · constructor
    · intro _ p hp; cases hp
    · intro _; omega
  · constructor
    · intro k p hp
      have := h.all p hp
      omega
    · intro k
      obtain ⟨p, hp, e0⟩ := h.a0
      obtain ⟨q, hq, e1⟩ := h.b0
      obtain ⟨r, hr, e2⟩ := h.a1
      obtain ⟨s, hs, e3⟩ := h.b1
      have := k p hp; have := k q hq; have := k r hr; have := k s hs
      omega
/-- the least level from 2 on -/
structure LeastLv (N : Nat) (ys : List (Int × Int)) : Prop where
  two : 2 ≤ N
  fits : fitsLv N ys
  least : ∀ j, 2 ≤ j → j < N → ¬ fitsLv j ys
theorem LeastLv.unique {N M : Nat} {ys : List (Int × Int)} (h : LeastLv N ys) (k : LeastLv M ys) : N = M := by
  rcases Nat.lt_trichotomy N M with e | e | e
  · exact absurd h.fits (k.least N h.two e)
  · exact e
  · exact absurd k.fits (h.least M k.two e)
theorem least_from (ys : List (Int × Int)) : ∀ (d M : Nat), 2 ≤ M → fitsLv (M + d) ys → (∀ j, 2 ≤ j → j < M → ¬ fitsLv j ys) → ∃ N, N ≤ M + d ∧ LeastLv N ys
  | 0, M, h2, hf, hl => ⟨M, Nat.le_refl _, h2, hf, hl⟩
  | d + 1, M, h2, hf, hl => by
    by_cases h : fitsLv M ys
    · exact ⟨M, by omega, h2, h, hl⟩
    · obtain ⟨N, hN, h3⟩ := least_from ys d (M + 1) (by omega) (by rw [show M + 1 + d = M + (d + 1) by omega]; exact hf) (fun j h4 h5 => by
        rcases Nat.lt_or_ge j M with h6 | h6
        · exact hl j h4 h6
        · obtain rfl : j = M := by omega
          exact h)
      exact ⟨N, by omega, h3⟩
theorem least_exists {ys : List (Int × Int)} (h : ∀ p ∈ ys, farP p = false) : ∃ N, N ≤ 41 ∧ LeastLv N ys := by
  refine least_from ys 39 2 (by omega) (fun p hp => ?_) (fun j h1 h2 => by omega)
  have := h p hp
  have e : (halfN (2 + 39) : Int) = 1099511627776 := by decide
  rw [e]
  unfold farP farI at this
  simp only [Bool.or_eq_false_iff, decide_eq_false_iff_not] at this
  omega
theorem fits_mono {n m : Nat} {ys : List (Int × Int)} (h : fitsLv n ys) (hm : n ≤ m) : fitsLv m ys := fun p hp => by
  have hpw : halfN n ≤ halfN m := Nat.pow_le_pow_right (by omega) (by omega)
  have := h p hp
  omega
theorem tidied_far {zs ys : List (Int × Int)} (h : Tidied zs ys) : ∀ p ∈ ys, farP p = false := fun p hp => by
  obtain ⟨h1, h2⟩ := (h.2 p).1 hp
  unfold tcode at h2
  split at h2
  · omega
  · split at h2
    · omega
    · rename_i hn
      simp only [Bool.not_eq_true, List.any_eq_false] at hn
      simpa using hn p h1
theorem tidy_nodup {ys : List (Int × Int)} (h : Tidy ys) : ys.Nodup := by
  refine List.Pairwise.imp (fun {a b} hab e => ?_) h
  subst e
  unfold ahead at hab
  omega
theorem tidied_len {zs ys : List (Int × Int)} (h : Tidied zs ys) : ys.length ≤ zs.length := by
  have nd : ys.Nodup := tidy_nodup h.1
  exact nd.length_le_of_subset fun p hp => ((h.2 p).1 hp).1
end Go.Proofs.Ytkcngkcfcokboaa.A
