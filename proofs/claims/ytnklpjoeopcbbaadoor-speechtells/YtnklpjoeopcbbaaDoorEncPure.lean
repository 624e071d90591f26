/- The text of a list in order, with its box: in plain words. -/
import Derived.Test.YtnklpjoeopcbbaaDoorRleHead
import Derived.Test.YtnklpjoeopcbbaaDoorShift
import Derived.Test.YtnklpjoeopcbbaaDoorBoxLaw
import Derived.Test.YtnklpjoeopcbbaaDoorReads
namespace Go.Proofs.YtnklpjoeopcbbaaDoor
open Go.RowKit

theorem lo_le (f : Nat → Int) : ∀ k j, j ≤ k → lo f k ≤ f j
  | 0, j, h => by have : j = 0 := by omega
                  subst this; exact Int.le_refl _
  | k + 1, j, h => by
    have h1 := lo_le f k
    rw [lo]
    by_cases hj : j ≤ k
    · have := h1 j hj; omega
    · have : j = k + 1 := by omega
      subst this; omega
theorem lo_at (f : Nat → Int) : ∀ k, ∃ j, j ≤ k ∧ lo f k = f j
  | 0 => ⟨0, Nat.le_refl _, rfl⟩
  | k + 1 => by
    obtain ⟨j, hj, e⟩ := lo_at f k
    rw [lo]
    by_cases h : lo f k ≤ f (k + 1)
    · exact ⟨j, by omega, by rw [← e]; omega⟩
    · exact ⟨k + 1, Nat.le_refl _, by omega⟩
theorem hi_le (f : Nat → Int) : ∀ k j, j ≤ k → f j ≤ hi f k
  | 0, j, h => by have : j = 0 := by omega
                  subst this; exact Int.le_refl _
  | k + 1, j, h => by
    have h1 := hi_le f k
    rw [hi]
    by_cases hj : j ≤ k
    · have := h1 j hj; omega
    · have : j = k + 1 := by omega
      subst this; omega
theorem hi_at (f : Nat → Int) : ∀ k, ∃ j, j ≤ k ∧ hi f k = f j
  | 0 => ⟨0, Nat.le_refl _, rfl⟩
  | k + 1 => by
    obtain ⟨j, hj, e⟩ := hi_at f k
    rw [hi]
    by_cases h : f (k + 1) ≤ hi f k
    · exact ⟨j, by omega, by rw [← e]; omega⟩
    · exact ⟨k + 1, Nat.le_refl _, by omega⟩

def loX (ys : List (Int × Int)) : Int := lo' (fun j => (ys[j]!).1) ys.length
def loY (ys : List (Int × Int)) : Int := lo' (fun j => (ys[j]!).2) ys.length
def hiX (ys : List (Int × Int)) : Int := hi' (fun j => (ys[j]!).1) ys.length
def hiY (ys : List (Int × Int)) : Int := hi' (fun j => (ys[j]!).2) ys.length
/-- width and height -/
def wOf (ys : List (Int × Int)) : Int := if ys.length = 0 then 0 else hiX ys - loX ys + 1
def hOf (ys : List (Int × Int)) : Int := if ys.length = 0 then 0 else hiY ys - loY ys + 1
/-- a list's text -/
def encT (ys : List (Int × Int)) (b l : Int) : List UInt8 := headT (wOf ys) (hOf ys) (textL b l) ++ bodyT (loX ys) (loY ys) ys
/-- what Encode answers, of the list in order and Tidy's error -/
def encF (ys : List (Int × Int)) (tc b l : Int) : List UInt8 × Int := if tc ≠ 0 then ([], tc) else if goodB b l = true then (encT ys b l, 0) else ([], 3)

theorem mem_box (ys : List (Int × Int)) (p : Int × Int) (hp : p ∈ ys) : loX ys ≤ p.1 ∧ loY ys ≤ p.2 ∧ p.1 ≤ hiX ys ∧ p.2 ≤ hiY ys := by
  obtain ⟨j, hj, e⟩ := List.getElem_of_mem hp
  have e2 : ys[j]! = p := by rw [getElem!_pos ys j hj, e]
  unfold loX loY hiX hiY
  obtain ⟨n, hn⟩ : ∃ n, ys.length = n + 1 := ⟨ys.length - 1, by omega⟩
  rw [hn]
  simp only [lo', hi']
  have h1 := lo_le (fun j => (ys[j]!).1) n j (by omega)
  have h2 := lo_le (fun j => (ys[j]!).2) n j (by omega)
  have h3 := hi_le (fun j => (ys[j]!).1) n j (by omega)
  have h4 := hi_le (fun j => (ys[j]!).2) n j (by omega)
  simp only [e2] at h1 h2 h3 h4
  exact ⟨h1, h2, h3, h4⟩
theorem box_mem (ys : List (Int × Int)) (h : ys.length ≠ 0) : (∃ p ∈ ys, p.1 = loX ys) ∧ (∃ p ∈ ys, p.2 = loY ys) ∧ (∃ p ∈ ys, p.1 = hiX ys) ∧ ∃ p ∈ ys, p.2 = hiY ys := by
  unfold loX loY hiX hiY
  obtain ⟨n, hn⟩ : ∃ n, ys.length = n + 1 := ⟨ys.length - 1, by omega⟩
  rw [hn]
  simp only [lo', hi']
  have go : ∀ j, j ≤ n → ys[j]! ∈ ys := fun j hj => by rw [getElem!_pos ys j (by omega)]; exact List.getElem_mem _
  obtain ⟨a, ha, ea⟩ := lo_at (fun j => (ys[j]!).1) n
  obtain ⟨b, hb, eb⟩ := lo_at (fun j => (ys[j]!).2) n
  obtain ⟨c, hc, ec⟩ := hi_at (fun j => (ys[j]!).1) n
  obtain ⟨d, hd, ed⟩ := hi_at (fun j => (ys[j]!).2) n
  exact ⟨⟨_, go a ha, ea.symm⟩, ⟨_, go b hb, eb.symm⟩, ⟨_, go c hc, ec.symm⟩, ⟨_, go d hd, ed.symm⟩⟩
/-- the box of cells that are near -/
theorem box_near (ys : List (Int × Int)) (h : ys.any farP = false) : -1099511627776 < loX ys ∧ loX ys < 1099511627776 ∧ -1099511627776 < loY ys ∧ loY ys < 1099511627776 ∧ -1099511627776 < hiX ys ∧ hiX ys < 1099511627776 ∧ -1099511627776 < hiY ys ∧ hiY ys < 1099511627776 := by
  by_cases h0 : ys.length = 0
  · unfold loX loY hiX hiY
    rw [h0]
    simp [lo', hi']
  · obtain ⟨⟨p, hp, ep⟩, ⟨q, hq, eq⟩, ⟨r, hr, er⟩, ⟨s, hs, es⟩⟩ := box_mem ys h0
    have h1 := bounds_of h hp
    have h2 := bounds_of h hq
    have h3 := bounds_of h hr
    have h4 := bounds_of h hs
    omega
/-- a list in order is told in its box -/
theorem told_box (ys : List (Int × Int)) (ht : Tidy ys) (W H : Int) (hW : ∀ p ∈ ys, p.1 - loX ys < W) (hH : ∀ p ∈ ys, p.2 - loY ys < H) : Told (loX ys) (loY ys) W H (loX ys) (loY ys) ys :=
  ⟨ht, fun p hp => ⟨(mem_box ys p hp).1, hW p hp, hH p hp⟩, fun p hp => by have := mem_box ys p hp; omega, by omega⟩
theorem wOf_nonneg (ys : List (Int × Int)) : 0 ≤ wOf ys ∧ 0 ≤ hOf ys := by
  unfold wOf hOf
  by_cases h0 : ys.length = 0
  · simp [h0]
  · rw [if_neg h0, if_neg h0]
    obtain ⟨⟨p, hp, ep⟩, ⟨q, hq, eq⟩, _⟩ := box_mem ys h0
    have h1 := mem_box ys p hp
    have h2 := mem_box ys q hq
    omega
theorem wOf_le (ys : List (Int × Int)) (h : ys.any farP = false) : wOf ys ≤ 4398046511104 ∧ hOf ys ≤ 4398046511104 := by
  have := box_near ys h
  unfold wOf hOf
  by_cases h0 : ys.length = 0
  · simp [h0]
  · rw [if_neg h0, if_neg h0]; omega
theorem textL_length (b l : Int) : (textL b l).length ≤ 30 := by
  have h1 := digitsL_length b 9
  have h2 := digitsL_length l 9
  simp [textL]
  omega
end Go.Proofs.YtnklpjoeopcbbaaDoor
