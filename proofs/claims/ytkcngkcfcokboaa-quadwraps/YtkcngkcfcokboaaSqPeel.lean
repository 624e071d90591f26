/- Peel: plain words. -/
import Derived.Test.YtkcngkcfcokboaaSqStep
import Derived.Test.YtkcngkcfcokboaaSqBoxRoot
namespace Go.Proofs.Ytkcngkcfcokboaa.A
open Go.RowKit Go.Maps Go.ChangeMaps Go.WideElems

/-- the cells of four quarters -/
def fourC (l : List Th) (n : Nat) (q0 q1 q2 q3 : Int) : List (Int × Int) := cellsF l n q0 ++ shiftL ((2 ^ n : Nat) : Int) 0 (cellsF l n q1) ++ shiftL 0 ((2 ^ n : Nat) : Int) (cellsF l n q2) ++ shiftL ((2 ^ n : Nat) : Int) ((2 ^ n : Nat) : Int) (cellsF l n q3)
theorem peel_step {l : List Th} (hG : Good l) {n : Nat} {q0 q1 q2 q3 : Int} {S : List (Int × Int)} (g0 : glevel l q0 = some ((n + 1 : Nat) : Int)) (g1 : glevel l q1 = some ((n + 1 : Nat) : Int)) (g2 : glevel l q2 = some ((n + 1 : Nat) : Int)) (g3 : glevel l q3 = some ((n + 1 : Nat) : Int))
    (hV : ∀ p : Int × Int, p ∈ fourC l (n + 1) q0 q1 q2 q3 ↔ (p.1 - ((2 ^ (n + 1) : Nat) : Int), p.2 - ((2 ^ (n + 1) : Nat) : Int)) ∈ S) (hS : ∀ s ∈ S, -((2 ^ n : Nat) : Int) ≤ s.1 ∧ s.1 < ((2 ^ n : Nat) : Int) ∧ -((2 ^ n : Nat) : Int) ≤ s.2 ∧ s.2 < ((2 ^ n : Nat) : Int)) :
    ∀ p : Int × Int, p ∈ fourC l n (thAt l q0).p3 (thAt l q1).p2 (thAt l q2).p1 (thAt l q3).p0 ↔ (p.1 - ((2 ^ n : Nat) : Int), p.2 - ((2 ^ n : Nat) : Int)) ∈ S := by
  obtain ⟨x0, hx0, _, _, _, a0, a1, a2, a3⟩ := thing_of hG g0
  obtain ⟨x1, hx1, _, _, _, b0, b1, b2, b3⟩ := thing_of hG g1
  obtain ⟨x2, hx2, _, _, _, c0, c1, c2, c3⟩ := thing_of hG g2
  obtain ⟨x3, hx3, _, _, _, d0, d1, d2, d3⟩ := thing_of hG g3
  rw [thAt_eq hx0, thAt_eq hx1, thAt_eq hx2, thAt_eq hx3]
  have i0 := cells_in hG (n + 1) q0 g0
  have i1 := cells_in hG (n + 1) q1 g1
  have i2 := cells_in hG (n + 1) q2 g2
  have i3 := cells_in hG (n + 1) q3 g3
  have j0 := cells_in hG n _ a3
  have j1 := cells_in hG n _ b2
  have j2 := cells_in hG n _ c1
  have j3 := cells_in hG n _ d0
  have e0 := fun c h1 h2 h3 h4 => (cells_quarter hG hx0 a0 a1 a2 a3 c h1 h2 h3 h4).2.2.2
  have e1 := fun c h1 h2 h3 h4 => (cells_quarter hG hx1 b0 b1 b2 b3 c h1 h2 h3 h4).2.2.1
  have e2 := fun c h1 h2 h3 h4 => (cells_quarter hG hx2 c0 c1 c2 c3 c h1 h2 h3 h4).2.1
  have e3 := fun c h1 h2 h3 h4 => (cells_quarter hG hx3 d0 d1 d2 d3 c h1 h2 h3 h4).1
  have hpw : ((2 ^ (n + 1) : Nat) : Int) = ((2 ^ n : Nat) : Int) + ((2 ^ n : Nat) : Int) := by rw [Nat.pow_succ]; omega
  rw [hpw] at hV i0 i1 i2 i3
  have hz : (0 : Int) < ((2 ^ n : Nat) : Int) := by have := Nat.two_pow_pos n; omega
  unfold fourC at hV ⊢
  rw [hpw] at hV
  simp only [List.mem_append, mem_shift] at hV ⊢
  generalize ((2 ^ n : Nat) : Int) = z at *
  intro p
  constructor
  · rintro (((h | h) | h) | h)
    · have r := j0 _ h
      have := (hV (p.1 + z, p.2 + z)).1 (Or.inl (Or.inl (Or.inl ((e0 p r.1 r.2.1 r.2.2.1 r.2.2.2).2 h))))
      simp only at this
      rw [show p.1 + z - (z + z) = p.1 - z by omega, show p.2 + z - (z + z) = p.2 - z by omega] at this
      exact this
    · have r := j1 _ h
      simp only at r
      have k := (e1 (p.1 - z, p.2 - 0) r.1 r.2.1 r.2.2.1 r.2.2.2).2 h
      simp only at k
      have := (hV (p.1 + z, p.2 + z)).1 (Or.inl (Or.inl (Or.inr (by simp only; rw [show p.1 + z - (z + z) = p.1 - z by omega, show p.2 + z - 0 = p.2 - 0 + z by omega]; exact k))))
      simp only at this
      rw [show p.1 + z - (z + z) = p.1 - z by omega, show p.2 + z - (z + z) = p.2 - z by omega] at this
      exact this
    · have r := j2 _ h
      simp only at r
      have k := (e2 (p.1 - 0, p.2 - z) r.1 r.2.1 r.2.2.1 r.2.2.2).2 h
      simp only at k
      have := (hV (p.1 + z, p.2 + z)).1 (Or.inl (Or.inr (by simp only; rw [show p.2 + z - (z + z) = p.2 - z by omega, show p.1 + z - 0 = p.1 - 0 + z by omega]; exact k)))
      simp only at this
      rw [show p.1 + z - (z + z) = p.1 - z by omega, show p.2 + z - (z + z) = p.2 - z by omega] at this
      exact this
    · have r := j3 _ h
      simp only at r
      have k := (e3 (p.1 - z, p.2 - z) r.1 r.2.1 r.2.2.1 r.2.2.2).2 h
      simp only at k
      have := (hV (p.1 + z, p.2 + z)).1 (Or.inr (by simp only; rw [show p.1 + z - (z + z) = p.1 - z by omega, show p.2 + z - (z + z) = p.2 - z by omega]; exact k))
      simp only at this
      rw [show p.1 + z - (z + z) = p.1 - z by omega, show p.2 + z - (z + z) = p.2 - z by omega] at this
      exact this
  · intro h
    have f := hS _ h
    simp only at f
    have v := (hV (p.1 + z, p.2 + z)).2 (by simp only; rw [show p.1 + z - (z + z) = p.1 - z by omega, show p.2 + z - (z + z) = p.2 - z by omega]; exact h)
    simp only at v
    rcases v with ((v | v) | v) | v
    · have r := i0 _ v
      simp only at r
      exact Or.inl (Or.inl (Or.inl ((e0 p (by omega) (by omega) (by omega) (by omega)).1 v)))
    · have r := i1 _ v
      simp only at r
      refine Or.inl (Or.inl (Or.inr ((e1 (p.1 - z, p.2 - 0) (by show 0 ≤ p.1 - z; omega) (by show p.1 - z < z; omega) (by show 0 ≤ p.2 - 0; omega) (by show p.2 - 0 < z; omega)).1 ?_)))
      simp only
      rw [show p.1 - z = p.1 + z - (z + z) by omega, show p.2 - 0 + z = p.2 + z - 0 by omega]
      exact v
    · have r := i2 _ v
      simp only at r
      refine Or.inl (Or.inr ((e2 (p.1 - 0, p.2 - z) (by show 0 ≤ p.1 - 0; omega) (by show p.1 - 0 < z; omega) (by show 0 ≤ p.2 - z; omega) (by show p.2 - z < z; omega)).1 ?_))
      simp only
      rw [show p.2 - z = p.2 + z - (z + z) by omega, show p.1 - 0 + z = p.1 + z - 0 by omega]
      exact v
    · have r := i3 _ v
      simp only at r
      refine Or.inr ((e3 (p.1 - z, p.2 - z) (by show 0 ≤ p.1 - z; omega) (by show p.1 - z < z; omega) (by show 0 ≤ p.2 - z; omega) (by show p.2 - z < z; omega)).1 ?_)
      simp only
      rw [show p.1 - z = p.1 + z - (z + z) by omega, show p.2 - z = p.2 + z - (z + z) by omega]
      exact v
/-- a root's cells, at their places -/
def absC (l : List Th) (n : Nat) (id : Int) : List (Int × Int) := shiftL (-(halfN n : Int)) (-(halfN n : Int)) (cellsF l n id)
theorem mem_abs {l : List Th} {n : Nat} {id : Int} {p : Int × Int} : p ∈ absC l n id ↔ (p.1 + (halfN n : Int), p.2 + (halfN n : Int)) ∈ cellsF l n id := by
  unfold absC
  rw [mem_shift, show p.1 - -(halfN n : Int) = p.1 + (halfN n : Int) by omega, show p.2 - -(halfN n : Int) = p.2 + (halfN n : Int) by omega]
theorem abs_fits {l : List Th} (hG : Good l) {n : Nat} {id : Int} (h : glevel l id = some ((n + 1 : Nat) : Int)) : fitsLv (n + 1) (absC l (n + 1) id) := fun p hp => by
  have := cells_in hG (n + 1) id h _ (mem_abs.1 hp)
  have hpw : ((2 ^ (n + 1) : Nat) : Int) = ((2 ^ n : Nat) : Int) + ((2 ^ n : Nat) : Int) := by rw [Nat.pow_succ]; omega
  rw [halfN_succ] at this ⊢
  simp only at this
  rw [hpw] at this
  omega
end Go.Proofs.Ytkcngkcfcokboaa.A
