/- Toward Peel and Box over any arena: what the elder texts ask of it, and a square's cells by what it shows. -/
import Derived.Test.YtofbcngcblleaaaGreatLpWrapA
import Derived.Test.YtofbcngcblleaaaGreatSqPeel2
namespace Go.Proofs.YtofbcngcblleaaaGreat.A
open Go.RowKit Go.Maps Go.Proofs.YtofbcngcblleaaaGreat.L

variable {w : World} {b t : Nat} {A : Ar} {PR : (Bool → Nat → Bool) → Int → Prop} {q : Nat → Int}
theorem closed_of (hS : Sound A) (hG : Glob A) (u : Nat) : Closed A.ths u := fun x hx hk hb => by
  have hu : u < 64 := by
    rcases Nat.lt_or_ge u 64 with h | h
    · exact h
    · have h1 := hS.mask x hx
      have h2 : x.mask.testBit u = false := Nat.testBit_lt_two_pow (Nat.lt_of_lt_of_le h1 (by rw [show (18446744073709551616 : Nat) = 2 ^ 64 by decide]; exact Nat.pow_le_pow_right (by omega) h))
      rw [h2] at hb
      cases hb
  obtain ⟨j, hj⟩ := List.getElem?_of_mem hx
  have hV : (view A u).V ((j : Int) + 2) = some x.face := ownV_iff.2 ⟨by omega, x, by rw [show (((j : Int) + 2 - 2).toNat) = j by omega]; exact hj, hb, rfl⟩
  have hl := (hG.wel u hu).lev _ _ hV hk
  have hr : refsV x.face = [x.p0, x.p1, x.p2, x.p3] := by unfold refsV; rw [if_pos (show x.face.1.k = 1 from hk)]; rfl
  rw [hr] at hl
  have f : ∀ r, levV (view A u).V r = some (x.lv - 1) → levelF A.ths u r = some (x.lv - 1) := fun r h => by rw [levelF_V]; exact h
  exact ⟨f _ (hl _ (by simp)), f _ (hl _ (by simp)), f _ (hl _ (by simp)), f _ (hl _ (by simp))⟩
theorem good_of (hS : Sound A) (hG : Glob A) : Good A.ths := by
  refine ⟨fun x hx hk => ?_⟩
  have h := hG.gl.sq x hx hk
  have g : ∀ r ∈ partsT x, glevel A.ths r = some (x.lv - 1) := fun r hr => h r hr
  have h0 := glev_nn (lv0_of hS) (h x.p0 (by simp [partsT]))
  exact ⟨by omega, (hS.lv x hx).2, g _ (by simp [partsT]), g _ (by simp [partsT]), g _ (by simp [partsT]), g _ (by simp [partsT])⟩
theorem inv_of (hS : Sound A) (hG : Glob A) (L : List Int) : Inv { A with free := L } := ⟨good_of (A := A) hS hG, hS.uniq, closed_of (A := A) hS hG, hS.cnt⟩
theorem mem_shiftI {dx dy : Int} {zs : List (Int × Int)} {p : Int × Int} : p ∈ shiftL dx dy zs ↔ (p.1 - dx, p.2 - dy) ∈ zs := by
  unfold shiftL
  rw [List.mem_map]
  constructor
  · rintro ⟨c, h, rfl⟩
    simpa [show c.1 + dx - dx = c.1 by omega, show c.2 + dy - dy = c.2 by omega] using h
  · intro h
    exact ⟨_, h, by simp [show p.1 - dx + dx = p.1 by omega, show p.2 - dy + dy = p.2 by omega]⟩
/-- a square's cells are what it shows -/
theorem cells_shows {l : List Th} : ∀ (n : Nat) {id : Int} {g : Gr} {a c : Int}, IsSq (QG l) n id → Shows (QG l) n id g a c → ∀ p : Int × Int, p ∈ cellsF l n id ↔ 0 ≤ p.1 ∧ p.1 < 2 ^ n ∧ 0 ≤ p.2 ∧ p.2 < 2 ^ n ∧ g (a + p.1) (c + p.2) = true
  | 0, id, g, a, c, hi, hs, p => by
    have h0 := hs 0 0 (by decide) (by decide)
    rw [cellV] at h0
    simp only [Int.natCast_zero, Int.add_zero] at h0
    rw [cellsF]
    obtain ⟨x, y⟩ := p
    constructor
    · intro h
      split at h
      · rename_i h1
        simp only [List.mem_singleton, Prod.mk.injEq] at h
        obtain ⟨rfl, rfl⟩ := h
        refine ⟨by decide, by decide, by decide, by decide, ?_⟩
        simp only [Int.add_zero]
        rw [← h0]
        simpa using h1
      · cases h
    · rintro ⟨h1, h2, h3, h4, h5⟩
      simp only at h1 h2 h3 h4 h5
      have hx : x = 0 := by simp at h2; omega
      have hy : y = 0 := by simp at h4; omega
      subst hx hy
      simp only [Int.add_zero] at h5
      rw [h5] at h0
      rw [if_pos (by simpa using h0)]
      simp
  | n + 1, id, g, a, c, ⟨k, hk, i0, i1, i2, i3⟩, hs, p => by
    obtain ⟨s0, s1, s2, s3⟩ := shows_kids hk hs
    obtain ⟨h2, x, hx, _, rfl⟩ := QG_iff.1 hk
    have c0 := cells_shows n i0 s0
    have c1 := cells_shows n i1 s1
    have c2 := cells_shows n i2 s2
    have c3 := cells_shows n i3 s3
    simp only at c0 c1 c2 c3
    have hp := two_powI n
    have hI := powI n
    have hpos : (0 : Int) < 2 ^ n := by have : 0 < 2 ^ n := Nat.pow_pos (by omega); omega
    rw [cellsF, thAt_eq hx, List.mem_append, List.mem_append, List.mem_append, mem_shiftI, mem_shiftI, mem_shiftI, c0, c1, c2, c3]
    obtain ⟨u, v⟩ := p
    simp only
    rw [show a + 2 ^ n + (u - ((2 ^ n : Nat) : Int)) = a + u by omega, show c + 2 ^ n + (v - ((2 ^ n : Nat) : Int)) = c + v by omega, show c + (v - 0) = c + v by omega, show a + (u - 0) = a + u by omega, hp, hI]
    generalize (2 : Int) ^ n = z at *
    cases g (a + u) (c + v) with
    | false => simp
    | true => simp only [and_true]; omega
end Go.Proofs.YtofbcngcblleaaaGreat.A
