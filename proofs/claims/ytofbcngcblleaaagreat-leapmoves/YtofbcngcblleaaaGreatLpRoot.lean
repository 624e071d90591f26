/- Roots: a plane that is dead outside a square around its middle. -/
import Derived.Test.YtofbcngcblleaaaGreatLpReach
namespace Go.Proofs.YtofbcngcblleaaaGreat.A
open Go.RowKit Go.Maps Go.Proofs.YtofbcngcblleaaaGreat.L

variable {t : Nat} {A A' : Ar} {R : Bool → Nat → Bool} {PR : (Bool → Nat → Bool) → Int → Prop} {q : Nat → Int} {g : Gr} {id : Int}
/-- a root of level n + 1 that shows a plane, all that lives in it -/
structure Rt (A : Ar) (t n : Nat) (id : Int) (g : Gr) : Prop where
  lev : levV (view A t).V id = some ((n + 1 : Nat) : Int)
  shows : Shows (QV (view A t)) (n + 1) id g (-(2 ^ n)) (-(2 ^ n))
  out : ∀ X Y, g X Y = true → -(2 ^ n) ≤ X ∧ X < 2 ^ n ∧ -(2 ^ n) ≤ Y ∧ Y < 2 ^ n
theorem Rt.go {n : Nat} (h : Rt A t n id g) (hst : NxSt PR t q A) (ht : t < 64) (k : Goes1 t A A') : Rt A' t n id g :=
  ⟨k.sees.lev h.lev, h.shows.ext (isSq_of_lev (hst.g.wel t ht) hst.p _ _ h.lev) k.sees.ext, h.out⟩
/-- a root's cells are its plane's -/
theorem Rt.cells {n : Nat} (h : Rt A t n id g) (hst : NxSt PR t q A) (ht : t < 64) (p : Int × Int) : p ∈ absC A.ths (n + 1) id ↔ g p.1 p.2 = true := by
  have hs := isSq_of_lev (hst.g.wel t ht) hst.p _ _ h.lev
  have hI := powI n
  have hp := two_powI n
  rw [mem_abs, halfN_succ, cells_shows (n + 1) (hs.ext (view_QG A t)) (h.shows.ext hs (view_QG A t))]
  simp only
  rw [hI, show -(2 ^ n : Int) + (p.1 + 2 ^ n) = p.1 by omega, show -(2 ^ n : Int) + (p.2 + 2 ^ n) = p.2 by omega, hp]
  constructor
  · exact fun a => a.2.2.2.2
  · intro a
    have := h.out p.1 p.2 a
    exact ⟨by omega, by omega, by omega, by omega, a⟩
theorem Rt.wrap {n : Nat} {x : Int} (h : Rt A t n id g) (hl : levV (view A t).V x = some ((n + 2 : Nat) : Int)) (hw : WrapS (QV (view A t)) n id x) : Rt A t (n + 1) x g := by
  have hp := two_powI n
  have hpos : (0 : Int) < 2 ^ n := by have := powI n; have : 0 < 2 ^ n := Nat.pow_pos (by omega); omega
  refine ⟨hl, shows_mv (hw g _ _ h.shows fun X Y hg => ?_) (by omega) (by omega), fun X Y hg => ?_⟩
  · have := h.out X Y hg
    omega
  · have := h.out X Y hg
    omega
theorem Rt.peel {m n : Nat} {x : Int} (h0 : Rt A t m id g) (hst : NxSt PR t q A) (ht : t < 64) (h : Rt A' t m id g) (hn : LeastLv (n + 1) (absC A.ths (m + 1) id)) (hl : levV (view A' t).V x = some ((n + 1 : Nat) : Int)) (hw : PeelS (QV (view A' t)) m n id x) : Rt A' t n x g := by
  refine ⟨hl, hw g h.shows, fun X Y hg => ?_⟩
  have := hn.fits (X, Y) ((h0.cells hst ht (X, Y)).2 hg)
  rw [halfN_succ, powI] at this
  exact this
/-- a root's picture is its plane -/
theorem Rt.plane {n : Nat} (h : Rt A t n id g) : ctr n (picQ (QV (view A t)) (n + 1) id) = g := by
  have hp := two_powI n
  have hI := powI (n + 1)
  funext X Y
  unfold ctr
  rw [pic_shows h.shows]
  by_cases hin : -(2 ^ n) ≤ X ∧ X < 2 ^ n ∧ -(2 ^ n) ≤ Y ∧ Y < 2 ^ n
  · unfold pic
    rw [if_pos (by omega), show -(2 ^ n) + (X + 2 ^ n) = X by omega, show -(2 ^ n) + (Y + 2 ^ n) = Y by omega]
  · unfold pic
    rw [if_neg (by omega)]
    cases hg : g X Y with
    | false => rfl
    | true => exact absurd (h.out X Y hg) hin
/-- the least level of a root that shows a plane -/
structure LeastG (N : Nat) (g : Gr) : Prop where
  two : 2 ≤ N
  fits : ∀ X Y, g X Y = true → -(2 ^ (N - 1)) ≤ X ∧ X < 2 ^ (N - 1) ∧ -(2 ^ (N - 1)) ≤ Y ∧ Y < 2 ^ (N - 1)
  least : ∀ j, 2 ≤ j → j < N → ¬ ∀ X Y, g X Y = true → -(2 ^ (j - 1)) ≤ X ∧ X < 2 ^ (j - 1) ∧ -(2 ^ (j - 1)) ≤ Y ∧ Y < 2 ^ (j - 1)
theorem LeastG.unique {N M : Nat} (h : LeastG N g) (k : LeastG M g) : N = M := by
  rcases Nat.lt_trichotomy N M with e | e | e
  · exact absurd h.fits (k.least N h.two e)
  · exact e
  · exact absurd k.fits (h.least M k.two e)
theorem Rt.fits {n N : Nat} (h : Rt A t n id g) (hst : NxSt PR t q A) (ht : t < 64) (hN : 2 ≤ N) : fitsLv N (absC A.ths (n + 1) id) ↔ ∀ X Y, g X Y = true → -(2 ^ (N - 1)) ≤ X ∧ X < 2 ^ (N - 1) ∧ -(2 ^ (N - 1)) ≤ Y ∧ Y < 2 ^ (N - 1) := by
  obtain ⟨M, rfl⟩ : ∃ M, N = M + 1 := ⟨N - 1, by omega⟩
  unfold fitsLv
  rw [halfN_succ, powI, Nat.add_sub_cancel]
  constructor
  · exact fun a X Y hg => a (X, Y) ((h.cells hst ht (X, Y)).2 hg)
  · exact fun a p hp => a p.1 p.2 ((h.cells hst ht p).1 hp)
theorem Rt.least {n N : Nat} (h : Rt A t n id g) (hst : NxSt PR t q A) (ht : t < 64) : LeastLv N (absC A.ths (n + 1) id) ↔ LeastG N g := by
  constructor
  · exact fun k => ⟨k.two, (h.fits hst ht k.two).1 k.fits, fun j h2 hj hf => k.least j h2 hj ((h.fits hst ht h2).2 hf)⟩
  · exact fun k => ⟨k.two, (h.fits hst ht k.two).2 k.fits, fun j h2 hj hf => k.least j h2 hj ((h.fits hst ht h2).1 hf)⟩
/-- steps go one cell far each -/
theorem spread (hR : R false 0 = false) {K : Int} (hg : ∀ X Y, g X Y = true → -K ≤ X ∧ X < K ∧ -K ≤ Y ∧ Y < K) : ∀ (s : Nat) (X Y : Int), iter R s g X Y = true → -(K + s) ≤ X ∧ X < K + s ∧ -(K + s) ≤ Y ∧ Y < K + s
  | 0, X, Y, h => by have := hg X Y h; omega
  | s + 1, X, Y, h => by
    have h1 : iter R 1 (iter R s g) X Y = true := by rw [iter_add]; exact h
    have h2 : L.stepG R (iter R s g) X Y = true := h1
    have off : ∀ X' Y' : Int, ¬ (-(K + s) ≤ X' ∧ X' < K + s ∧ -(K + s) ≤ Y' ∧ Y' < K + s) → iter R s g X' Y' = false := fun X' Y' hn => by
      cases hv : iter R s g X' Y' with
      | false => rfl
      | true => exact absurd (spread hR hg s X' Y' hv) hn
    by_cases hin : -(K + ((s + 1 : Nat) : Int)) ≤ X ∧ X < K + ((s + 1 : Nat) : Int) ∧ -(K + ((s + 1 : Nat) : Int)) ≤ Y ∧ Y < K + ((s + 1 : Nat) : Int)
    · exact hin
    · exfalso
      unfold L.stepG nbr at h2
      rw [off X Y (by omega), off (X - 1) (Y - 1) (by omega), off X (Y - 1) (by omega), off (X + 1) (Y - 1) (by omega), off (X - 1) Y (by omega), off (X + 1) Y (by omega), off (X - 1) (Y + 1) (by omega), off X (Y + 1) (by omega), off (X + 1) (Y + 1) (by omega)] at h2
      have h3 : R false 0 = true := h2
      rw [hR] at h3
      cases h3
/-- a root 2^j steps later -/
theorem Rt.next {n j k : Nat} {v : Int} (h : Rt A t (n + 1) id g) (hR : R false 0 = false) (hn : Nx R (QV (view A t)) n id j v) (hl : levV (view A t).V v = some ((n + 1 : Nat) : Int)) (hg : ∀ X Y, g X Y = true → -(2 ^ k) ≤ X ∧ X < 2 ^ k ∧ -(2 ^ k) ≤ Y ∧ Y < 2 ^ k) (hk : (2 : Int) ^ k + ((2 ^ j : Nat) : Int) ≤ 2 ^ n) : Rt A t n v (iter R (2 ^ j) g) := by
  have hp := two_powI n
  refine ⟨hl, shows_mv (hn.2 g _ _ h.shows) (by omega) (by omega), fun X Y hv => ?_⟩
  have := spread hR hg (2 ^ j) X Y hv
  omega
end Go.Proofs.YtofbcngcblleaaaGreat.A
