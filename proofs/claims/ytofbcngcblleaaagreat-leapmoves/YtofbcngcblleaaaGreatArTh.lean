/- Things by their numbers. -/
import Derived.Test.YtofbcngcblleaaaGreatArBecome
namespace Go.Proofs.YtofbcngcblleaaaGreat.A
open Go.RowKit Go.Maps

/-- the thing of a number, whosever it is -/
def thAt (l : List Th) (id : Int) : Th := (l[(id - 2).toNat]?).getD noTh
/-- no two things have one key -/
def Uniq (l : List Th) : Prop := ∀ (i j : Nat) (x y : Th), l[i]? = some x → l[j]? = some y → x.k ≠ 0 → x.key = y.key → i = j
/-- how many things a tenant has -/
def ownN (l : List Th) (u : Nat) : Nat := l.countP fun x => x.mask.testBit u
/-- how many things there are -/
def liveN (l : List Th) : Nat := l.countP fun x => x.k != 0
theorem upd_upd {α : Type} (f : Nat → α) (t : Nat) (x y : α) : upd (upd f t x) t y = upd f t y := by
  funext u
  unfold upd
  split <;> rfl
theorem upd_self {α : Type} (f : Nat → α) (t : Nat) : upd f t (f t) = f := by
  funext u
  unfold upd
  split
  · rename_i h; rw [h]
  · rfl
theorem key_k {x y : Th} (h : x.key = y.key) : x.k = y.k := congrArg Ky.k h
theorem spot_none {l : List Th} {q : Ky} (h : spotF l q = none) : ∀ x ∈ l, x.key ≠ q := by
  unfold spotF at h
  rw [List.findIdx?_eq_none_iff] at h
  intro x hx e
  have := h x hx
  simp [e] at this
end Go.Proofs.YtofbcngcblleaaaGreat.A
