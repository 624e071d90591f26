/- rule.has and rule.Lives: what they answer. -/
import Derived.Test.YtofbcngcblleaaaGreatLpMid
namespace Go.Proofs.YtofbcngcblleaaaGreat.A
open Go.RowKit Go.Proofs.YtofbcngcblleaaaGreat.L

theorem bits_one (a : Int) : bits .and .i64 a 1 = a % 2 := by
  have h : (BitVec.ofInt 64 a &&& BitVec.ofInt 64 1).toNat = (a % 2).toNat := by
    rw [BitVec.toNat_and, BitVec.toNat_ofInt, BitVec.toNat_ofInt]
    rw [show ((1 : Int) % ((2 ^ 64 : Nat) : Int)).toNat = 1 by decide, Nat.and_one_is_mod]
    have e : ((2 ^ 64 : Nat) : Int) = 18446744073709551616 := by decide
    rw [e]
    omega
  show IntKind.i64.wrap ((BitVec.ofInt 64 a &&& BitVec.ofInt 64 1).toNat : Int) = a % 2
  rw [h]
  obtain h | h : a % 2 = 0 ∨ a % 2 = 1 := by omega
  all_goals rw [h]; decide

/-- whether a set has a number -/
def hasB (x : Int) (n : Nat) : Bool := decide (x / 2 ^ n % 2 = 1)

set_option maxHeartbeats 400000 in
theorem has_any (x : Int) (n : Nat) (w : World) (hn : n ≤ 8) : Calls Tryz.prog 56 #[.int .i64 x, .int .i64 n] w fun e w' => e = .returned (.bool (hasB x n)) ∧ w' = w := by
  go_enter Tryz.func56, Tryz.ntmps56
  go_wp2
  go_ret
  rw [bits_one]
  refine ⟨?_, rfl⟩
  by_cases h : x / 2 ^ n % 2 = 1 <;> simp [hasB, h]

/-- what Lives answers -/
def livesB (b l : Int) (now : Bool) (n : Int) : Bool := if n < 0 ∨ n > 8 then false else if now then hasB l n.toNat else hasB b n.toNat

set_option maxHeartbeats 400000 in
theorem lives_any (b l : Int) (now : Bool) (n : Int) (w : World) : Calls Tryz.prog 132 #[.agg #[.int .i64 b, .int .i64 l], .bool now, .int .i64 n] w fun e w' => e = .returned (.bool (livesB b l now n)) ∧ Below w.heap.size w w' := by
  by_cases h0 : n < 0
  · go_enter Tryz.func132, Tryz.ntmps132
    go_wp2
    go_ret
    exact ⟨by simp [livesB, h0], (Below.refl _ _).alloc (Nat.le_refl _) _⟩
  · by_cases h8 : n > 8
    · go_enter Tryz.func132, Tryz.ntmps132
      go_wp2
      go_ret
      exact ⟨by simp [livesB, h8], (Below.refl _ _).alloc (Nat.le_refl _) _⟩
    · obtain ⟨m, rfl⟩ := Int.eq_ofNat_of_zero_le (show 0 ≤ n by omega)
      have e : livesB b l now m = if now then hasB l m else hasB b m := by unfold livesB; rw [if_neg (by omega)]; simp
      rw [e]
      cases now
      · go_enter Tryz.func132, Tryz.ntmps132
        go_wp2_with fail
        refine (has_any b m _ (by omega)).mono ?_
        rintro e w' ⟨rfl, hw⟩
        have hw2 := hw.symm
        subst hw2
        go_wp2_with fail
        go_ret
        exact ⟨rfl, (Below.refl _ _).alloc (Nat.le_refl _) _⟩
      · go_enter Tryz.func132, Tryz.ntmps132
        go_wp2_with fail
        refine (has_any l m _ (by omega)).mono ?_
        rintro e w' ⟨rfl, hw⟩
        have hw2 := hw.symm
        subst hw2
        go_wp2_with fail
        go_ret
        exact ⟨rfl, (Below.refl _ _).alloc (Nat.le_refl _) _⟩
end Go.Proofs.YtofbcngcblleaaaGreat.A
