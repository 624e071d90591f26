/- rule.has, rule.Lives and the document's own Lives: what they answer. -/
import Derived.Test.YtnklpjoeopcbbaaDoorRows
import Derived.WalkKit
import Derived.WalkSpells
import Derived.WalkLawsBesides
import Derived.RegionTactic
import Derived.BigRegion
namespace Go.Proofs.YtnklpjoeopcbbaaDoor
open Go.RowKit

theorem bits_one (a : Int) : bits .and .i64 a 1 = a % 2 := by
  have h : (BitVec.ofInt 64 a &&& BitVec.ofInt 64 1).toNat = (a % 2).toNat := by
    rw [BitVec.toNat_and, BitVec.toNat_ofInt, BitVec.toNat_ofInt]
    rw [show ((1 : Int) % ((2 ^ 64 : Nat) : Int)).toNat = 1 by decide, Nat.and_one_is_mod]
    have e : ((2 ^ 64 : Nat) : Int) = 18446744073709551616 := by decide
    rw [e]
    omega
  show IntKind.i64.wrap ((BitVec.ofInt 64 a &&& BitVec.ofInt 64 1).toNat : Int) = a % 2
  rw [h]
  obtain h | h : a % 2 = 0 ∨ a % 2 = 1 := by omega
  all_goals rw [h]; decide

/-- whether a set has a number -/
def hasB (x : Int) (n : Nat) : Bool := decide (x / 2 ^ n % 2 = 1)

set_option maxHeartbeats 400000 in
theorem has_any (x : Int) (n : Nat) (w : World) (hn : n ≤ 8) : Calls Tryd.prog 87 #[.int .i64 x, .int .i64 n] w fun e w' => e = .returned (.bool (hasB x n)) ∧ w' = w := by
  go_enter Tryd.func87, Tryd.ntmps87
  go_wp2
  go_ret
  rw [bits_one]
  refine ⟨?_, rfl⟩
  by_cases h : x / 2 ^ n % 2 = 1 <;> simp [hasB, h]

/-- what Lives answers -/
def livesB (b l : Int) (now : Bool) (n : Int) : Bool := if n < 0 ∨ n > 8 then false else if now then hasB l n.toNat else hasB b n.toNat

theorem odd_tmod (x : Int) (n : Nat) : hasB x n = ((x / 2 ^ n).tmod 2 == 1 || (x / 2 ^ n).tmod 2 == -1) := by
  unfold hasB
  generalize x / 2 ^ n = a
  rw [Int.tmod_eq_emod]
  by_cases h1 : a % 2 = 1
  · simp only [h1]
    split <;> simp
  · have h0 : a % 2 = 0 := by omega
    rw [if_pos (by right; omega), h0]
    simp

end Go.Proofs.YtnklpjoeopcbbaaDoor
