/- A tenant's bit, and whether a thing is its own. -/
import Derived.Test.YtfogedmghhacdaaProg
import Derived.ProofKit
import Derived.Lib.SmallJoins
import Derived.Deep.RegionHeld3
import Derived.Laws.OwnMore
import Derived.Laws.BitsAllLaws
import Derived.BigQuiet
import Derived.RegionTactic
namespace Go.Proofs.Ytfogedmghhacdaa.A
open Go.RowKit

/-- a tenant's bit -/
def bitN (t : Nat) : Nat := 2 ^ t
theorem bitN_lt (t : Nat) (h : t < 64) : bitN t < 18446744073709551616 := by
  have : (2 : Nat) ^ t < 2 ^ 64 := Nat.pow_lt_pow_right (by omega) h
  unfold bitN
  simpa using this
theorem wrap_bit (t : Nat) (h : t < 64) : IntKind.u64.wrap (2 ^ t) = (bitN t : Int) := by
  have h1 := bitN_lt t h
  rw [IntKind.wrap_u64]
  have e : (2 : Int) ^ t = (bitN t : Int) := by simp [bitN]
  rw [e]
  omega
theorem ret_i {k : IntKind} {a b : Int} (h : a = b) : Ending.returned (.int k a) = .returned (.int k b) := by rw [h]

theorem bit_any (t : Nat) (w : World) (h : t < 64) : Calls Try.prog 59 #[.int .i64 t] w fun e w' => e = .returned (.int .u64 (bitN t : Int)) ∧ w' = w := by
  go_enter Try.func59, Try.ntmps59
  go_wp2
  go_ret
  exact ⟨ret_i (wrap_bit t h), rfl⟩

/-- a thing: its kind, its four parts, its level, its value, its mask -/
structure Th where
  k : Int
  p0 : Int
  p1 : Int
  p2 : Int
  p3 : Int
  lv : Int
  va : Int
  mask : Nat
/-- a thing's cells -/
def Th.cells (x : Th) : List Value := [.int .i64 x.k, .int .i64 x.p0, .int .i64 x.p1, .int .i64 x.p2, .int .i64 x.p3, .int .i64 x.lv, .int .i64 x.va, .int .u64 x.mask]
/-- a thing's value -/
def Th.val (x : Th) : Value := .agg #[.int .i64 x.k, .int .i64 x.p0, .int .i64 x.p1, .int .i64 x.p2, .int .i64 x.p3, .int .i64 x.lv, .int .i64 x.va, .int .u64 x.mask]

theorem and_bit (m t : Nat) (hm : m < 18446744073709551616) (h : t < 64) : (bits .and .u64 (m : Int) (bitN t : Int) != 0) = m.testBit t := by
  rw [u64_and_nat m (bitN t) hm (bitN_lt t h)]
  unfold bitN
  rw [nat_bit, Nat.testBit_eq_decide_div_mod_eq]
  have hp : 0 < 2 ^ t := Nat.two_pow_pos t
  rcases Nat.mod_two_eq_zero_or_one (m / 2 ^ t) with e | e
  · rw [e]; simp
  · rw [e, Nat.one_mul]
    generalize 2 ^ t = z at *
    simp
    omega

set_option maxHeartbeats 1000000 in
theorem isOwn_any (x : Th) (t : Nat) (w : World) (hm : x.mask < 18446744073709551616) (h : t < 64) : Calls Try.prog 47 #[x.val, .int .i64 t] w fun e w' => e = .returned (.bool (x.mask.testBit t)) ∧ Below w.heap.size w w' := by
  have hb := fun W => bit_any t W h
  have ha := and_bit x.mask t hm h
  unfold Th.val
  go_enter Try.func47, Try.ntmps47
  go_wp2_with fail
  go_quiet ((go_at_call 59; exact Calls.quiet_of_same (hb _)))
  go_wp2
  go_ret
  refine ⟨rfl, ?_⟩
  have := (Below.refl w.heap.size w).alloc (Nat.le_refl _) (.cells #[.int .i64 x.k, .int .i64 x.p0, .int .i64 x.p1, .int .i64 x.p2, .int .i64 x.p3, .int .i64 x.lv, .int .i64 x.va, .int .u64 x.mask] 82)
  exact ⟨this.os, this.tape, this.output, this.size, this.block⟩
end Go.Proofs.Ytfogedmghhacdaa.A
