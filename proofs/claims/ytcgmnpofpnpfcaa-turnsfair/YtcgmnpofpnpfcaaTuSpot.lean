/- spot. -/
import Derived.Test.YtcgmnpofpnpfcaaTuFs
namespace Go.Proofs.Ytcgmnpofpnpfcaa
open Go.RowKit

theorem spot_any (v : Int) (n : Nat) (w : World) (h1 : 1 ≤ n) (h2 : n ≤ 64) : Calls Try.prog 14 #[.int .i64 v, .int .i64 n] w fun e w' => (∃ k : Nat, k < n ∧ e = .returned (.int .i64 k)) ∧ w' = w := by
  have hz : ¬ (n : Int) = 0 := by omega
  have hb1 := Int.lt_tmod_of_pos v (show (0 : Int) < n by omega)
  have hb2 := Int.tmod_lt_of_pos v (show (0 : Int) < n by omega)
  obtain ⟨r, hr⟩ : ∃ r, r = v.tmod (n : Int) := ⟨_, rfl⟩
  rw [← hr] at hb1 hb2
  have hr' : v.tmod (n : Int) = r := hr.symm
  have hw : IntKind.i64.wrap r = r := by rw [IntKind.wrap_i64]; omega
  clear hr
  by_cases h0 : r < 0
  · have hw2 : IntKind.i64.wrap (r + n) = r + n := by rw [IntKind.wrap_i64]; omega
    obtain ⟨k, hk⟩ : ∃ k : Nat, (k : Int) = r + n := ⟨(r + n).toNat, by omega⟩
    have HK : Hid (k < n ∧ (k : Int) = r + n) := ⟨by omega, hk⟩
    clear hk
    go_enter Try.func14, Try.ntmps14
    go_wp2_with fail
    go_ret
    exact ⟨⟨k, HK.out.1, by rw [HK.out.2]; rfl⟩, rfl⟩
  · obtain ⟨k, hk⟩ : ∃ k : Nat, (k : Int) = r := ⟨r.toNat, by omega⟩
    have HK : Hid (k < n ∧ (k : Int) = r) := ⟨by omega, hk⟩
    clear hk
    go_enter Try.func14, Try.ntmps14
    go_wp2_with fail
    go_ret
    exact ⟨⟨k, HK.out.1, by rw [HK.out.2]; rfl⟩, rfl⟩
end Go.Proofs.Ytcgmnpofpnpfcaa
