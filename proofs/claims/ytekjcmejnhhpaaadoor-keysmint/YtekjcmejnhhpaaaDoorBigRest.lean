/- Whole numbers: the rest by 2^64 of a number of up to four words. -/
import Derived.Test.YtekjcmejnhhpaaaDoorBigDivB
namespace Go.Proofs.YtekjcmejnhhpaaaDoor
open Go.RowKit

theorem div64 (B B' n : Nat) (u v : Value) (w : World) (hu : Wd w B u n) (hv : Wd w B' v 18446744073709551616) (hn : n < 4294967296 ^ 4) :
    Calls Tryd.prog 62 #[u, v] w fun e w' => ∃ x y, e = .returned (.tuple #[y, x]) ∧ Wd w' w.heap.size x (n % 18446744073709551616) ∧ (∃ N, Wd w' w.heap.size y N) ∧ Below w.heap.size w w' := by
  by_cases h : n < 18446744073709551616
  · refine (div_small B B' n u v w hu hv h).mono ?_
    rintro e w' ⟨x, rfl, hx, hb⟩
    rw [Nat.mod_eq_of_lt h]
    exact ⟨x, _, rfl, hx, ⟨0, none, 0, 0, rfl, by omega, by unfold maxLen; omega, by omega, by simp, by simp, Or.inl rfl⟩, hb⟩
  · obtain ⟨a, k, c, rfl, hk, hc, hk2, hnk, hp, hr⟩ := hu
    have h4 : k ≤ 4 := wd_count hn hp
    have h2 : 2 < k := (Nat.pow_lt_pow_iff_right (a := 4294967296) (by omega)).1 (Nat.lt_of_le_of_lt (Nat.le_trans (Nat.le_of_eq m64.symm) (Nat.le_of_not_lt h)) hnk)
    exact div_big B B' n k a c v w ⟨a, k, c, rfl, hk, hc, hk2, hnk, hp, hr⟩ (by omega) hv (Nat.le_of_not_lt h) hnk
end Go.Proofs.YtekjcmejnhhpaaaDoor
