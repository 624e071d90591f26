/- Words of a difference: as numbers. -/
import Derived.Test.YtekjcmejnhhpaaaDoorMulPure
namespace Go.Proofs.YtekjcmejnhhpaaaDoor

/-- what is borrowed by word i -/
def bw (n m i : Nat) : Nat := if n % 4294967296 ^ i < m % 4294967296 ^ i then 1 else 0
theorem bw_zero (n m : Nat) : bw n m 0 = 0 := by simp [bw, Nat.mod_one]
theorem bw_le (n m i : Nat) : bw n m i ≤ 1 := by unfold bw; split <;> omega
theorem bw_next (n m i : Nat) : bw n m (i + 1) = if wd n i < wd m i + bw n m i then 1 else 0 := by
  unfold bw wd
  rw [Nat.mod_pow_succ, Nat.mod_pow_succ]
  have h1 := Nat.mod_lt n (wpos i)
  have h2 := Nat.mod_lt m (wpos i)
  generalize n / 4294967296 ^ i % 4294967296 = a
  generalize m / 4294967296 ^ i % 4294967296 = b
  generalize n % 4294967296 ^ i = c at *
  generalize m % 4294967296 ^ i = d at *
  generalize 4294967296 ^ i = P at *
  have key : c + P * a < d + P * b ↔ a < b + (if c < d then 1 else 0) := by
    by_cases hab : a < b
    · have : P * (a + 1) ≤ P * b := Nat.mul_le_mul_left P hab
      rw [Nat.mul_add] at this
      constructor
      · intro _; split <;> omega
      · intro _; omega
    · by_cases hba : b < a
      · have : P * (b + 1) ≤ P * a := Nat.mul_le_mul_left P hba
        rw [Nat.mul_add] at this
        constructor
        · intro _; omega
        · intro h; split at h <;> omega
      · have e : a = b := by omega
        subst e
        constructor
        · intro h
          rw [if_pos (by omega)]
          omega
        · intro h
          split at h
          · omega
          · omega
  by_cases h : c + P * a < d + P * b
  · rw [if_pos h, if_pos (key.1 h)]
  · rw [if_neg h, if_neg (fun hh => h (key.2 hh))]
theorem sub_div (n m i : Nat) (h : m ≤ n) : (n - m) / 4294967296 ^ i + m / 4294967296 ^ i + bw n m i = n / 4294967296 ^ i := by
  unfold bw
  have h1 := Nat.div_add_mod n (4294967296 ^ i)
  have h2 := Nat.div_add_mod m (4294967296 ^ i)
  have l1 := Nat.mod_lt n (wpos i)
  have l2 := Nat.mod_lt m (wpos i)
  have hp := wpos i
  generalize n / 4294967296 ^ i = a at *
  generalize m / 4294967296 ^ i = b at *
  generalize n % 4294967296 ^ i = c at *
  generalize m % 4294967296 ^ i = d at *
  generalize 4294967296 ^ i = P at *
  by_cases hcd : c < d
  · rw [if_pos hcd]
    have hab : b < a := by
      rcases Nat.lt_or_ge b a with h | h
      · exact h
      · have := Nat.mul_le_mul_left P h
        omega
    have e : n - m = (c + P - d) + P * (a - b - 1) := by
      have : P * a = P * (a - b - 1) + P * b + P := by
        rw [← Nat.mul_add, ← Nat.mul_succ]
        congr 1
        omega
      omega
    rw [e, Nat.add_mul_div_left _ _ hp, Nat.div_eq_of_lt (by omega)]
    omega
  · rw [if_neg hcd]
    have hab : b ≤ a := by
      rcases Nat.lt_or_ge a b with h | h
      · have : P * (a + 1) ≤ P * b := Nat.mul_le_mul_left P h
        rw [Nat.mul_add] at this
        omega
      · exact h
    have e : n - m = (c - d) + P * (a - b) := by
      have : P * a = P * (a - b) + P * b := by
        rw [← Nat.mul_add]
        congr 1
        omega
      omega
    rw [e, Nat.add_mul_div_left _ _ hp, Nat.div_eq_of_lt (by omega)]
    omega
theorem wd_diff (n m i : Nat) (h : m ≤ n) : (wd (n - m) i + wd m i + bw n m i) % 4294967296 = wd n i := by
  have := sub_div n m i h
  unfold wd
  omega
end Go.Proofs.YtekjcmejnhhpaaaDoor
