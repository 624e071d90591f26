/- Words of a whole number, 2^32 to a word: what trim and a division by one word do, as numbers. -/
import Derived.WalkKit
namespace Go.Proofs.YtpldaghhledjlaaGreatDoor.W

/-- the word i of n -/
def wd (n i : Nat) : Nat := n / 4294967296 ^ i % 4294967296

theorem wd_lt (n i : Nat) : wd n i < 4294967296 := Nat.mod_lt _ (by omega)
theorem wpow (k : Nat) : 4294967296 ^ (k + 1) = 4294967296 * 4294967296 ^ k := by rw [Nat.pow_succ]; omega
theorem wpos (k : Nat) : 0 < 4294967296 ^ k := Nat.pow_pos (by omega)
theorem wd_top {n k : Nat} (h : n < 4294967296 ^ (k + 1)) : wd n k = n / 4294967296 ^ k := by
  have : n / 4294967296 ^ k < 4294967296 := by
    rw [Nat.div_lt_iff_lt_mul (wpos k), ← wpow]
    exact h
  exact Nat.mod_eq_of_lt this
theorem wd_zero {n k : Nat} (h : n < 4294967296 ^ (k + 1)) (h0 : wd n k = 0) : n < 4294967296 ^ k := by
  rw [wd_top h] at h0
  exact (Nat.div_eq_zero_iff_lt (wpos k)).1 h0
theorem wd_pos {n k : Nat} (h0 : wd n k ≠ 0) : 4294967296 ^ k ≤ n := by
  refine Nat.le_of_not_lt fun h => h0 ?_
  unfold wd
  rw [Nat.div_eq_of_lt h]
theorem wd_next (n j : Nat) : n / 4294967296 ^ j = 4294967296 * (n / 4294967296 ^ (j + 1)) + wd n j := by
  unfold wd
  rw [Nat.pow_succ, ← Nat.div_div_eq_div_mul]
  omega
theorem wd_div (n d j : Nat) (hd : 0 < d) : (n / 4294967296 ^ (j + 1) % d * 4294967296 + wd n j) / d = wd (n / d) j := by
  have h1 := wd_next n j
  have ha := wd_lt n j
  have h2 : n / d / 4294967296 ^ j = n / 4294967296 ^ j / d := by rw [Nat.div_div_eq_div_mul, Nat.div_div_eq_div_mul, Nat.mul_comm]
  show _ = n / d / 4294967296 ^ j % 4294967296
  rw [h2]
  generalize n / 4294967296 ^ j = N at *
  generalize n / 4294967296 ^ (j + 1) = M at *
  generalize wd n j = a at *
  have hr := Nat.mod_lt M hd
  have hm := Nat.div_add_mod M d
  generalize M / d = q at *
  generalize M % d = r at *
  have hlt : (r * 4294967296 + a) / d < 4294967296 := by
    rw [Nat.div_lt_iff_lt_mul hd]
    have : (r + 1) * 4294967296 ≤ d * 4294967296 := Nat.mul_le_mul_right _ hr
    rw [Nat.mul_comm 4294967296 d]
    omega
  have hN : N = (r * 4294967296 + a) + d * (4294967296 * q) := by
    rw [h1, ← hm, Nat.mul_add, Nat.mul_left_comm]
    omega
  rw [hN, Nat.add_mul_div_left _ _ hd, Nat.add_mul_mod_self_left, Nat.mod_eq_of_lt hlt]
theorem wd_rem (n d j : Nat) : (n / 4294967296 ^ (j + 1) % d * 4294967296 + wd n j) % d = n / 4294967296 ^ j % d := by
  rw [wd_next n j, Nat.mul_comm, Nat.add_mod, Nat.mul_mod, Nat.mod_mod, ← Nat.mul_mod, ← Nat.add_mod]
theorem wd_div_lt {n d k : Nat} (h : n < 4294967296 ^ k) : n / d < 4294967296 ^ k := Nat.lt_of_le_of_lt (Nat.div_le_self _ _) h
/-- a word behind a shift, by 'or' -/
theorem or_word (r a : Nat) (ha : a < 4294967296) : (r * 4294967296) ||| a = r * 4294967296 + a := by
  have := Nat.two_pow_add_eq_or_of_lt (i := 32) (b := a) (by simpa using ha) r
  rw [show r * 4294967296 = 2 ^ 32 * r by omega]
  exact this.symm
/-- the two words of a number of 64 bits -/
theorem wd_two0 (u : Nat) : wd u 0 = u % 4294967296 := by simp [wd]
theorem wd_two1 (u : Nat) (h : u < 18446744073709551616) : wd u 1 = u / 4294967296 := by
  simp only [wd, Nat.pow_one]
  omega
end Go.Proofs.YtpldaghhledjlaaGreatDoor.W
