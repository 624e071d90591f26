/- Words of a sum, of a product by one word: as numbers. -/
import Derived.Test.YtekjcmejnhhpaaaDoorWordPure
namespace Go.Proofs.YtekjcmejnhhpaaaDoor

/-- what is carried into word i -/
def cy (n m i : Nat) : Nat := (n % 4294967296 ^ i + m % 4294967296 ^ i) / 4294967296 ^ i
theorem cy_zero (n m : Nat) : cy n m 0 = 0 := by simp [cy, Nat.mod_one]
theorem cy_le (n m i : Nat) : cy n m i ≤ 1 := by
  have h1 := Nat.mod_lt n (wpos i)
  have h2 := Nat.mod_lt m (wpos i)
  unfold cy
  have : (n % 4294967296 ^ i + m % 4294967296 ^ i) / 4294967296 ^ i < 2 := by
    rw [Nat.div_lt_iff_lt_mul (wpos i)]
    omega
  omega
theorem cy_next (n m i : Nat) : cy n m (i + 1) = (cy n m i + wd n i + wd m i) / 4294967296 := by
  unfold cy wd
  rw [Nat.mod_pow_succ, Nat.mod_pow_succ, Nat.pow_succ, ← Nat.div_div_eq_div_mul]
  congr 1
  rw [show n % 4294967296 ^ i + 4294967296 ^ i * (n / 4294967296 ^ i % 4294967296) + (m % 4294967296 ^ i + 4294967296 ^ i * (m / 4294967296 ^ i % 4294967296)) = n % 4294967296 ^ i + m % 4294967296 ^ i + 4294967296 ^ i * (n / 4294967296 ^ i % 4294967296 + m / 4294967296 ^ i % 4294967296) by rw [Nat.mul_add]; omega]
  rw [Nat.add_mul_div_left _ _ (wpos i)]
  omega
theorem wd_sum (n m i : Nat) : wd (n + m) i = (cy n m i + wd n i + wd m i) % 4294967296 := by
  have h1 := Nat.div_add_mod n (4294967296 ^ i)
  have h2 := Nat.div_add_mod m (4294967296 ^ i)
  have h3 : (n + m) / 4294967296 ^ i = n / 4294967296 ^ i + m / 4294967296 ^ i + cy n m i := by
    unfold cy
    have e : n + m = (n % 4294967296 ^ i + m % 4294967296 ^ i) + 4294967296 ^ i * (n / 4294967296 ^ i + m / 4294967296 ^ i) := by rw [Nat.mul_add]; omega
    rw [e, Nat.add_mul_div_left _ _ (wpos i)]
    omega
  unfold wd
  rw [h3]
  omega
theorem wd_none {n k i : Nat} (h : n < 4294967296 ^ k) (hi : k ≤ i) : wd n i = 0 := by
  unfold wd
  have : 4294967296 ^ k ≤ 4294967296 ^ i := Nat.pow_le_pow_right (by omega) hi
  rw [Nat.div_eq_of_lt (by omega)]
theorem sum_lt {n m k : Nat} (hn : n < 4294967296 ^ k) (hm : m < 4294967296 ^ k) : n + m < 4294967296 ^ (k + 1) := by
  rw [wpow]
  omega

/-- what is carried into word i of a product by a word -/
def my (n d i : Nat) : Nat := n % 4294967296 ^ i * d / 4294967296 ^ i
theorem my_zero (n d : Nat) : my n d 0 = 0 := by simp [my, Nat.mod_one]
theorem my_lt (n d i : Nat) (hd : 0 < d) : my n d i < d := by
  unfold my
  rw [Nat.div_lt_iff_lt_mul (wpos i), Nat.mul_comm d]
  exact Nat.mul_lt_mul_of_pos_right (Nat.mod_lt n (wpos i)) hd
theorem my_next (n d i : Nat) : my n d (i + 1) = (my n d i + wd n i * d) / 4294967296 := by
  unfold my wd
  rw [Nat.mod_pow_succ, Nat.pow_succ, ← Nat.div_div_eq_div_mul]
  congr 1
  rw [Nat.add_mul, Nat.mul_assoc, Nat.add_mul_div_left _ _ (wpos i)]
theorem wd_prod (n d i : Nat) : wd (n * d) i = (my n d i + wd n i * d) % 4294967296 := by
  have h3 : n * d / 4294967296 ^ i = n / 4294967296 ^ i * d + my n d i := by
    unfold my
    have h1 := Nat.div_add_mod n (4294967296 ^ i)
    have e : n * d = n % 4294967296 ^ i * d + 4294967296 ^ i * (n / 4294967296 ^ i * d) := by
      rw [← Nat.mul_assoc, ← Nat.add_mul]
      rw [Nat.add_comm, h1]
    rw [e, Nat.add_mul_div_left _ _ (wpos i)]
    omega
  unfold wd
  rw [h3]
  generalize n / 4294967296 ^ i = q at *
  have h5 : q * d % 4294967296 = q % 4294967296 * d % 4294967296 := by simp
  omega
end Go.Proofs.YtekjcmejnhhpaaaDoor
