/- Words of a product: as numbers. -/
import Derived.Test.YtekjcmejnhhpaaaDoorAddPure
namespace Go.Proofs.YtekjcmejnhhpaaaDoor

/-- what is carried into word j, where x times m is added to s -/
def ic (s x m j : Nat) : Nat := (s % 4294967296 ^ j + x * (m % 4294967296 ^ j)) / 4294967296 ^ j
theorem ic_zero (s x m : Nat) : ic s x m 0 = 0 := by simp [ic, Nat.mod_one]
theorem ic_next (s x m j : Nat) : ic s x m (j + 1) = (ic s x m j + wd s j + x * wd m j) / 4294967296 := by
  unfold ic wd
  rw [Nat.mod_pow_succ, Nat.mod_pow_succ, Nat.pow_succ, ← Nat.div_div_eq_div_mul]
  congr 1
  generalize s / 4294967296 ^ j % 4294967296 = a
  generalize m / 4294967296 ^ j % 4294967296 = b
  rw [show s % 4294967296 ^ j + 4294967296 ^ j * a + x * (m % 4294967296 ^ j + 4294967296 ^ j * b) = s % 4294967296 ^ j + x * (m % 4294967296 ^ j) + 4294967296 ^ j * (a + x * b) by
    rw [Nat.mul_add, Nat.mul_add, Nat.mul_left_comm x]; omega]
  rw [Nat.add_mul_div_left _ _ (wpos j)]
  omega
theorem in_div (s x m j : Nat) : (s + x * m) / 4294967296 ^ j = s / 4294967296 ^ j + x * (m / 4294967296 ^ j) + ic s x m j := by
  unfold ic
  have h1 := Nat.div_add_mod s (4294967296 ^ j)
  have h2 := Nat.div_add_mod m (4294967296 ^ j)
  generalize s / 4294967296 ^ j = a at *
  generalize m / 4294967296 ^ j = b at *
  generalize s % 4294967296 ^ j = c at *
  generalize m % 4294967296 ^ j = d at *
  have e : s + x * m = (c + x * d) + 4294967296 ^ j * (a + x * b) := by
    rw [← h1, ← h2, Nat.mul_add, Nat.mul_add, Nat.mul_left_comm x]; omega
  rw [e, Nat.add_mul_div_left _ _ (wpos j)]
  omega
theorem wd_in (s x m j : Nat) : wd (s + x * m) j = (ic s x m j + wd s j + x * wd m j) % 4294967296 := by
  unfold wd
  rw [in_div]
  generalize s / 4294967296 ^ j = a
  generalize m / 4294967296 ^ j = b
  generalize ic s x m j = c
  have h : x * b % 4294967296 = x * (b % 4294967296) % 4294967296 := by simp
  omega
theorem ic_lt (s x m j : Nat) (hx : x < 4294967296) : ic s x m j < 4294967296 := by
  unfold ic
  have h1 := Nat.mod_lt s (wpos j)
  have h2 := Nat.mod_lt m (wpos j)
  rw [Nat.div_lt_iff_lt_mul (wpos j)]
  generalize s % 4294967296 ^ j = c at *
  generalize m % 4294967296 ^ j = d at *
  generalize 4294967296 ^ j = P at *
  have h3 : x * d ≤ 4294967295 * (P - 1) := Nat.mul_le_mul (by omega) (by omega)
  omega
theorem wd_low {a i p : Nat} (b : Nat) (h : p < i) : wd (a + 4294967296 ^ i * b) p = wd a p := by
  unfold wd
  obtain ⟨k, rfl⟩ : ∃ k, i = p + (k + 1) := ⟨i - p - 1, by omega⟩
  rw [Nat.pow_add, Nat.mul_assoc, Nat.add_mul_div_left _ _ (wpos p), wpow, Nat.mul_assoc]
  omega
theorem wd_high {a i : Nat} (y j : Nat) (h : a < 4294967296 ^ i) : wd (a + 4294967296 ^ i * y) (i + j) = wd y j := by
  unfold wd
  rw [Nat.pow_add, ← Nat.div_div_eq_div_mul, Nat.add_mul_div_left _ _ (wpos i), Nat.div_eq_of_lt h, Nat.zero_add]
/-- the product so far -/
def mr (n m i : Nat) : Nat := n % 4294967296 ^ i * m
def ms (n m i : Nat) : Nat := mr n m i / 4294967296 ^ i
theorem mr_zero (n m : Nat) : mr n m 0 = 0 := by simp [mr, Nat.mod_one]
theorem mr_split (n m i : Nat) : mr n m i = mr n m i % 4294967296 ^ i + 4294967296 ^ i * ms n m i := by
  have := Nat.div_add_mod (mr n m i) (4294967296 ^ i)
  unfold ms
  omega
theorem mr_next (n m i : Nat) : mr n m (i + 1) = mr n m i % 4294967296 ^ i + 4294967296 ^ i * (ms n m i + wd n i * m) := by
  have h1 := mr_split n m i
  have h2 : mr n m (i + 1) = mr n m i + 4294967296 ^ i * (wd n i * m) := by
    unfold mr wd
    rw [Nat.mod_pow_succ, Nat.add_mul, Nat.mul_assoc]
  rw [h2, Nat.mul_add]
  omega
theorem mr_lt (n m i k : Nat) (hm : m < 4294967296 ^ k) : mr n m i < 4294967296 ^ (i + k) := by
  unfold mr
  have h1 := Nat.mod_lt n (wpos i)
  rw [Nat.pow_add]
  exact Nat.mul_lt_mul'' h1 hm
theorem ms_lt (n m i k : Nat) (hm : m < 4294967296 ^ k) : ms n m i < 4294967296 ^ k := by
  unfold ms
  rw [Nat.div_lt_iff_lt_mul (wpos i), ← Nat.pow_add, Nat.add_comm k]
  exact mr_lt n m i k hm
theorem mr_low (n m i p : Nat) (h : p < i) : wd (mr n m (i + 1)) p = wd (mr n m i) p := by
  rw [mr_next, wd_low _ h]
  conv => rhs; rw [mr_split n m i, wd_low _ h]
theorem mr_high (n m i j : Nat) : wd (mr n m (i + 1)) (i + j) = wd (ms n m i + wd n i * m) j := by
  rw [mr_next, wd_high _ _ (Nat.mod_lt _ (wpos i))]
theorem ms_word (n m i j : Nat) : wd (mr n m i) (i + j) = wd (ms n m i) j := by
  rw [mr_split n m i, wd_high _ _ (Nat.mod_lt _ (wpos i))]
theorem mr_all {n k : Nat} (m : Nat) (h : n < 4294967296 ^ k) : mr n m k = n * m := by unfold mr; rw [Nat.mod_eq_of_lt h]
theorem ic_end (n m i k : Nat) (hm : m < 4294967296 ^ k) : wd (ms n m i + wd n i * m) k = ic (ms n m i) (wd n i) m k := by
  rw [wd_in, wd_none (ms_lt n m i k hm) (Nat.le_refl _), wd_none hm (Nat.le_refl _)]
  have := ic_lt (ms n m i) (wd n i) m k (wd_lt n i)
  omega
end Go.Proofs.YtekjcmejnhhpaaaDoor
