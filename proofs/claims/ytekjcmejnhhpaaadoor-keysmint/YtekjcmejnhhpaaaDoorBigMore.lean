/- Whole numbers: compared, added, taken as int64. -/
import Derived.Test.YtekjcmejnhhpaaaDoorBigText
namespace Go.Proofs.YtekjcmejnhhpaaaDoor
open Go.RowKit

/-- how many words a small number has -/
theorem wd_few {n k : Nat} (hn : n < 18446744073709551616) (hp : k ≠ 0 → 4294967296 ^ (k - 1) ≤ n) : k ≤ 2 := by
  refine Nat.le_of_not_lt fun h => ?_
  have h1 := hp (by omega)
  have h2 : 4294967296 ^ 2 ≤ 4294967296 ^ (k - 1) := Nat.pow_le_pow_right (by omega) (by omega)
  have h3 : (4294967296 : Nat) ^ 2 = 18446744073709551616 := by decide
  omega

theorem wd_many {n k : Nat} (hn : Few n) (hp : k ≠ 0 → 4294967296 ^ (k - 1) ≤ n) : k ≤ 700 := by
  refine Nat.le_of_not_lt fun h => ?_
  have h1 := hp (by omega)
  have h2 : 4294967296 ^ lim ≤ 4294967296 ^ (k - 1) := Nat.pow_le_pow_right (by decide) (by show 700 ≤ k - 1; omega)
  exact absurd (Nat.lt_of_lt_of_le hn (Nat.le_trans h2 h1)) (Nat.lt_irrefl _)
theorem ten_lim : 10 ^ 6100 ≤ 4294967296 ^ lim := by unfold lim; decide +kernel
theorem ret_i {k : IntKind} {a b : Int} (h : a = b) : Ending.returned (.int k a) = .returned (.int k b) := by rw [h]
/-- what cmp answers -/
def cmpW (n m : Nat) : Int := if n < m then -1 else if n = m then 0 else 1
/-- the words from a place on are the same -/
theorem wd_split (n m i : Nat) (h : n / 4294967296 ^ (i + 1) = m / 4294967296 ^ (i + 1)) : (wd n i < wd m i → n < m) ∧ (wd n i = wd m i → n / 4294967296 ^ i = m / 4294967296 ^ i) := by
  have h1 := wd_next n i
  have h2 := wd_next m i
  refine ⟨fun hl => ?_, fun he => by omega⟩
  refine Nat.lt_of_not_le fun hle => ?_
  have := Nat.div_le_div_right (c := 4294967296 ^ i) hle
  omega

set_option maxHeartbeats 1000000 in
theorem cmp_any (B B' n m : Nat) (u v : Value) (w : World) (hu : Wd w B u n) (hv : Wd w B' v m) :
    Calls Tryd.prog 53 #[u, v] w fun e w' => e = .returned (.int .i64 (cmpW n m)) ∧ ∃ q, w' = w.drewN q := by
  obtain ⟨a, k, c, rfl, hk, hc, hk2, hn, hp, hu⟩ := hu
  obtain ⟨a', k', c', rfl, hk', hc', hk2', hm, hp', hv⟩ := hv
  by_cases hkk : k = k'
  · subst hkk
    have HN : Hid (n < 4294967296 ^ k ∧ m < 4294967296 ^ k) := ⟨hn, hm⟩
    clear hn hm hp hp'
    go_enter Tryd.func53, Tryd.ntmps53
    go_wp2_with fail
    go_loopg [5] k (fun g s wr => ∃ i q : Nat, i = g ∧ i ≤ k ∧ s = .int .i64 ((i : Int) - 1) ∧ n / 4294967296 ^ i = m / 4294967296 ^ i ∧ wr = w.drewN q)
    case atStart =>
      refine ⟨k, 0, rfl, Nat.le_refl _, rfl, ?_, rfl⟩
      rw [Nat.div_eq_of_lt HN.out.1, Nat.div_eq_of_lt HN.out.2]
    case round =>
      obtain ⟨i, q, rfl, hik, rfl, he, rfl⟩ := hrel
      have HE : Hid (n / 4294967296 ^ i = m / 4294967296 ^ i) := he
      clear he
      cases i with
      | zero =>
        have HC : Hid (cmpW n m = 0) := by
          have := HE.out
          simp at this
          show _ = _
          unfold cmpW
          rw [if_neg (by omega), if_pos this]
        go_wp2_with fail
        go_ret
        exact ⟨ret_i HC.out.symm, _, rfl⟩
      | succ i =>
        rcases hu with hu | ⟨b, off, rfl, _, hlt, hw⟩
        · omega
        rcases hv with hv | ⟨b', off', rfl, _, hlt', hw'⟩
        · omega
        have c0 := hw i (by omega)
        have c1 := hw' i (by omega)
        obtain ⟨hs1, hs2⟩ := wd_split n m i HE.out
        obtain ⟨hs3, _⟩ := wd_split m n i HE.out.symm
        have hx := wd_lt n i
        have hy := wd_lt m i
        have hi1 : (0 : Int) ≤ (i : Int) := by omega
        have hi2 : (i : Int) < (k : Int) := by omega
        rw [show (((i + 1 : Nat) : Int) - 1) = (i : Int) by omega]
        generalize wd n i = x at *
        generalize wd m i = y at *
        by_cases hxy : x = y
        · have HS : Hid (n / 4294967296 ^ i = m / 4294967296 ^ i) := hs2 hxy
          subst hxy
          clear hs1 hs2 hs3
          go_wp2_with fail
          go_quiet (fail)
          go_wp2_with fail
          go_roundg i
          case measure => omega
          case rel => exact ⟨i, _, rfl, by omega, rfl, HS.out, rfl⟩
        · have hne : ((x : Int) != (y : Int)) = true := by simp; omega
          by_cases hl : x < y
          · have HC : Hid (cmpW n m = -1) := by show _ = _; unfold cmpW; rw [if_pos (hs1 hl)]
            have hl2 : (x : Int) < (y : Int) := by omega
            clear hs1 hs2 hs3 hxy
            go_wp2_with fail
            go_quiet (fail)
            go_wp2_with fail
            go_quiet (fail)
            go_wp2_with fail
            go_ret
            exact ⟨ret_i HC.out.symm, _, by rw [World.drewN_drewN, World.drewN_drewN]⟩
          · have h3 := hs3 (by omega)
            have HC : Hid (cmpW n m = 1) := by show _ = _; unfold cmpW; rw [if_neg (by omega), if_neg (by omega)]
            have hl2 : ¬ (x : Int) < (y : Int) := by omega
            clear hs1 hs2 hs3 hxy
            go_wp2_with fail
            go_quiet (fail)
            go_wp2_with fail
            go_quiet (fail)
            go_wp2_with fail
            go_ret
            exact ⟨ret_i HC.out.symm, _, by rw [World.drewN_drewN, World.drewN_drewN]⟩
  · have hne : ((k : Int) != (k' : Int)) = true := by simp; omega
    by_cases hl : k < k'
    · have hlt : n < m := by
        have h1 : 4294967296 ^ k ≤ 4294967296 ^ (k' - 1) := Nat.pow_le_pow_right (by omega) (by omega)
        have h2 := hp' (by omega)
        omega
      have HC : Hid (cmpW n m = -1) := by show _ = _; unfold cmpW; rw [if_pos hlt]
      have hl2 : (k : Int) < (k' : Int) := by omega
      clear hn hm hp hp' hlt
      go_enter Tryd.func53, Tryd.ntmps53
      go_wp2_with fail
      go_ret
      exact ⟨ret_i HC.out.symm, 0, rfl⟩
    · have hlt : m < n := by
        have h1 : 4294967296 ^ k' ≤ 4294967296 ^ (k - 1) := Nat.pow_le_pow_right (by omega) (by omega)
        have h2 := hp (by omega)
        omega
      have HC : Hid (cmpW n m = 1) := by show _ = _; unfold cmpW; rw [if_neg (by omega), if_neg (by omega)]
      have hl2 : ¬ (k : Int) < (k' : Int) := by omega
      clear hn hm hp hp' hlt
      go_enter Tryd.func53, Tryd.ntmps53
      go_wp2_with fail
      go_ret
      exact ⟨ret_i HC.out.symm, 0, rfl⟩

theorem drewB (w : World) (q : Nat) : Below w.heap.size w (w.drewN q) := ⟨rfl, rfl, rfl, Nat.le_refl _, fun _ _ => rfl⟩
end Go.Proofs.YtekjcmejnhhpaaaDoor
