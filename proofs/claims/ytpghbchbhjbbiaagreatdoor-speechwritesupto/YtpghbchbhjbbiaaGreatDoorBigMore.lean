/- Whole numbers: compared, added, taken as int64. -/
import Derived.Test.YtpghbchbhjbbiaaGreatDoorBigText
namespace Go.Proofs.YtpghbchbhjbbiaaGreatDoor
open Go.RowKit

/-- how many words a small number has -/
theorem wd_few {n k : Nat} (hn : n < 18446744073709551616) (hp : k ≠ 0 → 4294967296 ^ (k - 1) ≤ n) : k ≤ 2 := by
  refine Nat.le_of_not_lt fun h => ?_
  have h1 := hp (by omega)
  have h2 : 4294967296 ^ 2 ≤ 4294967296 ^ (k - 1) := Nat.pow_le_pow_right (by omega) (by omega)
  have h3 : (4294967296 : Nat) ^ 2 = 18446744073709551616 := by decide
  omega

theorem wd_many {n k : Nat} (hn : Few n) (hp : k ≠ 0 → 4294967296 ^ (k - 1) ≤ n) : k ≤ 700 := by
  refine Nat.le_of_not_lt fun h => ?_
  have h1 := hp (by omega)
  have h2 : 4294967296 ^ lim ≤ 4294967296 ^ (k - 1) := Nat.pow_le_pow_right (by decide) (by show 700 ≤ k - 1; omega)
  exact absurd (Nat.lt_of_lt_of_le hn (Nat.le_trans h2 h1)) (Nat.lt_irrefl _)
theorem ten_lim : 10 ^ 6100 ≤ 4294967296 ^ lim := by unfold lim; decide +kernel
theorem ret_i {k : IntKind} {a b : Int} (h : a = b) : Ending.returned (.int k a) = .returned (.int k b) := by rw [h]
theorem uint64_any (b n : Nat) (w : World) (h : IsInt b n w) (hn : n < 18446744073709551616) :
    Calls Tryz.prog 68 #[.pointer (some ⟨b, 0, none⟩)] w fun e w' => e = .returned (.int .u64 n) ∧ w' = w := by
  obtain ⟨v, hb, a, k, c, rfl, hk, hc, hk2, hnk, hp, h⟩ := h
  have hk3 := wd_few hn hp
  have c1 : w.cell? ⟨b, 1, none⟩ = some (.slice a k c) := by rw [Lib.cell_of_heap hb]; rfl
  clear hb
  have hcases : k = 0 ∨ k = 1 ∨ k = 2 := by omega
  rcases hcases with rfl | rfl | rfl
  · have h0 : n = 0 := by simp at hnk; exact hnk
    subst h0
    clear hp hnk h
    go_enter Tryz.func68, Tryz.ntmps68
    go_wp2_with fail
    go_ret
    exact ⟨rfl, rfl⟩
  · rcases h with h | ⟨b', off, rfl, _, hlt, hw⟩
    · omega
    have d0 := hw 0 (by omega)
    have h0 : wd n 0 = n := by rw [wd_two0]; simp at hnk; exact Nat.mod_eq_of_lt hnk
    rw [h0] at d0
    have hn1 : (n : Int) < 4294967296 := by simp at hnk; omega
    simp only [Nat.add_zero] at d0
    clear hp hnk hw h0
    go_enter Tryz.func68, Tryz.ntmps68
    go_wp2_with fail
    go_ret
    exact ⟨rfl, rfl⟩
  · rcases h with h | ⟨b', off, rfl, _, hlt, hw⟩
    · omega
    have d0 := hw 0 (by omega)
    have d1 := hw 1 (by omega)
    have h0 := wd_two0 n
    have h1 := wd_two1 n hn
    rw [h0] at d0
    rw [h1] at d1
    simp only [Nat.add_zero] at d0
    obtain ⟨x, hx⟩ : ∃ x, x = n % 4294967296 := ⟨_, rfl⟩
    obtain ⟨y, hy⟩ : ∃ y, y = n / 4294967296 := ⟨_, rfl⟩
    rw [← hx] at d0
    rw [← hy] at d1
    have hx2 : x < 4294967296 := by omega
    have hy2 : y < 4294967296 := by omega
    have HN : Hid (n = y * 4294967296 + x) := by show _ = _; omega
    have hor : bits .or .u64 (x : Int) ((y : Int) * 4294967296) = ((y * 4294967296 + x : Nat) : Int) := by
      have := bits_or_u64_nat x (y * 4294967296) (by omega) (by omega)
      rw [Nat.or_comm, or_word y x hx2] at this
      simpa using this
    clear hp hnk hw h0 h1 hx hy
    obtain ⟨z, hz⟩ : ∃ z, z = y * 4294967296 + x := ⟨_, rfl⟩
    rw [← hz] at hor
    have HZ : Hid (z = y * 4294967296 + x) := hz
    clear hz
    go_enter Tryz.func68, Tryz.ntmps68
    go_wp2_with fail
    go_ret
    exact ⟨ret_i (by rw [HN.out, ← HZ.out]), rfl⟩

theorem int64_any (b n : Nat) (w : World) (h : IsInt b n w) (hn : n < 9223372036854775808) :
    Calls Tryz.prog 45 #[.pointer (some ⟨b, 0, none⟩)] w fun e w' => e = .returned (.int .i64 n) ∧ w' = w := by
  have hu := uint64_any b n w h (by omega)
  obtain ⟨v, hb, _⟩ := h
  have c0 : w.cell? ⟨b, 0, none⟩ = some (.bool false) := by rw [Lib.cell_of_heap hb]; rfl
  have hn2 : (n : Int) < 9223372036854775808 := by omega
  clear hb
  go_enter Tryz.func45, Tryz.ntmps45
  go_wp2_with fail
  refine hu.mono ?_
  rintro e w1 ⟨rfl, rfl⟩
  go_wp2_with fail
  go_ret
  exact ⟨rfl, rfl⟩

/-- what cmp answers -/
def cmpW (n m : Nat) : Int := if n < m then -1 else if n = m then 0 else 1
/-- the words from a place on are the same -/
theorem wd_split (n m i : Nat) (h : n / 4294967296 ^ (i + 1) = m / 4294967296 ^ (i + 1)) : (wd n i < wd m i → n < m) ∧ (wd n i = wd m i → n / 4294967296 ^ i = m / 4294967296 ^ i) := by
  have h1 := wd_next n i
  have h2 := wd_next m i
  refine ⟨fun hl => ?_, fun he => by omega⟩
  refine Nat.lt_of_not_le fun hle => ?_
  have := Nat.div_le_div_right (c := 4294967296 ^ i) hle
  omega

set_option maxHeartbeats 1000000 in
theorem cmp_any (B B' n m : Nat) (u v : Value) (w : World) (hu : Wd w B u n) (hv : Wd w B' v m) :
    Calls Tryz.prog 66 #[u, v] w fun e w' => e = .returned (.int .i64 (cmpW n m)) ∧ ∃ q, w' = w.drewN q := by
  obtain ⟨a, k, c, rfl, hk, hc, hk2, hn, hp, hu⟩ := hu
  obtain ⟨a', k', c', rfl, hk', hc', hk2', hm, hp', hv⟩ := hv
  by_cases hkk : k = k'
  · subst hkk
    have HN : Hid (n < 4294967296 ^ k ∧ m < 4294967296 ^ k) := ⟨hn, hm⟩
    clear hn hm hp hp'
    go_enter Tryz.func66, Tryz.ntmps66
    go_wp2_with fail
    go_loopg [5] k (fun g s wr => ∃ i q : Nat, i = g ∧ i ≤ k ∧ s = .int .i64 ((i : Int) - 1) ∧ n / 4294967296 ^ i = m / 4294967296 ^ i ∧ wr = w.drewN q)
    case atStart =>
      refine ⟨k, 0, rfl, Nat.le_refl _, rfl, ?_, rfl⟩
      rw [Nat.div_eq_of_lt HN.out.1, Nat.div_eq_of_lt HN.out.2]
    case round =>
      obtain ⟨i, q, rfl, hik, rfl, he, rfl⟩ := hrel
      have HE : Hid (n / 4294967296 ^ i = m / 4294967296 ^ i) := he
      clear he
      cases i with
      | zero =>
        have HC : Hid (cmpW n m = 0) := by
          have := HE.out
          simp at this
          show _ = _
          unfold cmpW
          rw [if_neg (by omega), if_pos this]
        go_wp2_with fail
        go_ret
        exact ⟨ret_i HC.out.symm, _, rfl⟩
      | succ i =>
        rcases hu with hu | ⟨b, off, rfl, _, hlt, hw⟩
        · omega
        rcases hv with hv | ⟨b', off', rfl, _, hlt', hw'⟩
        · omega
        have c0 := hw i (by omega)
        have c1 := hw' i (by omega)
        obtain ⟨hs1, hs2⟩ := wd_split n m i HE.out
        obtain ⟨hs3, _⟩ := wd_split m n i HE.out.symm
        have hx := wd_lt n i
        have hy := wd_lt m i
        have hi1 : (0 : Int) ≤ (i : Int) := by omega
        have hi2 : (i : Int) < (k : Int) := by omega
        rw [show (((i + 1 : Nat) : Int) - 1) = (i : Int) by omega]
        generalize wd n i = x at *
        generalize wd m i = y at *
        by_cases hxy : x = y
        · have HS : Hid (n / 4294967296 ^ i = m / 4294967296 ^ i) := hs2 hxy
          subst hxy
          clear hs1 hs2 hs3
          go_wp2_with fail
          go_quiet (fail)
          go_wp2_with fail
          go_roundg i
          case measure => omega
          case rel => exact ⟨i, _, rfl, by omega, rfl, HS.out, rfl⟩
        · have hne : ((x : Int) != (y : Int)) = true := by simp; omega
          by_cases hl : x < y
          · have HC : Hid (cmpW n m = -1) := by show _ = _; unfold cmpW; rw [if_pos (hs1 hl)]
            have hl2 : (x : Int) < (y : Int) := by omega
            clear hs1 hs2 hs3 hxy
            go_wp2_with fail
            go_quiet (fail)
            go_wp2_with fail
            go_quiet (fail)
            go_wp2_with fail
            go_ret
            exact ⟨ret_i HC.out.symm, _, by rw [World.drewN_drewN, World.drewN_drewN]⟩
          · have h3 := hs3 (by omega)
            have HC : Hid (cmpW n m = 1) := by show _ = _; unfold cmpW; rw [if_neg (by omega), if_neg (by omega)]
            have hl2 : ¬ (x : Int) < (y : Int) := by omega
            clear hs1 hs2 hs3 hxy
            go_wp2_with fail
            go_quiet (fail)
            go_wp2_with fail
            go_quiet (fail)
            go_wp2_with fail
            go_ret
            exact ⟨ret_i HC.out.symm, _, by rw [World.drewN_drewN, World.drewN_drewN]⟩
  · have hne : ((k : Int) != (k' : Int)) = true := by simp; omega
    by_cases hl : k < k'
    · have hlt : n < m := by
        have h1 : 4294967296 ^ k ≤ 4294967296 ^ (k' - 1) := Nat.pow_le_pow_right (by omega) (by omega)
        have h2 := hp' (by omega)
        omega
      have HC : Hid (cmpW n m = -1) := by show _ = _; unfold cmpW; rw [if_pos hlt]
      have hl2 : (k : Int) < (k' : Int) := by omega
      clear hn hm hp hp' hlt
      go_enter Tryz.func66, Tryz.ntmps66
      go_wp2_with fail
      go_ret
      exact ⟨ret_i HC.out.symm, 0, rfl⟩
    · have hlt : m < n := by
        have h1 : 4294967296 ^ k' ≤ 4294967296 ^ (k - 1) := Nat.pow_le_pow_right (by omega) (by omega)
        have h2 := hp (by omega)
        omega
      have HC : Hid (cmpW n m = 1) := by show _ = _; unfold cmpW; rw [if_neg (by omega), if_neg (by omega)]
      have hl2 : ¬ (k : Int) < (k' : Int) := by omega
      clear hn hm hp hp' hlt
      go_enter Tryz.func66, Tryz.ntmps66
      go_wp2_with fail
      go_ret
      exact ⟨ret_i HC.out.symm, 0, rfl⟩

theorem drewB (w : World) (q : Nat) : Below w.heap.size w (w.drewN q) := ⟨rfl, rfl, rfl, Nat.le_refl _, fun _ _ => rfl⟩
end Go.Proofs.YtpghbchbhjbbiaaGreatDoor
