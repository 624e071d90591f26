/- rule.Run, whatever the rule, the list and the number. -/
import Derived.Test.YtoppncaidhlenabRefRun
namespace Go.Proofs.Ytoppncaidhlenab
open Go.RowKit

theorem NextIs.empty {b l c : Int} {zs ts : List (Int × Int)} (h : NextIs b l zs c ts) (hc : c ≠ 0) : ts = [] := by
  rcases h with ⟨_, _, h⟩ | ⟨_, _, _, h⟩ | ⟨_, _, ys, out, _, _, h1, h2⟩
  · exact h
  · exact h
  · cases ts with
    | nil => rfl
    | cons p r =>
      have := (h2.2 p).1 (by simp)
      exact absurd (h1.trans this.2) hc
theorem StepsTo.empty {b l : Int} {zs : List (Int × Int)} : ∀ {m : Nat} {c : Int} {ts : List (Int × Int)}, StepsTo b l zs m c ts → c ≠ 0 → ts = []
  | 0, c, ts, ⟨h1, h2⟩, hc => by
    cases ts with
    | nil => rfl
    | cons p r =>
      have := (h2.2 p).1 (by simp)
      exact absurd (h1.trans this.2) hc
  | m + 1, c, ts, ⟨c', ts', _, h2⟩, hc => by
    rcases h2 with ⟨_, _, h⟩ | ⟨_, h⟩
    · exact h
    · exact h.empty hc
theorem StepsTo.stuck {b l : Int} {zs : List (Int × Int)} {k : Nat} {c : Int} {ts : List (Int × Int)} (h : StepsTo b l zs k c ts) (hc : c ≠ 0) : ∀ m, StepsTo b l zs (k + m) c ts
  | 0 => h
  | m + 1 => ⟨c, ts, StepsTo.stuck h hc m, Or.inl ⟨hc, rfl, h.empty hc⟩⟩

set_option maxHeartbeats 1000000 in
theorem run_out (b l n : Int) (v : Value) (zs : List (Int × Int)) (w : World) (hn : n < 0 ∨ 256 < n) :
    Calls Try.prog 30 #[.agg #[.int .i64 b, .int .i64 l], v, .int .i64 n] w fun e w' => SaysR b l zs n w e w' := by
  have HN : Hid (n < 0 ∨ 256 < n) := hn
  by_cases h0 : n < 0
  · clear hn
    go_enter Try.func30, Try.ntmps30
    go_wp2_with fail
    go_ret2
    exact ⟨_, _, [], rfl, (Below.refl _ _).alloc (Nat.le_refl _) _, Or.inl ⟨rfl, rfl⟩, by unfold RunIs; rw [if_pos HN.out]; exact ⟨rfl, rfl⟩⟩
  · have h1 : 256 < n := by omega
    clear hn
    go_enter Try.func30, Try.ntmps30
    go_wp2_with fail
    go_ret2
    exact ⟨_, _, [], rfl, (Below.refl _ _).alloc (Nat.le_refl _) _, Or.inl ⟨rfl, rfl⟩, by unfold RunIs; rw [if_pos HN.out]; exact ⟨rfl, rfl⟩⟩
set_option maxHeartbeats 1000000 in
theorem run_bad (b l n : Int) (v : Value) (zs : List (Int × Int)) (w : World) (h0 : 0 ≤ n) (h1 : n ≤ 256) (hg : goodB b l = false) :
    Calls Try.prog 30 #[.agg #[.int .i64 b, .int .i64 l], v, .int .i64 n] w fun e w' => SaysR b l zs n w e w' := by
  have hgd := fun W => good_any b l W
  have q0 := RuleIn.born w b l 37
  rw [hg] at hgd
  have HGD : Hid (goodB b l = false) := hg
  have k0 : ¬ n < 0 := by omega
  have k1 : ¬ 256 < n := by omega
  clear hg
  go_enter Try.func30, Try.ntmps30
  go_wp2_with fail
  refine (hgd _).mono ?_
  rintro e w1 ⟨rfl, c1⟩
  have b1 := (q0.go c1).2.2.2.2.2
  go_wp2_with fail
  go_ret2
  exact ⟨_, _, [], rfl, b1, Or.inl ⟨rfl, rfl⟩, by unfold RunIs; rw [if_neg (by omega), if_pos HGD.out]; exact ⟨rfl, rfl⟩⟩

theorem runIs_of {b l : Int} {zs ts : List (Int × Int)} {n : Nat} {c : Int} (hg : goodB b l = true) (hn : n ≤ 256) (h : StepsTo b l zs n c ts) : RunIs b l zs (n : Int) c ts := by
  unfold RunIs
  rw [if_neg (by omega), if_neg (by rw [hg]; simp)]
  simpa using h

set_option maxRecDepth 4000 in
set_option maxHeartbeats 4000000 in
theorem run_good (b l : Int) (v : Value) (zs : List (Int × Int)) (n : Nat) (w : World) (h : Row w v zs) (hg : goodB b l = true) (hn : n ≤ 256) :
    Calls Try.prog 30 #[.agg #[.int .i64 b, .int .i64 l], v, .int .i64 n] w fun e w' => SaysR b l zs (n : Int) w e w' := by
  have hi1 : (0 : Int) ≤ (n : Int) := by omega
  have hi2 : (n : Int) ≤ 256 := by omega
  have q0 := RuleIn.born w b l 37
  go_enter Try.func30, Try.ntmps30
  go_wp2_with fail
  refine (good_any b l _).mono ?_
  rintro e w1 ⟨rfl, c1⟩
  rw [hg]
  have q1 := q0.go c1
  go_wp2_with fail
  refine (tidy_told v zs w1 (h.below q1.2.2.2.2.2)).mono ?_
  rintro e w2 ⟨u, ys, rfl, c2, t2, o2⟩
  have q2 := q1.go c2
  have HR : Hid (StepsTo b l zs 0 (tcode zs) ys ∧ Row w2 u ys ∧ RuleIn w b l w2) := ⟨⟨rfl, t2⟩, o2.read, q2⟩
  clear q0 q1 q2 c1 c2 t2 o2 h
  go_wp2_with fail
  go_loopg [1, 8, 24] n (fun gk s1 s8 s24 wr => ∃ (k : Nat) (code : Int) (ts : List (Int × Int)), k + gk = n ∧ s24 = .int .i64 k ∧ s8 = .int .i64 code ∧ StepsTo b l zs k code ts ∧ Row wr s1 ts ∧ RuleIn w b l wr)
  case atStart => exact ⟨0, _, ys, by omega, rfl, rfl, HR.out.1, HR.out.2.1, HR.out.2.2⟩
  case round =>
    obtain ⟨k, code, ts, hk, rfl, rfl, hruns, horow, hrule⟩ := hrel
    have HK : Hid (k + gk = n) := hk
    have H1 : Hid (StepsTo b l zs k code ts ∧ Row wr u1 ts ∧ RuleIn w b l wr) := ⟨hruns, horow, hrule⟩
    obtain ⟨f0, f1, _⟩ := hrule
    have hkn : k ≤ n := by omega
    clear hk hruns horow HR
    by_cases hlt : k < n
    · have hj : (k : Int) < (n : Int) := by omega
      by_cases hc : code = 0
      · subst hc
        go_wp2_with fail
        refine (next_says b l u1 ts wr H1.out.2.1).mono ?_
        rintro e w3 ⟨vb, c', ts', rfl, c3, o3, nn⟩
        have H2 : Hid (StepsTo b l zs (k + 1) c' ts' ∧ Row w3 vb ts' ∧ RuleIn w b l w3) := ⟨⟨0, ts, H1.out.1, Or.inr ⟨rfl, nn⟩⟩, o3, H1.out.2.2.go c3⟩
        clear nn o3 c3
        go_wp2_with fail
        go_roundg (gk - 1)
        case measure => have := HK.out; omega
        case rel =>
          have := HK.out
          exact ⟨k + 1, _, ts', by omega, by go_num, rfl, H2.out.1, H2.out.2.1, H2.out.2.2⟩
      · have hcb : (code == 0) = false := by simpa using hc
        have HS : Hid (StepsTo b l zs n code ts) := by
          show StepsTo b l zs n code ts
          have h1 := H1.out.1.stuck hc (n - k)
          rw [show k + (n - k) = n by omega] at h1
          exact h1
        go_wp2_with fail
        go_ret2
        exact ⟨_, _, ts, rfl, H1.out.2.2.2.2.2.2.2, H1.out.2.1, runIs_of hg hn HS.out⟩
    · have hkn2 : k = n := by omega
      subst hkn2
      go_wp2_with fail
      go_ret2
      exact ⟨_, _, ts, rfl, H1.out.2.2.2.2.2.2.2, H1.out.2.1, runIs_of hg hn H1.out.1⟩
/-- rule.Run -/
theorem run_says (b l n : Int) (v : Value) (zs : List (Int × Int)) (w : World) (h : Row w v zs) :
    Calls Try.prog 30 #[.agg #[.int .i64 b, .int .i64 l], v, .int .i64 n] w fun e w' => SaysR b l zs n w e w' := by
  by_cases hn : n < 0 ∨ 256 < n
  · exact run_out b l n v zs w hn
  · by_cases hg : goodB b l = true
    · obtain ⟨m, rfl⟩ := Int.eq_ofNat_of_zero_le (show 0 ≤ n by omega)
      exact run_good b l v zs m w h hg (by omega)
    · exact run_bad b l n v zs w (by omega) (by omega) (by simpa using hg)
end Go.Proofs.Ytoppncaidhlenab
