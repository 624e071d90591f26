/- rule.Run: step after step, up to the first error. -/
import Derived.Test.YtoppncaidhlenacMirrors
namespace Go.Proofs.Ytoppncaidhlenac
open Go.RowKit

/-- one step -/
def StepTo (b l : Int) (ys : List (Int × Int)) (code : Int) (ts : List (Int × Int)) : Prop := ∃ out, NextSet b l ys out ∧ Tidied out ts ∧ code = tcode out
/-- so many steps -/
def RunsTo (b l : Int) (zs : List (Int × Int)) : Nat → Int → List (Int × Int) → Prop
  | 0, code, ts => Tidied zs ts ∧ code = tcode zs
  | k + 1, code, ts => ∃ c t, RunsTo b l zs k c t ∧ ((c ≠ 0 ∧ code = c ∧ ts = t) ∨ (c = 0 ∧ StepTo b l t code ts))

theorem tcode_perm {a b : List (Int × Int)} (h : a.Perm b) : tcode a = tcode b := by
  unfold tcode
  rw [h.length_eq]
  have : a.any farP = b.any farP := by
    rw [Bool.eq_iff_iff, List.any_eq_true, List.any_eq_true]
    exact ⟨fun ⟨x, hx, e⟩ => ⟨x, h.mem_iff.1 hx, e⟩, fun ⟨x, hx, e⟩ => ⟨x, h.mem_iff.2 hx, e⟩⟩
  rw [this]
theorem StepTo.unique {b l : Int} {ys : List (Int × Int)} {c c' : Int} {t t' : List (Int × Int)} (h : StepTo b l ys c t) (h' : StepTo b l ys c' t') : c = c' ∧ t = t' := by
  obtain ⟨o, n, d, rfl⟩ := h
  obtain ⟨o', n', d', rfl⟩ := h'
  have hp : o.Perm o' := perm_of n.1 n'.1 fun p => by rw [n.2 p, n'.2 p]
  have hc := tcode_perm hp
  refine ⟨hc, tidy_unique _ _ d.1 d'.1 fun p => ?_⟩
  rw [d.2 p, d'.2 p, hc, hp.mem_iff]
theorem RunsTo.unique {b l : Int} {zs : List (Int × Int)} : ∀ {k : Nat} {c c' : Int} {t t' : List (Int × Int)}, RunsTo b l zs k c t → RunsTo b l zs k c' t' → c = c' ∧ t = t'
  | 0, _, _, _, _, ⟨h1, h2⟩, ⟨h3, h4⟩ => ⟨by rw [h2, h4], h1.unique h3⟩
  | k + 1, _, _, _, _, ⟨c, t, h1, h2⟩, ⟨c', t', h3, h4⟩ => by
    obtain ⟨rfl, rfl⟩ := RunsTo.unique h1 h3
    rcases h2 with ⟨a1, a2, a3⟩ | ⟨a1, a2⟩
    · rcases h4 with ⟨b1, b2, b3⟩ | ⟨b1, b2⟩
      · exact ⟨by rw [a2, b2], by rw [a3, b3]⟩
      · exact absurd b1 a1
    · rcases h4 with ⟨b1, b2, b3⟩ | ⟨b1, b2⟩
      · exact absurd a1 b1
      · exact a2.unique b2
/-- once there is an error, it stays -/
theorem RunsTo.stuck {b l : Int} {zs : List (Int × Int)} {k : Nat} {c : Int} {t : List (Int × Int)} (h : RunsTo b l zs k c t) (hc : c ≠ 0) : ∀ m, RunsTo b l zs (k + m) c t
  | 0 => h
  | m + 1 => ⟨c, t, RunsTo.stuck h hc m, Or.inl ⟨hc, rfl, rfl⟩⟩
/-- without an error the cells are in order, and tidy already -/
theorem RunsTo.fine {b l : Int} {zs : List (Int × Int)} : ∀ {k : Nat} {t : List (Int × Int)}, RunsTo b l zs k 0 t → tcode t = 0 ∧ Tidy t
  | 0, t, ⟨h1, h2⟩ => by
    have hm : ∀ p, p ∈ t ↔ p ∈ zs := fun p => by rw [h1.2 p, ← h2]; simp
    have hz := tcode_zero.1 h2.symm
    refine ⟨tcode_zero.2 ⟨Nat.le_trans (len_le (tidy_nodup h1.1) (fun p hp => (hm p).1 hp)) hz.1, ?_⟩, h1.1⟩
    rw [List.any_eq_false]
    intro p hp
    exact List.any_eq_false.1 hz.2 p ((hm p).1 hp)
  | k + 1, t, ⟨c, s, h1, h2⟩ => by
    rcases h2 with ⟨a1, a2, a3⟩ | ⟨a1, o, n, d, e⟩
    · exact absurd a2.symm a1
    · have hm : ∀ p, p ∈ t ↔ p ∈ o := fun p => by rw [d.2 p, ← e]; simp
      have hz := tcode_zero.1 e.symm
      refine ⟨tcode_zero.2 ⟨Nat.le_trans (len_le (tidy_nodup d.1) (fun p hp => (hm p).1 hp)) hz.1, ?_⟩, d.1⟩
      rw [List.any_eq_false]
      intro p hp
      exact List.any_eq_false.1 hz.2 p ((hm p).1 hp)
/-- a run may be cut -/
theorem RunsTo.cut {b l : Int} {zs tb : List (Int × Int)} {n : Nat} (hb : RunsTo b l zs n 0 tb) : ∀ {m : Nat} {c c' : Int} {t t' : List (Int × Int)}, RunsTo b l zs (n + m) c t → RunsTo b l tb m c' t' → c = c' ∧ t = t'
  | 0, c, c', t, t', h1, ⟨h2, h3⟩ => by
    obtain ⟨rfl, rfl⟩ := RunsTo.unique h1 hb
    obtain ⟨f1, f2⟩ := hb.fine
    exact ⟨by rw [h3, f1], tidy_unique _ _ f2 h2.1 fun p => by rw [h2.2 p, f1]; simp⟩
  | m + 1, c, c', t, t', ⟨d, s, h1, h2⟩, ⟨d', s', h3, h4⟩ => by
    obtain ⟨rfl, rfl⟩ := RunsTo.cut hb h1 h3
    rcases h2 with ⟨a1, a2, a3⟩ | ⟨a1, a2⟩
    · rcases h4 with ⟨b1, b2, b3⟩ | ⟨b1, b2⟩
      · exact ⟨by rw [a2, b2], by rw [a3, b3]⟩
      · exact absurd b1 a1
    · rcases h4 with ⟨b1, b2, b3⟩ | ⟨b1, b2⟩
      · exact absurd a1 b1
      · exact a2.unique b2
theorem RunsTo.first {b l : Int} {zs tb t : List (Int × Int)} {n m : Nat} {c : Int} (hb : RunsTo b l zs n c tb) (h : RunsTo b l zs (n + m) 0 t) : c = 0 := by
  by_cases hc : c = 0
  · exact hc
  · exact absurd (RunsTo.unique (hb.stuck hc m) h).1 hc

set_option maxRecDepth 4000 in
set_option maxHeartbeats 4000000 in
theorem run_any (b l : Int) (v : Value) (zs : List (Int × Int)) (n : Nat) (w : World) (h : Row w v zs) (hg : goodB b l = true) (hn : n ≤ 256) :
    Calls Try.prog 22 #[.agg #[.int .i64 b, .int .i64 l], v, .int .i64 n] w fun e w' => ∃ u code ts, RunsTo b l zs n code ts ∧ e = .returned (.tuple #[u, .int .i64 code]) ∧ Below w.heap.size w w' ∧ ORow w' w.heap.size u ts := by
  have hi1 : (0 : Int) ≤ (n : Int) := by omega
  have hi2 : (n : Int) ≤ 256 := by omega
  have q0 := RuleIn.born w b l 23
  go_enter Try.func22, Try.ntmps22
  go_wp2_with fail
  refine (good_any b l _).mono ?_
  rintro e w1 ⟨rfl, c1⟩
  rw [hg]
  have q1 := q0.go c1
  go_wp2_with fail
  refine (tidy_told v zs w1 (h.below q1.2.2.2.2.2)).mono ?_
  rintro e w2 ⟨u, ys, rfl, c2, t2, o2⟩
  have q2 := q1.go c2
  have HR : Hid (RunsTo b l zs 0 (tcode zs) ys ∧ ORow w2 w.heap.size u ys ∧ RuleIn w b l w2) := ⟨⟨t2, rfl⟩, o2.mono (Nat.le_of_lt q1.2.2.2.2.1), q2⟩
  clear q0 q1 q2 c1 c2 t2 o2 h
  go_wp2_with fail
  go_loopg [1, 8, 24] n (fun gk s1 s8 s24 wr => ∃ (k : Nat) (code : Int) (ts : List (Int × Int)), k + gk = n ∧ s24 = .int .i64 k ∧ s8 = .int .i64 code ∧ RunsTo b l zs k code ts ∧ ORow wr w.heap.size s1 ts ∧ RuleIn w b l wr)
  case atStart => exact ⟨0, _, ys, by omega, rfl, rfl, HR.out.1, HR.out.2.1, HR.out.2.2⟩
  case round =>
    obtain ⟨k, code, ts, hk, rfl, rfl, hruns, horow, hrule⟩ := hrel
    have HK : Hid (k + gk = n) := hk
    have H1 : Hid (RunsTo b l zs k code ts ∧ ORow wr w.heap.size u1 ts ∧ RuleIn w b l wr) := ⟨hruns, horow, hrule⟩
    obtain ⟨f0, f1, _⟩ := hrule
    have hkn : k ≤ n := by omega
    clear hk hruns horow HR
    by_cases hlt : k < n
    · have hj : (k : Int) < (n : Int) := by omega
      by_cases hc : code = 0
      · subst hc
        obtain ⟨fine1, fine2⟩ := H1.out.1.fine
        go_wp2_with fail
        refine (next_some b l u1 ts wr H1.out.2.1.read hg fine1).mono ?_
        rintro e w3 ⟨vb, ys', out, ts', ty, nn, tt, rfl, c3, o3⟩
        have ey : ys' = ts := tidy_unique _ _ ty.1 fine2 fun p => by rw [ty.2 p, fine1]; simp
        subst ey
        have H2 : Hid (RunsTo b l zs (k + 1) (tcode out) ts' ∧ ORow w3 w.heap.size vb ts' ∧ RuleIn w b l w3) :=
          ⟨⟨0, ys', H1.out.1, Or.inr ⟨rfl, out, nn, tt, rfl⟩⟩, o3.mono (Nat.le_of_lt H1.out.2.2.2.2.2.2.1), H1.out.2.2.go c3⟩
        clear ty nn tt o3 c3 fine1 fine2
        go_wp2_with fail
        go_roundg (gk - 1)
        case measure => have := HK.out; omega
        case rel =>
          have := HK.out
          exact ⟨k + 1, _, ts', by omega, by go_num, rfl, H2.out.1, H2.out.2.1, H2.out.2.2⟩
      · have hcb : (code == 0) = false := by simpa using hc
        have HS : Hid (RunsTo b l zs n code ts) := by
          show RunsTo b l zs n code ts
          have h1 := H1.out.1.stuck hc (n - k)
          rw [show k + (n - k) = n by omega] at h1
          exact h1
        go_wp2_with fail
        go_ret2
        exact ⟨_, _, ts, HS.out, rfl, H1.out.2.2.2.2.2.2.2, H1.out.2.1⟩
    · have hkn2 : k = n := by omega
      subst hkn2
      go_wp2_with fail
      go_ret2
      exact ⟨_, _, ts, H1.out.1, rfl, H1.out.2.2.2.2.2.2.2, H1.out.2.1⟩
end Go.Proofs.Ytoppncaidhlenac
