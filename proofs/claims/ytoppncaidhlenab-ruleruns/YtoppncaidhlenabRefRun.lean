/- The document's Run, by induction. -/
import Derived.Test.YtoppncaidhlenabRefNext
namespace Go.Proofs.Ytoppncaidhlenab
open Go.RowKit

/-- what that many steps answer, of a good rule -/
def StepsTo (b l : Int) (zs : List (Int × Int)) : Nat → Int → List (Int × Int) → Prop
  | 0, c, ts => c = tcode zs ∧ Tidied zs ts
  | m + 1, c, ts => ∃ c' ts', StepsTo b l zs m c' ts' ∧ ((c' ≠ 0 ∧ c = c' ∧ ts = []) ∨ (c' = 0 ∧ NextIs b l ts' c ts))
theorem StepsTo.unique {b l : Int} {zs : List (Int × Int)} : ∀ {m : Nat} {c d : Int} {ts us : List (Int × Int)}, StepsTo b l zs m c ts → StepsTo b l zs m d us → c = d ∧ ts = us
  | 0, _, _, _, _, h, k => ⟨h.1.trans k.1.symm, h.2.unique k.2⟩
  | m + 1, _, _, _, _, ⟨c', ts', h1, h2⟩, ⟨d', us', k1, k2⟩ => by
    obtain ⟨e1, e2⟩ := StepsTo.unique h1 k1
    subst e1 e2
    rcases h2 with ⟨a1, a2, a3⟩ | ⟨a1, a2⟩
    · rcases k2 with ⟨b1, b2, b3⟩ | ⟨b1, b2⟩
      · exact ⟨a2.trans b2.symm, a3.trans b3.symm⟩
      · exact absurd b1 a1
    · rcases k2 with ⟨b1, b2, b3⟩ | ⟨b1, b2⟩
      · exact absurd a1 b1
      · exact a2.unique b2
/-- what Run answers -/
def RunIs (b l : Int) (zs : List (Int × Int)) (n : Int) (c : Int) (ts : List (Int × Int)) : Prop :=
  if n < 0 ∨ 256 < n then c = 3 ∧ ts = [] else if goodB b l = false then c = 4 ∧ ts = [] else StepsTo b l zs n.toNat c ts
theorem RunIs.unique {b l : Int} {zs : List (Int × Int)} {n c d : Int} {ts us : List (Int × Int)} (h : RunIs b l zs n c ts) (k : RunIs b l zs n d us) : c = d ∧ ts = us := by
  unfold RunIs at h k
  split at h
  · rename_i hn
    rw [if_pos hn] at k
    exact ⟨h.1.trans k.1.symm, h.2.trans k.2.symm⟩
  · rename_i hn
    rw [if_neg hn] at k
    split at h
    · rename_i hg
      rw [if_pos hg] at k
      exact ⟨h.1.trans k.1.symm, h.2.trans k.2.symm⟩
    · rename_i hg
      rw [if_neg hg] at k
      exact h.unique k
/-- an answer of Run -/
def SaysR (b l : Int) (zs : List (Int × Int)) (n : Int) (w : World) (e : Ending) (w' : World) : Prop :=
  ∃ u c ts, e = .returned (.tuple #[u, .int .i64 c]) ∧ Below w.heap.size w w' ∧ Row w' u ts ∧ RunIs b l zs n c ts

set_option maxHeartbeats 1000000 in
theorem refRun_out (b l n : Int) (v : Value) (zs : List (Int × Int)) (w : World) (hn : n < 0 ∨ 256 < n) :
    Calls Try.prog 31 #[.agg #[.int .i64 b, .int .i64 l], v, .int .i64 n] w fun e w' => SaysR b l zs n w e w' := by
  have HN : Hid (n < 0 ∨ 256 < n) := hn
  by_cases h0 : n < 0
  · clear hn
    go_enter Try.func31, Try.ntmps31
    go_wp2_with fail
    go_ret2
    exact ⟨_, _, [], rfl, (Below.refl _ _).alloc (Nat.le_refl _) _, Or.inl ⟨rfl, rfl⟩, by unfold RunIs; rw [if_pos HN.out]; exact ⟨rfl, rfl⟩⟩
  · have h1 : 256 < n := by omega
    clear hn
    go_enter Try.func31, Try.ntmps31
    go_wp2_with fail
    go_ret2
    exact ⟨_, _, [], rfl, (Below.refl _ _).alloc (Nat.le_refl _) _, Or.inl ⟨rfl, rfl⟩, by unfold RunIs; rw [if_pos HN.out]; exact ⟨rfl, rfl⟩⟩
set_option maxHeartbeats 1000000 in
theorem refRun_bad (b l n : Int) (v : Value) (zs : List (Int × Int)) (w : World) (h0 : 0 ≤ n) (h1 : n ≤ 256) (hg : goodB b l = false) :
    Calls Try.prog 31 #[.agg #[.int .i64 b, .int .i64 l], v, .int .i64 n] w fun e w' => SaysR b l zs n w e w' := by
  have hgd := fun W => refGood_any b l W
  have q0 := RuleIn.born w b l 37
  rw [hg] at hgd
  have HGD : Hid (goodB b l = false) := hg
  have k0 : ¬ n < 0 := by omega
  have k1 : ¬ 256 < n := by omega
  clear hg
  go_enter Try.func31, Try.ntmps31
  go_wp2_with fail
  refine (hgd _).mono ?_
  rintro e w1 ⟨rfl, c1⟩
  have b1 := (q0.go c1).2.2.2.2.2
  go_wp2_with fail
  go_ret2
  exact ⟨_, _, [], rfl, b1, Or.inl ⟨rfl, rfl⟩, by unfold RunIs; rw [if_neg (by omega), if_pos HGD.out]; exact ⟨rfl, rfl⟩⟩
set_option maxRecDepth 4000 in
set_option maxHeartbeats 2000000 in
theorem refRun_good (b l : Int) (v : Value) (zs : List (Int × Int)) (hg : goodB b l = true) : ∀ (m : Nat) (w : World), m ≤ 256 → RRow w v zs →
    Calls Try.prog 31 #[.agg #[.int .i64 b, .int .i64 l], v, .int .i64 (m : Int)] w fun e w' => SaysR b l zs (m : Int) w e w'
  | 0, w, _, h => by
    have hgd := fun W => refGood_any b l W
    have q0 := RuleIn.born w b l 37
    have HV : Hid (RRow w v zs) := h
    rw [hg] at hgd
    have HGD : Hid (goodB b l = true) := hg
    clear hg h
    go_enter Try.func31, Try.ntmps31
    go_wp2_with fail
    refine (hgd _).mono ?_
    rintro e w1 ⟨rfl, c1⟩
    have b1 := (q0.go c1).2.2.2.2.2
    have hTa := refTidy_told v zs w1 (HV.out.below b1)
    go_wp2_with fail
    refine hTa.mono ?_
    rintro e w2 ⟨va, ys, rfl, c2, ht2, hr2⟩
    have HT : Hid (Tidied zs ys ∧ Row w2 va ys) := ⟨ht2, hr2⟩
    clear ht2 hr2 hTa
    go_wp2_with fail
    go_ret2
    exact ⟨va, _, ys, rfl, b1.trans (c2.mono b1.size), HT.out.2, by unfold RunIs; rw [if_neg (by simp), if_neg (by rw [HGD.out]; simp)]; exact ⟨rfl, HT.out.1⟩⟩
  | m + 1, w, hm, h => by
    have ih := fun W (hW : RRow W v zs) => refRun_good b l v zs hg m W (by omega) hW
    have hgd := fun W => refGood_any b l W
    have q0 := RuleIn.born w b l 37
    have HV : Hid (RRow w v zs) := h
    rw [hg] at hgd
    have HGD : Hid (goodB b l = true) := hg
    clear hg h
    have k0 : ¬ ((m + 1 : Nat) : Int) < 0 := by omega
    have k1 : ¬ 256 < ((m + 1 : Nat) : Int) := by omega
    have k2 : ¬ ((m + 1 : Nat) : Int) = 0 := by omega
    have k3 : ((m + 1 : Nat) : Int) - 1 = (m : Int) := by omega
    obtain ⟨N, hN⟩ : ∃ N : Int, N = ((m + 1 : Nat) : Int) := ⟨_, rfl⟩
    rw [← hN] at k0 k1 k2 k3 ⊢
    have HN : Hid (N = ((m + 1 : Nat) : Int)) := hN
    clear hN
    go_enter Try.func31, Try.ntmps31
    go_wp2_with fail
    refine (hgd _).mono ?_
    rintro e w1 ⟨rfl, c1⟩
    have q1 := q0.go c1
    obtain ⟨r0, r1, _⟩ := id q1
    have b1 := q1.2.2.2.2.2
    have hI := ih w1 (HV.out.below b1)
    clear ih hgd q0 c1
    go_wp2_with fail
    refine hI.mono ?_
    rintro e w2 ⟨va, cc, ys, rfl, c2, hr2, hs2⟩
    have q2 := q1.go c2
    have HS : Hid (RunIs b l zs (m : Int) cc ys ∧ Row w2 va ys) := ⟨hs2, hr2⟩
    obtain ⟨t0, t1, _⟩ := id q2
    have b2 := q2.2.2.2.2.2
    have HSt : Hid (StepsTo b l zs m cc ys) := by
      show StepsTo b l zs m cc ys
      have h := hs2
      unfold RunIs at h
      rw [if_neg (by omega), if_neg (by rw [HGD.out]; simp)] at h
      simpa using h
    clear hs2 hr2 hI r0 r1 q1 q2 b1 c2
    by_cases hcc : cc = 0
    · have hnx := refNext_says b l va ys w2 HS.out.2.isRow
      subst hcc
      go_wp2_with fail
      refine hnx.mono ?_
      rintro e w3 ⟨vb, cd, us, rfl, c3, hr3, hs3⟩
      have HX : Hid (Row w3 vb us ∧ NextIs b l ys cd us) := ⟨hr3, hs3⟩
      clear hr3 hs3 hnx
      go_wp2_with fail
      go_ret2
      exact ⟨vb, cd, us, rfl, b2.trans (c3.mono b2.size), HX.out.1, by unfold RunIs; rw [HN.out, if_neg (by omega), if_neg (by rw [HGD.out]; simp)]; exact ⟨0, ys, HSt.out, Or.inr ⟨rfl, HX.out.2⟩⟩⟩
    · have hne : (cc != 0) = true := by simpa using hcc
      have HCC : Hid (cc ≠ 0) := hcc
      clear hcc
      go_wp2_with fail
      go_ret2
      exact ⟨_, cc, [], rfl, b2, Or.inl ⟨rfl, rfl⟩, by unfold RunIs; rw [HN.out, if_neg (by omega), if_neg (by rw [HGD.out]; simp)]; exact ⟨cc, ys, HSt.out, Or.inl ⟨HCC.out, rfl, rfl⟩⟩⟩
/-- the document's Run -/
theorem refRun_says (b l n : Int) (v : Value) (zs : List (Int × Int)) (w : World) (h : RRow w v zs) :
    Calls Try.prog 31 #[.agg #[.int .i64 b, .int .i64 l], v, .int .i64 n] w fun e w' => SaysR b l zs n w e w' := by
  by_cases hn : n < 0 ∨ 256 < n
  · exact refRun_out b l n v zs w hn
  · by_cases hg : goodB b l = true
    · obtain ⟨m, rfl⟩ := Int.eq_ofNat_of_zero_le (show 0 ≤ n by omega)
      exact refRun_good b l v zs hg m w (by omega) h
    · exact refRun_bad b l n v zs w (by omega) (by omega) (by simpa using hg)
end Go.Proofs.Ytoppncaidhlenab
