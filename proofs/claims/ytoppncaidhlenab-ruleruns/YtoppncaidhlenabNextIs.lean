/- What Next answers, whatever the rule and the list: rule.Next, and the document's where the rule or the list is wrong. -/
import Derived.Test.YtoppncaidhlenabEight
import Derived.Test.YtoppncaidhlenabFlags
import Derived.Test.YtoppncaidhlenabRuleIn
namespace Go.Proofs.Ytoppncaidhlenab
open Go.RowKit Go.Maps

/-- what Next answers, whatever the rule and the list -/
def NextIs (b l : Int) (zs : List (Int × Int)) (c : Int) (ts : List (Int × Int)) : Prop :=
  (goodB b l = false ∧ c = 4 ∧ ts = []) ∨ (goodB b l = true ∧ tcode zs ≠ 0 ∧ c = tcode zs ∧ ts = []) ∨
  (goodB b l = true ∧ tcode zs = 0 ∧ ∃ ys out, Tidied zs ys ∧ NextSet b l ys out ∧ c = tcode out ∧ Tidied out ts)
theorem NextIs.unique {b l c d : Int} {zs ts us : List (Int × Int)} (h : NextIs b l zs c ts) (k : NextIs b l zs d us) : c = d ∧ ts = us := by
  rcases h with ⟨h1, h2, h3⟩ | ⟨h1, h2, h3, h4⟩ | ⟨h1, h2, ys, out, h3, h4, h5, h6⟩
  · rcases k with ⟨k1, k2, k3⟩ | ⟨k1, _⟩ | ⟨k1, _⟩
    · exact ⟨h2.trans k2.symm, h3.trans k3.symm⟩
    · rw [h1] at k1; cases k1
    · rw [h1] at k1; cases k1
  · rcases k with ⟨k1, k2, k3⟩ | ⟨k1, k2, k3, k4⟩ | ⟨k1, k2, _⟩
    · rw [h1] at k1; cases k1
    · exact ⟨h3.trans k3.symm, h4.trans k4.symm⟩
    · exact absurd k2 h2
  · rcases k with ⟨k1, k2, k3⟩ | ⟨k1, k2, k3, k4⟩ | ⟨k1, k2, ys2, out2, k3, k4, k5, k6⟩
    · rw [h1] at k1; cases k1
    · exact absurd h2 k2
    · have e := h3.unique k3
      subst e
      obtain ⟨e1, e2⟩ := next_same h4 k4
      exact ⟨by rw [h5, k5, e1], (e2 ts h6).unique k6⟩
/-- an answer of Next -/
def SaysN (b l : Int) (zs : List (Int × Int)) (w : World) (e : Ending) (w' : World) : Prop :=
  ∃ u c ts, e = .returned (.tuple #[u, .int .i64 c]) ∧ Below w.heap.size w w' ∧ Row w' u ts ∧ NextIs b l zs c ts

set_option maxHeartbeats 1000000 in
theorem next_bad (b l : Int) (v : Value) (zs : List (Int × Int)) (w : World) (hg : goodB b l = false) :
    Calls Try.prog 24 #[.agg #[.int .i64 b, .int .i64 l], v] w fun e w' => SaysN b l zs w e w' := by
  have hgd := fun W => good_any b l W
  have q0 := RuleIn.born w b l 37
  rw [hg] at hgd
  have HGD : Hid (goodB b l = false) := hg
  clear hg
  go_enter Try.func24, Try.ntmps24
  go_wp2_with fail
  refine (hgd _).mono ?_
  rintro e w1 ⟨rfl, c1⟩
  have b1 := (q0.go c1).2.2.2.2.2
  go_wp2_with fail
  go_ret2
  exact ⟨_, _, [], rfl, b1, Or.inl ⟨rfl, rfl⟩, Or.inl ⟨HGD.out, rfl, rfl⟩⟩
set_option maxHeartbeats 1000000 in
theorem next_err (b l : Int) (v : Value) (zs : List (Int × Int)) (w : World) (h : Row w v zs) (hg : goodB b l = true) (htc : tcode zs ≠ 0) :
    Calls Try.prog 24 #[.agg #[.int .i64 b, .int .i64 l], v] w fun e w' => SaysN b l zs w e w' := by
  have hgd := fun W => good_any b l W
  have q0 := RuleIn.born w b l 37
  have HV : Hid (Row w v zs) := h
  rw [hg] at hgd
  have HGD : Hid (goodB b l = true) := hg
  have HC : Hid (tcode zs ≠ 0) := htc
  have hne : (tcode zs != 0) = true := by simpa using htc
  clear htc hg h
  go_enter Try.func24, Try.ntmps24
  go_wp2_with fail
  refine (hgd _).mono ?_
  rintro e w1 ⟨rfl, c1⟩
  have q1 := q0.go c1
  have b1 := q1.2.2.2.2.2
  have hTa := tidy_told v zs w1 (HV.out.below b1)
  generalize hc : tcode zs = code at *
  have HE : Hid (tcode zs = code) := hc
  clear q0 hgd hc
  go_wp2_with fail
  refine hTa.mono ?_
  rintro e w2 ⟨va, ys, rfl, c2, ht2, hr2⟩
  have b2 := (q1.go c2).2.2.2.2.2
  clear hTa
  go_wp2_with fail
  go_ret2
  exact ⟨_, _, [], rfl, b2, Or.inl ⟨rfl, rfl⟩, Or.inr (Or.inl ⟨HGD.out, by rw [HE.out]; exact HC.out, HE.out.symm, rfl⟩)⟩
set_option maxHeartbeats 1000000 in
theorem refNext_bad (b l : Int) (v : Value) (zs : List (Int × Int)) (w : World) (hg : goodB b l = false) :
    Calls Try.prog 26 #[.agg #[.int .i64 b, .int .i64 l], v] w fun e w' => SaysN b l zs w e w' := by
  have hgd := fun W => refGood_any b l W
  have q0 := RuleIn.born w b l 37
  rw [hg] at hgd
  have HGD : Hid (goodB b l = false) := hg
  clear hg
  go_enter Try.func26, Try.ntmps26
  go_wp2_with fail
  refine (hgd _).mono ?_
  rintro e w1 ⟨rfl, c1⟩
  have b1 := (q0.go c1).2.2.2.2.2
  go_wp2_with fail
  go_ret2
  exact ⟨_, _, [], rfl, b1, Or.inl ⟨rfl, rfl⟩, Or.inl ⟨HGD.out, rfl, rfl⟩⟩
set_option maxHeartbeats 1000000 in
theorem refNext_err (b l : Int) (v : Value) (zs : List (Int × Int)) (w : World) (h : RRow w v zs) (hg : goodB b l = true) (htc : tcode zs ≠ 0) :
    Calls Try.prog 26 #[.agg #[.int .i64 b, .int .i64 l], v] w fun e w' => SaysN b l zs w e w' := by
  have hgd := fun W => refGood_any b l W
  have q0 := RuleIn.born w b l 37
  have HV : Hid (RRow w v zs) := h
  rw [hg] at hgd
  have HGD : Hid (goodB b l = true) := hg
  have HC : Hid (tcode zs ≠ 0) := htc
  have hne : (tcode zs != 0) = true := by simpa using htc
  clear htc hg h
  go_enter Try.func26, Try.ntmps26
  go_wp2_with fail
  refine (hgd _).mono ?_
  rintro e w1 ⟨rfl, c1⟩
  have q1 := q0.go c1
  have b1 := q1.2.2.2.2.2
  have hTa := refTidy_told v zs w1 (HV.out.below b1)
  generalize hc : tcode zs = code at *
  have HE : Hid (tcode zs = code) := hc
  clear q0 hgd hc
  go_wp2_with fail
  refine hTa.mono ?_
  rintro e w2 ⟨va, ys, rfl, c2, ht2, hr2⟩
  have b2 := (q1.go c2).2.2.2.2.2
  clear hTa
  go_wp2_with fail
  go_ret2
  exact ⟨_, _, [], rfl, b2, Or.inl ⟨rfl, rfl⟩, Or.inr (Or.inl ⟨HGD.out, by rw [HE.out]; exact HC.out, HE.out.symm, rfl⟩)⟩
/-- rule.Next -/
theorem next_says (b l : Int) (v : Value) (zs : List (Int × Int)) (w : World) (h : Row w v zs) :
    Calls Try.prog 24 #[.agg #[.int .i64 b, .int .i64 l], v] w fun e w' => SaysN b l zs w e w' := by
  by_cases hg : goodB b l = true
  · by_cases ht : tcode zs = 0
    · refine (next_some b l v zs w h hg ht).mono ?_
      rintro e w' ⟨u, ys, out, ts, h1, h2, h3, h4, h5, h6⟩
      exact ⟨u, _, ts, h4, h5, h6.read, Or.inr (Or.inr ⟨hg, ht, ys, out, h1, h2, rfl, h3⟩)⟩
    · exact next_err b l v zs w h hg ht
  · exact next_bad b l v zs w (by simpa using hg)
end Go.Proofs.Ytoppncaidhlenab
