/- rule.Good. -/
import Derived.Test.YtofbcngcblleaaaGreatLpLives
namespace Go.Proofs.YtofbcngcblleaaaGreat.A
open Go.RowKit Go.Proofs.YtofbcngcblleaaaGreat.L

/-- whether a number is a set of the numbers from 0 to 8 -/
def withinB (x : Int) : Bool := decide (0 ≤ x) && decide (x < 512)
/-- whether a rule is one -/
def goodB (b l : Int) : Bool := withinB b && withinB l && !hasB b 0
set_option maxHeartbeats 400000 in
theorem within_any (x : Int) (w : World) : Calls Tryz.prog 55 #[.int .i64 x] w fun e w' => e = .returned (.bool (withinB x)) ∧ w' = w := by
  by_cases h0 : 0 ≤ x
  · by_cases h1 : x < 512
    · go_enter Tryz.func55, Tryz.ntmps55
      go_wp2
      go_ret
      exact ⟨by simp [withinB, h0, h1], rfl⟩
    · go_enter Tryz.func55, Tryz.ntmps55
      go_wp2
      go_ret
      exact ⟨by simp [withinB, h1], rfl⟩
  · go_enter Tryz.func55, Tryz.ntmps55
    go_wp2
    go_ret
    exact ⟨by simp [withinB]; omega, rfl⟩
set_option maxHeartbeats 1000000 in
theorem good_any (b l : Int) (w : World) : Calls Tryz.prog 29 #[.agg #[.int .i64 b, .int .i64 l]] w fun e w' => e = .returned (.bool (goodB b l)) ∧ Below w.heap.size w w' := by
  have hw1 := fun W => within_any b W
  have hw2 := fun W => within_any l W
  have hw3 := fun W => has_any b 0 W (by omega)
  have hg : goodB b l = (withinB b && withinB l && !hasB b 0) := rfl
  generalize goodB b l = g at hg
  generalize withinB b = p at *
  generalize withinB l = q at *
  generalize hasB b 0 = r at *
  cases p <;> cases q <;> cases r
  all_goals
    simp at hg
    subst hg
    go_enter Tryz.func29, Tryz.ntmps29
    go_wp2_with (first | (go_at_call_of 55 b; refine (hw1 _).mono ?_; rintro e w' ⟨rfl, hw⟩; have hw2 := hw.symm; subst hw2) | (go_at_call 55; refine (hw2 _).mono ?_; rintro e w' ⟨rfl, hw⟩; have hw2 := hw.symm; subst hw2) | (go_at_call 56; refine (hw3 _).mono ?_; rintro e w' ⟨rfl, hw⟩; have hw2 := hw.symm; subst hw2))
  all_goals go_ret
  all_goals exact ⟨rfl, (Below.refl _ _).alloc (Nat.le_refl _) _⟩
end Go.Proofs.YtofbcngcblleaaaGreat.A
