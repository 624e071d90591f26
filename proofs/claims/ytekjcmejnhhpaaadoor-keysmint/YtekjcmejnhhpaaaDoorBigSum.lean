/- Whole numbers: sums with signs. -/
import Derived.Test.YtekjcmejnhhpaaaDoorBigSub
namespace Go.Proofs.YtekjcmejnhhpaaaDoor
open Go.RowKit

/-- what sum answers: a sign and a size -/
def sumF (xn : Bool) (n : Nat) (yn : Bool) (m : Nat) : Bool × Nat := if xn = yn then (xn, n + m) else if m ≤ n then (xn, n - m) else (yn, m - n)
set_option maxHeartbeats 1000000 in
theorem sum_any (B B' n m : Nat) (xn yn : Bool) (u v : Value) (w : World) (hu : Wd w B u n) (hv : Wd w B' v m) (hs : Few n ∧ Few m) :
    Calls Tryd.prog 38 #[.bool xn, u, .bool yn, v] w fun e w' => ∃ x, e = .returned (.tuple #[.bool (sumF xn n yn m).1, x]) ∧ Wd w' w.heap.size x (sumF xn n yn m).2 ∧ Below w.heap.size w w' := by
  by_cases h : xn = yn
  · subst h
    have hF : sumF xn n xn m = (xn, n + m) := by unfold sumF; rw [if_pos rfl]
    have ca := bigAdd_any B B' n m u v w hu hv hs
    rw [hF]
    have hxx : (xn == xn) = true := by simp
    clear hF
    go_enter Tryd.func38, Tryd.ntmps38
    go_wp2_with fail
    refine ca.mono ?_
    rintro e w1 ⟨x, rfl, hx, hb⟩
    go_wp2_with fail
    go_ret2
    exact ⟨x, rfl, hx, hb⟩
  · have hxy : (xn == yn) = false := by simpa using h
    have cc := cmp_any B B' n m u v w hu hv
    by_cases hle : m ≤ n
    · have hF : sumF xn n yn m = (xn, n - m) := by unfold sumF; rw [if_neg h, if_pos hle]
      have cb := fun q => bigSub_any B B' n m u v (w.drewN q) (hu.below (drewB w q)) (hv.below (drewB w q)) hle hs.1
      have hc : 0 ≤ cmpW n m := by unfold cmpW; split; omega; split <;> omega
      rw [hF]
      clear hF h
      generalize cmpW n m = c at *
      go_enter Tryd.func38, Tryd.ntmps38
      go_wp2_with fail
      refine cc.mono ?_
      rintro e w1 ⟨rfl, q, rfl⟩
      go_wp2_with fail
      refine (cb q).mono ?_
      rintro e w1 ⟨x, rfl, hx, hb⟩
      go_wp2_with fail
      go_ret2
      exact ⟨x, rfl, hx, (drewB w q).trans hb⟩
    · have hF : sumF xn n yn m = (yn, m - n) := by unfold sumF; rw [if_neg h, if_neg hle]
      have cb := fun q => bigSub_any B' B m n v u (w.drewN q) (hv.below (drewB w q)) (hu.below (drewB w q)) (by omega) hs.2
      have hc : ¬ 0 ≤ cmpW n m := by unfold cmpW; rw [if_pos (by omega)]; decide
      rw [hF]
      clear hF h
      generalize cmpW n m = c at *
      go_enter Tryd.func38, Tryd.ntmps38
      go_wp2_with fail
      refine cc.mono ?_
      rintro e w1 ⟨rfl, q, rfl⟩
      go_wp2_with fail
      refine (cb q).mono ?_
      rintro e w1 ⟨x, rfl, hx, hb⟩
      go_wp2_with fail
      go_ret2
      exact ⟨x, rfl, hx, (drewB w q).trans hb⟩
end Go.Proofs.YtekjcmejnhhpaaaDoor
