/- The row's closed facts, one by one (all in one run wants too much memory). -/
import Derived.Test.YtigfgkhmbbbclaaGreatDoorHnNil
import Derived.Test.YtigfgkhmbbbclaaGreatDoorChecked
import Derived.Test.YtigfgkhmbbbclaaGreatDoorRows
import Derived.JoinedCond
namespace Go.Proofs.YtigfgkhmbbbclaaGreatDoor
theorem and_mk {a b : Bool} (h : a = true) (k : b = true) : (a && b) = true := by rw [h, k]; rfl
set_option maxRecDepth 100000 in
set_option maxHeartbeats 40000000 in
theorem nil_closed : joinedFacts Tryz.pinned.checked.prog 3 Tryz.f3 (OpenSpec.ofChange Rows.houseNilSpec).bare Rows.houseNilRow = true := by
  unfold joinedFacts
  repeat' (with_reducible refine and_mk ?_ ?_)
  all_goals (as_aux_lemma => kernel_rfl)
end Go.Proofs.YtigfgkhmbbbclaaGreatDoor
