/- The row's closed facts, one by one (all in one run wants too much memory). -/
import Derived.Test.YtpldaghhledjlaaGreatDoorChecked
import Derived.Test.YtpldaghhledjlaaGreatDoorRows
import Derived.JoinedCond
namespace Go.Proofs.YtpldaghhledjlaaGreatDoor.H
theorem and_mk {a b : Bool} (h : a = true) (k : b = true) : (a && b) = true := by rw [h, k]; rfl
set_option maxRecDepth 100000 in
set_option maxHeartbeats 40000000 in
theorem logs_closed : joinedFacts Tryz.pinned.checked.prog 3 Tryz.f3 (OpenSpec.ofChange Rows.houseLogsSpec).bare Rows.houseLogsRow = true := by
  unfold joinedFacts
  repeat' (with_reducible refine and_mk ?_ ?_)
  all_goals (as_aux_lemma => kernel_rfl)
end Go.Proofs.YtpldaghhledjlaaGreatDoor.H
