/- rule.Read: the rule of a text. -/
import Derived.Test.YtnklpjoeopcbbaaDoorRead
import Derived.Test.YtnklpjoeopcbbaaDoorRuleIn
namespace Go.Proofs.YtnklpjoeopcbbaaDoor
open Go.RowKit

/-- what Read answers: both sets, and the error -/
def readF (L : List UInt8) : Int × Int × Int :=
  let c := Lib.cut (Lib.trimPrefix L [66]) [47, 83]
  if Lib.hasPrefix L [66] && c.2.2 && (numF 0 c.1).isSome && (numF 0 c.2.1).isSome then
    (if hasB ((numF 0 c.1).getD 0) 0 then (0, 0, 4) else ((numF 0 c.1).getD 0, (numF 0 c.2.1).getD 0, 0))
  else (0, 0, 2)

theorem trim_length (L : List UInt8) : (Lib.trimPrefix L [66]).length ≤ L.length := by
  unfold Lib.trimPrefix
  split
  · rw [List.length_drop]; omega
  · omega
theorem cut_length (L sep : List UInt8) : (Lib.cut L sep).1.length ≤ L.length ∧ (Lib.cut L sep).2.1.length ≤ L.length := by
  unfold Lib.cut
  split
  · simp only [List.length_take, List.length_drop]; omega
  · simp

theorem cell_lt {w : World} {a : Addr} {v : Value} (h : w.cell? a = some v) : a.block < w.heap.size := by
  rcases Nat.lt_or_ge a.block w.heap.size with h' | h'
  · exact h'
  · simp [World.cell?, Array.getElem?_eq_none h'] at h

end Go.Proofs.YtnklpjoeopcbbaaDoor
