/- rule.numbers and rule.Read: what they answer. -/
import Derived.Test.YtnklpjoeopcbbaaDoorText
import Derived.Lib.ConvBytes
import Derived.Deep.LoopGhost
namespace Go.Proofs.YtnklpjoeopcbbaaDoor
open Go.RowKit

/-- the set whose digits a text is -/
def numF : Int → List UInt8 → Option Int
  | set, [] => some set
  | set, d :: r => if d.toNat < 48 ∨ 59 < d.toNat then none else if 2 ^ (d.toNat - 48) ≤ set then none else numF (set + 2 ^ (d.toNat - 48)) r

set_option maxRecDepth 20000 in
theorem or_table : ∀ m : Fin 9, ∀ s : Fin 512, s.val < 2 ^ m.val → bits .or .i64 (s.val : Int) ((2 ^ m.val : Nat) : Int) = ((s.val + 2 ^ m.val : Nat) : Int) := by decide +kernel

end Go.Proofs.YtnklpjoeopcbbaaDoor
