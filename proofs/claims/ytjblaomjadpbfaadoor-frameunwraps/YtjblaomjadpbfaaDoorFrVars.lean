/- What the card proofs share: the two listed variables, the library's variable MaxLen. -/
import Derived.Test.YtjblaomjadpbfaaDoorFrKit
import Derived.Test.YtjblaomjadpbfaaDoorRows
import Derived.Test.YtjblaomjadpbfaaDoorTie
import Derived.Test.YtjblaomjadpbfaaDoorCards
import Derived.Deep.DeepHandedRow
import Derived.Lay
import Derived.HandedShaped
import Derived.Shelf.Vars
import Derived.SevenTiedAt
import Derived.ChangeMaps5
import Derived.SizedLaws
import Derived.Lib.SmallJoins
namespace Go.Proofs.YtjblaomjadpbfaaDoor
open Go.ChangeShapes Go.WideShapes Go.ChangeAt Go.RowKit Go.Joins

theorem Tryd.own : ownKnob Tryd.prog.godebug = none := by kernel_rfl
/-- the two variables that the rows list -/
def laid2 : List (String × DataW Unit) := Rows.frameUnwrapsRow.laid
theorem maxLen_cell {W : World} (h : W.ShapedOpen Tryd.prog) : ∃ m, W.cell? ⟨0, 0, none⟩ = some (.int .i64 m) :=
  Go.Proofs.cell_of_shapedOpen_int (zero := #[.int .i64 0]) (t := 3) h (of_decide_eq_true (by kernel_rfl)) (by kernel_rfl) rfl (by kernel_rfl) (by kernel_rfl) Tryd.underlying3
end Go.Proofs.YtjblaomjadpbfaaDoor
