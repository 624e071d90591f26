/- SameCells and same say true of two rows of the same cells. -/
import Derived.Test.YtnklpjoeopcbbaaDoorTidy
namespace Go.Proofs.YtnklpjoeopcbbaaDoor
open Go.RowKit Go.Lib Go.Sort

theorem below_drewN (w : World) (q : Nat) : Below w.heap.size w (w.drewN q) := ⟨rfl, rfl, rfl, Nat.le_refl _, fun _ _ => rfl⟩

end Go.Proofs.YtnklpjoeopcbbaaDoor
