/- What the listed package-level variables give. -/
import Derived.Test.YtpldnhlancjlnaaDoorEmbed
import Derived.Test.YtpldnhlancjlnaaDoorTie
import Derived.Test.YtpldnhlancjlnaaDoorCards
import Derived.Deep.DeepHandedRow
import Derived.Lib.LaidTab
import Derived.Stop.LaidErr
import Derived.Lay
import Derived.HandedShaped
import Derived.Shelf.Vars
import Derived.SevenTiedAt
namespace Go.Proofs.YtpldnhlancjlnaaDoor
open Go.RowKit

/-- the three variables that RleWrites' row lists -/
def laid3 : List (String × DataW Unit) := Rows.rleWritesRow.laid
theorem maxLen_cell {W : World} (h : W.ShapedOpen Tryd.prog) : ∃ m, W.cell? ⟨0, 0, none⟩ = some (.int .i64 m) :=
  Go.Proofs.cell_of_shapedOpen_int (zero := #[.int .i64 0]) (t := 3) h (of_decide_eq_true (by kernel_rfl)) (by kernel_rfl) rfl (by kernel_rfl) (by kernel_rfl) Tryd.underlying3
theorem Tryd.tPow : (Tryd.prog.globals[1]?).map (·.type) = some 173 := by kernel_rfl
theorem Tryd.gDeb : Tryd.prog.globalNamed "math/bits.deBruijn64tab" = some 7 := by kernel_rfl
theorem Tryd.cells108 : Tryd.prog.cellsOf 108 = 1 := by kernel_rfl
theorem Tryd.cells173 : Tryd.prog.cellsOf 173 = 20 := by kernel_rfl
theorem pow_datum : (Rows.laid_internal_strconv_uint64pow10 : DataW Unit) = Lib.tabData .u64 Lib.pow10Tab := by kernel_rfl

theorem vars_of {W : World} (hL : laidMetH Tryd.prog laid3 W) (hsh : W.ShapedOpen Tryd.prog) : Vars W := by
  rw [MakeChecks.laidMetH_plain _ _ _ (by kernel_rfl)] at hL
  have h1 : laidMet Tryd.prog (("math/bits.deBruijn64tab", Rows.laid_math_bits_deBruijn64tab) :: _) W := hL.tail
  have h2 : laidMet Tryd.prog (("internal/strconv.uint64pow10", Rows.laid_internal_strconv_uint64pow10) :: _) W := h1.tail
  rw [pow_datum] at h2
  refine ⟨maxLen_cell hsh, Lib.tabIs_of_head Tryd.gPow Tryd.tPow Tryd.underlying173 Tryd.underlying108 Tryd.cells108 Tryd.cells173 h2, ?_⟩
  obtain ⟨ps, ⟨g', t', cs, fuel, p, q, hg', ht', hvar, hd, _, _⟩, _⟩ := h1
  unfold World.var? at hvar
  rw [Tryd.gDeb] at hvar
  simp only [Option.bind_some] at hvar
  rcases Nat.lt_or_ge 7 W.heap.size with h' | h'
  · omega
  · rw [Array.getElem?_eq_none h'] at hvar
    simp at hvar
end Go.Proofs.YtpldnhlancjlnaaDoor
