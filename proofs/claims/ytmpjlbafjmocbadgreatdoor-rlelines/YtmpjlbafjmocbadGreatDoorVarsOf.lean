/- What the listed package-level variables give. -/
import Derived.Test.YtmpjlbafjmocbadGreatDoorEmbed
import Derived.Test.YtmpjlbafjmocbadGreatDoorTie
import Derived.Test.YtmpjlbafjmocbadGreatDoorCards
import Derived.Deep.DeepHandedRow
import Derived.Lib.LaidTab
import Derived.Stop.LaidErr
import Derived.Lay
import Derived.HandedShaped
import Derived.Shelf.Vars
import Derived.SevenTiedAt
namespace Go.Proofs.YtmpjlbafjmocbadGreatDoor
open Go.RowKit

/-- the seven variables that each row lists -/
def laid7 : List (String × DataW Unit) := Rows.rleCanonRow.laid
theorem maxLen_cell {W : World} (h : W.ShapedOpen Tryz.prog) : ∃ m, W.cell? ⟨0, 0, none⟩ = some (.int .i64 m) :=
  Go.Proofs.cell_of_shapedOpen_int (zero := #[.int .i64 0]) (t := 3) h (of_decide_eq_true (by kernel_rfl)) (by kernel_rfl) rfl (by kernel_rfl) (by kernel_rfl) Tryz.underlying3
theorem Tryz.tPow : (Tryz.prog.globals[1]?).map (·.type) = some 147 := by kernel_rfl
theorem Tryz.tErr : (Tryz.prog.globals[4]?).map (·.type) = some 74 := by kernel_rfl
theorem Tryz.gDeb : Tryz.prog.globalNamed "math/bits.deBruijn64tab" = some 7 := by kernel_rfl
theorem Tryz.cells118 : Tryz.prog.cellsOf 118 = 1 := by kernel_rfl
theorem Tryz.cells147 : Tryz.prog.cellsOf 147 = 20 := by kernel_rfl
theorem Tryz.cells170 : Tryz.prog.cellsOf 171 = 1 := by kernel_rfl
theorem Tryz.cells9 : Tryz.prog.cellsOf 9 = 1 := by kernel_rfl
theorem Tryz.star : "*errors.errorString" = "*" ++ "errors.errorString" := by decide
theorem Tryz.row169 (u : TypeId) (h : Tryz.prog.typeName? 3 u = some "*errors.errorString") : u = 169 :=
  typeName_ptr_named (nm := "errors.errorString") (by rw [← Tryz.star]; kernel_rfl) (by kernel_rfl) (by decide) u (by rw [← Tryz.star]; exact h)
theorem pow_datum : (Rows.laid_internal_strconv_uint64pow10 : DataW Unit) = Lib.tabData .u64 Lib.pow10Tab := by kernel_rfl

theorem vars_of {W : World} (hL : laidMetH Tryz.prog laid7 W) (hsh : W.ShapedOpen Tryz.prog) : Vars W := by
  rw [MakeChecks.laidMetH_plain _ _ _ (by kernel_rfl)] at hL
  have h1 : laidMet Tryz.prog (("math/bits.deBruijn64tab", Rows.laid_math_bits_deBruijn64tab) :: _) W := hL.tail
  have h2 : laidMet Tryz.prog (("internal/strconv.uint64pow10", Rows.laid_internal_strconv_uint64pow10) :: _) W := h1.tail
  have h5 := h2.tail.tail.tail
  rw [pow_datum] at h2
  refine ⟨maxLen_cell hsh, Lib.tabIs_of_head Tryz.gPow Tryz.tPow Tryz.underlying147 Tryz.underlying118 Tryz.cells118 Tryz.cells147 h2, ?_, ?_⟩
  · obtain ⟨a, s, hv, _⟩ := laid_sentinel h5 Tryz.gErr Tryz.tErr Tryz.underlying74 Tryz.row169 Tryz.underlying169 Tryz.underlying171 rfl rfl Tryz.underlying9 Tryz.cells170 Tryz.cells9
    exact ⟨_, _, hv⟩
  · obtain ⟨ps, ⟨g', t', cs, fuel, p, q, hg', ht', hvar, hd, _, _⟩, _⟩ := h1
    unfold World.var? at hvar
    rw [Tryz.gDeb] at hvar
    simp only [Option.bind_some] at hvar
    rcases Nat.lt_or_ge 7 W.heap.size with h' | h'
    · omega
    · rw [Array.getElem?_eq_none h'] at hvar
      simp at hvar
end Go.Proofs.YtmpjlbafjmocbadGreatDoor
