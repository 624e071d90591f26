/- What the listed package-level variables give. -/
import Derived.Test.YtpghbchbhjbbiaaGreatDoorSpVars
import Derived.Test.YtpghbchbhjbbiaaGreatDoorTie
import Derived.Test.YtpghbchbhjbbiaaGreatDoorCards
import Derived.Deep.DeepHandedRow
import Derived.Lib.LaidTab
import Derived.Stop.LaidErr
import Derived.Lay
import Derived.HandedShaped
import Derived.Shelf.Vars
import Derived.SevenTiedAt
import Derived.ChangeArms
import Derived.ChangeMaps5
import Derived.SizedLaws
namespace Go.Proofs.YtpghbchbhjbbiaaGreatDoor
open Go.RowKit

theorem Tryz.own : ownKnob Tryz.prog.godebug = none := by kernel_rfl
/-- the eight variables that both rows list -/
def laid8 : List (String × DataW Unit) := Rows.speechOnlyRow.laid
theorem maxLen_cell {W : World} (h : W.ShapedOpen Tryz.prog) : ∃ m, W.cell? ⟨3, 0, none⟩ = some (.int .i64 m) :=
  Go.Proofs.cell_of_shapedOpen_int (zero := #[.int .i64 0]) (t := 3) h (of_decide_eq_true (by kernel_rfl)) (by kernel_rfl) rfl (by kernel_rfl) (by kernel_rfl) Tryz.underlying3
theorem Tryz.tPow : (Tryz.prog.globals[4]?).map (·.type) = some 142 := by kernel_rfl
theorem Tryz.gSyn : Tryz.prog.globalNamed "strconv.ErrSyntax" = some 7 := by kernel_rfl
theorem Tryz.tSyn : (Tryz.prog.globals[7]?).map (·.type) = some 95 := by kernel_rfl
theorem Tryz.gRng : Tryz.prog.globalNamed "strconv.ErrRange" = some 8 := by kernel_rfl
theorem Tryz.tRng : (Tryz.prog.globals[8]?).map (·.type) = some 95 := by kernel_rfl
theorem Tryz.gVerb : Tryz.prog.globalNamed "lifelodge/speech.verbs" = some 2 := by kernel_rfl
theorem Tryz.tVerb : (Tryz.prog.globals[2]?).map (·.type) = some 75 := by kernel_rfl
theorem Tryz.gDeb : Tryz.prog.globalNamed "math/bits.deBruijn64tab" = some 10 := by kernel_rfl
theorem Tryz.cellsU64 : Tryz.prog.cellsOf 86 = 1 := by kernel_rfl
theorem Tryz.cellsPow : Tryz.prog.cellsOf 142 = 20 := by kernel_rfl
theorem Tryz.cellsErr : Tryz.prog.cellsOf 162 = 1 := by kernel_rfl
theorem Tryz.cells9 : Tryz.prog.cellsOf 9 = 1 := by kernel_rfl
theorem Tryz.cellsVerb : Tryz.prog.cellsOf 75 = 11 := by kernel_rfl
theorem Tryz.star : "*errors.errorString" = "*" ++ "errors.errorString" := by decide
theorem Tryz.rowErr (u : TypeId) (h : Tryz.prog.typeName? 3 u = some "*errors.errorString") : u = 160 :=
  typeName_ptr_named (nm := "errors.errorString") (by rw [← Tryz.star]; kernel_rfl) (by kernel_rfl) (by decide) u (by rw [← Tryz.star]; exact h)
theorem pow_datum : (Rows.laid_internal_strconv_uint64pow10 : DataW Unit) = Lib.tabData .u64 Lib.pow10Tab := by kernel_rfl
def strData {H : Type} (zs : List (List UInt8)) : DataW H := .agg (zs.map fun z => .lit (.string z))
theorem verb_datum : (Rows.laid_lifelodge_speech_verbs : DataW Unit) = strData (verbL.map (·.data.toList)) := by kernel_rfl

/-- an array of strings that reads as a table holds the table's strings -/
theorem cells_of_str {H : Type} {enc : TypeId × Value → H} {P : Program} {w : World} {base : Nat} {sp : Nat → Bool} {held : Bool} {fuel : Nat} {t e : TypeId} {n : Nat} {cs : List Value} {zs : List (List UInt8)} {p : List MemPlace}
    (ht : P.underlying t = some (.array n e)) (he : P.underlying e = some .string) (hce : P.cellsOf e = 1) (hct : P.cellsOf t = n)
    (h : DataW.trod enc P w base sp held fuel t cs = some (strData zs, p)) : cs = zs.map fun z => Value.string ⟨z.toArray⟩ := by
  cases fuel with
  | zero => simp [DataW.trod] at h
  | succ fuel =>
    simp only [DataW.trod, ht, hce, hct, Nat.mul_one] at h
    split at h
    · rename_i hl
      obtain ⟨xs, hm, hx⟩ := Option.map_eq_some_iff.1 h
      have hxs : xs.map (·.1) = zs.map fun z => (DataW.lit (.string z) : DataW H) := by
        have := congrArg Prod.fst hx
        simpa [strData] using this
      have hxl : xs.length = n := by simpa using Lib.mapM_length hm
      have hzl : zs.length = n := by
        have := congrArg List.length hxs
        simp at this
        omega
      apply List.ext_getElem?
      intro i
      by_cases hi : i < n
      · obtain ⟨b, hb, hf⟩ := Lib.mapM_at hm i i (by simp [hi])
        obtain ⟨z, hc, rfl, _⟩ := DataW.trod_string he hf
        have h1 : cs[i]? = some (.string z) := by
          have := congrArg (·[0]?) hc
          simpa [List.getElem?_take, List.getElem?_drop] using this
        have h2 : (xs.map (·.1))[i]? = some (DataW.lit (.string z.data.toList) : DataW H) := by simp [hb]
        rw [hxs] at h2
        simp only [List.getElem?_map, Option.map_eq_some_iff, DataW.lit.injEq, Lit.string.injEq] at h2
        obtain ⟨z', hz', rfl⟩ := h2
        rw [h1, List.getElem?_map, hz', Option.map_some, ← ba_list]
      · rw [List.getElem?_eq_none (by omega), List.getElem?_eq_none (by simp; omega)]
    · cases h

theorem sent_cell {W : World} {n : String} {g : Nat} {tp : TypeId} {a : Addr} (hg : Tryz.prog.globalNamed n = some g) (h : W.var? Tryz.prog n = some #[.iface tp (.pointer (some a))]) : ∃ t p, W.cell? ⟨g, 0, none⟩ = some (.iface t p) :=
  ⟨_, _, World.var?_cell hg h 0⟩

theorem vars_of {W : World} (hL : laidMetH Tryz.prog laid8 W) (hsh : W.ShapedOpen Tryz.prog) : Vars W := by
  rw [MakeChecks.laidMetH_plain _ _ _ (by kernel_rfl)] at hL
  have h1 : laidMet Tryz.prog (("math/bits.deBruijn64tab", Rows.laid_math_bits_deBruijn64tab) :: _) W := hL.tail
  have h2 : laidMet Tryz.prog (("internal/strconv.uint64pow10", Rows.laid_internal_strconv_uint64pow10) :: _) W := h1.tail
  have h4 : laidMet Tryz.prog (("strconv.ErrRange", Rows.laid_strconv_ErrRange) :: _) W := h2.tail.tail
  have h5 : laidMet Tryz.prog (("strconv.ErrSyntax", Rows.laid_strconv_ErrSyntax) :: _) W := h4.tail
  have h6 : laidMet Tryz.prog (("lifelodge/speech.verbs", Rows.laid_lifelodge_speech_verbs) :: _) W := h5.tail
  rw [pow_datum] at h2
  rw [verb_datum] at h6
  refine ⟨maxLen_cell hsh, Lib.tabIs_of_head Tryz.gPow Tryz.tPow Tryz.underlying142 Tryz.underlying86 Tryz.cellsU64 Tryz.cellsPow h2, ?_, ?_, ?_, ?_⟩
  · obtain ⟨a, s, hv, _⟩ := laid_sentinel h5 Tryz.gSyn Tryz.tSyn Tryz.underlying95 Tryz.rowErr Tryz.underlying160 Tryz.underlying162 rfl rfl Tryz.underlying9 Tryz.cellsErr Tryz.cells9
    exact sent_cell Tryz.gSyn hv
  · obtain ⟨a, s, hv, _⟩ := laid_sentinel h4 Tryz.gRng Tryz.tRng Tryz.underlying95 Tryz.rowErr Tryz.underlying160 Tryz.underlying162 rfl rfl Tryz.underlying9 Tryz.cellsErr Tryz.cells9
    exact sent_cell Tryz.gRng hv
  · obtain ⟨ps, ⟨g', t', cs, fuel, p, q, hg', ht', hvar, hd, _, _⟩, _⟩ := h6
    obtain rfl := Option.some.inj (Tryz.gVerb.symm.trans hg')
    obtain rfl := Option.some.inj (Tryz.tVerb.symm.trans ht')
    have hcs := cells_of_str Tryz.underlying75 Tryz.underlying9 Tryz.cells9 Tryz.cellsVerb hd
    intro k hk
    rw [World.var?_cell Tryz.gVerb hvar k]
    have hc : k = 0 ∨ k = 1 ∨ k = 2 ∨ k = 3 ∨ k = 4 ∨ k = 5 ∨ k = 6 ∨ k = 7 ∨ k = 8 ∨ k = 9 ∨ k = 10 := by omega
    have h7 : cs = ((verbL.map (·.data.toList)).map fun z => Value.string ⟨z.toArray⟩).toArray := by rw [← hcs]
    rw [h7]
    rcases hc with rfl | rfl | rfl | rfl | rfl | rfl | rfl | rfl | rfl | rfl | rfl <;> rfl
  · obtain ⟨ps, ⟨g', t', cs, fuel, p, q, hg', ht', hvar, hd, _, _⟩, _⟩ := h1
    unfold World.var? at hvar
    rw [Tryz.gDeb] at hvar
    simp only [Option.bind_some] at hvar
    rcases Nat.lt_or_ge 10 W.heap.size with h' | h'
    · omega
    · rw [Array.getElem?_eq_none h'] at hvar
      simp at hvar
end Go.Proofs.YtpghbchbhjbbiaaGreatDoor
