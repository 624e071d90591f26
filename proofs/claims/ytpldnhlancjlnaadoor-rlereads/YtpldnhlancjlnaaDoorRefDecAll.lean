/- PROVED: for every text, rle.Decode answers exactly the cells and the rule, or the error, that the document's own DecodeCells does, and the text is left as it was; the package-level variables that the card lists hold what the program's text lays. -/
import Derived.Test.YtpldnhlancjlnaaDoorEmbed
import Derived.Test.YtpldnhlancjlnaaDoorTie
import Derived.Test.YtpldnhlancjlnaaDoorCards
import Derived.Deep.DeepHandedRow
import Derived.Lib.LaidTab
import Derived.Stop.LaidErr
import Derived.Lay
import Derived.HandedShaped
import Derived.Shelf.Vars
import Derived.SevenTiedAt
import Derived.Test.YtpldnhlancjlnaaDoorReadsLaw
import Derived.Test.YtpldnhlancjlnaaDoorOpen
import Derived.ChangeMaps5
import Derived.Test.YtpldnhlancjlnaaDoorRefDec
namespace Go.Proofs.YtpldnhlancjlnaaDoor
open Go.RowKit

/-- the three variables that RleWrites' row lists -/
def laid3 : List (String × DataW Unit) := Rows.rleWritesRow.laid
theorem maxLen_cell {W : World} (h : W.ShapedOpen Tryd.prog) : ∃ m, W.cell? ⟨0, 0, none⟩ = some (.int .i64 m) :=
  Go.Proofs.cell_of_shapedOpen_int (zero := #[.int .i64 0]) (t := 3) h (of_decide_eq_true (by kernel_rfl)) (by kernel_rfl) rfl (by kernel_rfl) (by kernel_rfl) Tryd.underlying3
theorem Tryd.tPow : (Tryd.prog.globals[1]?).map (·.type) = some 173 := by kernel_rfl
theorem Tryd.gDeb : Tryd.prog.globalNamed "math/bits.deBruijn64tab" = some 7 := by kernel_rfl
theorem Tryd.cells108 : Tryd.prog.cellsOf 108 = 1 := by kernel_rfl
theorem Tryd.cells173 : Tryd.prog.cellsOf 173 = 20 := by kernel_rfl
theorem pow_datum : (Rows.laid_internal_strconv_uint64pow10 : DataW Unit) = Lib.tabData .u64 Lib.pow10Tab := by kernel_rfl

theorem vars_of {W : World} (hL : laidMetH Tryd.prog laid3 W) (hsh : W.ShapedOpen Tryd.prog) : Vars W := by
  rw [MakeChecks.laidMetH_plain _ _ _ (by kernel_rfl)] at hL
  have h1 : laidMet Tryd.prog (("math/bits.deBruijn64tab", Rows.laid_math_bits_deBruijn64tab) :: _) W := hL.tail
  have h2 : laidMet Tryd.prog (("internal/strconv.uint64pow10", Rows.laid_internal_strconv_uint64pow10) :: _) W := h1.tail
  rw [pow_datum] at h2
  refine ⟨maxLen_cell hsh, Lib.tabIs_of_head Tryd.gPow Tryd.tPow Tryd.underlying173 Tryd.underlying108 Tryd.cells108 Tryd.cells173 h2, ?_⟩
  obtain ⟨ps, ⟨g', t', cs, fuel, p, q, hg', ht', hvar, hd, _, _⟩, _⟩ := h1
  unfold World.var? at hvar
  rw [Tryd.gDeb] at hvar
  simp only [Option.bind_some] at hvar
  rcases Nat.lt_or_ge 7 W.heap.size with h' | h'
  · omega
  · rw [Array.getElem?_eq_none h'] at hvar
    simp at hvar
end Go.Proofs.YtpldnhlancjlnaaDoor

namespace Go.Proofs.YtpldnhlancjlnaaDoor
open Go.RowKit

/-- the seven variables that RleReads' row lists -/
def laid7 : List (String × DataW Unit) := Rows.rleReadsRow.laid
theorem Tryd.tErr : (Tryd.prog.globals[4]?).map (·.type) = some 85 := by kernel_rfl
theorem Tryd.cells197 : Tryd.prog.cellsOf 197 = 1 := by kernel_rfl
theorem Tryd.cells9 : Tryd.prog.cellsOf 9 = 1 := by kernel_rfl
theorem Tryd.star : "*errors.errorString" = "*" ++ "errors.errorString" := by decide
theorem Tryd.row195 (u : TypeId) (h : Tryd.prog.typeName? 3 u = some "*errors.errorString") : u = 195 :=
  typeName_ptr_named (nm := "errors.errorString") (by rw [← Tryd.star]; kernel_rfl) (by kernel_rfl) (by decide) u (by rw [← Tryd.star]; exact h)

theorem varsD_of {W : World} (hL : laidMetH Tryd.prog laid7 W) (hsh : W.ShapedOpen Tryd.prog) : VarsD W := by
  rw [MakeChecks.laidMetH_plain _ _ _ (by kernel_rfl)] at hL
  have h1 : laidMet Tryd.prog (("math/bits.deBruijn64tab", Rows.laid_math_bits_deBruijn64tab) :: _) W := hL.tail
  have h2 : laidMet Tryd.prog (("internal/strconv.uint64pow10", Rows.laid_internal_strconv_uint64pow10) :: _) W := h1.tail
  have h5 := h2.tail.tail.tail
  rw [pow_datum] at h2
  refine ⟨⟨maxLen_cell hsh, Lib.tabIs_of_head Tryd.gPow Tryd.tPow Tryd.underlying173 Tryd.underlying108 Tryd.cells108 Tryd.cells173 h2, ?_⟩, ?_⟩
  · obtain ⟨ps, ⟨g', t', cs, fuel, p, q, hg', ht', hvar, hd, _, _⟩, _⟩ := h1
    unfold World.var? at hvar
    rw [Tryd.gDeb] at hvar
    simp only [Option.bind_some] at hvar
    rcases Nat.lt_or_ge 7 W.heap.size with h' | h'
    · omega
    · rw [Array.getElem?_eq_none h'] at hvar
      simp at hvar
  · obtain ⟨a, s, hv, _⟩ := laid_sentinel h5 Tryd.gErr Tryd.tErr Tryd.underlying85 Tryd.row195 Tryd.underlying195 Tryd.underlying197 rfl rfl Tryd.underlying9 Tryd.cells197 Tryd.cells9
    exact ⟨_, _, hv⟩
end Go.Proofs.YtpldnhlancjlnaaDoor

namespace Go.Proofs.YtpldnhlancjlnaaDoor
open Go.ChangeShapes Go.WideShapes Go.ChangeAt Go.RowKit Go.Joins
open Go.ChangeMaps (open_string shut_string)

theorem reads_bytes (HR : RefDecodes) (s : ByteArray) (w : World) (hv : VarsD w) : Calls Tryd.prog 4 #[.string s] w fun e w' => e = .returned (.bool true) ∧ Below w.heap.size w w' := reads_law HR s.data.toList w hv

set_option maxRecDepth 100000 in
theorem reads_lifted (HR : RefDecodes) (os : Os) (started : os.Started) (H : Type) (enc : TypeId × Value → H) (F : Stop.Interp) :
    ReturnsInHanded {} Tryd.checked os 4 .any ((OpenSpec.ofChange Rows.rleReadsSpec).preRow enc Tryd.prog Tryd.f4 Rows.rleReadsRow.domain false Rows.rleReadsRow.laid) (((OpenSpec.ofChange Rows.rleReadsSpec).at F).post enc Tryd.prog Tryd.f4 false true false false) := by
  refine returnsInHanded_of_row (C := Tryd.checked) (s := OpenSpec.ofChange Rows.rleReadsSpec) Tryd.own started (by kernel_rfl) Tryd.func4
    (ChangeSpec.witness_shaped (enc := enc) (C := Tryd.checked) (os := os) (s := Rows.rleReadsSpec) (X := fun w _ => laidMetH Tryd.prog laid7 w) false (World.laidAll Tryd.prog os laid7) #[.string ⟨#[]⟩] 8 (World.laidAll_os _ _ _)
      (World.shaped_of_ZipB (by kernel_rfl) (by kernel_rfl)) (by kernel_rfl) (by kernel_rfl) (by kernel_rfl)
      (by rw [MakeChecks.laidMetH_plain _ _ _ (by kernel_rfl)]; exact laidMet_laidAll _ (by kernel_rfl) (by kernel_rfl))) ?_
  intro W base args ds gs before hval0 hW _ _ _ hL hsh _
  have hval : ∀ (j : Nat) t v, Tryd.f4.params[j]? = some t → args[j]? = some v → Value.okWide Tryd.prog W .any base t v := hval0
  have hW' := hW
  obtain ⟨p, q, hA0, hV, rfl, _, _⟩ := hW
  have hA : DataW.TrodAll enc Tryd.prog W 0 (fun _ => true) true Tryd.f4.params.toList args.toList ds p := hA0
  rw [Tryd.params4] at hA hval
  obtain ⟨v0, d0, rfl, rfl, h0⟩ := trodAll_one hA
  obtain ⟨rfl, rfl⟩ := trodVars_none hV
  obtain ⟨s, rfl, rfl, rfl, ws⟩ := open_string Tryd.underlying9 (hval 0 9 v0 rfl rfl) h0
  clear hA0 hval0
  refine (reads_bytes HR s W (varsD_of hL hsh)).mono fun e W' ⟨he, hb⟩ => ?_
  subst he
  refine ⟨_, rfl, _, _, _, [], [], [], hW', ?_, ?_, rfl, hb.frame _, fun h => by cases h⟩
  · exact trodAll_mk1 (shut_bool Tryd.underlying4 true)
  · exact trodAll_mk1 (shut_string Tryd.underlying9 ws)

theorem reads_said (HR : RefDecodes) : Rows.RleReadsSaid :=
  OpenClaim.holds_of_cond 4 Tryd.f4 rfl rfl rfl rfl rfl rfl rfl ⟨rfl, rfl, rfl, rfl, rfl⟩ rfl rfl rfl rfl rfl (by kernel_rfl) Tryd.func4 (by kernel_rfl)
    (of_decide_eq_true (by kernel_rfl)) (by unfold Func.isWrapper; first | (rw [if_pos (by decide +kernel)]; kernel_rfl) | (rw [if_neg (by decide +kernel)]; exact ⟨rfl, rfl⟩))
    (fun os started H enc _ F => by rw [OpenClaim.pre_eq_preRow]; exact reads_lifted HR os started H enc F)

theorem reads_plain (f : FuncId) (fn : Func) (hf : Tryd.pinned.checked.prog.funcNamed Rows.rleReadsRow.func = some f) (hfn : Tryd.pinned.checked.prog.funcs[f]? = some fn) :
    true = Tryd.pinned.checked.prog.looks [] ∧ ∀ (j : Nat) t, fn.params[j]? = some t → Tryd.pinned.checked.prog.wantsStandIn t = false := by
  obtain rfl : f = 4 := Option.some.inj ((show Tryd.prog.funcNamed Rows.rleReadsRow.func = some 4 by kernel_rfl).symm.trans hf) |>.symm
  obtain rfl : fn = Tryd.f4 := (Option.some.inj (Tryd.func4.symm.trans hfn)).symm
  refine ⟨by kernel_rfl, fun j t ht => ?_⟩
  rw [Tryd.params4] at ht
  have hm : t ∈ [9] := by simpa using Array.mem_of_getElem? ht
  have hall : ([9].all fun u => !Tryd.prog.wantsStandIn u) = true := by kernel_rfl
  exact (show Tryd.prog.wantsStandIn t = false by simpa using List.all_eq_true.1 hall t hm)

theorem reads_card (HR : RefDecodes) : Rows.RleReadsCardSaid :=
  Claim7.holds_tied_plain_at .later [] _ _ _ _ (reads_said HR) (fun _ h => by cases h) (by kernel_rfl) (fun _ h => by cases h) rleReads_row_tie rfl ⟨rfl, rfl⟩ (by kernel_rfl) rfl reads_plain (by kernel_rfl)

#print axioms reads_card
end Go.Proofs.YtpldnhlancjlnaaDoor

namespace Go.Proofs.YtpldnhlancjlnaaDoor
open Go.Shelf Go.RowKit

set_option maxRecDepth 20000 in
set_option maxHeartbeats 4000000 in
theorem refDecode_long (T : List UInt8) (w : World) (hT : 20000 < T.length) : Calls Tryd.prog 11 #[.string ⟨T.toArray⟩] w (DecOut T w) := by
  have hz : (⟨T.toArray⟩ : ByteArray).size = T.length := by show T.toArray.size = _; rw [List.size_toArray]
  have hb : (20000 : Int) < (T.length : Int) := by omega
  have HX : Hid (decF readF T = ([], (0, 0), 1)) := by
    show _ = _
    unfold decF
    rw [if_pos hT]
  generalize (⟨T.toArray⟩ : ByteArray) = S at *
  go_enter Tryd.func11, Tryd.ntmps11
  go_wp2_with fail
  refine bodyPost_ret (v := .tuple #[.slice none 0 0, .agg #[.int .i64 0, .int .i64 0], .int .i64 1]) ?_ rfl ⟨.slice none 0 0, ?_, ?_, ?_⟩
  · simp [results, Tryd.results11, go_sem]
  · rw [HX.out]
  · rw [HX.out]; exact Or.inl ⟨rfl, rfl⟩
  · exact (Below.refl _ _).alloc (Nat.le_refl _) _
theorem refDecode_any : RefDecodes := fun T W => by
  by_cases h : T.length ≤ 20000
  · exact refDecode_short T W h
  · exact refDecode_long T W (by omega)

theorem reads_full : Rows.RleReadsCardSaid := reads_card refDecode_any
#print axioms reads_full
end Go.Proofs.YtpldnhlancjlnaaDoor
