/- PROVED: for all lists of cells, of whatever length a slice may have (of which at most 30 are taken, made near 0), and all rights, made 1 to 3, a leased key sets and gets just what its rights say, leases nothing, and opens nothing once its universe is dropped: HallLeases answers true, and the input is left as it was (P10.4, P10.5). No condition but the card's own: the listed package-level variables hold what the program's text lays. -/
import Derived.Test.YtgipjplifndniaaGreatDoorHaLsLaw
import Derived.Test.YtgipjplifndniaaGreatDoorLpOpenA
import Derived.Test.YtgipjplifndniaaGreatDoorTie
import Derived.Test.YtgipjplifndniaaGreatDoorCards
import Derived.Deep.DeepHandedRow
import Derived.Lib.LaidTab
import Derived.Stop.LaidErr
import Derived.Shelf.Vars
import Derived.Lay
import Derived.HandedShaped
import Derived.SevenTiedAt
import Derived.SizedLaws
import Derived.ChangeMaps5
import Derived.ChangeSame
import Derived.ProofKit
import Derived.Test.YtgipjplifndniaaGreatDoorChecked
import Derived.Test.YtgipjplifndniaaGreatDoorRows
import Derived.JoinedCond
namespace Go.Proofs.YtgipjplifndniaaGreatDoor.U
open Go.ChangeShapes Go.WideShapes Go.ChangeAt Go.RowKit Go.Joins Go.Deep

theorem Tryz.cellsB : Tryz.prog.cellsOf 5 = 1 := by kernel_rfl
theorem Tryz.cellsQ : Tryz.prog.cellsOf 98 = 1 := by kernel_rfl
theorem Tryz.cellsPow : Tryz.prog.cellsOf 251 = 20 := by kernel_rfl
theorem Tryz.cellsDeb : Tryz.prog.cellsOf 264 = 64 := by kernel_rfl
theorem Tryz.tPow : (Tryz.prog.globals[0]?).map (·.type) = some 251 := by kernel_rfl
theorem Tryz.tDeb : (Tryz.prog.globals[5]?).map (·.type) = some 264 := by kernel_rfl
theorem Tryz.gDeb : Tryz.prog.globalNamed "math/bits.deBruijn64tab" = some 5 := by kernel_rfl
theorem Tryz.gPow2 : Tryz.prog.globalNamed "internal/strconv.uint64pow10" = some 0 := by kernel_rfl
theorem pow_datum : (Rows.laid_internal_strconv_uint64pow10 : DataW Unit) = Lib.tabData .u64 Lib.pow10Tab := by kernel_rfl
def debTab : List Int := [0, 1, 56, 2, 57, 49, 28, 3, 61, 58, 42, 50, 38, 29, 17, 4, 62, 47, 59, 36, 45, 43, 51, 22, 53, 39, 33, 30, 24, 18, 12, 5, 63, 55, 48, 27, 60, 41, 37, 16, 46, 35, 44, 21, 52, 32, 23, 11, 54, 26, 40, 15, 34, 20, 31, 10, 25, 14, 19, 9, 13, 8, 7, 6]
theorem deb_datum : (Rows.laid_math_bits_deBruijn64tab : DataW Unit) = Lib.tabData .u8 debTab := by kernel_rfl
theorem vars_of {W : World} {rest : List (String × DataW Unit)} (hL : laidMet Tryz.prog (("math/bits.deBruijn32tab", Rows.laid_math_bits_deBruijn32tab) :: ("math/bits.deBruijn64tab", Rows.laid_math_bits_deBruijn64tab) :: ("internal/strconv.uint64pow10", Rows.laid_internal_strconv_uint64pow10) :: rest) W) : K.Vars W := by
  have h1 : laidMet Tryz.prog (("math/bits.deBruijn64tab", Rows.laid_math_bits_deBruijn64tab) :: _) W := hL.tail
  have h2 : laidMet Tryz.prog (("internal/strconv.uint64pow10", Rows.laid_internal_strconv_uint64pow10) :: _) W := h1.tail
  rw [pow_datum] at h2
  rw [deb_datum] at h1
  have d := Lib.tabIs_of_head Tryz.gDeb Tryz.tDeb Tryz.underlying264 Tryz.underlying5 Tryz.cellsB Tryz.cellsDeb h1
  have c := d.cell Tryz.gDeb 15 (by decide)
  refine ⟨Lib.tabIs_of_head Tryz.gPow2 Tryz.tPow Tryz.underlying251 Tryz.underlying98 Tryz.cellsQ Tryz.cellsPow h2, ?_, ?_⟩
  · exact c
  · rcases Nat.lt_or_ge 5 W.heap.size with h' | h'
    · omega
    · unfold Lib.TabIs World.var? at d
      rw [Tryz.gDeb] at d
      simp only [Option.bind_some] at d
      rw [Array.getElem?_eq_none h'] at d
      simp at d
end Go.Proofs.YtgipjplifndniaaGreatDoor.U

namespace Go.Proofs.YtgipjplifndniaaGreatDoor.U
theorem and_mk {a b : Bool} (h : a = true) (k : b = true) : (a && b) = true := by rw [h, k]; rfl
set_option maxRecDepth 100000 in
set_option maxHeartbeats 40000000 in
theorem leases_closed : joinedFacts Tryz.pinned.checked.prog 3 Tryz.f3 (OpenSpec.ofChange Rows.hallLeasesSpec).bare Rows.hallLeasesRow = true := by
  unfold joinedFacts
  repeat' (with_reducible refine and_mk ?_ ?_)
  all_goals (as_aux_lemma => kernel_rfl)
end Go.Proofs.YtgipjplifndniaaGreatDoor.U

namespace Go.Proofs.YtgipjplifndniaaGreatDoor
open Go.ChangeShapes Go.WideShapes Go.ChangeAt Go.RowKit Go.Joins Go.Deep

def laidLs : List (String × DataW Unit) := Rows.hallLeasesRow.laid

set_option maxRecDepth 100000 in
theorem leases_lifted (os : Os) (started : os.Started) (H : Type) (enc : TypeId × Value → H) (F : Stop.Interp) :
    ReturnsInHanded {} Tryz.checked os 3 .any ((OpenSpec.ofChange Rows.hallLeasesSpec).preRow enc Tryz.prog Tryz.f3 Rows.hallLeasesRow.domain false Rows.hallLeasesRow.laid) (((OpenSpec.ofChange Rows.hallLeasesSpec).at F).post enc Tryz.prog Tryz.f3 false true false false) := by
  refine returnsInHanded_of_row (C := Tryz.checked) (s := OpenSpec.ofChange Rows.hallLeasesSpec) Tryz.own started (by kernel_rfl) Tryz.func3
    (ChangeSpec.witness_shaped (enc := enc) (C := Tryz.checked) (os := os) (s := Rows.hallLeasesSpec) (X := fun w _ => laidMetH Tryz.prog laidLs w) false (World.laidAll Tryz.prog os laidLs) #[.slice none 0 0, .int .i64 0] 8 (World.laidAll_os _ _ _)
      (World.shaped_of_ZipB (by kernel_rfl) (by kernel_rfl)) (by kernel_rfl) (by kernel_rfl) (by kernel_rfl)
      (by rw [MakeChecks.laidMetH_plain _ _ _ (by kernel_rfl)]; exact laidMet_laidAll _ (by kernel_rfl) (by kernel_rfl))) ?_
  intro W base args ds gs before hval0 hW _ _ hsz0 hL _ _
  have hsz : (DataW.weightsEach Tryz.prog (Tryz.f3.params.toList ++ Rows.hallLeasesSpec.plain.varTypes Tryz.prog) (ds ++ gs)).all (· ≤ reachBytes) = true := hsz0
  clear hsz0
  have hval : ∀ (j : Nat) t v, Tryz.f3.params[j]? = some t → args[j]? = some v → Value.okWide Tryz.prog W .any base t v := hval0
  have hW' := hW
  obtain ⟨p, q, hA0, hV, rfl, _, _⟩ := hW
  have hA : DataW.TrodAll enc Tryz.prog W 0 (fun _ => true) true Tryz.f3.params.toList args.toList ds p := hA0
  rw [Tryz.params3] at hA hval hsz
  obtain ⟨v0, v1, d0, d1, p0, p1, rfl, rfl, rfl, h0, h1⟩ := trodAll_two hA
  obtain ⟨rfl, rfl⟩ := trodVars_none hV
  obtain ⟨rights, rfl, rfl, rfl, wv⟩ := open_int Tryz.underlying3 (hval 1 3 v1 rfl rfl) h1
  clear hA0 hval0
  simp only [List.append_nil] at hW'
  have hlt : ∀ x ∈ p0, x.block < W.heap.size := fun x hx => by simpa using hW'.lt x (by simp [hx])
  rw [MakeChecks.laidMetH_plain _ _ _ (by kernel_rfl)] at hL
  obtain ⟨zs, hrow⟩ := open_cellrow 0 hsz rfl rfl h0 hlt (by obtain ⟨a, l, c, e⟩ := okWide_slice Tryz.underlying22 (hval 0 22 v0 rfl rfl); exact ⟨a, l, c, e⟩)
  have hargs : ∀ (W' : World), Below W.heap.size W W' → DataW.Trod enc Tryz.prog W' 0 (fun b => decide (b < W.heap.size)) true 22 v0 d0 p0 :=
    fun W' hb => Below.trod Tryz.laidOut (by kernel_rfl) (of_decide_eq_true (by kernel_rfl)) h0 hb hlt
  refine (U.leases_law v0 zs W hrow (U.vars_of hL) rights).mono fun e W' ⟨he, hb⟩ => ?_
  subst he
  refine ⟨_, rfl, _, _, _, [], p0 ++ [], [], hW', ?_, ?_, rfl, hb.frame _, fun h => by cases h⟩
  · exact trodAll_mk1 (shut_bool Tryz.underlying4 true)
  · exact trodAll_mk2 (hargs _ hb) (shut_int Tryz.underlying3 wv)

theorem leases_said : Rows.HallLeasesSaid :=
  OpenClaim.holds_of_cond 3 Tryz.f3 rfl rfl rfl rfl rfl rfl rfl ⟨rfl, rfl, rfl, rfl, rfl⟩ rfl rfl rfl rfl rfl (by kernel_rfl) Tryz.func3 U.leases_closed
    (of_decide_eq_true (by kernel_rfl)) (by unfold Func.isWrapper; first | (rw [if_pos (by decide +kernel)]; kernel_rfl) | (rw [if_neg (by decide +kernel)]; exact ⟨rfl, rfl⟩))
    (fun os started H enc _ F => by rw [OpenClaim.pre_eq_preRow]; exact leases_lifted os started H enc F)

theorem leases_plain (f : FuncId) (fn : Func) (hf : Tryz.pinned.checked.prog.funcNamed Rows.hallLeasesRow.func = some f) (hfn : Tryz.pinned.checked.prog.funcs[f]? = some fn) :
    true = Tryz.pinned.checked.prog.looks [] ∧ ∀ (j : Nat) t, fn.params[j]? = some t → Tryz.pinned.checked.prog.wantsStandIn t = false := by
  obtain rfl : f = 3 := Option.some.inj ((show Tryz.prog.funcNamed Rows.hallLeasesRow.func = some 3 by kernel_rfl).symm.trans hf) |>.symm
  obtain rfl : fn = Tryz.f3 := (Option.some.inj (Tryz.func3.symm.trans hfn)).symm
  refine ⟨by kernel_rfl, fun j t ht => ?_⟩
  rw [Tryz.params3] at ht
  have hm : t ∈ [22, 3] := by simpa using Array.mem_of_getElem? ht
  have hall : ([22, 3].all fun u => !Tryz.prog.wantsStandIn u) = true := by kernel_rfl
  exact (show Tryz.prog.wantsStandIn t = false by simpa using List.all_eq_true.1 hall t hm)

theorem leases_card : Rows.HallLeasesCardSaid :=
  Claim7.holds_tied_plain_at .later [] _ _ _ _ leases_said (fun _ h => by cases h) (by kernel_rfl) (fun _ h => by cases h) hallLeases_row_tie rfl ⟨rfl, rfl⟩ (by kernel_rfl) rfl leases_plain (by kernel_rfl)

#print axioms leases_card
end Go.Proofs.YtgipjplifndniaaGreatDoor
