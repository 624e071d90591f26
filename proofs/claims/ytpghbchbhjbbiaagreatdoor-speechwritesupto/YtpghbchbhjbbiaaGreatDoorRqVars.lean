/- What the document's own tables of texts hold. -/
import Derived.Test.YtpghbchbhjbbiaaGreatDoorRqHead
import Derived.Test.YtpghbchbhjbbiaaGreatDoorSpVarsOf
import Derived.SliceStrings
namespace Go.Proofs.YtpghbchbhjbbiaaGreatDoor
open Go.ChangeShapes Go.WideShapes Go.ChangeAt Go.RowKit Go.Joins

theorem Tryz.gVn : Tryz.prog.globalNamed "lifelodge/lifelodgeref.verbNames" = some 0 := by kernel_rfl
theorem Tryz.tVn : (Tryz.prog.globals[0]?).map (·.type) = some 41 := by kernel_rfl
theorem Tryz.gFm : Tryz.prog.globalNamed "lifelodge/lifelodgeref.form" = some 1 := by kernel_rfl
theorem Tryz.tFm : (Tryz.prog.globals[1]?).map (·.type) = some 41 := by kernel_rfl
def slData {H : Type} (zs : List (List UInt8)) : DataW H := .slice (zs.map fun z => .lit (.string z)) []
theorem vn_datum : (Rows.laid_lifelodge_lifelodgeref_verbNames : DataW Unit) = slData (verbL.map (·.data.toList)) := by kernel_rfl
theorem form_datum : (Rows.laid_lifelodge_lifelodgeref_form : DataW Unit) = slData formL := by kernel_rfl
theorem addr_plain {W : World} {a : Addr} {v : Value} (h : W.cell? a = some v) : ∃ b o, a = ⟨b, o, none⟩ ∧ b < W.heap.size := by
  obtain ⟨b, off, spot⟩ := a
  have hs : spot = none := World.cell?_spot h
  subst hs
  refine ⟨b, off, rfl, ?_⟩
  rcases Nat.lt_or_ge b W.heap.size with hl | hl
  · exact hl
  · exfalso
    simp [World.cell?, Array.getElem?_eq_none hl] at h
theorem add_plain (g o j : Nat) : (⟨g, o, none⟩ : Addr).add j = ⟨g, o + j, none⟩ := by
  unfold Addr.add
  split
  · rename_i h; rw [h, Nat.add_zero]
  · rfl
theorem texts_of {W : World} {n : String} {g : Nat} {zs : List (List UInt8)} {rest : List (String × DataW Unit)} (hg : Tryz.prog.globalNamed n = some g) (ht : (Tryz.prog.globals[g]?).map (·.type) = some 41) (hne : zs ≠ []) (h : laidMet Tryz.prog ((n, slData zs) :: rest) W) :
    ∃ gv ov cv, W.cell? ⟨g, 0, none⟩ = some (.slice (some ⟨gv, ov, none⟩) zs.length cv) ∧ TextsAt W gv ov (zs.map fun z => ⟨z.toArray⟩) ∧ gv < W.heap.size := by
  obtain ⟨ps, ⟨g', t', cs, fuel, p, q, hg', ht', hvar, hd, _, _⟩, _⟩ := h
  obtain rfl := Option.some.inj (hg.symm.trans hg')
  obtain rfl := Option.some.inj (ht.symm.trans ht')
  have hl0 : 0 < zs.length := List.length_pos_iff.2 hne
  rcases open_strings Tryz.underlying41 Tryz.underlying9 Tryz.cells9 hd with ⟨_, hx⟩ | ⟨a, len, cap, ss, hcs, _, hl, _, hz, hx, hcell, _⟩
  · have := congrArg Prod.fst hx
    simp [slData] at this
  · have h1 := congrArg Prod.fst hx
    simp only [slData, DataW.slice.injEq] at h1
    obtain ⟨h1, _⟩ := h1
    simp only [if_true] at hz
    have hlen : zs.length = len := by
      have := congrArg List.length h1
      simp only [strs, List.length_map, List.length_take] at this
      omega
    obtain ⟨b, o, rfl, hb⟩ := addr_plain (hcell 0 (by omega))
    simp only [add_plain] at hcell hb
    refine ⟨b, o, cap, ?_, ?_, hb⟩
    · rw [World.var?_cell hg hvar 0, hlen]
      have : cs = #[.slice (some ⟨b, o, none⟩) len cap] := by rw [← Array.toList_inj, hcs]
      rw [this]
      rfl
    · intro k hk
      simp only [List.length_map] at hk
      rw [hcell k (by omega)]
      have h2 := congrArg (·[k]?) h1
      simp only [strs, List.getElem?_map, List.getElem?_take, if_pos (show k < len by omega)] at h2
      rw [List.getElem?_eq_getElem hk, List.getElem?_eq_getElem (show k < ss.length by omega)] at h2
      simp only [Option.map_some, Option.some.injEq, DataW.lit.injEq, Lit.string.injEq] at h2
      congr 2
      rw [List.getD_eq_getElem?_getD, List.getD_eq_getElem?_getD, List.getElem?_map, List.getElem?_eq_getElem hk, List.getElem?_eq_getElem (show k < ss.length by omega)]
      simp only [Option.map_some, Option.getD_some]
      rw [h2, ← ba_list]
/-- the ten variables of the row -/
def laid10 : List (String × DataW Unit) := Rows.speechReadsRow.laid
theorem laid_cut {P : Program} {a b : String × DataW Unit} {l : List (String × DataW Unit)} {W : World} (h : laidMet P (a :: b :: l) W) : laidMet P (b :: l) W := h.tail
theorem vars10 {W : World} (hL : laidMetH Tryz.prog laid10 W) (hsh : W.ShapedOpen Tryz.prog) : Vars W ∧ ∃ gv ov cv gf of cf, RVars W gv ov cv gf of cf := by
  rw [MakeChecks.laidMetH_plain _ _ _ (by kernel_rfl)] at hL
  have h1 : laidMet Tryz.prog (("math/bits.deBruijn64tab", Rows.laid_math_bits_deBruijn64tab) :: _) W := hL.tail
  have h2 : laidMet Tryz.prog (("internal/strconv.uint64pow10", Rows.laid_internal_strconv_uint64pow10) :: _) W := h1.tail
  have h3 : laidMet Tryz.prog (("lifelodge/lifelodgeref.verbNames", Rows.laid_lifelodge_lifelodgeref_verbNames) :: _) W := h2.tail.tail
  have h3b : laidMet Tryz.prog (("lifelodge/lifelodgeref.form", Rows.laid_lifelodge_lifelodgeref_form) :: _) W := h3.tail
  have h4 : laidMet Tryz.prog (("strconv.ErrRange", Rows.laid_strconv_ErrRange) :: _) W := h3b.tail
  have h5 : laidMet Tryz.prog (("strconv.ErrSyntax", Rows.laid_strconv_ErrSyntax) :: _) W := h4.tail
  have h6 : laidMet Tryz.prog (("lifelodge/speech.verbs", Rows.laid_lifelodge_speech_verbs) :: _) W := h5.tail
  rw [pow_datum] at h2
  rw [verb_datum] at h6
  rw [vn_datum] at h3
  rw [form_datum] at h3b
  have hroom : 11 ≤ W.heap.size := by
    obtain ⟨ps, ⟨g', t', cs, fuel, p, q, hg', ht', hvar, hd, _, _⟩, _⟩ := h1
    unfold World.var? at hvar
    rw [Tryz.gDeb] at hvar
    simp only [Option.bind_some] at hvar
    rcases Nat.lt_or_ge 10 W.heap.size with h' | h'
    · omega
    · rw [Array.getElem?_eq_none h'] at hvar
      simp at hvar
  refine ⟨⟨maxLen_cell hsh, Lib.tabIs_of_head Tryz.gPow Tryz.tPow Tryz.underlying142 Tryz.underlying86 Tryz.cellsU64 Tryz.cellsPow h2, ?_, ?_, ?_, hroom⟩, ?_⟩
  · obtain ⟨a, s, hv, _⟩ := laid_sentinel h5 Tryz.gSyn Tryz.tSyn Tryz.underlying95 Tryz.rowErr Tryz.underlying160 Tryz.underlying162 rfl rfl Tryz.underlying9 Tryz.cellsErr Tryz.cells9
    exact sent_cell Tryz.gSyn hv
  · obtain ⟨a, s, hv, _⟩ := laid_sentinel h4 Tryz.gRng Tryz.tRng Tryz.underlying95 Tryz.rowErr Tryz.underlying160 Tryz.underlying162 rfl rfl Tryz.underlying9 Tryz.cellsErr Tryz.cells9
    exact sent_cell Tryz.gRng hv
  · obtain ⟨ps, ⟨g', t', cs, fuel, p, q, hg', ht', hvar, hd, _, _⟩, _⟩ := h6
    obtain rfl := Option.some.inj (Tryz.gVerb.symm.trans hg')
    obtain rfl := Option.some.inj (Tryz.tVerb.symm.trans ht')
    have hcs := cells_of_str Tryz.underlying75 Tryz.underlying9 Tryz.cells9 Tryz.cellsVerb hd
    intro k hk
    rw [World.var?_cell Tryz.gVerb hvar k]
    have hc : k = 0 ∨ k = 1 ∨ k = 2 ∨ k = 3 ∨ k = 4 ∨ k = 5 ∨ k = 6 ∨ k = 7 ∨ k = 8 ∨ k = 9 ∨ k = 10 := by omega
    have h7 : cs = ((verbL.map (·.data.toList)).map fun z => Value.string ⟨z.toArray⟩).toArray := by rw [← hcs]
    rw [h7]
    rcases hc with rfl | rfl | rfl | rfl | rfl | rfl | rfl | rfl | rfl | rfl | rfl <;> rfl
  · obtain ⟨gv, ov, cv, a1, a2, a3⟩ := texts_of Tryz.gVn Tryz.tVn (by decide) h3
    obtain ⟨gf, of, cf, b1, b2, b3⟩ := texts_of Tryz.gFm Tryz.tFm (by decide) h3b
    refine ⟨gv, ov, cv, gf, of, cf, a1, ?_, b1, b2, hroom, a3, b3⟩
    rw [map_back] at a2
    exact a2
end Go.Proofs.YtpghbchbhjbbiaaGreatDoor
