/- What the listed package-level variables give; deeds among the arguments, opened. -/
import Derived.Test.YtpldaghhledjlaaGreatDoorHoLaw
import Derived.Test.YtpldaghhledjlaaGreatDoorTie
import Derived.Test.YtpldaghhledjlaaGreatDoorCards
import Derived.Deep.DeepHandedRow
import Derived.Lib.LaidTab
import Derived.Stop.LaidErr
import Derived.Lay
import Derived.HandedShaped
import Derived.Shelf.Vars
import Derived.SevenTiedAt
import Derived.ChangeArms
import Derived.ChangeMaps5
import Derived.SizedLaws
import Derived.Deep.SlicePairs
import Derived.ChangeSame
import Derived.ProofKit
namespace Go.Proofs.YtpldaghhledjlaaGreatDoor.H
open Go.ChangeShapes Go.WideShapes Go.ChangeAt Go.RowKit Go.Joins Go.Deep

theorem Tryz.own : ownKnob Tryz.prog.godebug = none := by kernel_rfl
theorem Tryz.laidOut : laidOutB Tryz.prog = true := by kernel_rfl
/-- the variables that the row lists -/
def laidL : List (String × DataW Unit) := Rows.houseLogsRow.laid
theorem maxLen_cell {W : World} (h : W.ShapedOpen Tryz.prog) : ∃ m, W.cell? ⟨1, 0, none⟩ = some (.int .i64 m) :=
  Go.Proofs.cell_of_shapedOpen_int (zero := #[.int .i64 0]) (t := 3) h (of_decide_eq_true (by kernel_rfl)) (by kernel_rfl) rfl (by kernel_rfl) (by kernel_rfl) Tryz.underlying3
theorem Tryz.gVerb : Tryz.prog.globalNamed "lifelodge/speech.verbs" = some 2 := by kernel_rfl
theorem Tryz.tVerb : (Tryz.prog.globals[2]?).map (·.type) = some 225 := by kernel_rfl
theorem Tryz.gLast : Tryz.prog.globalNamed "strconv.ErrRange" = some 8 := by kernel_rfl
theorem Tryz.cells3 : Tryz.prog.cellsOf 3 = 1 := by kernel_rfl
theorem Tryz.cells9 : Tryz.prog.cellsOf 9 = 1 := by kernel_rfl
theorem Tryz.cellsVerb : Tryz.prog.cellsOf 225 = 11 := by kernel_rfl
theorem Tryz.cellsDeed : Tryz.prog.cellsOf 38 = 4 := by kernel_rfl
def strData {H : Type} (zs : List (List UInt8)) : DataW H := .agg (zs.map fun z => .lit (.string z))
theorem verb_datum : (Rows.laid_lifelodge_speech_verbs : DataW Unit) = strData (verbL.map (·.data.toList)) := by kernel_rfl
/-- an array of strings that reads as a table holds the table's strings -/
theorem cells_of_str {H : Type} {enc : TypeId × Value → H} {P : Program} {w : World} {base : Nat} {sp : Nat → Bool} {held : Bool} {fuel : Nat} {t e : TypeId} {n : Nat} {cs : List Value} {zs : List (List UInt8)} {p : List MemPlace}
    (ht : P.underlying t = some (.array n e)) (he : P.underlying e = some .string) (hce : P.cellsOf e = 1) (hct : P.cellsOf t = n)
    (h : DataW.trod enc P w base sp held fuel t cs = some (strData zs, p)) : cs = zs.map fun z => Value.string ⟨z.toArray⟩ := by
  cases fuel with
  | zero => simp [DataW.trod] at h
  | succ fuel =>
    simp only [DataW.trod, ht, hce, hct, Nat.mul_one] at h
    split at h
    · rename_i hl
      obtain ⟨xs, hm, hx⟩ := Option.map_eq_some_iff.1 h
      have hxs : xs.map (·.1) = zs.map fun z => (DataW.lit (.string z) : DataW H) := by
        have := congrArg Prod.fst hx
        simpa [strData] using this
      have hxl : xs.length = n := by simpa using Lib.mapM_length hm
      have hzl : zs.length = n := by
        have := congrArg List.length hxs
        simp at this
        omega
      apply List.ext_getElem?
      intro i
      by_cases hi : i < n
      · obtain ⟨b, hb, hf⟩ := Lib.mapM_at hm i i (by simp [hi])
        obtain ⟨z, hc, rfl, _⟩ := DataW.trod_string he hf
        have h1 : cs[i]? = some (.string z) := by
          have := congrArg (·[0]?) hc
          simpa [List.getElem?_take, List.getElem?_drop] using this
        have h2 : (xs.map (·.1))[i]? = some (DataW.lit (.string z.data.toList) : DataW H) := by simp [hb]
        rw [hxs] at h2
        simp only [List.getElem?_map, Option.map_eq_some_iff, DataW.lit.injEq, Lit.string.injEq] at h2
        obtain ⟨z', hz', rfl⟩ := h2
        rw [h1, List.getElem?_map, hz', Option.map_some, ← ba_list]
      · rw [List.getElem?_eq_none (by omega), List.getElem?_eq_none (by simp; omega)]
    · cases h

theorem vars_of {W : World} (hL : laidMetH Tryz.prog laidL W) (hsh : W.ShapedOpen Tryz.prog) : Vars W := by
  rw [MakeChecks.laidMetH_plain _ _ _ (by kernel_rfl)] at hL
  have h4 : laidMet Tryz.prog (("strconv.ErrRange", Rows.laid_strconv_ErrRange) :: _) W := hL.tail.tail.tail.tail
  have h6 : laidMet Tryz.prog (("lifelodge/speech.verbs", Rows.laid_lifelodge_speech_verbs) :: _) W := h4.tail.tail
  rw [verb_datum] at h6
  refine ⟨maxLen_cell hsh, ?_, ?_⟩
  · obtain ⟨ps, ⟨g', t', cs, fuel, p, q, hg', ht', hvar, hd, _, _⟩, _⟩ := h6
    obtain rfl := Option.some.inj (Tryz.gVerb.symm.trans hg')
    obtain rfl := Option.some.inj (Tryz.tVerb.symm.trans ht')
    have hcs := cells_of_str Tryz.underlying225 Tryz.underlying9 Tryz.cells9 Tryz.cellsVerb hd
    intro k hk
    rw [World.var?_cell Tryz.gVerb hvar k]
    have hc : k = 0 ∨ k = 1 ∨ k = 2 ∨ k = 3 ∨ k = 4 ∨ k = 5 ∨ k = 6 ∨ k = 7 ∨ k = 8 ∨ k = 9 ∨ k = 10 := by omega
    have h7 : cs = ((verbL.map (·.data.toList)).map fun z => Value.string ⟨z.toArray⟩).toArray := by rw [← hcs]
    rw [h7]
    rcases hc with rfl | rfl | rfl | rfl | rfl | rfl | rfl | rfl | rfl | rfl | rfl <;> rfl
  · obtain ⟨ps, ⟨g', t', cs, fuel, p, q, hg', ht', hvar, hd, _, _⟩, _⟩ := h4
    unfold World.var? at hvar
    rw [Tryz.gLast] at hvar
    simp only [Option.bind_some] at hvar
    rcases Nat.lt_or_ge 8 W.heap.size with h' | h'
    · omega
    · rw [Array.getElem?_eq_none h'] at hvar
      simp at hvar
set_option maxRecDepth 100000 in
/-- a slice of deeds, opened: the first two fields of each -/
theorem open_deeds {H : Type} {enc : TypeId × Value → H} {W : World} {fuel : Nat} {cs : List Value} {d : DataW H} {ps : List MemPlace}
    (hf : DataW.trod enc Tryz.prog W 0 (fun _ => true) true fuel 22 cs = some (d, ps)) :
    ∃ (v : Value) (ks : List (Int × Int)), cs = [v] ∧ HD W v ks := by
  rcases open_slice Tryz.underlying22 hf with ⟨hcs, _⟩ | ⟨a, len, cap, m, n, D, Pl, rfl, hb, hl, hm, hmm, hx, hx2⟩
  · exact ⟨_, [], hcs, ⟨none, 0, rfl, by simp, by simp, .inl rfl⟩⟩
  · have hlm : len ≤ m := by rw [hmm]; split <;> omega
    have each : ∀ i, i < m → ∃ q : Int × Int, W.cell? (a.add (i * 4)) = some (.int .i64 q.1) ∧ W.cell? (a.add (i * 4 + 1)) = some (.int .i64 q.2) := by
      intro i hi
      obtain ⟨cs', h1, h2⟩ := hx2 i hi
      rw [Tryz.cellsDeed] at h1
      obtain ⟨_, hlen, hcell⟩ := World.cells?_some h1
      obtain ⟨xs, k, hk, hxy, _, hxl, hf⟩ := DataW.trod_struct Tryz.underlying38 h2
      match xs, hxl, cs', hlen with
      | [y0, y1, y2, y3], _, [v0, v1, v2, v3], _ =>
        have g0 := hf 0 _ rfl
        have g1 := hf 1 _ rfl
        simp [Tryz.cells3] at g0 g1
        obtain ⟨x0, e0, _, _⟩ := DataW.trod_int Tryz.underlying3 g0
        obtain ⟨x1, e1, _, _⟩ := DataW.trod_int Tryz.underlying3 g1
        simp only [List.cons.injEq, and_true] at e0 e1
        have c0 := hcell 0 (by omega)
        have c1 := hcell 1 (by omega)
        rw [add_add] at c0 c1
        refine ⟨(x0, x1), ?_, ?_⟩
        · simpa [e0] using c0
        · simpa [e1] using c1
    obtain ⟨K, hK⟩ := choose_lt each
    refine ⟨_, (List.range len).map K, rfl, some a, cap, by simp, by simp; omega, by unfold maxLen at hm; omega, ?_⟩
    by_cases h0 : len = 0
    · left; simp [h0]
    · right
      obtain ⟨b, off, spot⟩ := a
      have hspot : spot = none := by simpa [Addr.add] using World.cell?_spot (hK 0 (by omega)).1
      subst hspot
      have hblt : b < W.heap.size := by
        have := World.block_lt_of_cell? W _ (hK 0 (by omega)).1
        simpa [Addr.add] using this
      refine ⟨b, off, rfl, hblt, fun k x hk => ?_⟩
      obtain ⟨hk1, hk2⟩ := List.getElem?_eq_some_iff.1 hk
      simp only [List.length_map, List.length_range] at hk1
      simp only [List.getElem_map, List.getElem_range] at hk2
      subst hk2
      have hc := hK k (by omega)
      rw [addr_add, addr_add] at hc
      exact ⟨hc.1, hc.2⟩
end Go.Proofs.YtpldaghhledjlaaGreatDoor.H
