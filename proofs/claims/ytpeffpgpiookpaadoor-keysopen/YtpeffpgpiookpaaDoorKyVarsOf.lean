/- What the listed variables hold; a list of what is asked for among the arguments, opened. -/
import Derived.Test.YtpeffpgpiookpaaDoorKyGone
import Derived.Test.YtpeffpgpiookpaaDoorKyTriple
import Derived.Test.YtpeffpgpiookpaaDoorTie
import Derived.Test.YtpeffpgpiookpaaDoorCards
import Derived.Deep.DeepHandedRow
import Derived.Lib.LaidTab
import Derived.Stop.LaidErr
import Derived.Shelf.Vars
import Derived.Lay
import Derived.HandedShaped
import Derived.SevenTiedAt
import Derived.SizedLaws
import Derived.ChangeMaps5
import Derived.ChangeSame
import Derived.ProofKit
namespace Go.Proofs.YtpeffpgpiookpaaDoor
open Go.ChangeShapes Go.WideShapes Go.ChangeAt Go.RowKit Go.Joins Go.Deep

theorem Tryd.own : ownKnob Tryd.prog.godebug = none := by kernel_rfl
theorem Tryd.laidOut : laidOutB Tryd.prog = true := by kernel_rfl
theorem Tryd.cells3 : Tryd.prog.cellsOf 3 = 1 := by kernel_rfl
theorem Tryd.cells9 : Tryd.prog.cellsOf 9 = 1 := by kernel_rfl
theorem Tryd.cellsU8 : Tryd.prog.cellsOf 5 = 1 := by kernel_rfl
theorem Tryd.cellsU64 : Tryd.prog.cellsOf 58 = 1 := by kernel_rfl
theorem Tryd.cellsPow : Tryd.prog.cellsOf 114 = 20 := by kernel_rfl
theorem Tryd.cellsDeb : Tryd.prog.cellsOf 132 = 64 := by kernel_rfl
theorem Tryd.tPow : (Tryd.prog.globals[0]?).map (·.type) = some 114 := by kernel_rfl
theorem Tryd.tDeb : (Tryd.prog.globals[4]?).map (·.type) = some 132 := by kernel_rfl
theorem Tryd.gDeb : Tryd.prog.globalNamed "math/bits.deBruijn64tab" = some 4 := by kernel_rfl
theorem pow_datum : (Rows.laid_internal_strconv_uint64pow10 : DataW Unit) = Lib.tabData .u64 Lib.pow10Tab := by kernel_rfl
def debTab : List Int := [0, 1, 56, 2, 57, 49, 28, 3, 61, 58, 42, 50, 38, 29, 17, 4, 62, 47, 59, 36, 45, 43, 51, 22, 53, 39, 33, 30, 24, 18, 12, 5, 63, 55, 48, 27, 60, 41, 37, 16, 46, 35, 44, 21, 52, 32, 23, 11, 54, 26, 40, 15, 34, 20, 31, 10, 25, 14, 19, 9, 13, 8, 7, 6]
theorem deb_datum : (Rows.laid_math_bits_deBruijn64tab : DataW Unit) = Lib.tabData .u8 debTab := by kernel_rfl
theorem vars_of {W : World} {rest : List (String × DataW Unit)} (hL : laidMet Tryd.prog (("math/bits.deBruijn32tab", Rows.laid_math_bits_deBruijn32tab) :: ("math/bits.deBruijn64tab", Rows.laid_math_bits_deBruijn64tab) :: ("internal/strconv.uint64pow10", Rows.laid_internal_strconv_uint64pow10) :: rest) W) : Vars W := by
  have h1 : laidMet Tryd.prog (("math/bits.deBruijn64tab", Rows.laid_math_bits_deBruijn64tab) :: _) W := hL.tail
  have h2 : laidMet Tryd.prog (("internal/strconv.uint64pow10", Rows.laid_internal_strconv_uint64pow10) :: _) W := h1.tail
  rw [pow_datum] at h2
  rw [deb_datum] at h1
  have d := Lib.tabIs_of_head Tryd.gDeb Tryd.tDeb Tryd.underlying132 Tryd.underlying5 Tryd.cellsU8 Tryd.cellsDeb h1
  have c := d.cell Tryd.gDeb 15 (by decide)
  refine ⟨Lib.tabIs_of_head Tryd.gPow Tryd.tPow Tryd.underlying114 Tryd.underlying58 Tryd.cellsU64 Tryd.cellsPow h2, ?_, ?_⟩
  · exact c
  · rcases Nat.lt_or_ge 4 W.heap.size with h' | h'
    · omega
    · unfold Lib.TabIs World.var? at d
      rw [Tryd.gDeb] at d
      simp only [Option.bind_some] at d
      rw [Array.getElem?_eq_none h'] at d
      simp at d

def Fits64 (x : Int) : Prop := -9223372036854775808 ≤ x ∧ x ≤ 9223372036854775807
instance : Inhabited Wt := ⟨⟨⟨#[]⟩, 0, 0⟩⟩
theorem Tryd.cellsWant : Tryd.prog.cellsOf 40 = 3 := by kernel_rfl
/-- a list of what is asked for, opened -/
theorem open_wants {H : Type} {enc : TypeId × Value → H} {W : World} {v : Value} {d : DataW H} {ps : List MemPlace}
    (h : DataW.Trod enc Tryd.prog W 0 (fun _ => true) true 31 v d ps) (hv1 : ∃ a n c, v = .slice a n c) (hlt : ∀ x ∈ ps, x.block < W.heap.size) (hwt : ∀ n ∈ d.weights Tryd.prog 31, n ≤ reachBytes) :
    ∃ (ls : List Wt), HWt W v ls ∧ (∀ x ∈ ls, x.name.size ≤ 140737488355328) := by
  obtain ⟨va, vn, vc, rfl⟩ := hv1
  obtain ⟨fuel, hf0⟩ := h
  have hf : DataW.trod enc Tryd.prog W 0 (fun _ => true) true fuel 31 [.slice va vn vc] = some (d, ps) := hf0
  rcases open_slice_triples Tryd.underlying31 Tryd.underlying40 Tryd.cellsWant rfl rfl rfl Tryd.cells9 Tryd.cells3 Tryd.cells3 hf with ⟨hcs, hx⟩ | ⟨a, len, cap, m, n, V0, V1, V2, D0, D1, D2, Pl, hcs, hl, hmx, hm, hx, hcell⟩
  · simp only [List.cons.injEq, and_true] at hcs
    rw [hcs]
    exact ⟨[], ⟨none, 0, rfl, by simp, by simp, .inl rfl⟩, (fun k hk => by cases hk)⟩
  · simp only [List.cons.injEq, and_true] at hcs
    rw [hcs]
    simp only [if_true] at hm
    subst hm
    simp only [Prod.mk.injEq] at hx
    obtain ⟨hx1, hx2⟩ := hx
    have hw1 : ∀ i, i < len → ∀ n ∈ (DataW.agg [D0 i, D1 i, D2 i] : DataW H).weights Tryd.prog 40, n ≤ reachBytes := fun i hi n hn => hwt n (by
      rw [hx1]
      simp only [DataW.weights, Tryd.underlying31]
      refine List.mem_cons_of_mem _ (List.mem_append_left _ (weightsAll_mem (List.mem_map.2 ⟨i, List.mem_range.2 hi, rfl⟩) n hn)))
    have each : ∀ i, i < m → ∃ k : Wt, V0 i = .string k.name ∧ V1 i = .int .i64 k.rights ∧ V2 i = .int .i64 k.draw ∧ (i < len → k.name.size ≤ 140737488355328) := by
      intro i hi
      obtain ⟨_, _, _, ⟨q0, t0⟩, ⟨q1, t1⟩, ⟨q2, t2⟩⟩ := hcell i hi
      obtain ⟨x0, e0, d0, _⟩ := DataW.trod_string Tryd.underlying9 t0
      obtain ⟨x1, e1, _, _⟩ := DataW.trod_int Tryd.underlying3 t1
      obtain ⟨x2, e2, _, _⟩ := DataW.trod_int Tryd.underlying3 t2
      simp only [List.cons.injEq, and_true] at e0 e1 e2
      refine ⟨⟨x0, x1, x2⟩, e0, e1, e2, fun hil => ?_⟩
      have hw := hw1 i hil
      simp only [Prod.mk.injEq] at d0
      rw [d0.1] at hw
      have g0 := hw x0.data.toList.length (by simp only [DataW.weights, Tryd.underlying40]; exact List.mem_append_left _ (by simp [DataW.weights]))
      rw [ba_len] at g0
      simp only [reachBytes] at g0
      show x0.size ≤ _
      omega
    obtain ⟨K, hK⟩ := choose_lt each
    refine ⟨(List.range len).map K, ?_, ?_⟩
    · refine ⟨some a, m, by simp, by simp; omega, by unfold maxLen at hmx; omega, ?_⟩
      by_cases h0 : len = 0
      · left; simp [h0]
      · right
        obtain ⟨b, off, spot⟩ := a
        have hspot : spot = none := by simpa [Addr.add] using World.cell?_spot (hcell 0 (by omega)).1
        subst hspot
        refine ⟨b, off, rfl, hlt (.cell b off) (by rw [hx2]; exact List.mem_append_left _ (MemPlace.mem_row.2 ⟨0, by omega, by simp⟩)), fun k x hk => ?_⟩
        obtain ⟨hk1, hk2⟩ := List.getElem?_eq_some_iff.1 hk
        simp only [List.length_map, List.length_range] at hk1
        simp only [List.getElem_map, List.getElem_range] at hk2
        subst hk2
        have hc := hcell k (by omega)
        obtain ⟨v0, v1, v2, _⟩ := hK k (by omega)
        rw [addr_add, addr_add, addr_add, v0, v1, v2] at hc
        exact ⟨hc.1, hc.2.1, hc.2.2.1⟩
    · intro k hk
      obtain ⟨i, hi, rfl⟩ := List.mem_map.1 hk
      rw [List.mem_range] at hi
      exact (hK i (by omega)).2.2.2 hi
end Go.Proofs.YtpeffpgpiookpaaDoor
