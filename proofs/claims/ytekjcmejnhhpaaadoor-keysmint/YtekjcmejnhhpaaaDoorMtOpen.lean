/- What the listed variables hold; a table among the arguments, opened. -/
import Derived.Test.YtekjcmejnhhpaaaDoorMtLaw
import Derived.Test.YtekjcmejnhhpaaaDoorKyTriple
import Derived.Test.YtekjcmejnhhpaaaDoorTie
import Derived.Test.YtekjcmejnhhpaaaDoorCards
import Derived.Deep.DeepHandedRow
import Derived.Lib.LaidTab
import Derived.Stop.LaidErr
import Derived.Shelf.Vars
import Derived.Lay
import Derived.HandedShaped
import Derived.SevenTiedAt
import Derived.SizedLaws
import Derived.ChangeMaps5
import Derived.ChangeSame
import Derived.ProofKit
namespace Go.Proofs.YtekjcmejnhhpaaaDoor
open Go.ChangeShapes Go.WideShapes Go.ChangeAt Go.RowKit Go.Joins Go.Deep

theorem Tryd.own : ownKnob Tryd.prog.godebug = none := by kernel_rfl
theorem Tryd.laidOut : laidOutB Tryd.prog = true := by kernel_rfl
theorem Tryd.cells3 : Tryd.prog.cellsOf 3 = 1 := by kernel_rfl
theorem Tryd.cells9 : Tryd.prog.cellsOf 9 = 1 := by kernel_rfl
theorem Tryd.cellsU8 : Tryd.prog.cellsOf 5 = 1 := by kernel_rfl
theorem Tryd.cellsU64 : Tryd.prog.cellsOf 36 = 1 := by kernel_rfl
theorem Tryd.cellsPow : Tryd.prog.cellsOf 80 = 20 := by kernel_rfl
theorem Tryd.cellsDeb : Tryd.prog.cellsOf 90 = 64 := by kernel_rfl
theorem Tryd.tPow : (Tryd.prog.globals[0]?).map (·.type) = some 80 := by kernel_rfl
theorem Tryd.tDeb : (Tryd.prog.globals[2]?).map (·.type) = some 90 := by kernel_rfl
theorem Tryd.gDeb : Tryd.prog.globalNamed "math/bits.deBruijn64tab" = some 2 := by kernel_rfl
theorem pow_datum : (Rows.laid_internal_strconv_uint64pow10 : DataW Unit) = Lib.tabData .u64 Lib.pow10Tab := by kernel_rfl
def debTab : List Int := [0, 1, 56, 2, 57, 49, 28, 3, 61, 58, 42, 50, 38, 29, 17, 4, 62, 47, 59, 36, 45, 43, 51, 22, 53, 39, 33, 30, 24, 18, 12, 5, 63, 55, 48, 27, 60, 41, 37, 16, 46, 35, 44, 21, 52, 32, 23, 11, 54, 26, 40, 15, 34, 20, 31, 10, 25, 14, 19, 9, 13, 8, 7, 6]
theorem deb_datum : (Rows.laid_math_bits_deBruijn64tab : DataW Unit) = Lib.tabData .u8 debTab := by kernel_rfl
theorem vars_of {W : World} {rest : List (String × DataW Unit)} (hL : laidMet Tryd.prog (("math/bits.deBruijn32tab", Rows.laid_math_bits_deBruijn32tab) :: ("math/bits.deBruijn64tab", Rows.laid_math_bits_deBruijn64tab) :: ("internal/strconv.uint64pow10", Rows.laid_internal_strconv_uint64pow10) :: rest) W) : Vars W := by
  have h1 : laidMet Tryd.prog (("math/bits.deBruijn64tab", Rows.laid_math_bits_deBruijn64tab) :: _) W := hL.tail
  have h2 : laidMet Tryd.prog (("internal/strconv.uint64pow10", Rows.laid_internal_strconv_uint64pow10) :: _) W := h1.tail
  rw [pow_datum] at h2
  rw [deb_datum] at h1
  have d := Lib.tabIs_of_head Tryd.gDeb Tryd.tDeb Tryd.underlying90 Tryd.underlying5 Tryd.cellsU8 Tryd.cellsDeb h1
  have c := d.cell Tryd.gDeb 15 (by decide)
  refine ⟨Lib.tabIs_of_head Tryd.gPow Tryd.tPow Tryd.underlying80 Tryd.underlying36 Tryd.cellsU64 Tryd.cellsPow h2, ?_, ?_⟩
  · exact c
  · rcases Nat.lt_or_ge 2 W.heap.size with h' | h'
    · omega
    · unfold Lib.TabIs World.var? at d
      rw [Tryd.gDeb] at d
      simp only [Option.bind_some] at d
      rw [Array.getElem?_eq_none h'] at d
      simp at d

def Fits64 (x : Int) : Prop := -9223372036854775808 ≤ x ∧ x ≤ 9223372036854775807
instance : Inhabited Ky := ⟨noKy⟩
theorem Tryd.cellsKey : Tryd.prog.cellsOf 33 = 3 := by kernel_rfl
theorem Tryd.cellsSl : Tryd.prog.cellsOf 22 = 1 := by kernel_rfl
theorem Tryd.cellsTb : Tryd.prog.cellsOf 24 = 2 := by kernel_rfl
theorem Tryd.bytesKey : Tryd.prog.bytesOf 33 = 40 := by kernel_rfl
theorem fits_of_wf {x : Int} (h : (Lit.int .i64 x).wf = true) : Fits64 x := by
  have h1 : IntKind.i64.min = -9223372036854775808 := rfl
  have h2 : IntKind.i64.max = 9223372036854775807 := rfl
  simp only [Lit.wf, Bool.and_eq_true, decide_eq_true_eq] at h
  unfold Fits64
  omega

/-- a slice of keys, opened -/
theorem open_keys {H : Type} {enc : TypeId × Value → H} {W : World} {fuel : Nat} {cs : List Value} {d : DataW H} {ps : List MemPlace}
    (hf : DataW.trod enc Tryd.prog W 0 (fun _ => true) true fuel 22 cs = some (d, ps)) (hlt : ∀ x ∈ ps, x.block < W.heap.size) (hwt : ∀ n ∈ d.weights Tryd.prog 22, n ≤ reachBytes) :
    ∃ (v : Value) (ks : List Ky), cs = [v] ∧ HK W v ks ∧ (∀ k ∈ ks, k.ok) ∧ (∀ k ∈ ks, Fits64 k.rights) ∧ ks.length * 40 ≤ 140737488355328 := by
  rcases open_slice_triples Tryd.underlying22 Tryd.underlying33 Tryd.cellsKey rfl rfl rfl Tryd.cells9 Tryd.cells9 Tryd.cells3 hf with ⟨hcs, hx⟩ | ⟨a, len, cap, m, n, V0, V1, V2, D0, D1, D2, Pl, hcs, hl, hmx, hm, hx, hcell⟩
  · exact ⟨_, [], hcs, ⟨none, 0, rfl, by simp, by simp, (fun _ => rfl), .inl rfl⟩, (fun k hk => by cases hk), (fun k hk => by cases hk), by simp⟩
  · simp only [if_true] at hm
    subst hm
    simp only [Prod.mk.injEq] at hx
    obtain ⟨hx1, hx2⟩ := hx
    have hw1 : ∀ i, i < len → ∀ n ∈ (DataW.agg [D0 i, D1 i, D2 i] : DataW H).weights Tryd.prog 33, n ≤ reachBytes := fun i hi n hn => hwt n (by
      rw [hx1]
      simp only [DataW.weights, Tryd.underlying22]
      refine List.mem_cons_of_mem _ (List.mem_append_left _ (weightsAll_mem (List.mem_map.2 ⟨i, List.mem_range.2 hi, rfl⟩) n hn)))
    have each : ∀ i, i < m → ∃ k : Ky, V0 i = .string k.text ∧ V1 i = .string k.name ∧ V2 i = .int .i64 k.rights ∧ Fits64 k.rights ∧ (i < len → k.ok) := by
      intro i hi
      obtain ⟨_, _, _, ⟨q0, t0⟩, ⟨q1, t1⟩, ⟨q2, t2⟩⟩ := hcell i hi
      obtain ⟨x0, e0, d0, _⟩ := DataW.trod_string Tryd.underlying9 t0
      obtain ⟨x1, e1, d1, _⟩ := DataW.trod_string Tryd.underlying9 t1
      obtain ⟨x2, e2, d2, w2⟩ := DataW.trod_int Tryd.underlying3 t2
      simp only [List.cons.injEq, and_true] at e0 e1 e2
      refine ⟨⟨x0, x1, x2⟩, e0, e1, e2, fits_of_wf w2, fun hil => ?_⟩
      have hw := hw1 i hil
      simp only [Prod.mk.injEq] at d0 d1
      rw [d0.1, d1.1] at hw
      have g0 := hw x0.data.toList.length (by simp only [DataW.weights, Tryd.underlying33]; exact List.mem_append_left _ (by simp [DataW.weights]))
      have g1 := hw x1.data.toList.length (by simp only [DataW.weights, Tryd.underlying33]; exact List.mem_append_right _ (List.mem_append_left _ (by simp [DataW.weights])))
      rw [ba_len] at g0 g1
      simp only [reachBytes] at g0 g1
      exact ⟨by show x0.size ≤ _; omega, by show x1.size ≤ _; omega⟩
    obtain ⟨K, hK⟩ := choose_lt each
    refine ⟨_, (List.range len).map K, hcs, ?_, ?_, ?_, ?_⟩
    · refine ⟨some a, m, by simp, by simp; omega, by unfold maxLen at hmx; omega, (fun e => by cases e), ?_⟩
      by_cases h0 : len = 0
      · left; simp [h0]
      · right
        obtain ⟨b, off, spot⟩ := a
        have hspot : spot = none := by simpa [Addr.add] using World.cell?_spot (hcell 0 (by omega)).1
        subst hspot
        refine ⟨b, off, rfl, hlt (.cell b off) (by rw [hx2]; exact List.mem_append_left _ (MemPlace.mem_row.2 ⟨0, by omega, by simp⟩)), fun k x hk => ?_⟩
        obtain ⟨hk1, hk2⟩ := List.getElem?_eq_some_iff.1 hk
        simp only [List.length_map, List.length_range] at hk1
        simp only [List.getElem_map, List.getElem_range] at hk2
        subst hk2
        have hc := hcell k (by omega)
        obtain ⟨v0, v1, v2, _, _⟩ := hK k (by omega)
        rw [addr_add, addr_add, addr_add, v0, v1, v2] at hc
        exact ⟨hc.1, hc.2.1, hc.2.2.1⟩
    · intro k hk
      obtain ⟨i, hi, rfl⟩ := List.mem_map.1 hk
      rw [List.mem_range] at hi
      exact (hK i (by omega)).2.2.2.2 hi
    · intro k hk
      obtain ⟨i, hi, rfl⟩ := List.mem_map.1 hk
      rw [List.mem_range] at hi
      exact (hK i (by omega)).2.2.2.1
    · rw [hx1] at hwt
      have h := hwt _ (by simp only [DataW.weights, Tryd.underlying22]; exact List.mem_cons_self)
      rw [Tryd.bytesKey] at h
      simp only [List.length_map, List.length_range, reachBytes] at h ⊢
      omega

set_option maxRecDepth 100000 in
/-- a table, opened -/
theorem open_table {H : Type} {enc : TypeId × Value → H} {W : World} {v : Value} {d : DataW H} {ps : List MemPlace} {r : Reach} {b0 : Nat}
    (hv : Value.okWide Tryd.prog W r b0 24 v) (h : DataW.Trod enc Tryd.prog W 0 (fun _ => true) true 24 v d ps) (hlt : ∀ x ∈ ps, x.block < W.heap.size) (hwt : ∀ n ∈ d.weights Tryd.prog 24, n ≤ reachBytes) :
    ∃ (s : Int) (u : Value) (ks : List Ky), v = .agg #[.int .i64 s, u] ∧ Fits64 s ∧ HK W u ks ∧ (∀ k ∈ ks, k.ok) ∧ (∀ k ∈ ks, Fits64 k.rights) ∧ ks.length * 40 ≤ 140737488355328 := by
  obtain ⟨cs, rfl, hsz⟩ := okWide_struct Tryd.underlying24 hv
  rw [Tryd.cellsTb] at hsz
  obtain ⟨c0, c1, rfl⟩ : ∃ c0 c1, cs = #[c0, c1] := by
    obtain ⟨l⟩ := cs
    match l, hsz with
    | [c0, c1], _ => exact ⟨c0, c1, rfl⟩
  obtain ⟨fuel, hf⟩ := h
  obtain ⟨z0, z1, n, hx, _, g0, g1⟩ := trod_struct2 Tryd.underlying24 hf
  have g00 : DataW.trod enc Tryd.prog W 0 (fun _ => true) true n 3 (([c0, c1].drop 0).take (Tryd.prog.cellsOf 3)) = some z0 := g0
  have g10 : DataW.trod enc Tryd.prog W 0 (fun _ => true) true n 22 (([c0, c1].drop 1).take (Tryd.prog.cellsOf 22)) = some z1 := g1
  rw [Tryd.cells3] at g00
  rw [Tryd.cellsSl] at g10
  have g0' : DataW.trod enc Tryd.prog W 0 (fun _ => true) true n 3 [c0] = some z0 := g00
  have g1' : DataW.trod enc Tryd.prog W 0 (fun _ => true) true n 22 [c1] = some (z1.1, z1.2) := g10
  obtain ⟨s, e0, _, w0⟩ := DataW.trod_int Tryd.underlying3 g0'
  simp only [Prod.mk.injEq] at hx
  obtain ⟨hd, hp⟩ := hx
  obtain ⟨u, ks, e1, hk, hok, hfs, hln⟩ := open_keys g1' (fun x hx => hlt x (by rw [hp]; simp [hx])) (fun m hm => hwt m (by
    rw [hd]
    simp only [DataW.weights, Tryd.underlying24]
    exact DataW.weights_mem_each (ts := [3, 22]) (j := 1) (t := 22) (d := z1.1) rfl rfl m hm))
  simp only [List.cons.injEq, and_true] at e0 e1
  subst e0 e1
  exact ⟨s, c1, ks, rfl, fits_of_wf w0, hk, hok, hfs, hln⟩
end Go.Proofs.YtekjcmejnhhpaaaDoor
