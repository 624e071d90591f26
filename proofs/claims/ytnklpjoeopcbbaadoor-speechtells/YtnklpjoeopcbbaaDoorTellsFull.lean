/- PROVED: for all verbs and answers, of whatever size a memory may hold, speech.Tell answers exactly the text, or the error, that the document's own TellAnswer does, and of no verb and an empty answer 'ok'; the input is left as it was (P8.5). No condition but the card's own: the listed package-level variables hold what the program's text lays. -/
import Derived.Test.YtnklpjoeopcbbaaDoorTellsLaw
import Derived.Test.YtnklpjoeopcbbaaDoorTie
import Derived.Test.YtnklpjoeopcbbaaDoorCards
import Derived.Deep.DeepHandedRow
import Derived.Deep.SlicePairs
import Derived.Lib.LaidTab
import Derived.Stop.LaidErr
import Derived.Shelf.Vars
import Derived.Lay
import Derived.HandedShaped
import Derived.SevenTiedAt
import Derived.SizedLaws
import Derived.ChangeMaps5
import Derived.ChangeSame
import Derived.ProofKit
namespace Go.Proofs.YtnklpjoeopcbbaaDoor
open Go.ChangeShapes Go.WideShapes Go.ChangeAt Go.RowKit Go.Joins Go.Deep

theorem Tryd.cells9 : Tryd.prog.cellsOf 9 = 1 := by kernel_rfl
theorem Tryd.cells23 : Tryd.prog.cellsOf 23 = 1 := by kernel_rfl
theorem Tryd.cells25 : Tryd.prog.cellsOf 25 = 4 := by kernel_rfl
theorem Tryd.cells27 : Tryd.prog.cellsOf 27 = 2 := by kernel_rfl
theorem Tryd.cells28 : Tryd.prog.cellsOf 28 = 1 := by kernel_rfl
theorem Tryd.cells30 : Tryd.prog.cellsOf 30 = 10 := by kernel_rfl
theorem fits_of_lit {x : Int} (h : (Lit.int .i64 x).wf = true) : Fits x := by
  have h1 : IntKind.i64.min = -9223372036854775808 := rfl
  have h2 : IntKind.i64.max = 9223372036854775807 := rfl
  simp only [Lit.wf, Bool.and_eq_true, decide_eq_true_eq] at h
  unfold Fits
  omega
def intOf : Value → Int
  | .int _ x => x
  | _ => 0
theorem range_get! {f : Nat → Int × Int} {n j : Nat} (h : j < n) : ((List.range n).map f)[j]! = f j := by
  rw [getElem!_pos _ j (by simpa using h)]
  simp
theorem addr_add (g o j : Nat) : (⟨g, o, none⟩ : Addr).add j = ⟨g, o + j, none⟩ := by
  unfold Addr.add
  split
  · rename_i h; rw [h, Nat.add_zero]
  · rfl

/-- a slice of cells, opened -/
theorem open_cells {H : Type} {enc : TypeId × Value → H} {W : World} {fuel : Nat} {cs : List Value} {d : DataW H} {ps : List MemPlace}
    (hf : DataW.trod enc Tryd.prog W 0 (fun _ => true) true fuel 28 cs = some (d, ps)) (hlt : ∀ x ∈ ps, x.block < W.heap.size) (hwt : ∀ n ∈ d.weights Tryd.prog 28, n ≤ reachBytes) :
    ∃ (va : Option Addr) (vn vc : Nat) (zs : List (Int × Int)), cs = [.slice va vn vc] ∧ RRow W (.slice va vn vc) zs ∧ (∀ c ∈ zs, Fits c.1 ∧ Fits c.2) ∧ zs.length * 16 ≤ 140737488355328 := by
  rcases open_slice_pairs Tryd.underlying28 Tryd.underlying59 Tryd.cells59 rfl rfl Tryd.cells3 Tryd.cells3 hf with ⟨hcs, hx⟩ | ⟨a, len, cap, m, nf, V0, V1, D0, D1, P0, P1, hcs, _, hl, hmx, hm, hx, hcell⟩
  · exact ⟨none, 0, 0, [], hcs, IsRow.nil _ _ _, (fun c hc => by cases hc), by simp⟩
  · simp only [if_true] at hm
    subst hm
    simp only [Prod.mk.injEq] at hx
    obtain ⟨hx1, hx2⟩ := hx
    have each : ∀ i, i < m → V0 i = .int .i64 (intOf (V0 i)) ∧ V1 i = .int .i64 (intOf (V1 i)) ∧ Fits (intOf (V0 i)) ∧ Fits (intOf (V1 i)) := by
      intro i hi
      obtain ⟨_, _, t0, t1⟩ := hcell i hi
      obtain ⟨x, e0, _, w0⟩ := DataW.trod_int Tryd.underlying3 t0
      obtain ⟨y, e1, _, w1⟩ := DataW.trod_int Tryd.underlying3 t1
      simp only [List.cons.injEq, and_true] at e0 e1
      rw [e0, e1]
      exact ⟨rfl, rfl, fits_of_lit w0, fits_of_lit w1⟩
    refine ⟨some a, len, m, (List.range len).map fun i => (intOf (V0 i), intOf (V1 i)), hcs, ?_, ?_, ?_⟩
    · refine ⟨some a, m, by simp, by simp; omega, hmx, (fun e => by cases e), ?_⟩
      by_cases h0 : len = 0
      · left; simp [h0]
      · right
        obtain ⟨b, off, spot⟩ := a
        have hspot : spot = none := by simpa [Addr.add] using World.cell?_spot (hcell 0 (by omega)).1
        subst hspot
        refine ⟨b, off, rfl, hlt (.cell b off) (by rw [hx2]; exact List.mem_append_left _ (MemPlace.mem_row.2 ⟨0, by omega, by simp⟩)), fun j hj => ?_⟩
        simp only [List.length_map, List.length_range] at hj
        simp only [range_get! hj]
        have hc := hcell j (by omega)
        rw [addr_add, addr_add, (each j (by omega)).1, (each j (by omega)).2.1] at hc
        exact ⟨hc.1, hc.2.1⟩
    · intro c hc
      obtain ⟨i, hi, rfl⟩ := List.mem_map.1 hc
      rw [List.mem_range] at hi
      exact (each i (by omega)).2.2
    · rw [hx1] at hwt
      have h := hwt _ (by simp only [DataW.weights, Tryd.underlying28]; exact List.mem_cons_self)
      rw [Tryd.bytes59] at h
      simp only [List.length_map, List.length_range, reachBytes] at h ⊢
      omega

theorem array10 {α : Type} {cs : Array α} (h : cs.size = 10) : ∃ c0 c1 c2 c3 c4 c5 c6 c7 c8 c9, cs = #[c0, c1, c2, c3, c4, c5, c6, c7, c8, c9] := by
  obtain ⟨l⟩ := cs
  match l, h with
  | [c0, c1, c2, c3, c4, c5, c6, c7, c8, c9], _ => exact ⟨c0, c1, c2, c3, c4, c5, c6, c7, c8, c9, rfl⟩
theorem list6 {α : Type} {l : List α} (h : l.length = 6) : ∃ c0 c1 c2 c3 c4 c5, l = [c0, c1, c2, c3, c4, c5] := by
  match l, h with
  | [c0, c1, c2, c3, c4, c5], _ => exact ⟨c0, c1, c2, c3, c4, c5, rfl⟩
theorem list4 {α : Type} {l : List α} (h : l.length = 4) : ∃ c0 c1 c2 c3, l = [c0, c1, c2, c3] := by
  match l, h with
  | [c0, c1, c2, c3], _ => exact ⟨c0, c1, c2, c3, rfl⟩

set_option maxRecDepth 100000 in
/-- an answer, opened -/
theorem open_answer {H : Type} {enc : TypeId × Value → H} {W : World} {v : Value} {d : DataW H} {ps : List MemPlace} {r : Reach} {b0 : Nat}
    (hv : Value.okWide Tryd.prog W r b0 30 v) (h : DataW.Trod enc Tryd.prog W 0 (fun _ => true) true 30 v d ps) (hlt : ∀ x ∈ ps, x.block < W.heap.size) (hwt : ∀ n ∈ d.weights Tryd.prog 30, n ≤ reachBytes) :
    ∃ (a : An) (va : Option Addr) (vn vc : Nat) (zs : List (Int × Int)), v = .agg (a.vals (.slice va vn vc)) ∧ RRow W (.slice va vn vc) zs ∧ a.fits ∧ (∀ c ∈ zs, Fits c.1 ∧ Fits c.2) ∧ a.key.size ≤ 140737488351232 ∧ zs.length * 16 ≤ 140737488355328 := by
  obtain ⟨cs, rfl, hsz⟩ := okWide_struct Tryd.underlying30 hv
  obtain ⟨c0, c1, c2, c3, c4, c5, c6, c7, c8, c9, rfl⟩ := array10 (hsz.trans Tryd.cells30)
  obtain ⟨fuel, hf⟩ := h
  obtain ⟨xs, n, _, hx, _, hlen, hfs⟩ := DataW.trod_struct Tryd.underlying30 hf
  obtain ⟨y0, y1, y2, y3, y4, y5, rfl⟩ := list6 hlen
  have h00 : DataW.trod enc Tryd.prog W 0 (fun _ => true) true n 23 (([c0, c1, c2, c3, c4, c5, c6, c7, c8, c9].drop 0).take (Tryd.prog.cellsOf 23)) = some y0 := hfs 0 _ rfl
  rw [Tryd.cells23] at h00
  have h0 : DataW.trod enc Tryd.prog W 0 (fun _ => true) true n 23 [c0] = some y0 := h00
  have h10 : DataW.trod enc Tryd.prog W 0 (fun _ => true) true n 3 (([c0, c1, c2, c3, c4, c5, c6, c7, c8, c9].drop 1).take (Tryd.prog.cellsOf 3)) = some y1 := hfs 1 _ rfl
  rw [Tryd.cells3] at h10
  have h1 : DataW.trod enc Tryd.prog W 0 (fun _ => true) true n 3 [c1] = some y1 := h10
  have h20 : DataW.trod enc Tryd.prog W 0 (fun _ => true) true n 25 (([c0, c1, c2, c3, c4, c5, c6, c7, c8, c9].drop 2).take (Tryd.prog.cellsOf 25)) = some y2 := hfs 2 _ rfl
  rw [Tryd.cells25] at h20
  have h2 : DataW.trod enc Tryd.prog W 0 (fun _ => true) true n 25 [c2, c3, c4, c5] = some (y2.1, y2.2) := h20
  have h30 : DataW.trod enc Tryd.prog W 0 (fun _ => true) true n 27 (([c0, c1, c2, c3, c4, c5, c6, c7, c8, c9].drop 6).take (Tryd.prog.cellsOf 27)) = some y3 := hfs 3 _ rfl
  rw [Tryd.cells27] at h30
  have h3 : DataW.trod enc Tryd.prog W 0 (fun _ => true) true n 27 [c6, c7] = some y3 := h30
  have h40 : DataW.trod enc Tryd.prog W 0 (fun _ => true) true n 9 (([c0, c1, c2, c3, c4, c5, c6, c7, c8, c9].drop 8).take (Tryd.prog.cellsOf 9)) = some y4 := hfs 4 _ rfl
  rw [Tryd.cells9] at h40
  have h4 : DataW.trod enc Tryd.prog W 0 (fun _ => true) true n 9 [c8] = some y4 := h40
  have h50 : DataW.trod enc Tryd.prog W 0 (fun _ => true) true n 28 (([c0, c1, c2, c3, c4, c5, c6, c7, c8, c9].drop 9).take (Tryd.prog.cellsOf 28)) = some y5 := hfs 5 _ rfl
  rw [Tryd.cells28] at h50
  have h5 : DataW.trod enc Tryd.prog W 0 (fun _ => true) true n 28 [c9] = some (y5.1, y5.2) := h50
  obtain ⟨x0, e0, d0, w0⟩ := DataW.trod_int Tryd.underlying23 h0
  obtain ⟨x1, e1, d1, w1⟩ := DataW.trod_int Tryd.underlying3 h1
  obtain ⟨zs2, n2, _, _, _, hlen2, hfs2⟩ := DataW.trod_struct Tryd.underlying25 h2
  obtain ⟨z0, z1, z2, z3, rfl⟩ := list4 hlen2
  have g00 : DataW.trod enc Tryd.prog W 0 (fun _ => true) true n2 3 (([c2, c3, c4, c5].drop 0).take (Tryd.prog.cellsOf 3)) = some z0 := hfs2 0 _ rfl
  have g10 : DataW.trod enc Tryd.prog W 0 (fun _ => true) true n2 3 (([c2, c3, c4, c5].drop 1).take (Tryd.prog.cellsOf 3)) = some z1 := hfs2 1 _ rfl
  have g20 : DataW.trod enc Tryd.prog W 0 (fun _ => true) true n2 3 (([c2, c3, c4, c5].drop 2).take (Tryd.prog.cellsOf 3)) = some z2 := hfs2 2 _ rfl
  have g30 : DataW.trod enc Tryd.prog W 0 (fun _ => true) true n2 3 (([c2, c3, c4, c5].drop 3).take (Tryd.prog.cellsOf 3)) = some z3 := hfs2 3 _ rfl
  rw [Tryd.cells3] at g00 g10 g20 g30
  have g0 : DataW.trod enc Tryd.prog W 0 (fun _ => true) true n2 3 [c2] = some z0 := g00
  have g1 : DataW.trod enc Tryd.prog W 0 (fun _ => true) true n2 3 [c3] = some z1 := g10
  have g2 : DataW.trod enc Tryd.prog W 0 (fun _ => true) true n2 3 [c4] = some z2 := g20
  have g3 : DataW.trod enc Tryd.prog W 0 (fun _ => true) true n2 3 [c5] = some z3 := g30
  obtain ⟨x2, e2, _, w2⟩ := DataW.trod_int Tryd.underlying3 g0
  obtain ⟨x3, e3, _, w3⟩ := DataW.trod_int Tryd.underlying3 g1
  obtain ⟨x4, e4, _, w4⟩ := DataW.trod_int Tryd.underlying3 g2
  obtain ⟨x5, e5, _, w5⟩ := DataW.trod_int Tryd.underlying3 g3
  obtain ⟨r0, r1, n3, _, _, k0, k1⟩ := trod_struct2 Tryd.underlying27 h3
  have k00 : DataW.trod enc Tryd.prog W 0 (fun _ => true) true n3 3 (([c6, c7].drop 0).take (Tryd.prog.cellsOf 3)) = some r0 := k0
  have k10 : DataW.trod enc Tryd.prog W 0 (fun _ => true) true n3 3 (([c6, c7].drop 1).take (Tryd.prog.cellsOf 3)) = some r1 := k1
  rw [Tryd.cells3] at k00 k10
  have k0' : DataW.trod enc Tryd.prog W 0 (fun _ => true) true n3 3 [c6] = some r0 := k00
  have k1' : DataW.trod enc Tryd.prog W 0 (fun _ => true) true n3 3 [c7] = some r1 := k10
  obtain ⟨x6, e6, _, _⟩ := DataW.trod_int Tryd.underlying3 k0'
  obtain ⟨x7, e7, _, _⟩ := DataW.trod_int Tryd.underlying3 k1'
  obtain ⟨x8, e8, d8, _⟩ := DataW.trod_string Tryd.underlying9 h4
  simp only [Prod.mk.injEq] at hx
  obtain ⟨hd, hp⟩ := hx
  have hfw : ∀ (j : Nat) (t : TypeId) (y : DataW H), [23, 3, 25, 27, 9, 28][j]? = some t → ([y0, y1, y2, y3, y4, y5].map (·.1))[j]? = some y → ∀ m ∈ y.weights Tryd.prog t, m ≤ reachBytes := by
    intro j t y ht hy m hm
    refine hwt m ?_
    rw [hd]
    simp only [DataW.weights, Tryd.underlying30]
    exact DataW.weights_mem_each (ts := [23, 3, 25, 27, 9, 28]) ht hy m hm
  obtain ⟨va, vn, vc, zs, e9, hr, hin, hb⟩ := open_cells h5 (fun x hx => hlt x (by rw [hp]; simp [hx])) (hfw 5 28 y5.1 rfl rfl)
  have hkey : x8.data.toList.length ≤ reachBytes := hfw 4 9 y4.1 rfl rfl _ (by rw [d8]; simp [DataW.weights])
  simp only [List.cons.injEq, and_true] at e0 e1 e2 e3 e4 e5 e6 e7 e8 e9
  subst e0 e1 e2 e3 e4 e5 e6 e7 e8 e9
  refine ⟨⟨x0, x1, x2, x3, x4, x5, x6, x7, x8⟩, va, vn, vc, zs, rfl, hr, ⟨fits_of_lit w0, fits_of_lit w1, fits_of_lit w2, fits_of_lit w3, fits_of_lit w4, fits_of_lit w5⟩, hin, ?_⟩
  refine ⟨?_, hb⟩
  have hlen8 : x8.data.toList.length = x8.size := by rw [Array.length_toList]; rfl
  rw [hlen8] at hkey
  exact hkey

/-- the three variables that the row lists -/
def laid3 : List (String × DataW Unit) := Rows.speechTellsRow.laid
theorem Tryd.tPow : (Tryd.prog.globals[2]?).map (·.type) = some 126 := by kernel_rfl
theorem Tryd.gDeb : Tryd.prog.globalNamed "math/bits.deBruijn64tab" = some 5 := by kernel_rfl
theorem Tryd.cellsU64 : Tryd.prog.cellsOf 96 = 1 := by kernel_rfl
theorem Tryd.cellsPow : Tryd.prog.cellsOf 126 = 20 := by kernel_rfl
theorem pow_datum : (Rows.laid_internal_strconv_uint64pow10 : DataW Unit) = Lib.tabData .u64 Lib.pow10Tab := by kernel_rfl
theorem vars_of {W : World} (hL : laidMetH Tryd.prog laid3 W) : Vars W := by
  rw [MakeChecks.laidMetH_plain _ _ _ (by kernel_rfl)] at hL
  have h1 : laidMet Tryd.prog (("math/bits.deBruijn64tab", Rows.laid_math_bits_deBruijn64tab) :: _) W := hL.tail
  have h2 : laidMet Tryd.prog (("internal/strconv.uint64pow10", Rows.laid_internal_strconv_uint64pow10) :: _) W := h1.tail
  rw [pow_datum] at h2
  refine ⟨Lib.tabIs_of_head Tryd.gPow Tryd.tPow Tryd.underlying126 Tryd.underlying96 Tryd.cellsU64 Tryd.cellsPow h2, ?_⟩
  obtain ⟨ps, ⟨g', t', cs, fuel, p, q, hg', ht', hvar, hd, _, _⟩, _⟩ := h1
  unfold World.var? at hvar
  rw [Tryd.gDeb] at hvar
  simp only [Option.bind_some] at hvar
  rcases Nat.lt_or_ge 5 W.heap.size with h' | h'
  · omega
  · rw [Array.getElem?_eq_none h'] at hvar
    simp at hvar

set_option maxRecDepth 100000 in
theorem tells_lifted (os : Os) (started : os.Started) (H : Type) (enc : TypeId × Value → H) (F : Stop.Interp) :
    ReturnsInHanded {} Tryd.checked os 4 .any ((OpenSpec.ofChange Rows.speechTellsSpec).preRow enc Tryd.prog Tryd.f4 Rows.speechTellsRow.domain false Rows.speechTellsRow.laid) (((OpenSpec.ofChange Rows.speechTellsSpec).at F).post enc Tryd.prog Tryd.f4 false true false false) := by
  refine returnsInHanded_of_row (C := Tryd.checked) (s := OpenSpec.ofChange Rows.speechTellsSpec) Tryd.own started (by kernel_rfl) Tryd.func4
    (ChangeSpec.witness_shaped (enc := enc) (C := Tryd.checked) (os := os) (s := Rows.speechTellsSpec) (X := fun w _ => laidMetH Tryd.prog laid3 w) false (World.laidAll Tryd.prog os laid3) #[.int .i64 0, .agg #[.int .i64 0, .int .i64 0, .int .i64 0, .int .i64 0, .int .i64 0, .int .i64 0, .int .i64 0, .int .i64 0, .string ⟨#[]⟩, .slice none 0 0]] 8 (World.laidAll_os _ _ _)
      (World.shaped_of_ZipB (by kernel_rfl) (by kernel_rfl)) (by kernel_rfl) (by kernel_rfl) (by kernel_rfl)
      (by rw [MakeChecks.laidMetH_plain _ _ _ (by kernel_rfl)]; exact laidMet_laidAll _ (by kernel_rfl) (by kernel_rfl))) ?_
  intro W base args ds gs before hval0 hW _ _ hsz0 hL _ _
  have hsz : (DataW.weightsEach Tryd.prog (Tryd.f4.params.toList ++ Rows.speechTellsSpec.plain.varTypes Tryd.prog) (ds ++ gs)).all (· ≤ reachBytes) = true := hsz0
  clear hsz0
  have hval : ∀ (j : Nat) t v, Tryd.f4.params[j]? = some t → args[j]? = some v → Value.okWide Tryd.prog W .any base t v := hval0
  have hW' := hW
  obtain ⟨p, q, hA0, hV, rfl, _, _⟩ := hW
  have hA : DataW.TrodAll enc Tryd.prog W 0 (fun _ => true) true Tryd.f4.params.toList args.toList ds p := hA0
  rw [Tryd.params4] at hA hval hsz
  obtain ⟨v0, v1, d0, d1, p0, p1, rfl, rfl, rfl, h0, h1⟩ := trodAll_two hA
  obtain ⟨rfl, rfl⟩ := trodVars_none hV
  obtain ⟨verb, rfl, rfl, rfl, wv⟩ := open_int Tryd.underlying3 (hval 0 3 v0 rfl rfl) h0
  clear hA0 hval0
  simp only [List.append_nil, List.nil_append] at hW'
  have hlt : ∀ x ∈ p1, x.block < W.heap.size := fun x hx => by simpa using hW'.lt x hx
  obtain ⟨a, va, vn, vc, zs, rfl, hrow, hfit, hcs, hkb, hzb⟩ := open_answer (hval 1 30 v1 rfl rfl) h1 hlt (fun n hn => by simpa using List.all_eq_true.1 hsz n (DataW.weights_mem_each (j := 1) (t := 30) (d := d1) rfl rfl n hn))
  have hargs : ∀ (W' : World), Below W.heap.size W W' → DataW.Trod enc Tryd.prog W' 0 (fun b => decide (b < W.heap.size)) true 30 (.agg (a.vals (.slice va vn vc))) d1 p1 :=
    fun W' hb => Below.trod Tryd.laidOut (by kernel_rfl) (of_decide_eq_true (by kernel_rfl)) h1 hb hlt
  refine (tells_any verb a va vn vc zs W (vars_of hL) hfit hkb hzb hrow hcs).mono fun e W' ⟨he, hb⟩ => ?_
  subst he
  refine ⟨_, rfl, _, _, _, [], p1, [], hW', ?_, ?_, rfl, hb.frame _, fun h => by cases h⟩
  · exact trodAll_mk1 (shut_bool Tryd.underlying4 true)
  · exact trodAll_mk2 (shut_int Tryd.underlying3 wv) (hargs _ hb)

theorem tells_said : Rows.SpeechTellsSaid :=
  OpenClaim.holds_of_cond 4 Tryd.f4 rfl rfl rfl rfl rfl rfl rfl ⟨rfl, rfl, rfl, rfl, rfl⟩ rfl rfl rfl rfl rfl (by kernel_rfl) Tryd.func4 (by kernel_rfl)
    (of_decide_eq_true (by kernel_rfl)) (by unfold Func.isWrapper; first | (rw [if_pos (by decide +kernel)]; kernel_rfl) | (rw [if_neg (by decide +kernel)]; exact ⟨rfl, rfl⟩))
    (fun os started H enc _ F => by rw [OpenClaim.pre_eq_preRow]; exact tells_lifted os started H enc F)

theorem tells_plain (f : FuncId) (fn : Func) (hf : Tryd.pinned.checked.prog.funcNamed Rows.speechTellsRow.func = some f) (hfn : Tryd.pinned.checked.prog.funcs[f]? = some fn) :
    false = Tryd.pinned.checked.prog.looks [] ∧ ∀ (j : Nat) t, fn.params[j]? = some t → Tryd.pinned.checked.prog.wantsStandIn t = false := by
  obtain rfl : f = 4 := Option.some.inj ((show Tryd.prog.funcNamed Rows.speechTellsRow.func = some 4 by kernel_rfl).symm.trans hf) |>.symm
  obtain rfl : fn = Tryd.f4 := (Option.some.inj (Tryd.func4.symm.trans hfn)).symm
  refine ⟨by kernel_rfl, fun j t ht => ?_⟩
  rw [Tryd.params4] at ht
  have hm : t ∈ [3, 30] := by simpa using Array.mem_of_getElem? ht
  have hall : ([3, 30].all fun u => !Tryd.prog.wantsStandIn u) = true := by kernel_rfl
  exact (show Tryd.prog.wantsStandIn t = false by simpa using List.all_eq_true.1 hall t hm)

theorem tells_card : Rows.SpeechTellsCardSaid :=
  Claim7.holds_tied_plain_at .later [] _ _ _ _ tells_said (fun _ h => by cases h) (by kernel_rfl) (fun _ h => by cases h) speechTells_row_tie rfl ⟨rfl, rfl⟩ (by kernel_rfl) rfl tells_plain (by kernel_rfl)

#print axioms tells_card
end Go.Proofs.YtnklpjoeopcbbaaDoor
