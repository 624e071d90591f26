/- A request among the arguments, opened. -/
import Derived.Test.YtpghbchbhjbbiaaGreatDoorSpBack
import Derived.Test.YtpghbchbhjbbiaaGreatDoorSpVarsOf
import Derived.Deep.SlicePairs
import Derived.ChangeSame
import Derived.ProofKit
namespace Go.Proofs.YtpghbchbhjbbiaaGreatDoor
open Go.ChangeShapes Go.WideShapes Go.ChangeAt Go.RowKit Go.Joins Go.Deep

theorem Tryz.laidOut : laidOutB Tryz.prog = true := by kernel_rfl
theorem Tryz.cells3 : Tryz.prog.cellsOf 3 = 1 := by kernel_rfl
theorem Tryz.cellsCell : Tryz.prog.cellsOf 51 = 2 := by kernel_rfl
theorem Tryz.cellsRule : Tryz.prog.cellsOf 23 = 2 := by kernel_rfl
theorem Tryz.cellsSl : Tryz.prog.cellsOf 24 = 1 := by kernel_rfl
theorem Tryz.cellsRq : Tryz.prog.cellsOf 26 = 7 := by kernel_rfl
theorem in64_of_wf {x : Int} (h : (Lit.int .i64 x).wf = true) : In64 x := by
  have h1 : IntKind.i64.min = -9223372036854775808 := rfl
  have h2 : IntKind.i64.max = 9223372036854775807 := rfl
  simp only [Lit.wf, Bool.and_eq_true, decide_eq_true_eq] at h
  unfold In64
  omega
theorem range_get {f : Nat → Int × Int} {n k : Nat} {c : Int × Int} (h : ((List.range n).map f)[k]? = some c) : k < n ∧ c = f k := by
  obtain ⟨hl, hg⟩ := List.getElem?_eq_some_iff.1 h
  simp only [List.length_map, List.length_range] at hl
  simp only [List.getElem_map, List.getElem_range] at hg
  exact ⟨hl, hg.symm⟩
theorem bulk_len {H : Type} : ∀ (l : List (DataW H)), l.length ≤ Rows.uptoBulkAll l
  | [] => Nat.zero_le _
  | d :: r => by
    have h1 := bulk_len r
    have h2 : 1 ≤ Rows.uptoBulk d := by
      cases d with
      | lit x => cases x <;> simp [Rows.uptoBulk]
      | _ => simp [Rows.uptoBulk]
    simp only [Rows.uptoBulkAll, List.length_cons]
    omega

/-- a slice of cells, opened -/
theorem open_cells {H : Type} {enc : TypeId × Value → H} {W : World} {fuel : Nat} {cs : List Value} {d : DataW H} {ps : List MemPlace}
    (hf : DataW.trod enc Tryz.prog W 0 (fun _ => true) true fuel 24 cs = some (d, ps)) (hlt : ∀ x ∈ ps, x.block < W.heap.size) :
    ∃ (v : Value) (zs : List (Int × Int)), cs = [v] ∧ HR W v zs ∧ (∀ n c, v = .slice none n c → c = 0) ∧ (∀ c ∈ zs, In64 c.1 ∧ In64 c.2) ∧ zs.length ≤ Rows.uptoBulk d := by
  rcases open_slice_pairs Tryz.underlying24 Tryz.underlying51 Tryz.cellsCell rfl rfl Tryz.cells3 Tryz.cells3 hf with ⟨hcs, hx⟩ | ⟨a, len, cap, m, nf, V0, V1, D0, D1, P0, P1, hcs, _, hl, hmx, hm, hx, hcell⟩
  · refine ⟨.slice none 0 0, [], hcs, ⟨none, 0, rfl, by simp, Or.inl rfl⟩, (fun n c e => by cases e; rfl), (fun c hc => by cases hc), Nat.zero_le _⟩
  · simp only [if_true] at hm
    subst hm
    simp only [Prod.mk.injEq] at hx
    obtain ⟨hx1, hx2⟩ := hx
    have each : ∀ i, i < m → V0 i = .int .i64 (intOf (V0 i)) ∧ V1 i = .int .i64 (intOf (V1 i)) ∧ In64 (intOf (V0 i)) ∧ In64 (intOf (V1 i)) := by
      intro i hi
      obtain ⟨_, _, t0, t1⟩ := hcell i hi
      obtain ⟨x, e0, _, w0⟩ := DataW.trod_int Tryz.underlying3 t0
      obtain ⟨y, e1, _, w1⟩ := DataW.trod_int Tryz.underlying3 t1
      simp only [List.cons.injEq, and_true] at e0 e1
      rw [e0, e1]
      exact ⟨rfl, rfl, in64_of_wf w0, in64_of_wf w1⟩
    refine ⟨_, (List.range len).map fun i => (intOf (V0 i), intOf (V1 i)), hcs, ?_, (fun n c e => by cases e), ?_, ?_⟩
    · refine ⟨some a, m, by simp, by simp; unfold maxLen at hmx; omega, ?_⟩
      by_cases h0 : len = 0
      · left; subst h0; rfl
      · right
        obtain ⟨b, off, spot⟩ := a
        have hspot : spot = none := by simpa [Addr.add] using World.cell?_spot (hcell 0 (by omega)).1
        subst hspot
        refine ⟨b, off, rfl, hlt (.cell b off) (by rw [hx2]; exact List.mem_append_left _ (MemPlace.mem_row.2 ⟨0, by omega, by simp⟩)), fun k x y hk => ?_⟩
        obtain ⟨hkl, hk2⟩ := range_get hk
        simp only [Prod.mk.injEq] at hk2
        obtain ⟨rfl, rfl⟩ := hk2
        have hc := hcell k (by omega)
        rw [addr_add, addr_add, (each k (by omega)).1, (each k (by omega)).2.1] at hc
        exact ⟨hc.1, hc.2.1⟩
    · intro c hc
      obtain ⟨i, hi, rfl⟩ := List.mem_map.1 hc
      rw [List.mem_range] at hi
      exact (each i (by omega)).2.2
    · rw [hx1]
      simp only [Rows.uptoBulk, List.length_map, List.length_range]
      have := bulk_len ((List.range len).map fun i => (DataW.agg [D0 i, D1 i] : DataW H))
      simp only [List.length_map, List.length_range] at this
      omega

theorem array7 {α : Type} {cs : Array α} (h : cs.size = 7) : ∃ c0 c1 c2 c3 c4 c5 c6, cs = #[c0, c1, c2, c3, c4, c5, c6] := by
  obtain ⟨l⟩ := cs
  match l, h with
  | [c0, c1, c2, c3, c4, c5, c6], _ => exact ⟨c0, c1, c2, c3, c4, c5, c6, rfl⟩
theorem list6 {α : Type} {l : List α} (h : l.length = 6) : ∃ c0 c1 c2 c3 c4 c5, l = [c0, c1, c2, c3, c4, c5] := by
  match l, h with
  | [c0, c1, c2, c3, c4, c5], _ => exact ⟨c0, c1, c2, c3, c4, c5, rfl⟩

set_option maxRecDepth 100000 in
/-- a request, opened -/
theorem open_request {H : Type} {enc : TypeId × Value → H} {W : World} {v : Value} {d : DataW H} {ps : List MemPlace} {r : Reach} {b0 : Nat}
    (hv : Value.okWide Tryz.prog W r b0 26 v) (h : DataW.Trod enc Tryz.prog W 0 (fun _ => true) true 26 v d ps) (hlt : ∀ x ∈ ps, x.block < W.heap.size) :
    ∃ (q : Rq) (u : Value), v = q.val u ∧ HR W u q.cells ∧ (∀ n c, u = .slice none n c → c = 0) ∧ In64 q.n ∧ (∀ c ∈ q.cells, In64 c.1 ∧ In64 c.2) ∧ q.name.size + q.other.size + q.cells.length ≤ Rows.uptoBulk d := by
  obtain ⟨cs, rfl, hsz⟩ := okWide_struct Tryz.underlying26 hv
  obtain ⟨c0, c1, c2, c3, c4, c5, c6, rfl⟩ := array7 (hsz.trans Tryz.cellsRq)
  obtain ⟨fuel, hf⟩ := h
  obtain ⟨xs, n, _, hx, _, hlen, hfs⟩ := DataW.trod_struct Tryz.underlying26 hf
  obtain ⟨y0, y1, y2, y3, y4, y5, rfl⟩ := list6 hlen
  have h00 : DataW.trod enc Tryz.prog W 0 (fun _ => true) true n 3 (([c0, c1, c2, c3, c4, c5, c6].drop 0).take (Tryz.prog.cellsOf 3)) = some y0 := hfs 0 _ rfl
  rw [Tryz.cells3] at h00
  have h0 : DataW.trod enc Tryz.prog W 0 (fun _ => true) true n 3 [c0] = some y0 := h00
  have h10 : DataW.trod enc Tryz.prog W 0 (fun _ => true) true n 9 (([c0, c1, c2, c3, c4, c5, c6].drop 1).take (Tryz.prog.cellsOf 9)) = some y1 := hfs 1 _ rfl
  rw [Tryz.cells9] at h10
  have h1 : DataW.trod enc Tryz.prog W 0 (fun _ => true) true n 9 [c1] = some y1 := h10
  have h20 : DataW.trod enc Tryz.prog W 0 (fun _ => true) true n 9 (([c0, c1, c2, c3, c4, c5, c6].drop 2).take (Tryz.prog.cellsOf 9)) = some y2 := hfs 2 _ rfl
  rw [Tryz.cells9] at h20
  have h2 : DataW.trod enc Tryz.prog W 0 (fun _ => true) true n 9 [c2] = some y2 := h20
  have h30 : DataW.trod enc Tryz.prog W 0 (fun _ => true) true n 23 (([c0, c1, c2, c3, c4, c5, c6].drop 3).take (Tryz.prog.cellsOf 23)) = some y3 := hfs 3 _ rfl
  rw [Tryz.cellsRule] at h30
  have h3 : DataW.trod enc Tryz.prog W 0 (fun _ => true) true n 23 [c3, c4] = some y3 := h30
  have h40 : DataW.trod enc Tryz.prog W 0 (fun _ => true) true n 3 (([c0, c1, c2, c3, c4, c5, c6].drop 5).take (Tryz.prog.cellsOf 3)) = some y4 := hfs 4 _ rfl
  rw [Tryz.cells3] at h40
  have h4 : DataW.trod enc Tryz.prog W 0 (fun _ => true) true n 3 [c5] = some y4 := h40
  have h50 : DataW.trod enc Tryz.prog W 0 (fun _ => true) true n 24 (([c0, c1, c2, c3, c4, c5, c6].drop 6).take (Tryz.prog.cellsOf 24)) = some y5 := hfs 5 _ rfl
  rw [Tryz.cellsSl] at h50
  have h5 : DataW.trod enc Tryz.prog W 0 (fun _ => true) true n 24 [c6] = some y5 := h50
  obtain ⟨x0, e0, d0, _⟩ := DataW.trod_int Tryz.underlying3 h0
  obtain ⟨x1, e1, d1, _⟩ := DataW.trod_string Tryz.underlying9 h1
  obtain ⟨x2, e2, d2, _⟩ := DataW.trod_string Tryz.underlying9 h2
  obtain ⟨z0, z1, n3, hx3, _, g0, g1⟩ := trod_struct2 Tryz.underlying23 h3
  have g00 : DataW.trod enc Tryz.prog W 0 (fun _ => true) true n3 3 (([c3, c4].drop 0).take (Tryz.prog.cellsOf 3)) = some z0 := g0
  have g10 : DataW.trod enc Tryz.prog W 0 (fun _ => true) true n3 3 (([c3, c4].drop 1).take (Tryz.prog.cellsOf 3)) = some z1 := g1
  rw [Tryz.cells3] at g00 g10
  have g0' : DataW.trod enc Tryz.prog W 0 (fun _ => true) true n3 3 [c3] = some z0 := g00
  have g1' : DataW.trod enc Tryz.prog W 0 (fun _ => true) true n3 3 [c4] = some z1 := g10
  obtain ⟨x3, e3, _, _⟩ := DataW.trod_int Tryz.underlying3 g0'
  obtain ⟨x4, e4, _, _⟩ := DataW.trod_int Tryz.underlying3 g1'
  obtain ⟨x5, e5, d5, w5⟩ := DataW.trod_int Tryz.underlying3 h4
  simp only [Prod.mk.injEq] at hx
  obtain ⟨hd, hp⟩ := hx
  have h5' : DataW.trod enc Tryz.prog W 0 (fun _ => true) true n 24 [c6] = some (y5.1, y5.2) := h5
  obtain ⟨u, zs, e6, hr, hnil, hin, hb⟩ := open_cells h5' (fun x hx => hlt x (by rw [hp]; simp [hx]))
  simp only [List.cons.injEq, and_true] at e0 e1 e2 e3 e4 e5 e6
  subst e0 e1 e2 e3 e4 e5 e6
  refine ⟨⟨x0, x1, x2, x3, x4, x5, zs⟩, c6, rfl, hr, hnil, in64_of_wf w5, hin, ?_⟩
  rw [hd, d1, d2]
  simp only [List.map_cons, List.map_nil, Rows.uptoBulk, Rows.uptoBulkAll, ba_len]
  omega
end Go.Proofs.YtpghbchbhjbbiaaGreatDoor
