/- Moves among the arguments, opened. -/
import Derived.Test.YtfogedmghhacdaaArRoomSt
import Derived.Test.YtfogedmghhacdaaChecked
import Derived.Test.YtfogedmghhacdaaRows
import Derived.Laws.IdiomArrays
import Derived.Deep.SlicePairs
import Derived.ChangeMaps5
import Derived.HandedShaped
import Derived.ProofKit
import Derived.SizedLaws
import Derived.ChangeSame
import Derived.Deep.DeepHandedRow
namespace Go.Proofs.Ytfogedmghhacdaa.A
open Go.ChangeShapes Go.WideShapes Go.ChangeAt Go.RowKit Go.Joins Go.Deep

instance : Inhabited Dd := ⟨⟨0, 0, 0, 0, 0, 0⟩⟩
theorem Try.ownK : ownKnob Try.prog.godebug = none := by kernel_rfl
theorem Try.cellsF : Try.prog.cellsOf 35 = 4 := by kernel_rfl
theorem Try.underF : Try.prog.underlying 35 = some (.array 4 3) := by kernel_rfl
theorem addr_add (g o j : Nat) : (⟨g, o, none⟩ : Addr).add j = ⟨g, o + j, none⟩ := by
  unfold Addr.add
  split
  · rename_i h; rw [h, Nat.add_zero]
  · rfl
theorem fits_of_wf {x : Int} (h : (Lit.int .i64 x).wf = true) : Fits x := by
  have h1 : IntKind.i64.min = -9223372036854775808 := rfl
  have h2 : IntKind.i64.max = 9223372036854775807 := rfl
  simp only [Lit.wf, Bool.and_eq_true, decide_eq_true_eq] at h
  unfold Fits
  omega
theorem trod_four_mk {H : Type} {enc : TypeId × Value → H} {P : Program} {W : World} {sp : Nat → Bool} {t e : TypeId} {n : Nat} {c0 c1 c2 c3 : Value} {y0 y1 y2 y3 : DataW H × List MemPlace} (ht : P.underlying t = some (.array 4 e)) (hce : P.cellsOf e = 1) (hct : P.cellsOf t = 4)
    (h0 : DataW.trod enc P W 0 sp true n e [c0] = some y0) (h1 : DataW.trod enc P W 0 sp true n e [c1] = some y1) (h2 : DataW.trod enc P W 0 sp true n e [c2] = some y2) (h3 : DataW.trod enc P W 0 sp true n e [c3] = some y3) :
    DataW.trod enc P W 0 sp true (n + 1) t [c0, c1, c2, c3] = some (.agg [y0.1, y1.1, y2.1, y3.1], y0.2 ++ (y1.2 ++ (y2.2 ++ y3.2))) := by
  unfold DataW.trod
  rw [ht]
  have r4 : List.range 4 = [0, 1, 2, 3] := rfl
  simp [r4, hce, hct, h0, h1, h2, h3]

set_option maxRecDepth 100000 in
/-- four numbers among the arguments, opened -/
theorem open_four {H : Type} {enc : TypeId × Value → H} {W : World} {v : Value} {d : DataW H} {p : List MemPlace} {r : Reach} {b0 : Nat} {spare : Nat → Bool}
    (hv : Value.okWide Try.prog W r b0 35 v) (h : DataW.Trod enc Try.prog W 0 spare true 35 v d p) :
    ∃ a b c e : Int, v = .agg #[.int .i64 a, .int .i64 b, .int .i64 c, .int .i64 e] ∧ p = [] ∧ (Lit.int .i64 a).wf = true ∧ (Lit.int .i64 b).wf = true ∧ (Lit.int .i64 c).wf = true ∧ (Lit.int .i64 e).wf = true ∧ ∀ (W' : World) (sp : Nat → Bool), DataW.Trod enc Try.prog W' 0 sp true 35 v d [] := by
  simp only [Value.okWide, Try.underF] at hv
  obtain ⟨cs, rfl, hsz, _⟩ := hv
  obtain ⟨c0, c1, c2, c3, rfl⟩ := array4 (hsz.trans Try.cellsF)
  obtain ⟨fuel, hf⟩ := h
  obtain ⟨⟨y0, p0⟩, ⟨y1, p1⟩, ⟨y2, p2⟩, ⟨y3, p3⟩, n, hx, h0, h1, h2, h3⟩ := trod_array4 Try.underF Try.cells3 hf
  obtain ⟨x0, e0, d0, w0⟩ := DataW.trod_int Try.underlying3 h0
  obtain ⟨x1, e1, d1, w1⟩ := DataW.trod_int Try.underlying3 h1
  obtain ⟨x2, e2, d2, w2⟩ := DataW.trod_int Try.underlying3 h2
  obtain ⟨x3, e3, d3, w3⟩ := DataW.trod_int Try.underlying3 h3
  simp only [List.cons.injEq, and_true, Prod.mk.injEq] at e0 e1 e2 e3 d0 d1 d2 d3 hx
  obtain ⟨rfl, rfl⟩ := d0
  obtain ⟨rfl, rfl⟩ := d1
  obtain ⟨rfl, rfl⟩ := d2
  obtain ⟨rfl, rfl⟩ := d3
  subst e0 e1 e2 e3
  obtain ⟨rfl, rfl⟩ := hx
  refine ⟨x0, x1, x2, x3, rfl, rfl, w0, w1, w2, w3, fun W' sp => ?_⟩
  have k0 := fun x hw => trod_int_mk (enc := enc) (P := Try.prog) (w := W') (base := 0) (spare := sp) (held := true) (t := 3) (n := x) 0 Try.underlying3 hw
  exact ⟨_, trod_four_mk Try.underF Try.cells3 Try.cellsF (k0 _ w0) (k0 _ w1) (k0 _ w2) (k0 _ w3)⟩


set_option maxRecDepth 20000 in
/-- a slice of deeds, opened -/
theorem open_deeds {H : Type} {enc : TypeId × Value → H} {W : World} {fuel : Nat} {cs : List Value} {d : DataW H} {ps : List MemPlace} {t e : TypeId} {f0 f1 f2 : Field} (ht : Try.prog.underlying t = some (.slice e)) (he : Try.prog.underlying e = some (.struct #[f0, f1, f2])) (ce : Try.prog.cellsOf e = 6)
    (o0 : f0.offset = 0) (o1 : f1.offset = 1) (o2 : f2.offset = 2) (c0 : f0.type = 3) (c1 : f1.type = 3) (c2 : f2.type = 35)
    (hf : DataW.trod enc Try.prog W 0 (fun _ => true) true fuel t cs = some (d, ps)) (hlt : ∀ x ∈ ps, x.block < W.heap.size) :
    ∃ (v : Value) (l : List Dd), cs = [v] ∧ DRow W v l := by
  rcases open_slice ht hf with ⟨hcs, _⟩ | ⟨a, len, cap, m, n, D, Pl, hcs, _, hl, hm, hmm, hx, hcell⟩
  · exact ⟨_, [], hcs, none, 0, rfl, by simp, .inl rfl⟩
  simp only [if_true] at hmm
  subst hmm
  have each : ∀ i, i < m → ∃ q : Dd, (W.cell? (a.add (i * 6)) = some (.int .i64 q.k) ∧ W.cell? (a.add (i * 6 + 1)) = some (.int .i64 q.t) ∧ W.cell? (a.add (i * 6 + 2)) = some (.int .i64 q.a0) ∧ W.cell? (a.add (i * 6 + 3)) = some (.int .i64 q.a1) ∧ W.cell? (a.add (i * 6 + 4)) = some (.int .i64 q.a2) ∧ W.cell? (a.add (i * 6 + 5)) = some (.int .i64 q.a3)) ∧ Fits q.a1 := by
    intro i hi
    obtain ⟨cs', h1, h2⟩ := hcell i hi
    rw [ce] at h1
    obtain ⟨_, hlen, hc⟩ := World.cells?_some h1
    obtain ⟨xs, k, hk, hxy, _, hxl, hfd⟩ := DataW.trod_struct he h2
    match xs, hxl, cs', hlen with
    | [y0, y1, y2], _, [v0, v1, v2, v3, v4, v5], _ =>
      have g0 := hfd 0 f0 rfl
      have g1 := hfd 1 f1 rfl
      have g2 := hfd 2 f2 rfl
      rw [o0, c0, Try.cells3] at g0
      rw [o1, c1, Try.cells3] at g1
      rw [o2, c2, Try.cellsF] at g2
      have g0' : DataW.trod enc Try.prog W 0 (fun _ => true) true k 3 [v0] = some y0 := g0
      have g1' : DataW.trod enc Try.prog W 0 (fun _ => true) true k 3 [v1] = some y1 := g1
      have g2' : DataW.trod enc Try.prog W 0 (fun _ => true) true k 35 [v2, v3, v4, v5] = some y2 := g2
      obtain ⟨⟨z0, p0⟩, ⟨z1, p1⟩, ⟨z2, p2⟩, ⟨z3, p3⟩, n', _, a0, a1, a2, a3⟩ := trod_array4 Try.underF Try.cells3 g2'
      obtain ⟨x0, e0, _, _⟩ := DataW.trod_int Try.underlying3 g0'
      obtain ⟨x1, e1, _, _⟩ := DataW.trod_int Try.underlying3 g1'
      obtain ⟨x2, e2, _, _⟩ := DataW.trod_int Try.underlying3 a0
      obtain ⟨x3, e3, _, w3⟩ := DataW.trod_int Try.underlying3 a1
      obtain ⟨x4, e4, _, _⟩ := DataW.trod_int Try.underlying3 a2
      obtain ⟨x5, e5, _, _⟩ := DataW.trod_int Try.underlying3 a3
      simp only [List.cons.injEq, and_true] at e0 e1 e2 e3 e4 e5
      subst e0 e1 e2 e3 e4 e5
      have q0 := hc 0 (by omega)
      have q1 := hc 1 (by omega)
      have q2 := hc 2 (by omega)
      have q3 := hc 3 (by omega)
      have q4 := hc 4 (by omega)
      have q5 := hc 5 (by omega)
      rw [add_add] at q0 q1 q2 q3 q4 q5
      exact ⟨⟨x0, x1, x2, x3, x4, x5⟩, ⟨by simpa using q0, by simpa using q1, by simpa using q2, by simpa using q3, by simpa using q4, by simpa using q5⟩, fits_of_wf w3⟩
  obtain ⟨K, hK⟩ := choose_lt each
  refine ⟨_, (List.range len).map K, hcs, some a, m, by simp, by simp; unfold maxLen at hm; omega, ?_⟩
  by_cases h0 : len = 0
  · left; simp [h0]
  · right
    obtain ⟨b, off, spot⟩ := a
    have hspot : spot = none := by simpa [Addr.add] using World.cell?_spot (hK 0 (by omega)).1.1
    subst hspot
    simp only [Prod.mk.injEq] at hx
    refine ⟨b, off, rfl, hlt (.cell b off) (by rw [hx.2, ce]; exact List.mem_append_left _ (MemPlace.mem_row.2 ⟨0, by omega, by simp⟩)), fun k x hk => ?_⟩
    obtain ⟨hk1, hk2⟩ := List.getElem?_eq_some_iff.1 hk
    simp only [List.length_map, List.length_range] at hk1
    simp only [List.getElem_map, List.getElem_range] at hk2
    subst hk2
    have hc := hK k (by omega)
    simp only [addr_add] at hc
    exact hc
end Go.Proofs.Ytfogedmghhacdaa.A

namespace Go.Proofs.Ytfogedmghhacdaa.A
open Go.ChangeShapes Go.WideShapes Go.ChangeAt Go.RowKit Go.Joins Go.Deep

/-- moves that can be read -/
def MRow (w : World) (v : Value) (ds : List Dd) : Prop :=
  ∃ a c, v = .slice a ds.length c ∧ ds.length ≤ 9223372036854775807 ∧ (ds = [] ∨ ∃ g o, a = some ⟨g, o, none⟩ ∧ g < w.heap.size ∧ ∀ (k : Nat) d, ds[k]? = some d →
    (w.cell? ⟨g, o + k * 6, none⟩ = some (.int .i64 d.k) ∧ w.cell? ⟨g, o + k * 6 + 1, none⟩ = some (.int .i64 d.t) ∧ w.cell? ⟨g, o + k * 6 + 2, none⟩ = some (.int .i64 d.a0) ∧ w.cell? ⟨g, o + k * 6 + 3, none⟩ = some (.int .i64 d.a1) ∧ w.cell? ⟨g, o + k * 6 + 4, none⟩ = some (.int .i64 d.a2) ∧ w.cell? ⟨g, o + k * 6 + 5, none⟩ = some (.int .i64 d.a3)) ∧ Fits d.a0 ∧ Fits d.a1 ∧ Fits d.a2 ∧ Fits d.a3)

set_option maxRecDepth 20000 in
/-- a slice of moves, opened -/
theorem open_moves {H : Type} {enc : TypeId × Value → H} {W : World} {fuel : Nat} {cs : List Value} {d : DataW H} {ps : List MemPlace} {t e : TypeId} {f0 f1 f2 : Field} (ht : Try.prog.underlying t = some (.slice e)) (he : Try.prog.underlying e = some (.struct #[f0, f1, f2])) (ce : Try.prog.cellsOf e = 6)
    (o0 : f0.offset = 0) (o1 : f1.offset = 1) (o2 : f2.offset = 2) (c0 : f0.type = 3) (c1 : f1.type = 3) (c2 : f2.type = 35)
    (hf : DataW.trod enc Try.prog W 0 (fun _ => true) true fuel t cs = some (d, ps)) (hlt : ∀ x ∈ ps, x.block < W.heap.size) :
    ∃ (v : Value) (l : List Dd), cs = [v] ∧ MRow W v l := by
  rcases open_slice ht hf with ⟨hcs, _⟩ | ⟨a, len, cap, m, n, D, Pl, hcs, _, hl, hm, hmm, hx, hcell⟩
  · exact ⟨_, [], hcs, none, 0, rfl, by simp, .inl rfl⟩
  simp only [if_true] at hmm
  subst hmm
  have each : ∀ i, i < m → ∃ q : Dd, (W.cell? (a.add (i * 6)) = some (.int .i64 q.k) ∧ W.cell? (a.add (i * 6 + 1)) = some (.int .i64 q.t) ∧ W.cell? (a.add (i * 6 + 2)) = some (.int .i64 q.a0) ∧ W.cell? (a.add (i * 6 + 3)) = some (.int .i64 q.a1) ∧ W.cell? (a.add (i * 6 + 4)) = some (.int .i64 q.a2) ∧ W.cell? (a.add (i * 6 + 5)) = some (.int .i64 q.a3)) ∧ Fits q.a0 ∧ Fits q.a1 ∧ Fits q.a2 ∧ Fits q.a3 := by
    intro i hi
    obtain ⟨cs', h1, h2⟩ := hcell i hi
    rw [ce] at h1
    obtain ⟨_, hlen, hc⟩ := World.cells?_some h1
    obtain ⟨xs, k, hk, hxy, _, hxl, hfd⟩ := DataW.trod_struct he h2
    match xs, hxl, cs', hlen with
    | [y0, y1, y2], _, [v0, v1, v2, v3, v4, v5], _ =>
      have g0 := hfd 0 f0 rfl
      have g1 := hfd 1 f1 rfl
      have g2 := hfd 2 f2 rfl
      rw [o0, c0, Try.cells3] at g0
      rw [o1, c1, Try.cells3] at g1
      rw [o2, c2, Try.cellsF] at g2
      have g0' : DataW.trod enc Try.prog W 0 (fun _ => true) true k 3 [v0] = some y0 := g0
      have g1' : DataW.trod enc Try.prog W 0 (fun _ => true) true k 3 [v1] = some y1 := g1
      have g2' : DataW.trod enc Try.prog W 0 (fun _ => true) true k 35 [v2, v3, v4, v5] = some y2 := g2
      obtain ⟨⟨z0, p0⟩, ⟨z1, p1⟩, ⟨z2, p2⟩, ⟨z3, p3⟩, n', _, a0, a1, a2, a3⟩ := trod_array4 Try.underF Try.cells3 g2'
      obtain ⟨x0, e0, _, _⟩ := DataW.trod_int Try.underlying3 g0'
      obtain ⟨x1, e1, _, _⟩ := DataW.trod_int Try.underlying3 g1'
      obtain ⟨x2, e2, _, w2⟩ := DataW.trod_int Try.underlying3 a0
      obtain ⟨x3, e3, _, w3⟩ := DataW.trod_int Try.underlying3 a1
      obtain ⟨x4, e4, _, w4⟩ := DataW.trod_int Try.underlying3 a2
      obtain ⟨x5, e5, _, w5⟩ := DataW.trod_int Try.underlying3 a3
      simp only [List.cons.injEq, and_true] at e0 e1 e2 e3 e4 e5
      subst e0 e1 e2 e3 e4 e5
      have q0 := hc 0 (by omega)
      have q1 := hc 1 (by omega)
      have q2 := hc 2 (by omega)
      have q3 := hc 3 (by omega)
      have q4 := hc 4 (by omega)
      have q5 := hc 5 (by omega)
      rw [add_add] at q0 q1 q2 q3 q4 q5
      exact ⟨⟨x0, x1, x2, x3, x4, x5⟩, ⟨by simpa using q0, by simpa using q1, by simpa using q2, by simpa using q3, by simpa using q4, by simpa using q5⟩, fits_of_wf w2, fits_of_wf w3, fits_of_wf w4, fits_of_wf w5⟩
  obtain ⟨K, hK⟩ := choose_lt each
  refine ⟨_, (List.range len).map K, hcs, some a, m, by simp, by simp; unfold maxLen at hm; omega, ?_⟩
  by_cases h0 : len = 0
  · left; simp [h0]
  · right
    obtain ⟨b, off, spot⟩ := a
    have hspot : spot = none := by simpa [Addr.add] using World.cell?_spot (hK 0 (by omega)).1.1
    subst hspot
    simp only [Prod.mk.injEq] at hx
    refine ⟨b, off, rfl, hlt (.cell b off) (by rw [hx.2, ce]; exact List.mem_append_left _ (MemPlace.mem_row.2 ⟨0, by omega, by simp⟩)), fun k x hk => ?_⟩
    obtain ⟨hk1, hk2⟩ := List.getElem?_eq_some_iff.1 hk
    simp only [List.length_map, List.length_range] at hk1
    simp only [List.getElem_map, List.getElem_range] at hk2
    subst hk2
    have hc := hK k (by omega)
    simp only [addr_add] at hc
    exact hc
end Go.Proofs.Ytfogedmghhacdaa.A
