/- 'm[k] += d' on a map of cells and numbers, whichever comes first, the look-up or the entry: what each step makes. -/
import Derived.Test.YthobobgiendcfaaBoxRef
import Derived.ProofKit
import Derived.SizedLaws
import Derived.Deep.SlicePairs
import Derived.Maps.OwnSet
import Derived.Maps.RangeWalk
import Derived.WideKeyEntry
namespace Go.Proofs.Ythobobgiendcfaa
open Go.RowKit

set_option maxHeartbeats 400000 in
theorem bounds_one (b off : Nat) (x y : Int) (w : World) (hb : b < w.heap.size) (hx0 : w.cell? ⟨b, off, none⟩ = some (.int .i64 x)) (hy0 : w.cell? ⟨b, off + 1, none⟩ = some (.int .i64 y)) :
    Calls Try.prog 105 #[.slice (some ⟨b, off, none⟩) 1 1] w fun e w' => e = .returned (.tuple #[.agg #[.int .i64 x, .int .i64 y, .int .i64 x, .int .i64 y], .bool true]) ∧ Below w.heap.size w w' := by
  have hne : b ≠ w.heap.size := by omega
  go_enter Try.func105, Try.ntmps105
  go_wp2
  go_region
  go_wp2
  refine wp_loop_rounds 1 ?_
  rw [rounds_succ]
  go_wp2
  refine bodyPost_ret (v := .tuple #[.agg #[.int .i64 x, .int .i64 y, .int .i64 x, .int .i64 y], .bool true]) ?_ rfl ⟨rfl, ?_⟩
  · simp [results, Try.results105, go_sem]
  · exact (((Below.refl _ _).alloc (Nat.le_refl _) _).alloc (by simp) _).drew

set_option maxHeartbeats 400000 in
theorem bounds_none (a : Option Addr) (c : Nat) (w : World) :
    Calls Try.prog 105 #[.slice a 0 c] w fun e w' => e = .returned (.tuple #[.agg #[.int .i64 0, .int .i64 0, .int .i64 0, .int .i64 0], .bool false]) ∧ Below w.heap.size w w' := by
  go_enter Try.func105, Try.ntmps105
  go_wp2
  refine bodyPost_ret (v := .tuple #[.agg #[.int .i64 0, .int .i64 0, .int .i64 0, .int .i64 0], .bool false]) ?_ rfl ⟨rfl, ?_⟩
  · simp [results, Try.results105, go_sem]
  · exact (Below.refl _ _).alloc (Nat.le_refl _) _

theorem Try.info87 : (Try.prog.info? 87).map (fun i => (i.zero, i.size, i.bytes)) = some (some (.agg #[.int .i64 0, .int .i64 0]), 2, 16) := by kernel_rfl

theorem addP (b off i : Nat) : (⟨b, off, none⟩ : Addr).add i = ⟨b, off + i, none⟩ := by unfold Addr.add; split <;> simp_all

/-- the cells of n pairs of numbers, in a row -/
def pairCells (X Y : Nat → Int) (n : Nat) : List Value := (List.range (n * 2)).map fun i => if i % 2 = 0 then .int .i64 (X (i / 2)) else .int .i64 (Y (i / 2))
theorem pairCells_length (X Y : Nat → Int) (n : Nat) : (pairCells X Y n).length = n * 2 := by simp [pairCells]
theorem pairCells_one (X Y : Nat → Int) (n : Nat) (u : Value) (h : u ∈ pairCells X Y n) : u.oneCell' = true := by
  simp only [pairCells, List.mem_map, List.mem_range] at h
  obtain ⟨i, _, rfl⟩ := h
  split <;> rfl
theorem pairCells_at {w : World} {b off n : Nat} {X Y : Nat → Int} (hp : Pairs w b off n X Y) (j : Nat) (u : Value) (h : (pairCells X Y n)[j]? = some u) : w.cell? ((⟨b, off, none⟩ : Addr).add j) = some u := by
  simp only [pairCells, List.getElem?_map, Option.map_eq_some_iff] at h
  obtain ⟨i, hi, rfl⟩ := h
  have hj : j < n * 2 := by
    have := (List.getElem?_eq_some_iff.1 hi).1
    simpa using this
  rw [List.getElem?_range hj] at hi
  simp only [Option.some.injEq] at hi
  subst hi
  obtain ⟨h0, h1⟩ := hp (j / 2) (by omega)
  rw [addP]
  by_cases hm : j % 2 = 0
  · rw [if_pos hm, ← h0]; congr 2; omega
  · rw [if_neg hm, ← h1]; congr 2; omega
theorem pairs_of {w : World} {g n : Nat} {X Y : Nat → Int} (h : ∀ j u, (pairCells X Y n)[j]? = some u → w.cell? ((⟨g, 0, none⟩ : Addr).add j) = some u) : Pairs w g 0 n X Y := by
  intro j hj
  have h0 := h (j * 2) (.int .i64 (X j)) (by simp [pairCells, List.getElem?_range (show j * 2 < n * 2 by omega)])
  have h1 := h (j * 2 + 1) (.int .i64 (Y j)) (by
    rw [pairCells, List.getElem?_map, List.getElem?_range (show j * 2 + 1 < n * 2 by omega)]
    simp only [Option.map_some, Option.some.injEq]
    rw [if_neg (by omega), show (j * 2 + 1) / 2 = j by omega])
  rw [addP] at h0 h1
  exact ⟨h0, by rw [← h1]; congr 2⟩

set_option maxHeartbeats 400000 in
theorem cells_some (b off n c : Nat) (X Y : Nat → Int) (w : World) (hn : n * 16 ≤ 140737488355328) (hp : Pairs w b off n X Y) :
    Calls Try.prog 82 #[.slice (some ⟨b, off, none⟩) n c] w fun e w' => ∃ v, e = .returned v ∧ Below w.heap.size w w' ∧
      ((n = 0 ∧ v = .slice none 0 0) ∨ ∃ g cap, v = .slice (some ⟨g, 0, none⟩) n cap ∧ w.heap.size ≤ g ∧ g < w'.heap.size ∧ n ≤ cap ∧ cap ≤ maxLen ∧ Pairs w' g 0 n X Y) := by
  obtain ⟨i0, hi, hz0, hz1, hz2⟩ := info_parts Try.info87
  go_enter Try.func82, Try.ntmps82
  go_wp2_with (at_builtin; refine wpList_append_own _ rfl _ _ 69 rfl w.heap.size 87 i0 (.agg #[.int .i64 0, .int .i64 0]) 2 16 Try.underlying69 hi hz0 hz1 hz2 rfl (by decide) (.slice none 0 0) 0 [] rfl (World.ownsRow_nil _ _ _ _) ⟨b, off, none⟩ n c (pairCells X Y n) rfl (pairCells_length X Y n) (pairCells_at hp) (pairCells_one X Y n) (by unfold maxLen; omega) (by omega) (Nat.le_refl _) ?_; intro v' w1 hown hgrow hnil)
  go_ret
  refine ⟨v', rfl, (Below.refl _ _).grown hgrow (Nat.le_refl _) (by intro k hk; simp [Value.ownBlock] at hk), ?_⟩
  rw [Nat.zero_add, List.nil_append] at hown
  rcases id hown with ⟨_, ⟨hv, h0⟩ | ⟨g, cap, cur, hv, hg, hblk, hcap, hmax, _, _⟩⟩
  · exact Or.inl ⟨h0, hv⟩
  · exact Or.inr ⟨g, cap, hv, hg, (hown.lt g (by rw [hv]; rfl)).2, hcap, hmax, pairs_of (hown.cells (by rw [hv]; rfl))⟩

set_option maxHeartbeats 400000 in
theorem cells_nil (w : World) : Calls Try.prog 82 #[.slice none 0 0] w fun e w' => e = .returned (.slice none 0 0) ∧ w' = w := by
  go_enter Try.func82, Try.ntmps82
  go_wp2
  go_ret
  exact ⟨rfl, rfl⟩
set_option maxHeartbeats 400000 in
theorem cells_zero (ad : Addr) (c : Nat) (w : World) : Calls Try.prog 82 #[.slice (some ad) 0 c] w fun e w' => e = .returned (.slice none 0 0) ∧ Below w.heap.size w w' := by
  obtain ⟨i0, hi, hz0, hz1, hz2⟩ := info_parts Try.info87
  go_enter Try.func82, Try.ntmps82
  go_wp2_with (at_builtin; refine wpList_append_own _ rfl _ _ 69 rfl w.heap.size 87 i0 (.agg #[.int .i64 0, .int .i64 0]) 2 16 Try.underlying69 hi hz0 hz1 hz2 rfl (by decide) (.slice none 0 0) 0 [] rfl (World.ownsRow_nil _ _ _ _) ad 0 c [] rfl rfl (by simp) (by simp) (by unfold maxLen; omega) (by omega) (Nat.le_refl _) ?_; intro v' w1 hown hgrow hnil)
  go_ret
  refine ⟨?_, (Below.refl _ _).grown hgrow (Nat.le_refl _) (by intro k hk; simp [Value.ownBlock] at hk)⟩
  have hv : v' = .slice none 0 0 := hnil.2 ⟨trivial, trivial⟩
  rw [hv]
  rfl
end Go.Proofs.Ythobobgiendcfaa

namespace Go.Proofs.Ythobobgiendcfaa
open Go.ChangeShapes Go.WideShapes Go.ChangeAt Go.RowKit Go.Deep

theorem Try.own : ownKnob Try.prog.godebug = none := by kernel_rfl
theorem Try.laidOut : laidOutB Try.prog = true := by kernel_rfl
theorem Try.bytes87 : Try.prog.bytesOf 87 = 16 := by kernel_rfl
theorem Try.cells3 : Try.prog.cellsOf 3 = 1 := by kernel_rfl
theorem Try.cells87 : Try.prog.cellsOf 87 = 2 := by kernel_rfl

/-- a slice's value over n pairs of numbers -/
def IsRow (w : World) (v : Value) (n : Nat) (X Y : Nat → Int) : Prop :=
  ∃ a c, v = .slice a n c ∧ n ≤ c ∧ c ≤ maxLen ∧ (a = none → c = 0) ∧ (n = 0 ∨ ∃ b off, a = some ⟨b, off, none⟩ ∧ b < w.heap.size ∧ Pairs w b off n X Y)

theorem IsRow.below {w w' : World} {v : Value} {n : Nat} {X Y : Nat → Int} (h : IsRow w v n X Y) (hb : Below w.heap.size w w') : IsRow w' v n X Y := by
  obtain ⟨a, c, hv, hc, hm, hn, h⟩ := h
  refine ⟨a, c, hv, hc, hm, hn, ?_⟩
  rcases h with h | ⟨b, off, ha, hlt, hp⟩
  · exact Or.inl h
  · refine Or.inr ⟨b, off, ha, Nat.lt_of_lt_of_le hlt hb.size, fun j hj => ?_⟩
    rw [hb.cell (p := ⟨b, off + j * 2, none⟩) hlt, hb.cell (p := ⟨b, off + j * 2 + 1, none⟩) hlt]
    exact hp j hj
theorem IsRow.nil (w : World) (X Y : Nat → Int) : IsRow w (.slice none 0 0) 0 X Y := ⟨none, 0, rfl, Nat.le_refl _, Nat.zero_le _, fun _ => rfl, Or.inl rfl⟩

/-- within int's bounds -/
def Fits (x : Int) : Prop := -9223372036854775808 ≤ x ∧ x ≤ 9223372036854775807

theorem fits_of_wf {x : Int} (h : (Lit.int .i64 x).wf = true) : Fits x := by
  have h1 : IntKind.i64.min = -9223372036854775808 := rfl
  have h2 : IntKind.i64.max = 9223372036854775807 := rfl
  simp only [Lit.wf, Bool.and_eq_true, decide_eq_true_eq] at h
  unfold Fits
  omega

theorem open_row {H : Type} {enc : TypeId × Value → H} {W : World} {v : Value} {d : DataW H} {ps : List MemPlace} {ts : List TypeId} {ds : List (DataW H)} (j : Nat)
    (hs : (DataW.weightsEach Try.prog ts ds).all (· ≤ reachBytes) = true) (hj : ts[j]? = some 69) (hd : ds[j]? = some d)
    (h : DataW.Trod enc Try.prog W 0 (fun _ => true) true 69 v d ps) (hlt : ∀ x ∈ ps, x.block < W.heap.size) (hv : ∃ a len cap, v = .slice a len cap) :
    ∃ (n : Nat) (X Y : Nat → Int), IsRow W v n X Y ∧ n * 16 ≤ 140737488351232 ∧ ∀ i, i < n → Fits (X i) ∧ Fits (Y i) := by
  obtain ⟨a0, len, cap, rfl⟩ := hv
  obtain ⟨fuel, hf⟩ := h
  rcases open_slice_pairs Try.underlying69 Try.underlying87 Try.cells87 rfl rfl Try.cells3 Try.cells3 hf with ⟨hcs, hx⟩ | ⟨a, len', cap', m, nf, V0, V1, D0, D1, P0, P1, hcs, _, hl, hmx, hm, hx, hcell⟩
  · simp [Value.cells] at hcs
    obtain ⟨rfl, rfl, rfl⟩ := hcs
    exact ⟨0, fun _ => 0, fun _ => 0, IsRow.nil _ _ _, by omega, fun i hi => by omega⟩
  · simp [Value.cells] at hcs
    obtain ⟨rfl, rfl, rfl⟩ := hcs
    simp only [if_true] at hm
    subst hm
    simp only [Prod.mk.injEq] at hx
    obtain ⟨hx1, hx2⟩ := hx
    have hsz : len * 16 ≤ 140737488351232 := by
      rw [hx1] at hd
      have := sized_slice hs (j := j) (t := 69) (e := 87) hj hd Try.underlying69
      rw [Try.bytes87] at this
      simp only [List.length_map, List.length_range, reachBytes] at this
      omega
    have each : ∀ i, i < m → V0 i = .int .i64 (intOf (V0 i)) ∧ V1 i = .int .i64 (intOf (V1 i)) ∧ Fits (intOf (V0 i)) ∧ Fits (intOf (V1 i)) := by
      intro i hi
      obtain ⟨_, _, t0, t1⟩ := hcell i hi
      obtain ⟨x, e0, _, w0⟩ := DataW.trod_int Try.underlying3 t0
      obtain ⟨y, e1, _, w1⟩ := DataW.trod_int Try.underlying3 t1
      simp only [List.cons.injEq, and_true] at e0 e1
      rw [e0, e1]
      exact ⟨rfl, rfl, fits_of_wf w0, fits_of_wf w1⟩
    refine ⟨len, fun i => intOf (V0 i), fun i => intOf (V1 i), ⟨some a, m, rfl, hl, hmx, (fun e => by cases e), ?_⟩, hsz, fun i hi => (each i (by omega)).2.2⟩
    by_cases h0 : len = 0
    · exact Or.inl h0
    · right
      obtain ⟨b, off, spot⟩ := a
      have hspot : spot = none := by simpa [Addr.add] using World.cell?_spot (hcell 0 (by omega)).1
      subst hspot
      refine ⟨b, off, rfl, hlt (.cell b off) (by rw [hx2]; exact List.mem_append_left _ (MemPlace.mem_row.2 ⟨0, by omega, by simp⟩)), fun i hi => ?_⟩
      have hc := hcell i (by omega)
      rw [addP, addP, (each i (by omega)).1, (each i (by omega)).2.1] at hc
      exact ⟨hc.1, hc.2.1⟩
end Go.Proofs.Ythobobgiendcfaa

namespace Go.Proofs.Ythobobgiendcfaa
open Go.RowKit

set_option maxHeartbeats 400000 in
theorem ref_bounds_none (a : Option Addr) (c : Nat) (w : World) :
    Calls Try.prog 46 #[.slice a 0 c] w fun e w' => e = .returned (.tuple #[.agg #[.int .i64 0, .int .i64 0, .int .i64 0, .int .i64 0], .bool false]) ∧ Below w.heap.size w w' := by
  go_enter Try.func46, Try.ntmps46
  go_wp2
  refine wp_loop_rounds 1 ?_
  rw [rounds_succ]
  go_wp2
  refine bodyPost_ret (v := .tuple #[.agg #[.int .i64 0, .int .i64 0, .int .i64 0, .int .i64 0], .bool false]) ?_ rfl ⟨rfl, ?_⟩
  · simp [results, Try.results46, go_sem]
  · exact ((Below.refl _ _).alloc (Nat.le_refl _) _).alloc (by simp) _

/-- what both answer -/
def boxOf (X Y : Nat → Int) (n : Nat) : Value := .tuple #[.agg #[.int .i64 (lo' X n), .int .i64 (lo' Y n), .int .i64 (hi' X n), .int .i64 (hi' Y n)], .bool (decide (0 < n))]

theorem boxOf_zero (X Y : Nat → Int) : boxOf X Y 0 = .tuple #[.agg #[.int .i64 0, .int .i64 0, .int .i64 0, .int .i64 0], .bool false] := rfl
theorem boxOf_pos (X Y : Nat → Int) (n : Nat) (h : 0 < n) : boxOf X Y n = .tuple #[.agg #[.int .i64 (lo X (n - 1)), .int .i64 (lo Y (n - 1)), .int .i64 (hi X (n - 1)), .int .i64 (hi Y (n - 1))], .bool true] := by
  cases n with
  | zero => omega
  | succ n => simp [boxOf, lo', hi']

theorem bounds_any (v : Value) (n : Nat) (X Y : Nat → Int) (w : World) (h : IsRow w v n X Y) :
    Calls Try.prog 105 #[v] w fun e w' => e = .returned (boxOf X Y n) ∧ Below w.heap.size w w' := by
  obtain ⟨a, c, rfl, hc, hm, _, h⟩ := h
  by_cases h0 : n = 0
  · subst h0; rw [boxOf_zero]; exact bounds_none a c w
  · rcases h with h | ⟨b, off, rfl, hb, hp⟩
    · exact absurd h h0
    rw [boxOf_pos _ _ _ (by omega)]
    by_cases h1 : c = 1
    · subst h1
      have hn : n = 1 := by omega
      subst hn
      have h := hp 0 (by omega)
      exact bounds_one b off (X 0) (Y 0) w hb (by simpa using h.1) (by simpa using h.2)
    · exact bounds_some b off n c X Y w (by omega) hc hm hb hp h1

theorem ref_any (v : Value) (n : Nat) (X Y : Nat → Int) (w : World) (h : IsRow w v n X Y) :
    Calls Try.prog 46 #[v] w fun e w' => e = .returned (boxOf X Y n) ∧ Below w.heap.size w w' := by
  obtain ⟨a, c, rfl, hc, hm, _, h⟩ := h
  by_cases h0 : n = 0
  · subst h0; rw [boxOf_zero]; exact ref_bounds_none a c w
  · rcases h with h | ⟨b, off, rfl, hb, hp⟩
    · exact absurd h h0
    · exact ref_bounds b off n c X Y w hc hm hb hp

theorem cells_any (v : Value) (n : Nat) (X Y : Nat → Int) (w : World) (hn : n * 16 ≤ 140737488355328) (h : IsRow w v n X Y) :
    Calls Try.prog 82 #[v] w fun e w' => ∃ u, e = .returned u ∧ Below w.heap.size w w' ∧ IsRow w' u n X Y := by
  obtain ⟨a, c, rfl, hc, hm, ha, h⟩ := h
  by_cases h0 : n = 0
  · subst h0
    cases a with
    | none =>
      have h0 := ha rfl
      subst h0
      refine (cells_nil w).mono ?_
      rintro e w' ⟨rfl, rfl⟩
      exact ⟨_, rfl, Below.refl _ _, IsRow.nil _ _ _⟩
    | some ad =>
      refine (cells_zero ad c w).mono ?_
      rintro e w' ⟨rfl, hb⟩
      exact ⟨_, rfl, hb, IsRow.nil _ _ _⟩
  · rcases h with h | ⟨b, off, rfl, hb, hp⟩
    · exact absurd h h0
    refine (cells_some b off n c X Y w hn hp).mono ?_
    rintro e w' ⟨u, rfl, hb', hu⟩
    refine ⟨u, rfl, hb', ?_⟩
    rcases hu with ⟨h1, rfl⟩ | ⟨g, cap, rfl, _, hg, hcap, hmx, hP⟩
    · exact absurd h1 h0
    · exact ⟨_, cap, rfl, hcap, hmx, (fun e => by cases e), Or.inr ⟨g, 0, rfl, hg, hP⟩⟩

theorem boxes_eq (a b c d : Int) (w : World) : (binOp .eql 81 (.agg #[.int .i64 a, .int .i64 b, .int .i64 c, .int .i64 d]) (.agg #[.int .i64 a, .int .i64 b, .int .i64 c, .int .i64 d])).run Try.prog w = .ok (.bool true) w := by
  have hS : Try.prog.underlying 81 = some (.struct (Try.prog.fieldsOf 81)) := by kernel_rfl
  have hp : Try.prog.stoodInHeld 81 = false := by kernel_rfl
  rw [run_eql_struct, show (10000 : Nat) = 9999 + 1 from rfl, run_equalIn_agg w 9999 81 _ _ hS hp]
  simp only [Program.fieldsOf, Try.underlying81]
  go_simp

end Go.Proofs.Ythobobgiendcfaa

namespace Go.Proofs.Ythobobgiendcfaa
open Go.RowKit Go.Maps

theorem Try.row53 : (87 : TypeId) < Try.prog.types.size := of_decide_eq_true (by kernel_rfl)
set_option maxRecDepth 100000 in
theorem Try.wide53 : (match Try.prog.underlying 87 with | some (.array _ _) | some (.struct _) => true | _ => false) = true := by rw [Try.underlying87]
set_option maxRecDepth 100000 in
theorem law : Keyed Try.prog 87 := Keyed.of_law (deep_law_laid Try.laidOut (m := 2) (by omega) Try.row53 (by kernel_rfl) Try.wide53)
theorem Try.zero3 (w : World) : (zeroValue 3).run Try.prog w = .ok (.int .i64 0) w := by kernel_rfl

/-- a cell as a value -/
def cellV (p : Int × Int) : Value := .agg #[.int .i64 p.1, .int .i64 p.2]
/-- a cell's numbers fit into int -/
def FitsP (p : Int × Int) : Prop := Fits p.1 ∧ Fits p.2
theorem wf_of_fits {x : Int} (h : Fits x) : (Lit.int .i64 x).wf = true := by
  have h1 : IntKind.i64.min = -9223372036854775808 := rfl
  have h2 : IntKind.i64.max = 9223372036854775807 := rfl
  unfold Fits at h
  simp only [Lit.wf, Bool.and_eq_true, decide_eq_true_eq]
  omega

/-- what a cell reads as -/
def cl (p : Int × Int) : Lit := .string (keyBytes [.int .i64 p.1, .int .i64 p.2])

theorem Try.keyType53 : Try.prog.keyType 87 = true := by kernel_rfl
theorem Try.someTypes : ∃ d, Try.prog.types.size = d + 1 := ⟨Try.prog.types.size - 1, by have : 0 < Try.prog.types.size := of_decide_eq_true (by kernel_rfl); omega⟩

theorem Try.cells53k : Try.prog.cellsOf 87 = 2 := by kernel_rfl
theorem keyLits_int {x : Int} (d : Nat) (h : (Lit.int .i64 x).wf = true) : Try.prog.keyLits (d + 1) 3 [.int .i64 x] = some [.int .i64 x] := by
  unfold Program.keyLits
  simp only [Try.underlying3, h, and_self, if_true]
theorem keyLits_cell {x y : Int} (d : Nat) (h0 : (Lit.int .i64 x).wf = true) (h1 : (Lit.int .i64 y).wf = true) : Try.prog.keyLits (d + 1 + 1) 87 [.int .i64 x, .int .i64 y] = some [.int .i64 x, .int .i64 y] := by
  unfold Program.keyLits
  simp only [Try.underlying87, Try.cells53k]
  simp [Try.cells3, keyLits_int d h0, keyLits_int d h1]
theorem formed_cell (p : Int × Int) : (cellV p).formed Try.prog 87 = true := by
  unfold cellV Value.formed
  rw [Try.underlying87]
  simp only [Try.cells53k]
  rfl

theorem key_cell {p : Int × Int} (h : FitsP p) : keyOf Try.prog 87 (cellV p) = some (cl p) := by
  have w0 := wf_of_fits h.1
  have w1 := wf_of_fits h.2
  have hl : Try.prog.keyLits (Try.prog.types.size + 1) 87 (cellV p).cells.toList = some [.int .i64 p.1, .int .i64 p.2] := by
    obtain ⟨d, hd⟩ := Try.someTypes
    rw [hd]
    exact keyLits_cell d w0 w1
  unfold keyOf
  rw [Try.underlying87]
  simp only [Try.keyType53, formed_cell, Bool.and_self, if_true, hl]
  rfl

theorem cl_inj {p q : Int × Int} (hp : FitsP p) (hq : FitsP q) (h : cl p = cl q) : p = q := by
  have h1 := key_cell hp
  have h2 := key_cell hq
  rw [h] at h1
  have := law.inj h1 h2
  simp only [cellV, Value.agg.injEq] at this
  simp at this
  exact Prod.ext this.1 this.2
theorem cl_key (p : Int × Int) : WideAt.IsKeyLit (cl p) := trivial

set_option maxRecDepth 20000 in
theorem keyLits_int_inv {a : Value} {l : List Lit} (d : Nat) (h : Try.prog.keyLits (d + 1) 3 [a] = some l) : ∃ x, a = .int .i64 x ∧ (Lit.int .i64 x).wf = true ∧ l = [.int .i64 x] := by
  unfold Program.keyLits at h
  simp only [Try.underlying3] at h
  split at h
  · exact absurd ‹some (TypeDesc.int IntKind.i64) = some TypeDesc.bool› (by simp)
  · rename_i q q' n hq hv
    simp only [Option.some.injEq, TypeDesc.int.injEq] at hq
    subst hq
    simp only [List.cons.injEq, and_true] at hv
    subst hv
    split at h
    · rename_i hw
      obtain ⟨rfl, hw⟩ := hw
      simp only [Option.some.injEq] at h
      exact ⟨n, rfl, hw, h.symm⟩
    · exact absurd h (by simp)
  · exact absurd ‹some (TypeDesc.int IntKind.i64) = some TypeDesc.string› (by simp)
  · exact absurd ‹some (TypeDesc.int IntKind.i64) = some (TypeDesc.array _ _)› (by simp)
  · exact absurd ‹some (TypeDesc.int IntKind.i64) = some (TypeDesc.struct _)› (by simp)
  · exact absurd h (by simp)
theorem fits_wf {x : Int} (h : (Lit.int .i64 x).wf = true) : Fits x := fits_of_wf h

set_option maxRecDepth 20000 in
/-- every key is a cell -/
theorem key_inv {key : Value} {kl : Lit} (h : keyOf Try.prog 87 key = some kl) : ∃ p, FitsP p ∧ key = cellV p ∧ kl = cl p := by
  have hf : key.formed Try.prog 87 = true ∧ (Try.prog.keyLits (Try.prog.types.size + 1) 87 key.cells.toList).map (fun ls => Lit.string (keyBytes ls)) = some kl := by
    unfold keyOf at h
    simp only [Try.underlying87, Try.keyType53, Bool.true_and] at h
    split at h
    · exact ⟨by assumption, h⟩
    · cases h
  obtain ⟨hf, hk⟩ := hf
  have hs : ∃ cs, key = .agg cs ∧ cs.size = 2 := by
    unfold Value.formed at hf
    simp only [Try.underlying87, Try.cells53k] at hf
    split at hf
    · exact ⟨_, rfl, by simpa using hf⟩
    · cases hf
    · cases hf
  obtain ⟨cs, rfl, hsz⟩ := hs
  obtain ⟨l⟩ := cs
  match l, hsz with
  | [a, b], _ =>
    rw [Option.map_eq_some_iff] at hk
    obtain ⟨ls, hls, rfl⟩ := hk
    obtain ⟨d, hd⟩ := Try.someTypes
    rw [hd] at hls
    unfold Program.keyLits at hls
    simp only [Try.underlying87, Try.cells53k] at hls
    simp [Try.cells3, Value.cells, Option.bind_eq_some_iff] at hls
    obtain ⟨la, ha, lb, ⟨lc, hb, rfl⟩, rfl⟩ := hls
    obtain ⟨x, rfl, wx, rfl⟩ := keyLits_int_inv _ ha
    obtain ⟨y, rfl, wy, rfl⟩ := keyLits_int_inv _ hb
    exact ⟨(x, y), ⟨fits_wf wx, fits_wf wy⟩, rfl, rfl⟩

/-- what a list of cells and numbers sums up to at a cell -/
def total : List ((Int × Int) × Int) → Int × Int → Int
  | [], _ => 0
  | (q, d) :: r, p => (if q = p then d else 0) + total r p
theorem total_append : ∀ (a b : List ((Int × Int) × Int)) (p : Int × Int), total (a ++ b) p = total a p + total b p
  | [], b, p => by simp [total]
  | (q, d) :: r, b, p => by rw [List.cons_append, total, total, total_append r b p]; omega

/-- a map of cells and numbers, cell by cell -/
def Cnt (D : DataW Unit) (ops : List ((Int × Int) × Int)) : Prop :=
  ∀ p, FitsP p → Maps.has D (cl p) = ops.any (fun o => o.1 == p) ∧ D.atKey (cl p) (.lit (.int .i64 0)) = .lit (.int .i64 (total ops p))

theorem Cnt.empty : Cnt (.map []) [] := fun _ _ => ⟨rfl, rfl⟩

theorem Cnt.put {D : DataW Unit} {ops : List ((Int × Int) × Int)} (h : Cnt D ops) (hD : IsMap D) {q : Int × Int} (hq : FitsP q) (d x : Int) (hx : x = total ops q + d) :
    Cnt (D.put (cl q) (.lit (.int .i64 x))) (ops ++ [(q, d)]) := by
  intro p hp
  obtain ⟨h1, h2⟩ := h p hp
  by_cases e : q = p
  · subst e
    refine ⟨?_, ?_⟩
    · rw [has_put_same hD (cl_key q)]
      simp
    · rw [atKey_put_same hD (cl_key q), total_append, hx]
      simp [total]
  · have hne : cl p ≠ cl q := fun k => e (cl_inj hq hp k.symm)
    refine ⟨?_, ?_⟩
    · rw [has_put_other hne, h1, List.any_append]
      simp [e]
    · rw [atKey_put_other hne, h2, total_append]
      simp [total, e]

/-- a set of cells, cell by cell -/
def SetIs (D : DataW Unit) (l : List (Int × Int)) : Prop := ∀ p, FitsP p → Maps.has D (cl p) = decide (p ∈ l)
theorem SetIs.empty : SetIs (.map []) [] := fun _ _ => by simp [Maps.has]
theorem SetIs.put {D : DataW Unit} {l : List (Int × Int)} (h : SetIs D l) (hD : IsMap D) {q : Int × Int} (hq : FitsP q) (d : DataW Unit) : SetIs (D.put (cl q) d) (l ++ [q]) := by
  intro p hp
  by_cases e : q = p
  · subst e
    rw [has_put_same hD (cl_key q)]
    simp
  · have hne : cl p ≠ cl q := fun k => e (cl_inj hq hp k.symm)
    rw [has_put_other hne, h p hp]
    have : ¬ p = q := fun k => e k.symm
    simp [this]
end Go.Proofs.Ythobobgiendcfaa

namespace Go.Proofs.Ythobobgiendcfaa
open Go.RowKit Go.Maps Go.ChangeMaps Go.WideElems

set_option maxRecDepth 20000 in
theorem keyLaw : WideMaps.KeyLaw Try.prog 87 := deep_law_laid Try.laidOut (m := 2) (by omega) Try.row53 (by kernel_rfl) Try.wide53

theorem setBlock_twice (w : World) (b : Nat) (o o' : Obj) : setBlock (setBlock w b o) b o' = setBlock w b o' := by
  unfold setBlock
  simp

theorem setBlock_grown {w : World} {b : Nat} {es : Array MapEntry} {clock : Nat} (hb : w.heap[b]? = some (.map es clock)) (o : Obj) : w.grownBy (setBlock w b o) (some b) :=
  ⟨rfl, rfl, rfl, by simp [setBlock], fun i _ hi => heap_setBlock_other hb _ (fun e => hi (by rw [e]))⟩

/-- the entry's step: a world in which the map holds the same numbers -/
theorem entry_step {w : World} {B n : Nat} {D : DataW Unit} (h : w.ownsMap Try.prog 87 (plainElem Try.prog 3) B n D) (hn : n < maxLen) {p : Int × Int} (hp : FitsP p) :
    ∃ (c : Int) (st : Nat) (w1 : World), D.atKey (cl p) (.lit (.int .i64 0)) = .lit (.int .i64 c) ∧ (Lit.int .i64 c).wf = true ∧
      (Instr.lookup 179 (.map (some B)) (cellV p) false).run Try.prog w = .ok (.int .i64 c) w ∧
      (Instr.mapEntry 179 (.map (some B)) (cellV p)).run Try.prog w = .ok (.tuple #[.int .i64 c, .int .i64 st]) w1 ∧
      (Instr.lookup 179 (.map (some B)) (cellV p) false).run Try.prog w1 = .ok (.int .i64 c) w1 ∧
      w.grownBy w1 (some B) ∧
      ∀ x : Int, (Lit.int .i64 x).wf = true → ∃ w2, (Instr.entryStore 179 (.map (some B)) (.int .i64 st) (.int .i64 x)).run Try.prog w1 = .ok () w2 ∧
        w2.ownsMap Try.prog 87 (plainElem Try.prog 3) B (n + 1) (D.put (cl p) (.lit (.int .i64 x))) ∧ w.grownBy w2 (some B) := by
  have hkey := key_cell hp
  obtain ⟨c, hlook, hat, hwc⟩ := h.lookup_int law Try.underlying179 Try.underlying3 (Try.zero3 w) hkey
  have h0 := h
  obtain ⟨es, clock, hb, F, hs, rfl⟩ := h
  obtain ⟨v0, st, es1, clock1, hent, _, hstore⟩ := entry_then_store keyLaw Try.underlying179 Try.zero3 hb F hkey
  have hb1 : (setBlock w B (.map es1 clock1)).heap[B]? = some (.map es1 clock1) := heap_setBlock_same hb _
  have both : v0 = .int .i64 c ∧ (Instr.lookup 179 (.map (some B)) (cellV p) false).run Try.prog (setBlock w B (.map es1 clock1)) = .ok (.int .i64 c) (setBlock w B (.map es1 clock1)) := by
    rcases law.find w hkey es.toList F.keys with ⟨h1, h2⟩ | ⟨j, e0, h1, h2, h3⟩
    · have hent2 : (Instr.mapEntry 179 (.map (some B)) (cellV p)).run Try.prog w = .ok (.tuple #[.int .i64 0, goInt clock]) (setBlock w B (.map (es.push ⟨cellV p, .int .i64 0, clock⟩) (clock + 1))) := by
        simp [Instr.mapEntry, run_underlying Try.underlying179, MapKept.run_getObj_map hb, law.check w false hkey, h1, Try.zero3 w, MapKept.run_setObj_map _ hb, Result.andThen, setBlock]
      have hupd : (Instr.mapUpdate 179 (.map (some B)) (cellV p) (.int .i64 0)).run Try.prog w = .ok () (setBlock w B (.map (es.push ⟨cellV p, .int .i64 0, clock⟩) (clock + 1))) := by
        simp [Instr.mapUpdate, run_underlying Try.underlying179, MapKept.run_getObj_map hb, law.check w false hkey, h1, MapKept.run_setObj_map _ hb, Result.andThen, setBlock]
      rw [hent] at hent2
      simp only [Result.ok.injEq, Value.tuple.injEq] at hent2
      obtain ⟨e1, e2⟩ := hent2
      obtain ⟨w', hrun, hown', _⟩ := h0.update law Try.underlying179 hn hkey (plainElem_int (H := Unit) Try.underlying3 (show (Lit.int .i64 0).wf = true by decide))
      rw [hupd] at hrun
      simp only [Result.ok.injEq, true_and] at hrun
      rw [← hrun, ← e2] at hown'
      obtain ⟨c', hl', hat', _⟩ := hown'.lookup_int law Try.underlying179 Try.underlying3 (Try.zero3 _) hkey
      rw [atKey_put_same h0.isMap (cl_key p)] at hat'
      have hz : (Instr.lookup 179 (.map (some B)) (cellV p) false).run Try.prog w = .ok (.int .i64 0) w := by
        simp [Instr.lookup, run_underlying Try.underlying179, MapKept.run_getObj_map hb, law.check w es.isEmpty hkey, h1, Result.andThen]
      rw [hlook] at hz
      simp only [Result.ok.injEq, Value.int.injEq, true_and, and_true] at hz
      simp at hat'
      simp at e1
      rw [← hat'] at hl'
      rw [hz]
      exact ⟨e1.1, hl'⟩
    · have hj : es[j]? = some e0 := by simpa using h2
      have hsame : es.modify j (fun e => { e with key := cellV p }) = es := by
        apply Array.ext'
        rw [Array.toList_modify, modify_eq_set _ _ _ _ h2]
        have : ({ e0 with key := cellV p } : MapEntry) = e0 := by rw [← h3]
        rw [this]
        exact set_self _ _ _ h2
      have hent2 : (Instr.mapEntry 179 (.map (some B)) (cellV p)).run Try.prog w = .ok (.tuple #[e0.val, goInt e0.born]) (setBlock w B (.map es clock)) := by
        simp [Instr.mapEntry, run_underlying Try.underlying179, MapKept.run_getObj_map hb, law.check w false hkey, h1, hj, h3, law.stays w hkey, hsame, MapKept.run_setObj_map _ hb, Result.andThen, setBlock]
      rw [hent] at hent2
      simp only [Result.ok.injEq, Value.tuple.injEq] at hent2
      obtain ⟨e1, e2⟩ := hent2
      have hv : (Instr.lookup 179 (.map (some B)) (cellV p) false).run Try.prog w = .ok e0.val w := by
        simp [Instr.lookup, run_underlying Try.underlying179, MapKept.run_getObj_map hb, law.check w es.isEmpty hkey, h1, Result.andThen]
      rw [hlook] at hv
      simp only [Result.ok.injEq, and_true] at hv
      have hown1 : (setBlock w B (.map es clock)).ownsMap (H := Unit) Try.prog 87 (plainElem Try.prog 3) B n (.map ((es.toList.map (rg Try.prog 87 (plainElem Try.prog 3))).foldr DataW.insert [])) := ⟨es, clock, heap_setBlock_same hb _, F, hs, rfl⟩
      obtain ⟨c', hl', hat', _⟩ := hown1.lookup_int law Try.underlying179 Try.underlying3 (Try.zero3 _) hkey
      rw [hat] at hat'
      simp at hat'
      simp at e1
      rw [← hat'] at hl'
      rw [e2]
      exact ⟨by rw [e1.1, hv], hl'⟩
  obtain ⟨rfl, hl1⟩ := both
  refine ⟨c, st, _, hat, hwc, hlook, hent, hl1, setBlock_grown hb _, fun x hx => ?_⟩
  obtain ⟨es', clock', hst, hup⟩ := hstore _ (.int .i64 x) hb1
  obtain ⟨w', hrun, hown', hgr⟩ := h0.update law Try.underlying179 hn hkey (plainElem_int (H := Unit) Try.underlying3 hx)
  rw [hup] at hrun
  simp only [Result.ok.injEq, true_and] at hrun
  subst hrun
  rw [setBlock_twice] at hst
  exact ⟨_, hst, hown', hgr⟩
end Go.Proofs.Ythobobgiendcfaa
