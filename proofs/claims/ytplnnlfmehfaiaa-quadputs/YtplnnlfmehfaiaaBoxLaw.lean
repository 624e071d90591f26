/- PlaneBoxes: both Bounds answer the same box of every list. The walk of the law itself. -/
import Derived.Test.YtplnnlfmehfaiaaBoxRef
import Derived.ProofKit
import Derived.SizedLaws
import Derived.Deep.SlicePairs
namespace Go.Proofs.Ytplnnlfmehfaiaa
open Go.RowKit

set_option maxHeartbeats 400000 in
theorem bounds_one (b off : Nat) (x y : Int) (w : World) (hb : b < w.heap.size) (hx0 : w.cell? ⟨b, off, none⟩ = some (.int .i64 x)) (hy0 : w.cell? ⟨b, off + 1, none⟩ = some (.int .i64 y)) :
    Calls Try.prog 108 #[.slice (some ⟨b, off, none⟩) 1 1] w fun e w' => e = .returned (.tuple #[.agg #[.int .i64 x, .int .i64 y, .int .i64 x, .int .i64 y], .bool true]) ∧ Below w.heap.size w w' := by
  have hne : b ≠ w.heap.size := by omega
  go_enter Try.func108, Try.ntmps108
  go_wp2
  go_region
  go_wp2
  refine wp_loop_rounds 1 ?_
  rw [rounds_succ]
  go_wp2
  refine bodyPost_ret (v := .tuple #[.agg #[.int .i64 x, .int .i64 y, .int .i64 x, .int .i64 y], .bool true]) ?_ rfl ⟨rfl, ?_⟩
  · simp [results, Try.results108, go_sem]
  · exact (((Below.refl _ _).alloc (Nat.le_refl _) _).alloc (by simp) _).drew

set_option maxHeartbeats 400000 in
theorem bounds_none (a : Option Addr) (c : Nat) (w : World) :
    Calls Try.prog 108 #[.slice a 0 c] w fun e w' => e = .returned (.tuple #[.agg #[.int .i64 0, .int .i64 0, .int .i64 0, .int .i64 0], .bool false]) ∧ Below w.heap.size w w' := by
  go_enter Try.func108, Try.ntmps108
  go_wp2
  refine bodyPost_ret (v := .tuple #[.agg #[.int .i64 0, .int .i64 0, .int .i64 0, .int .i64 0], .bool false]) ?_ rfl ⟨rfl, ?_⟩
  · simp [results, Try.results108, go_sem]
  · exact (Below.refl _ _).alloc (Nat.le_refl _) _

theorem Try.info87 : (Try.prog.info? 87).map (fun i => (i.zero, i.size, i.bytes)) = some (some (.agg #[.int .i64 0, .int .i64 0]), 2, 16) := by kernel_rfl

theorem addP (b off i : Nat) : (⟨b, off, none⟩ : Addr).add i = ⟨b, off + i, none⟩ := by unfold Addr.add; split <;> simp_all

/-- the cells of n pairs of numbers, in a row -/
def pairCells (X Y : Nat → Int) (n : Nat) : List Value := (List.range (n * 2)).map fun i => if i % 2 = 0 then .int .i64 (X (i / 2)) else .int .i64 (Y (i / 2))
theorem pairCells_length (X Y : Nat → Int) (n : Nat) : (pairCells X Y n).length = n * 2 := by simp [pairCells]
theorem pairCells_one (X Y : Nat → Int) (n : Nat) (u : Value) (h : u ∈ pairCells X Y n) : u.oneCell' = true := by
  simp only [pairCells, List.mem_map, List.mem_range] at h
  obtain ⟨i, _, rfl⟩ := h
  split <;> rfl
theorem pairCells_at {w : World} {b off n : Nat} {X Y : Nat → Int} (hp : Pairs w b off n X Y) (j : Nat) (u : Value) (h : (pairCells X Y n)[j]? = some u) : w.cell? ((⟨b, off, none⟩ : Addr).add j) = some u := by
  simp only [pairCells, List.getElem?_map, Option.map_eq_some_iff] at h
  obtain ⟨i, hi, rfl⟩ := h
  have hj : j < n * 2 := by
    have := (List.getElem?_eq_some_iff.1 hi).1
    simpa using this
  rw [List.getElem?_range hj] at hi
  simp only [Option.some.injEq] at hi
  subst hi
  obtain ⟨h0, h1⟩ := hp (j / 2) (by omega)
  rw [addP]
  by_cases hm : j % 2 = 0
  · rw [if_pos hm, ← h0]; congr 2; omega
  · rw [if_neg hm, ← h1]; congr 2; omega
theorem pairs_of {w : World} {g n : Nat} {X Y : Nat → Int} (h : ∀ j u, (pairCells X Y n)[j]? = some u → w.cell? ((⟨g, 0, none⟩ : Addr).add j) = some u) : Pairs w g 0 n X Y := by
  intro j hj
  have h0 := h (j * 2) (.int .i64 (X j)) (by simp [pairCells, List.getElem?_range (show j * 2 < n * 2 by omega)])
  have h1 := h (j * 2 + 1) (.int .i64 (Y j)) (by
    rw [pairCells, List.getElem?_map, List.getElem?_range (show j * 2 + 1 < n * 2 by omega)]
    simp only [Option.map_some, Option.some.injEq]
    rw [if_neg (by omega), show (j * 2 + 1) / 2 = j by omega])
  rw [addP] at h0 h1
  exact ⟨h0, by rw [← h1]; congr 2⟩

set_option maxHeartbeats 400000 in
theorem cells_some (b off n c : Nat) (X Y : Nat → Int) (w : World) (hn : n * 16 ≤ 140737488355328) (hp : Pairs w b off n X Y) :
    Calls Try.prog 82 #[.slice (some ⟨b, off, none⟩) n c] w fun e w' => ∃ v, e = .returned v ∧ Below w.heap.size w w' ∧
      ((n = 0 ∧ v = .slice none 0 0) ∨ ∃ g cap, v = .slice (some ⟨g, 0, none⟩) n cap ∧ w.heap.size ≤ g ∧ g < w'.heap.size ∧ n ≤ cap ∧ cap ≤ maxLen ∧ Pairs w' g 0 n X Y) := by
  obtain ⟨i0, hi, hz0, hz1, hz2⟩ := info_parts Try.info87
  go_enter Try.func82, Try.ntmps82
  go_wp2_with (at_builtin; refine wpList_append_own _ rfl _ _ 69 rfl w.heap.size 87 i0 (.agg #[.int .i64 0, .int .i64 0]) 2 16 Try.underlying69 hi hz0 hz1 hz2 rfl (by decide) (.slice none 0 0) 0 [] rfl (World.ownsRow_nil _ _ _ _) ⟨b, off, none⟩ n c (pairCells X Y n) rfl (pairCells_length X Y n) (pairCells_at hp) (pairCells_one X Y n) (by unfold maxLen; omega) (by omega) (Nat.le_refl _) ?_; intro v' w1 hown hgrow hnil)
  go_ret
  refine ⟨v', rfl, (Below.refl _ _).grown hgrow (Nat.le_refl _) (by intro k hk; simp [Value.ownBlock] at hk), ?_⟩
  rw [Nat.zero_add, List.nil_append] at hown
  rcases id hown with ⟨_, ⟨hv, h0⟩ | ⟨g, cap, cur, hv, hg, hblk, hcap, hmax, _, _⟩⟩
  · exact Or.inl ⟨h0, hv⟩
  · exact Or.inr ⟨g, cap, hv, hg, (hown.lt g (by rw [hv]; rfl)).2, hcap, hmax, pairs_of (hown.cells (by rw [hv]; rfl))⟩

set_option maxHeartbeats 400000 in
theorem cells_nil (w : World) : Calls Try.prog 82 #[.slice none 0 0] w fun e w' => e = .returned (.slice none 0 0) ∧ w' = w := by
  go_enter Try.func82, Try.ntmps82
  go_wp2
  go_ret
  exact ⟨rfl, rfl⟩
set_option maxHeartbeats 400000 in
theorem cells_zero (ad : Addr) (c : Nat) (w : World) : Calls Try.prog 82 #[.slice (some ad) 0 c] w fun e w' => e = .returned (.slice none 0 0) ∧ Below w.heap.size w w' := by
  obtain ⟨i0, hi, hz0, hz1, hz2⟩ := info_parts Try.info87
  go_enter Try.func82, Try.ntmps82
  go_wp2_with (at_builtin; refine wpList_append_own _ rfl _ _ 69 rfl w.heap.size 87 i0 (.agg #[.int .i64 0, .int .i64 0]) 2 16 Try.underlying69 hi hz0 hz1 hz2 rfl (by decide) (.slice none 0 0) 0 [] rfl (World.ownsRow_nil _ _ _ _) ad 0 c [] rfl rfl (by simp) (by simp) (by unfold maxLen; omega) (by omega) (Nat.le_refl _) ?_; intro v' w1 hown hgrow hnil)
  go_ret
  refine ⟨?_, (Below.refl _ _).grown hgrow (Nat.le_refl _) (by intro k hk; simp [Value.ownBlock] at hk)⟩
  have hv : v' = .slice none 0 0 := hnil.2 ⟨trivial, trivial⟩
  rw [hv]
  rfl
end Go.Proofs.Ytplnnlfmehfaiaa

namespace Go.Proofs.Ytplnnlfmehfaiaa
open Go.ChangeShapes Go.WideShapes Go.ChangeAt Go.RowKit Go.Deep

theorem Try.own : ownKnob Try.prog.godebug = none := by kernel_rfl
theorem Try.laidOut : laidOutB Try.prog = true := by kernel_rfl
theorem Try.bytes87 : Try.prog.bytesOf 87 = 16 := by kernel_rfl
theorem Try.cells3 : Try.prog.cellsOf 3 = 1 := by kernel_rfl
theorem Try.cells87 : Try.prog.cellsOf 87 = 2 := by kernel_rfl

/-- a slice's value over n pairs of numbers -/
def IsRow (w : World) (v : Value) (n : Nat) (X Y : Nat → Int) : Prop :=
  ∃ a c, v = .slice a n c ∧ n ≤ c ∧ c ≤ maxLen ∧ (a = none → c = 0) ∧ (n = 0 ∨ ∃ b off, a = some ⟨b, off, none⟩ ∧ b < w.heap.size ∧ Pairs w b off n X Y)

theorem IsRow.below {w w' : World} {v : Value} {n : Nat} {X Y : Nat → Int} (h : IsRow w v n X Y) (hb : Below w.heap.size w w') : IsRow w' v n X Y := by
  obtain ⟨a, c, hv, hc, hm, hn, h⟩ := h
  refine ⟨a, c, hv, hc, hm, hn, ?_⟩
  rcases h with h | ⟨b, off, ha, hlt, hp⟩
  · exact Or.inl h
  · refine Or.inr ⟨b, off, ha, Nat.lt_of_lt_of_le hlt hb.size, fun j hj => ?_⟩
    rw [hb.cell (p := ⟨b, off + j * 2, none⟩) hlt, hb.cell (p := ⟨b, off + j * 2 + 1, none⟩) hlt]
    exact hp j hj
theorem IsRow.nil (w : World) (X Y : Nat → Int) : IsRow w (.slice none 0 0) 0 X Y := ⟨none, 0, rfl, Nat.le_refl _, Nat.zero_le _, fun _ => rfl, Or.inl rfl⟩

/-- within int's bounds -/
def Fits (x : Int) : Prop := -9223372036854775808 ≤ x ∧ x ≤ 9223372036854775807

theorem fits_of_wf {x : Int} (h : (Lit.int .i64 x).wf = true) : Fits x := by
  have h1 : IntKind.i64.min = -9223372036854775808 := rfl
  have h2 : IntKind.i64.max = 9223372036854775807 := rfl
  simp only [Lit.wf, Bool.and_eq_true, decide_eq_true_eq] at h
  unfold Fits
  omega

theorem open_row {H : Type} {enc : TypeId × Value → H} {W : World} {v : Value} {d : DataW H} {ps : List MemPlace} {ts : List TypeId} {ds : List (DataW H)} (j : Nat)
    (hs : (DataW.weightsEach Try.prog ts ds).all (· ≤ reachBytes) = true) (hj : ts[j]? = some 69) (hd : ds[j]? = some d)
    (h : DataW.Trod enc Try.prog W 0 (fun _ => true) true 69 v d ps) (hlt : ∀ x ∈ ps, x.block < W.heap.size) (hv : ∃ a len cap, v = .slice a len cap) :
    ∃ (n : Nat) (X Y : Nat → Int), IsRow W v n X Y ∧ n * 16 ≤ 140737488351232 ∧ ∀ i, i < n → Fits (X i) ∧ Fits (Y i) := by
  obtain ⟨a0, len, cap, rfl⟩ := hv
  obtain ⟨fuel, hf⟩ := h
  rcases open_slice_pairs Try.underlying69 Try.underlying87 Try.cells87 rfl rfl Try.cells3 Try.cells3 hf with ⟨hcs, hx⟩ | ⟨a, len', cap', m, nf, V0, V1, D0, D1, P0, P1, hcs, _, hl, hmx, hm, hx, hcell⟩
  · simp [Value.cells] at hcs
    obtain ⟨rfl, rfl, rfl⟩ := hcs
    exact ⟨0, fun _ => 0, fun _ => 0, IsRow.nil _ _ _, by omega, fun i hi => by omega⟩
  · simp [Value.cells] at hcs
    obtain ⟨rfl, rfl, rfl⟩ := hcs
    simp only [if_true] at hm
    subst hm
    simp only [Prod.mk.injEq] at hx
    obtain ⟨hx1, hx2⟩ := hx
    have hsz : len * 16 ≤ 140737488351232 := by
      rw [hx1] at hd
      have := sized_slice hs (j := j) (t := 69) (e := 87) hj hd Try.underlying69
      rw [Try.bytes87] at this
      simp only [List.length_map, List.length_range, reachBytes] at this
      omega
    have each : ∀ i, i < m → V0 i = .int .i64 (intOf (V0 i)) ∧ V1 i = .int .i64 (intOf (V1 i)) ∧ Fits (intOf (V0 i)) ∧ Fits (intOf (V1 i)) := by
      intro i hi
      obtain ⟨_, _, t0, t1⟩ := hcell i hi
      obtain ⟨x, e0, _, w0⟩ := DataW.trod_int Try.underlying3 t0
      obtain ⟨y, e1, _, w1⟩ := DataW.trod_int Try.underlying3 t1
      simp only [List.cons.injEq, and_true] at e0 e1
      rw [e0, e1]
      exact ⟨rfl, rfl, fits_of_wf w0, fits_of_wf w1⟩
    refine ⟨len, fun i => intOf (V0 i), fun i => intOf (V1 i), ⟨some a, m, rfl, hl, hmx, (fun e => by cases e), ?_⟩, hsz, fun i hi => (each i (by omega)).2.2⟩
    by_cases h0 : len = 0
    · exact Or.inl h0
    · right
      obtain ⟨b, off, spot⟩ := a
      have hspot : spot = none := by simpa [Addr.add] using World.cell?_spot (hcell 0 (by omega)).1
      subst hspot
      refine ⟨b, off, rfl, hlt (.cell b off) (by rw [hx2]; exact List.mem_append_left _ (MemPlace.mem_row.2 ⟨0, by omega, by simp⟩)), fun i hi => ?_⟩
      have hc := hcell i (by omega)
      rw [addP, addP, (each i (by omega)).1, (each i (by omega)).2.1] at hc
      exact ⟨hc.1, hc.2.1⟩
end Go.Proofs.Ytplnnlfmehfaiaa

namespace Go.Proofs.Ytplnnlfmehfaiaa
open Go.RowKit

set_option maxHeartbeats 400000 in
theorem ref_bounds_none (a : Option Addr) (c : Nat) (w : World) :
    Calls Try.prog 46 #[.slice a 0 c] w fun e w' => e = .returned (.tuple #[.agg #[.int .i64 0, .int .i64 0, .int .i64 0, .int .i64 0], .bool false]) ∧ Below w.heap.size w w' := by
  go_enter Try.func46, Try.ntmps46
  go_wp2
  refine wp_loop_rounds 1 ?_
  rw [rounds_succ]
  go_wp2
  refine bodyPost_ret (v := .tuple #[.agg #[.int .i64 0, .int .i64 0, .int .i64 0, .int .i64 0], .bool false]) ?_ rfl ⟨rfl, ?_⟩
  · simp [results, Try.results46, go_sem]
  · exact ((Below.refl _ _).alloc (Nat.le_refl _) _).alloc (by simp) _

/-- what both answer -/
def boxOf (X Y : Nat → Int) (n : Nat) : Value := .tuple #[.agg #[.int .i64 (lo' X n), .int .i64 (lo' Y n), .int .i64 (hi' X n), .int .i64 (hi' Y n)], .bool (decide (0 < n))]

theorem boxOf_zero (X Y : Nat → Int) : boxOf X Y 0 = .tuple #[.agg #[.int .i64 0, .int .i64 0, .int .i64 0, .int .i64 0], .bool false] := rfl
theorem boxOf_pos (X Y : Nat → Int) (n : Nat) (h : 0 < n) : boxOf X Y n = .tuple #[.agg #[.int .i64 (lo X (n - 1)), .int .i64 (lo Y (n - 1)), .int .i64 (hi X (n - 1)), .int .i64 (hi Y (n - 1))], .bool true] := by
  cases n with
  | zero => omega
  | succ n => simp [boxOf, lo', hi']

theorem bounds_any (v : Value) (n : Nat) (X Y : Nat → Int) (w : World) (h : IsRow w v n X Y) :
    Calls Try.prog 108 #[v] w fun e w' => e = .returned (boxOf X Y n) ∧ Below w.heap.size w w' := by
  obtain ⟨a, c, rfl, hc, hm, _, h⟩ := h
  by_cases h0 : n = 0
  · subst h0; rw [boxOf_zero]; exact bounds_none a c w
  · rcases h with h | ⟨b, off, rfl, hb, hp⟩
    · exact absurd h h0
    rw [boxOf_pos _ _ _ (by omega)]
    by_cases h1 : c = 1
    · subst h1
      have hn : n = 1 := by omega
      subst hn
      have h := hp 0 (by omega)
      exact bounds_one b off (X 0) (Y 0) w hb (by simpa using h.1) (by simpa using h.2)
    · exact bounds_some b off n c X Y w (by omega) hc hm hb hp h1

theorem ref_any (v : Value) (n : Nat) (X Y : Nat → Int) (w : World) (h : IsRow w v n X Y) :
    Calls Try.prog 46 #[v] w fun e w' => e = .returned (boxOf X Y n) ∧ Below w.heap.size w w' := by
  obtain ⟨a, c, rfl, hc, hm, _, h⟩ := h
  by_cases h0 : n = 0
  · subst h0; rw [boxOf_zero]; exact ref_bounds_none a c w
  · rcases h with h | ⟨b, off, rfl, hb, hp⟩
    · exact absurd h h0
    · exact ref_bounds b off n c X Y w hc hm hb hp

theorem cells_any (v : Value) (n : Nat) (X Y : Nat → Int) (w : World) (hn : n * 16 ≤ 140737488355328) (h : IsRow w v n X Y) :
    Calls Try.prog 82 #[v] w fun e w' => ∃ u, e = .returned u ∧ Below w.heap.size w w' ∧ IsRow w' u n X Y := by
  obtain ⟨a, c, rfl, hc, hm, ha, h⟩ := h
  by_cases h0 : n = 0
  · subst h0
    cases a with
    | none =>
      have h0 := ha rfl
      subst h0
      refine (cells_nil w).mono ?_
      rintro e w' ⟨rfl, rfl⟩
      exact ⟨_, rfl, Below.refl _ _, IsRow.nil _ _ _⟩
    | some ad =>
      refine (cells_zero ad c w).mono ?_
      rintro e w' ⟨rfl, hb⟩
      exact ⟨_, rfl, hb, IsRow.nil _ _ _⟩
  · rcases h with h | ⟨b, off, rfl, hb, hp⟩
    · exact absurd h h0
    refine (cells_some b off n c X Y w hn hp).mono ?_
    rintro e w' ⟨u, rfl, hb', hu⟩
    refine ⟨u, rfl, hb', ?_⟩
    rcases hu with ⟨h1, rfl⟩ | ⟨g, cap, rfl, _, hg, hcap, hmx, hP⟩
    · exact absurd h1 h0
    · exact ⟨_, cap, rfl, hcap, hmx, (fun e => by cases e), Or.inr ⟨g, 0, rfl, hg, hP⟩⟩

theorem boxes_eq (a b c d : Int) (w : World) : (binOp .eql 81 (.agg #[.int .i64 a, .int .i64 b, .int .i64 c, .int .i64 d]) (.agg #[.int .i64 a, .int .i64 b, .int .i64 c, .int .i64 d])).run Try.prog w = .ok (.bool true) w := by
  have hS : Try.prog.underlying 81 = some (.struct (Try.prog.fieldsOf 81)) := by kernel_rfl
  have hp : Try.prog.stoodInHeld 81 = false := by kernel_rfl
  rw [run_eql_struct, show (10000 : Nat) = 9999 + 1 from rfl, run_equalIn_agg w 9999 81 _ _ hS hp]
  simp only [Program.fieldsOf, Try.underlying81]
  go_simp

end Go.Proofs.Ytplnnlfmehfaiaa
