/- PlaneBoxes: both Bounds answer the same box of every list. The walk of the law itself. -/
import Derived.Test.YtgipjplifndniaaGreatDoorRows
import Derived.WalkKit
import Derived.WalkSpells
import Derived.WalkLawsBesides
import Derived.RegionTactic
import Derived.BigRegion
import Derived.ProofKit
import Derived.SizedLaws
import Derived.Deep.SlicePairs
import Derived.Lib.MinMax
import Derived.Deep.CutRange
import Derived.Deep.LoopGhost
namespace Go.Proofs.YtgipjplifndniaaGreatDoor
open Go.RowKit

def lo (f : Nat → Int) : Nat → Int
  | 0 => f 0
  | k + 1 => min (lo f k) (f (k + 1))
def hi (f : Nat → Int) : Nat → Int
  | 0 => f 0
  | k + 1 => max (hi f k) (f (k + 1))

def Pairs (w : World) (b off n : Nat) (X Y : Nat → Int) : Prop :=
  ∀ j, j < n → w.cell? ⟨b, off + j * 2, none⟩ = some (.int .i64 (X j)) ∧ w.cell? ⟨b, off + j * 2 + 1, none⟩ = some (.int .i64 (Y j))


structure Four (w : World) (g : Nat) (a b c d : Int) : Prop where
  lt : g < w.heap.size
  c0 : w.cell? ⟨g, 0, none⟩ = some (.int .i64 a)
  c1 : w.cell? ⟨g, 1, none⟩ = some (.int .i64 b)
  c2 : w.cell? ⟨g, 2, none⟩ = some (.int .i64 c)
  c3 : w.cell? ⟨g, 3, none⟩ = some (.int .i64 d)
  f0 : w.frozen? ⟨g, 0, none⟩ = false
  f1 : w.frozen? ⟨g, 1, none⟩ = false
  f2 : w.frozen? ⟨g, 2, none⟩ = false
  f3 : w.frozen? ⟨g, 3, none⟩ = false


theorem Four.drew {w : World} {g : Nat} {a b c d : Int} (h : Four w g a b c d) : Four w.drew g a b c d := ⟨h.lt, h.c0, h.c1, h.c2, h.c3, h.f0, h.f1, h.f2, h.f3⟩
theorem Four.alloc {w : World} {g : Nat} {a b c d : Int} (h : Four w g a b c d) (o : Obj) : Four (w.alloc o) g a b c d := by
  have hl : (⟨g, 0, none⟩ : Addr).block < w.heap.size := h.lt
  refine ⟨by simp; have := h.lt; omega, ?_, ?_, ?_, ?_, ?_, ?_, ?_, ?_⟩
  · rw [World.cell?_alloc_past _ _ _ h.lt]; exact h.c0
  · rw [World.cell?_alloc_past _ _ _ h.lt]; exact h.c1
  · rw [World.cell?_alloc_past _ _ _ h.lt]; exact h.c2
  · rw [World.cell?_alloc_past _ _ _ h.lt]; exact h.c3
  all_goals rw [World.frozen?_of_block (w := w) (Below.heap_alloc _ _ _ h.lt)]
  · exact h.f0
  · exact h.f1
  · exact h.f2
  · exact h.f3
theorem Four.born (w : World) (a b c d : Int) (t : TypeId) : Four (w.alloc (.cells #[.int .i64 a, .int .i64 b, .int .i64 c, .int .i64 d] t)) w.heap.size a b c d := by
  refine ⟨by simp, ?_, ?_, ?_, ?_, ?_, ?_, ?_, ?_⟩
  all_goals first | (rw [World.cell?_alloc_new]; rfl) | simp [World.frozen?_alloc_new]
theorem Four.other {w : World} {g : Nat} {a b c d : Int} (h : Four w g a b c d) {p : Addr} (hp : p.block ≠ g) (v : Value) : Four (w.setCell p v) g a b c d := by
  have hne : ∀ i, p ≠ (⟨g, i, none⟩ : Addr) := fun i e => hp (by rw [e])
  refine ⟨by simpa [World.setCell] using h.lt, ?_, ?_, ?_, ?_, ?_, ?_, ?_, ?_⟩
  · rw [World.cell?_setCell_other _ _ _ _ (hne 0)]; exact h.c0
  · rw [World.cell?_setCell_other _ _ _ _ (hne 1)]; exact h.c1
  · rw [World.cell?_setCell_other _ _ _ _ (hne 2)]; exact h.c2
  · rw [World.cell?_setCell_other _ _ _ _ (hne 3)]; exact h.c3
  all_goals rw [World.frozen?_setCell]
  · exact h.f0
  · exact h.f1
  · exact h.f2
  · exact h.f3
theorem Four.set0 {w : World} {g : Nat} {a b c d : Int} (h : Four w g a b c d) (v : Int) : Four (w.setCell ⟨g, 0, none⟩ (.int .i64 v)) g v b c d := by
  refine ⟨by simpa [World.setCell] using h.lt, World.cell?_setCell_same _ _ _ h.c0, ?_, ?_, ?_, ?_, ?_, ?_, ?_⟩
  · rw [World.cell?_setCell_other _ _ _ _ (by simp)]; exact h.c1
  · rw [World.cell?_setCell_other _ _ _ _ (by simp)]; exact h.c2
  · rw [World.cell?_setCell_other _ _ _ _ (by simp)]; exact h.c3
  all_goals rw [World.frozen?_setCell]
  · exact h.f0
  · exact h.f1
  · exact h.f2
  · exact h.f3
theorem Four.set1 {w : World} {g : Nat} {a b c d : Int} (h : Four w g a b c d) (v : Int) : Four (w.setCell ⟨g, 1, none⟩ (.int .i64 v)) g a v c d := by
  refine ⟨by simpa [World.setCell] using h.lt, ?_, World.cell?_setCell_same _ _ _ h.c1, ?_, ?_, ?_, ?_, ?_, ?_⟩
  · rw [World.cell?_setCell_other _ _ _ _ (by simp)]; exact h.c0
  · rw [World.cell?_setCell_other _ _ _ _ (by simp)]; exact h.c2
  · rw [World.cell?_setCell_other _ _ _ _ (by simp)]; exact h.c3
  all_goals rw [World.frozen?_setCell]
  · exact h.f0
  · exact h.f1
  · exact h.f2
  · exact h.f3
theorem Four.set2 {w : World} {g : Nat} {a b c d : Int} (h : Four w g a b c d) (v : Int) : Four (w.setCell ⟨g, 2, none⟩ (.int .i64 v)) g a b v d := by
  refine ⟨by simpa [World.setCell] using h.lt, ?_, ?_, World.cell?_setCell_same _ _ _ h.c2, ?_, ?_, ?_, ?_, ?_⟩
  · rw [World.cell?_setCell_other _ _ _ _ (by simp)]; exact h.c0
  · rw [World.cell?_setCell_other _ _ _ _ (by simp)]; exact h.c1
  · rw [World.cell?_setCell_other _ _ _ _ (by simp)]; exact h.c3
  all_goals rw [World.frozen?_setCell]
  · exact h.f0
  · exact h.f1
  · exact h.f2
  · exact h.f3
theorem Four.set3 {w : World} {g : Nat} {a b c d : Int} (h : Four w g a b c d) (v : Int) : Four (w.setCell ⟨g, 3, none⟩ (.int .i64 v)) g a b c v := by
  refine ⟨by simpa [World.setCell] using h.lt, ?_, ?_, ?_, World.cell?_setCell_same _ _ _ h.c3, ?_, ?_, ?_, ?_⟩
  · rw [World.cell?_setCell_other _ _ _ _ (by simp)]; exact h.c0
  · rw [World.cell?_setCell_other _ _ _ _ (by simp)]; exact h.c1
  · rw [World.cell?_setCell_other _ _ _ _ (by simp)]; exact h.c2
  all_goals rw [World.frozen?_setCell]
  · exact h.f0
  · exact h.f1
  · exact h.f2
  · exact h.f3

end Go.Proofs.YtgipjplifndniaaGreatDoor

namespace Go.Proofs.YtgipjplifndniaaGreatDoor
open Go.RowKit

set_option maxHeartbeats 400000 in
theorem bounds_one (b off : Nat) (x y : Int) (w : World) (hb : b < w.heap.size) (hx0 : w.cell? ⟨b, off, none⟩ = some (.int .i64 x)) (hy0 : w.cell? ⟨b, off + 1, none⟩ = some (.int .i64 y)) :
    Calls Tryz.prog 90 #[.slice (some ⟨b, off, none⟩) 1 1] w fun e w' => e = .returned (.tuple #[.agg #[.int .i64 x, .int .i64 y, .int .i64 x, .int .i64 y], .bool true]) ∧ Below w.heap.size w w' := by
  have hne : b ≠ w.heap.size := by omega
  go_enter Tryz.func90, Tryz.ntmps90
  go_wp2
  go_region
  go_wp2
  refine wp_loop_rounds 1 ?_
  rw [rounds_succ]
  go_wp2
  refine bodyPost_ret (v := .tuple #[.agg #[.int .i64 x, .int .i64 y, .int .i64 x, .int .i64 y], .bool true]) ?_ rfl ⟨rfl, ?_⟩
  · simp [results, Tryz.results90, go_sem]
  · exact (((Below.refl _ _).alloc (Nat.le_refl _) _).alloc (by simp) _).drew

set_option maxHeartbeats 400000 in
theorem bounds_none (a : Option Addr) (c : Nat) (w : World) :
    Calls Tryz.prog 90 #[.slice a 0 c] w fun e w' => e = .returned (.tuple #[.agg #[.int .i64 0, .int .i64 0, .int .i64 0, .int .i64 0], .bool false]) ∧ Below w.heap.size w w' := by
  go_enter Tryz.func90, Tryz.ntmps90
  go_wp2
  refine bodyPost_ret (v := .tuple #[.agg #[.int .i64 0, .int .i64 0, .int .i64 0, .int .i64 0], .bool false]) ?_ rfl ⟨rfl, ?_⟩
  · simp [results, Tryz.results90, go_sem]
  · exact (Below.refl _ _).alloc (Nat.le_refl _) _

theorem Tryz.info50 : (Tryz.prog.info? 50).map (fun i => (i.zero, i.size, i.bytes)) = some (some (.agg #[.int .i64 0, .int .i64 0]), 2, 16) := by kernel_rfl

theorem addP (b off i : Nat) : (⟨b, off, none⟩ : Addr).add i = ⟨b, off + i, none⟩ := by unfold Addr.add; split <;> simp_all

def pairCells (X Y : Nat → Int) (n : Nat) : List Value := (List.range (n * 2)).map fun i => if i % 2 = 0 then .int .i64 (X (i / 2)) else .int .i64 (Y (i / 2))
theorem pairCells_length (X Y : Nat → Int) (n : Nat) : (pairCells X Y n).length = n * 2 := by simp [pairCells]
theorem pairCells_one (X Y : Nat → Int) (n : Nat) (u : Value) (h : u ∈ pairCells X Y n) : u.oneCell' = true := by
  simp only [pairCells, List.mem_map, List.mem_range] at h
  obtain ⟨i, _, rfl⟩ := h
  split <;> rfl
theorem pairCells_at {w : World} {b off n : Nat} {X Y : Nat → Int} (hp : Pairs w b off n X Y) (j : Nat) (u : Value) (h : (pairCells X Y n)[j]? = some u) : w.cell? ((⟨b, off, none⟩ : Addr).add j) = some u := by
  simp only [pairCells, List.getElem?_map, Option.map_eq_some_iff] at h
  obtain ⟨i, hi, rfl⟩ := h
  have hj : j < n * 2 := by
    have := (List.getElem?_eq_some_iff.1 hi).1
    simpa using this
  rw [List.getElem?_range hj] at hi
  simp only [Option.some.injEq] at hi
  subst hi
  obtain ⟨h0, h1⟩ := hp (j / 2) (by omega)
  rw [addP]
  by_cases hm : j % 2 = 0
  · rw [if_pos hm, ← h0]; congr 2; omega
  · rw [if_neg hm, ← h1]; congr 2; omega
theorem pairs_of {w : World} {g n : Nat} {X Y : Nat → Int} (h : ∀ j u, (pairCells X Y n)[j]? = some u → w.cell? ((⟨g, 0, none⟩ : Addr).add j) = some u) : Pairs w g 0 n X Y := by
  intro j hj
  have h0 := h (j * 2) (.int .i64 (X j)) (by simp [pairCells, List.getElem?_range (show j * 2 < n * 2 by omega)])
  have h1 := h (j * 2 + 1) (.int .i64 (Y j)) (by
    rw [pairCells, List.getElem?_map, List.getElem?_range (show j * 2 + 1 < n * 2 by omega)]
    simp only [Option.map_some, Option.some.injEq]
    rw [if_neg (by omega), show (j * 2 + 1) / 2 = j by omega])
  rw [addP] at h0 h1
  exact ⟨h0, by rw [← h1]; congr 2⟩

end Go.Proofs.YtgipjplifndniaaGreatDoor

namespace Go.Proofs.YtgipjplifndniaaGreatDoor
open Go.ChangeShapes Go.WideShapes Go.ChangeAt Go.RowKit Go.Deep

theorem Tryz.own : ownKnob Tryz.prog.godebug = none := by kernel_rfl
theorem Tryz.laidOut : laidOutB Tryz.prog = true := by kernel_rfl
theorem Tryz.bytes50 : Tryz.prog.bytesOf 50 = 16 := by kernel_rfl
theorem Tryz.cells3 : Tryz.prog.cellsOf 3 = 1 := by kernel_rfl
theorem Tryz.cells50 : Tryz.prog.cellsOf 50 = 2 := by kernel_rfl

def IsRow (w : World) (v : Value) (n : Nat) (X Y : Nat → Int) : Prop :=
  ∃ a c, v = .slice a n c ∧ n ≤ c ∧ c ≤ maxLen ∧ (a = none → c = 0) ∧ (n = 0 ∨ ∃ b off, a = some ⟨b, off, none⟩ ∧ b < w.heap.size ∧ Pairs w b off n X Y)

theorem IsRow.below {w w' : World} {v : Value} {n : Nat} {X Y : Nat → Int} (h : IsRow w v n X Y) (hb : Below w.heap.size w w') : IsRow w' v n X Y := by
  obtain ⟨a, c, hv, hc, hm, hn, h⟩ := h
  refine ⟨a, c, hv, hc, hm, hn, ?_⟩
  rcases h with h | ⟨b, off, ha, hlt, hp⟩
  · exact Or.inl h
  · refine Or.inr ⟨b, off, ha, Nat.lt_of_lt_of_le hlt hb.size, fun j hj => ?_⟩
    rw [hb.cell (p := ⟨b, off + j * 2, none⟩) hlt, hb.cell (p := ⟨b, off + j * 2 + 1, none⟩) hlt]
    exact hp j hj
theorem IsRow.nil (w : World) (X Y : Nat → Int) : IsRow w (.slice none 0 0) 0 X Y := ⟨none, 0, rfl, Nat.le_refl _, Nat.zero_le _, fun _ => rfl, Or.inl rfl⟩

def Fits (x : Int) : Prop := -9223372036854775808 ≤ x ∧ x ≤ 9223372036854775807

theorem fits_of_wf {x : Int} (h : (Lit.int .i64 x).wf = true) : Fits x := by
  have h1 : IntKind.i64.min = -9223372036854775808 := rfl
  have h2 : IntKind.i64.max = 9223372036854775807 := rfl
  simp only [Lit.wf, Bool.and_eq_true, decide_eq_true_eq] at h
  unfold Fits
  omega

theorem open_row {H : Type} {enc : TypeId × Value → H} {W : World} {v : Value} {d : DataW H} {ps : List MemPlace} {ts : List TypeId} {ds : List (DataW H)} (j : Nat)
    (hs : (DataW.weightsEach Tryz.prog ts ds).all (· ≤ reachBytes) = true) (hj : ts[j]? = some 22) (hd : ds[j]? = some d)
    (h : DataW.Trod enc Tryz.prog W 0 (fun _ => true) true 22 v d ps) (hlt : ∀ x ∈ ps, x.block < W.heap.size) (hv : ∃ a len cap, v = .slice a len cap) :
    ∃ (n : Nat) (X Y : Nat → Int), IsRow W v n X Y ∧ n * 16 ≤ 140737488351232 ∧ ∀ i, i < n → Fits (X i) ∧ Fits (Y i) := by
  obtain ⟨a0, len, cap, rfl⟩ := hv
  obtain ⟨fuel, hf⟩ := h
  rcases open_slice_pairs Tryz.underlying22 Tryz.underlying50 Tryz.cells50 rfl rfl Tryz.cells3 Tryz.cells3 hf with ⟨hcs, hx⟩ | ⟨a, len', cap', m, nf, V0, V1, D0, D1, P0, P1, hcs, _, hl, hmx, hm, hx, hcell⟩
  · simp [Value.cells] at hcs
    obtain ⟨rfl, rfl, rfl⟩ := hcs
    exact ⟨0, fun _ => 0, fun _ => 0, IsRow.nil _ _ _, by omega, fun i hi => by omega⟩
  · simp [Value.cells] at hcs
    obtain ⟨rfl, rfl, rfl⟩ := hcs
    simp only [if_true] at hm
    subst hm
    simp only [Prod.mk.injEq] at hx
    obtain ⟨hx1, hx2⟩ := hx
    have hsz : len * 16 ≤ 140737488351232 := by
      rw [hx1] at hd
      have := sized_slice hs (j := j) (t := 22) (e := 50) hj hd Tryz.underlying22
      rw [Tryz.bytes50] at this
      simp only [List.length_map, List.length_range, reachBytes] at this
      omega
    have each : ∀ i, i < m → V0 i = .int .i64 (intOf (V0 i)) ∧ V1 i = .int .i64 (intOf (V1 i)) ∧ Fits (intOf (V0 i)) ∧ Fits (intOf (V1 i)) := by
      intro i hi
      obtain ⟨_, _, t0, t1⟩ := hcell i hi
      obtain ⟨x, e0, _, w0⟩ := DataW.trod_int Tryz.underlying3 t0
      obtain ⟨y, e1, _, w1⟩ := DataW.trod_int Tryz.underlying3 t1
      simp only [List.cons.injEq, and_true] at e0 e1
      rw [e0, e1]
      exact ⟨rfl, rfl, fits_of_wf w0, fits_of_wf w1⟩
    refine ⟨len, fun i => intOf (V0 i), fun i => intOf (V1 i), ⟨some a, m, rfl, hl, hmx, (fun e => by cases e), ?_⟩, hsz, fun i hi => (each i (by omega)).2.2⟩
    by_cases h0 : len = 0
    · exact Or.inl h0
    · right
      obtain ⟨b, off, spot⟩ := a
      have hspot : spot = none := by simpa [Addr.add] using World.cell?_spot (hcell 0 (by omega)).1
      subst hspot
      refine ⟨b, off, rfl, hlt (.cell b off) (by rw [hx2]; exact List.mem_append_left _ (MemPlace.mem_row.2 ⟨0, by omega, by simp⟩)), fun i hi => ?_⟩
      have hc := hcell i (by omega)
      rw [addP, addP, (each i (by omega)).1, (each i (by omega)).2.1] at hc
      exact ⟨hc.1, hc.2.1⟩
end Go.Proofs.YtgipjplifndniaaGreatDoor

namespace Go.Proofs.YtgipjplifndniaaGreatDoor
open Go.RowKit

theorem two_born (w : World) (x y : Int) : Below w.heap.size w ((w.alloc (.cells #[.int .i64 0, .int .i64 0, .int .i64 0, .int .i64 0] 31)).alloc (.cells #[.int .i64 x, .int .i64 y, .int .i64 x, .int .i64 y] 31)).drew ∧
    Four ((w.alloc (.cells #[.int .i64 0, .int .i64 0, .int .i64 0, .int .i64 0] 31)).alloc (.cells #[.int .i64 x, .int .i64 y, .int .i64 x, .int .i64 y] 31)).drew w.heap.size 0 0 0 0 ∧
    Four ((w.alloc (.cells #[.int .i64 0, .int .i64 0, .int .i64 0, .int .i64 0] 31)).alloc (.cells #[.int .i64 x, .int .i64 y, .int .i64 x, .int .i64 y] 31)).drew (w.heap.size + 1) x y x y := by
  refine ⟨(((Below.refl _ _).alloc (Nat.le_refl _) _).alloc (by simp) _).drew, ((Four.born w 0 0 0 0 31).alloc _).drew, ?_⟩
  have hf := (Four.born (w.alloc (Obj.cells #[Value.int IntKind.i64 0, Value.int IntKind.i64 0, Value.int IntKind.i64 0, Value.int IntKind.i64 0] 31)) x y x y 31).drew
  simpa using hf

set_option maxRecDepth 4000 in
set_option maxHeartbeats 400000 in
theorem bounds_some (b off n c : Nat) (X Y : Nat → Int) (w : World) (hn : 0 < n) (hc : n ≤ c) (hm : c ≤ maxLen) (hb : b < w.heap.size) (hp : Pairs w b off n X Y) (h1c : c ≠ 1) :
    Calls Tryz.prog 90 #[.slice (some ⟨b, off, none⟩) n c] w fun e w' => e = .returned (.tuple #[.agg #[.int .i64 (lo X (n - 1)), .int .i64 (lo Y (n - 1)), .int .i64 (hi X (n - 1)), .int .i64 (hi Y (n - 1))], .bool true]) ∧ Below w.heap.size w w' := by
  unfold maxLen at hm
  have h0 := hp 0 hn
  have hx0 : w.cell? ⟨b, off, none⟩ = some (.int .i64 (X 0)) := by simpa using h0.1
  have hy0 : w.cell? ⟨b, off + 1, none⟩ = some (.int .i64 (Y 0)) := by simpa using h0.2
  clear h0
  have hn0 : ((n : Int) == 0) = false := by simp; omega
  have hn1 : (0 : Int) < (n : Int) := by omega
  have hne : b ≠ w.heap.size := by omega
  go_enter Tryz.func90, Tryz.ntmps90
  go_wp2
  go_region
  go_wp2
  go_loopg [31] (n - 1) (fun g i wr => ∃ k : Nat, k + g = n - 1 ∧ i = .int .i64 k ∧ Below w.heap.size w wr ∧ Four wr w.heap.size 0 0 0 0 ∧ Four wr (w.heap.size + 1) (lo X k) (lo Y k) (hi X k) (hi Y k))
  case atStart => exact ⟨0, by omega, rfl, two_born _ _ _⟩
  case round =>
    obtain ⟨k, hk0, rfl, hbel, hz, hq⟩ := hrel
    have hk : k ≤ n - 1 := by omega
    have HK : Hid (k + gk = n - 1) := hk0
    clear hk0
    have hlz := hz.lt
    have hlq := hq.lt
    obtain ⟨_, q0, q1, q2, q3, g0, g1, g2, g3⟩ := id hq
    by_cases hlt : k < n - 1
    · have hcx := (hp (k + 1) (by omega)).1
      have hcy := (hp (k + 1) (by omega)).2
      have hcx' : wr.cell? ⟨b, off + 2 + k * 2, none⟩ = some (.int .i64 (X (k + 1))) := by rw [hbel.cell hb, ← hcx]; congr 2; omega
      have hcy' : wr.cell? ⟨b, off + 2 + k * 2 + 1, none⟩ = some (.int .i64 (Y (k + 1))) := by rw [hbel.cell hb, ← hcy]; congr 2; omega
      clear hcx hcy hx0 hy0 hn0 hn1 hne
      go_wp2
      go_cut [31] from 31 to 59 (fun i wc => i = .int .i64 k ∧ Below w.heap.size w wc ∧ Four wc w.heap.size 0 0 0 0 ∧ Four wc (w.heap.size + 1) (lo X (k + 1)) (lo Y k) (hi X (k + 1)) (hi Y k) ∧ wc.cell? ⟨wr.heap.size, 1, none⟩ = some (.int .i64 (Y (k + 1))) ∧ wr.heap.size < wc.heap.size)
      case first =>
        as_aux_lemma =>
          go_region
          go_wp2
          go_meet
          case rel =>
            exact ⟨rfl, (((hbel.setCell (by simp) _).setCell (by simp) _).alloc (by simp; omega) _).drew, (((hz.other (by simp) _).other (by simp) _).alloc _).drew, (((hq.set0 _).set2 _).alloc _).drew,
              World.cell?_alloc_at _ _ _ _ (by simp), by simp⟩
      case rest =>
        clear hq hz hbel q0 q1 q2 q3 g0 g1 g2 g3 hcx' hcy'
        obtain ⟨rfl, hbel', hz', hq', cy, hwc⟩ := hcut
        have hlq' := hq'.lt
        have HKL : Hid (k < n - 1) := hlt
        obtain ⟨_, p0, p1, p2, p3, f0, f1, f2, f3⟩ := id hq'
        go_wp2
        go_region
        go_wp2
        go_roundg (gk - 1)
        case measure => have := HK.out; have := HKL.out; omega
        case rel =>
          have := HK.out
          have := HKL.out
          exact ⟨k + 1, by omega, by go_num, ((hbel'.setCell (by simp) _).setCell (by simp) _).drew, ((hz'.other (by simp) _).other (by simp) _).drew, ((hq'.set1 _).set3 _).drew⟩
    · have hkn : k = n - 1 := by omega
      subst hkn
      obtain ⟨_, z0, z1, z2, z3, e0, e1, e2, e3⟩ := id hz
      go_wp2
      obtain ⟨_, r0, r1, r2, r3, _, _, _, _⟩ := ((((hz.set0 (lo X (n - 1))).set1 (lo Y (n - 1))).set2 (hi X (n - 1))).set3 (hi Y (n - 1)))
      refine bodyPost_ret (v := .tuple #[.agg #[.int .i64 (lo X (n - 1)), .int .i64 (lo Y (n - 1)), .int .i64 (hi X (n - 1)), .int .i64 (hi Y (n - 1))], .bool true]) ?_ rfl ⟨rfl, ?_⟩
      · simp [results, Tryz.results90, go_sem, r0, r1, r2, r3]
      · exact (((hbel.setCell (by simp) _).setCell (by simp) _).setCell (by simp) _).setCell (by simp) _
end Go.Proofs.YtgipjplifndniaaGreatDoor

namespace Go.Proofs.YtgipjplifndniaaGreatDoor
open Go.RowKit

def lo' (f : Nat → Int) : Nat → Int
  | 0 => 0
  | k + 1 => lo f k
def hi' (f : Nat → Int) : Nat → Int
  | 0 => 0
  | k + 1 => hi f k
structure Mid (w wc : World) (g : Nat) (x y a0 a1 a2 a3 : Int) : Prop where
  bel : Below w.heap.size w wc
  z : Four wc w.heap.size 0 0 0 0
  q : Four wc (w.heap.size + 1) a0 a1 a2 a3
  cx : wc.cell? ⟨g, 0, none⟩ = some (.int .i64 x)
  cy : wc.cell? ⟨g, 1, none⟩ = some (.int .i64 y)
  lt : g < wc.heap.size
  gt : w.heap.size + 1 < g
end Go.Proofs.YtgipjplifndniaaGreatDoor

namespace Go.Proofs.YtgipjplifndniaaGreatDoor
open Go.RowKit

def boxOf (X Y : Nat → Int) (n : Nat) : Value := .tuple #[.agg #[.int .i64 (lo' X n), .int .i64 (lo' Y n), .int .i64 (hi' X n), .int .i64 (hi' Y n)], .bool (decide (0 < n))]

theorem boxOf_zero (X Y : Nat → Int) : boxOf X Y 0 = .tuple #[.agg #[.int .i64 0, .int .i64 0, .int .i64 0, .int .i64 0], .bool false] := rfl
theorem boxOf_pos (X Y : Nat → Int) (n : Nat) (h : 0 < n) : boxOf X Y n = .tuple #[.agg #[.int .i64 (lo X (n - 1)), .int .i64 (lo Y (n - 1)), .int .i64 (hi X (n - 1)), .int .i64 (hi Y (n - 1))], .bool true] := by
  cases n with
  | zero => omega
  | succ n => simp [boxOf, lo', hi']

theorem bounds_any (v : Value) (n : Nat) (X Y : Nat → Int) (w : World) (h : IsRow w v n X Y) :
    Calls Tryz.prog 90 #[v] w fun e w' => e = .returned (boxOf X Y n) ∧ Below w.heap.size w w' := by
  obtain ⟨a, c, rfl, hc, hm, _, h⟩ := h
  by_cases h0 : n = 0
  · subst h0; rw [boxOf_zero]; exact bounds_none a c w
  · rcases h with h | ⟨b, off, rfl, hb, hp⟩
    · exact absurd h h0
    rw [boxOf_pos _ _ _ (by omega)]
    by_cases h1 : c = 1
    · subst h1
      have hn : n = 1 := by omega
      subst hn
      have h := hp 0 (by omega)
      exact bounds_one b off (X 0) (Y 0) w hb (by simpa using h.1) (by simpa using h.2)
    · exact bounds_some b off n c X Y w (by omega) hc hm hb hp h1

end Go.Proofs.YtgipjplifndniaaGreatDoor
