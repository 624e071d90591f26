/- PlaneBoxes: both Bounds answer the same box of every list. The walk of the law itself. -/
import Derived.Test.YtbfkmlejadpdgaaBoxWalk
import Derived.Test.YtbfkmlejadpdgaaBoxRef
import Derived.Test.YtbfkmlejadpdgaaOpen
namespace Go.Proofs.Ytbfkmlejadpdgaa
open Go.RowKit

/-- what both answer -/
def boxOf (X Y : Nat → Int) (n : Nat) : Value := .tuple #[.agg #[.int .i64 (lo' X n), .int .i64 (lo' Y n), .int .i64 (hi' X n), .int .i64 (hi' Y n)], .bool (decide (0 < n))]

theorem boxOf_zero (X Y : Nat → Int) : boxOf X Y 0 = .tuple #[.agg #[.int .i64 0, .int .i64 0, .int .i64 0, .int .i64 0], .bool false] := rfl
theorem boxOf_pos (X Y : Nat → Int) (n : Nat) (h : 0 < n) : boxOf X Y n = .tuple #[.agg #[.int .i64 (lo X (n - 1)), .int .i64 (lo Y (n - 1)), .int .i64 (hi X (n - 1)), .int .i64 (hi Y (n - 1))], .bool true] := by
  cases n with
  | zero => omega
  | succ n => simp [boxOf, lo', hi']

theorem bounds_any (v : Value) (n : Nat) (X Y : Nat → Int) (w : World) (h : IsRow w v n X Y) :
    Calls Try.prog 21 #[v] w fun e w' => e = .returned (boxOf X Y n) ∧ Below w.heap.size w w' := by
  obtain ⟨a, c, rfl, hc, hm, _, h⟩ := h
  by_cases h0 : n = 0
  · subst h0; rw [boxOf_zero]; exact bounds_none a c w
  · rcases h with h | ⟨b, off, rfl, hb, hp⟩
    · exact absurd h h0
    rw [boxOf_pos _ _ _ (by omega)]
    by_cases h1 : c = 1
    · subst h1
      have hn : n = 1 := by omega
      subst hn
      have h := hp 0 (by omega)
      exact bounds_one b off (X 0) (Y 0) w hb (by simpa using h.1) (by simpa using h.2)
    · exact bounds_some b off n c X Y w (by omega) hc hm hb hp h1

theorem ref_any (v : Value) (n : Nat) (X Y : Nat → Int) (w : World) (h : IsRow w v n X Y) :
    Calls Try.prog 22 #[v] w fun e w' => e = .returned (boxOf X Y n) ∧ Below w.heap.size w w' := by
  obtain ⟨a, c, rfl, hc, hm, _, h⟩ := h
  by_cases h0 : n = 0
  · subst h0; rw [boxOf_zero]; exact ref_bounds_none a c w
  · rcases h with h | ⟨b, off, rfl, hb, hp⟩
    · exact absurd h h0
    · exact ref_bounds b off n c X Y w hc hm hb hp

theorem cells_any (v : Value) (n : Nat) (X Y : Nat → Int) (w : World) (hn : n * 16 ≤ 140737488355328) (h : IsRow w v n X Y) :
    Calls Try.prog 10 #[v] w fun e w' => ∃ u, e = .returned u ∧ Below w.heap.size w w' ∧ IsRow w' u n X Y := by
  obtain ⟨a, c, rfl, hc, hm, ha, h⟩ := h
  by_cases h0 : n = 0
  · subst h0
    cases a with
    | none =>
      have h0 := ha rfl
      subst h0
      refine (cells_nil w).mono ?_
      rintro e w' ⟨rfl, rfl⟩
      exact ⟨_, rfl, Below.refl _ _, IsRow.nil _ _ _⟩
    | some ad =>
      refine (cells_zero ad c w).mono ?_
      rintro e w' ⟨rfl, hb⟩
      exact ⟨_, rfl, hb, IsRow.nil _ _ _⟩
  · rcases h with h | ⟨b, off, rfl, hb, hp⟩
    · exact absurd h h0
    refine (cells_some b off n c X Y w hn hp).mono ?_
    rintro e w' ⟨u, rfl, hb', hu⟩
    refine ⟨u, rfl, hb', ?_⟩
    rcases hu with ⟨h1, rfl⟩ | ⟨g, cap, rfl, _, hg, hcap, hmx, hP⟩
    · exact absurd h1 h0
    · exact ⟨_, cap, rfl, hcap, hmx, (fun e => by cases e), Or.inr ⟨g, 0, rfl, hg, hP⟩⟩

theorem boxes_eq (a b c d : Int) (w : World) : (binOp .eql 35 (.agg #[.int .i64 a, .int .i64 b, .int .i64 c, .int .i64 d]) (.agg #[.int .i64 a, .int .i64 b, .int .i64 c, .int .i64 d])).run Try.prog w = .ok (.bool true) w := by
  have hS : Try.prog.underlying 35 = some (.struct (Try.prog.fieldsOf 35)) := by kernel_rfl
  have hp : Try.prog.stoodInHeld 35 = false := by kernel_rfl
  rw [run_eql_struct, show (10000 : Nat) = 9999 + 1 from rfl, run_equalIn_agg w 9999 35 _ _ hS hp]
  simp only [Program.fieldsOf, Try.underlying35]
  go_simp

set_option maxHeartbeats 400000 in
theorem law_any (v : Value) (n : Nat) (X Y : Nat → Int) (w : World) (hn : n * 16 ≤ 140737488355328) (h : IsRow w v n X Y) :
    Calls Try.prog 6 #[v] w fun e w' => e = .returned (.bool true) ∧ Below w.heap.size w w' := by
  go_enter Try.func6, Try.ntmps6
  go_wp2_with fail
  refine (cells_any v n X Y w hn h).mono ?_
  rintro e w1 ⟨u, rfl, hb1, hr1⟩
  go_wp2_with fail
  refine (bounds_any u n X Y w1 hr1).mono ?_
  rintro e w2 ⟨rfl, hb2⟩
  have hb12 : Below w.heap.size w w2 := hb1.trans (hb2.mono hb1.size)
  unfold boxOf
  go_wp2_with fail
  refine (ref_any v n X Y _ (h.below (hb12.alloc hb12.size _))).mono ?_
  rintro e w3 ⟨rfl, hb3⟩
  have hz3 : w2.heap.size < w3.heap.size := by have := hb3.size; simp at this; omega
  have hb123 : Below w.heap.size w w3 := (hb12.alloc hb12.size _).trans (hb3.mono (by simp; have := hb12.size; omega))
  have hc0 := fun o => hb3.cell (p := ⟨w2.heap.size, o, none⟩) (by simp)
  simp only [World.cell?_alloc_new] at hc0
  have c0 := hc0 0
  have c1 := hc0 1
  have c2 := hc0 2
  have c3 := hc0 3
  simp at c0 c1 c2 c3
  clear hc0
  unfold boxOf
  go_wp2_with fail
  refine (bounds_one (w3.heap.size + 1) 0 1 0 _ (by simp) (by rw [World.cell?_alloc2_new]; rfl) (by rw [World.cell?_alloc2_new]; rfl)).mono ?_
  rintro e w4 ⟨rfl, hb4⟩
  have hz4 : w3.heap.size + 1 < w4.heap.size := by have := hb4.size; simp at this; omega
  have hb1234 : Below w.heap.size w w4 := ((hb123.alloc hb123.size _).alloc (by simp; have := hb123.size; omega) _).trans (hb4.mono (by simp; have := hb123.size; omega))
  have d0 := hb4.cell (p := ⟨w2.heap.size, 0, none⟩) (by simp; omega)
  have d1 := hb4.cell (p := ⟨w2.heap.size, 1, none⟩) (by simp; omega)
  have d2 := hb4.cell (p := ⟨w2.heap.size, 2, none⟩) (by simp; omega)
  have d3 := hb4.cell (p := ⟨w2.heap.size, 3, none⟩) (by simp; omega)
  have e0 := hb4.cell (p := ⟨w3.heap.size, 0, none⟩) (by simp; omega)
  have e1 := hb4.cell (p := ⟨w3.heap.size, 1, none⟩) (by simp; omega)
  have e2 := hb4.cell (p := ⟨w3.heap.size, 2, none⟩) (by simp; omega)
  have e3 := hb4.cell (p := ⟨w3.heap.size, 3, none⟩) (by simp; omega)
  rw [World.cell?_alloc2_first] at e0 e1 e2 e3
  rw [World.cell?_alloc_past _ _ _ (by simp; omega), World.cell?_alloc_past _ _ _ hz3] at d0 d1 d2 d3
  rw [c0] at d0
  rw [c1] at d1
  rw [c2] at d2
  rw [c3] at d3
  simp at e0 e1 e2 e3
  have heq := boxes_eq (lo' X n) (lo' Y n) (hi' X n) (hi' Y n)
  clear c0 c1 c2 c3
  have hz24 : w2.heap.size < w4.heap.size := by omega
  have hz34 : w3.heap.size < w4.heap.size := by omega
  go_wp2_with fail
  go_ret
  exact ⟨rfl, hb1234.alloc hb1234.size _⟩
end Go.Proofs.Ytbfkmlejadpdgaa
