/- level, Level, Kids. -/
import Derived.Test.YtfogedmghhacdaaArOwn
namespace Go.Proofs.Ytfogedmghhacdaa.A
open Go.RowKit

/-- the error's number of what is not there -/
def lack {α : Type} : Option α → Int
  | some _ => 0
  | none => 6
/-- the level of a tenant's own square -/
def levelF (l : List Th) (t : Nat) (id : Int) : Option Int := if id = 0 ∨ id = 1 then some 0 else match ownF l t id with | some x => if x.k = 1 then some x.lv else none | none => none

set_option maxHeartbeats 2000000 in
theorem level_any (b B t : Nat) (id : Int) (r : Raw) (l : List Th) (w : World) (h : RawAt w b r) (hl : ThRow w B r.vth l) (ht : t < 64) (hm : ∀ x ∈ l, x.mask < 18446744073709551616) (hid : -9223372036854775808 ≤ id ∧ id ≤ 9223372036854775807) :
    Calls Try.prog 42 #[.pointer (some ⟨b, 0, none⟩), .int .i64 t, .int .i64 id] w fun e w' => e = .returned (.tuple #[.int .i64 ((levelF l t id).getD 0), .bool (levelF l t id).isSome]) ∧ Below w.heap.size w w' := by
  have ho := fun W hW hW' => own_any b B t id r l W hW hW' ht hm hid
  by_cases h0 : id = 0
  · subst h0
    go_enter Try.func42, Try.ntmps42
    go_wp2_with fail
    go_ret2
    exact ⟨rfl, Below.refl _ _⟩
  · by_cases h1 : id = 1
    · subst h1
      go_enter Try.func42, Try.ntmps42
      go_wp2_with fail
      go_ret2
      exact ⟨rfl, Below.refl _ _⟩
    · have e0 : (id == 0) = false := by simpa using h0
      have e1 : (id == 1) = false := by simpa using h1
      have HL : Hid (levelF l t id = match ownF l t id with | some x => if x.k = 1 then some x.lv else none | none => none) := by
        show _ = _
        unfold levelF
        rw [if_neg (by omega)]
      clear h0 h1
      go_enter Try.func42, Try.ntmps42
      go_wp2_with fail
      refine (ho _ h hl).mono ?_
      rintro e w1 ⟨rfl, hb1⟩
      cases hown : ownF l t id with
      | none =>
        rw [hown] at HL
        have HX : Hid (levelF l t id = none) := HL.out
        simp only [Option.getD_none, Option.isSome_none, noTh, Th.val]
        clear HL hown ho
        go_wp2_with fail
        go_ret2
        rw [HX.out]
        exact ⟨rfl, hb1.alloc hb1.size _⟩
      | some x =>
        rw [hown] at HL
        simp only [Option.getD_some, Option.isSome_some, Th.val]
        clear hown ho
        by_cases hk : x.k = 1
        · have HX : Hid (levelF l t id = some x.lv) := HL.out.trans (if_pos hk)
          rw [hk]
          clear HL
          go_wp2_with fail
          go_ret2
          rw [HX.out]
          exact ⟨rfl, hb1.alloc hb1.size _⟩
        · have HX : Hid (levelF l t id = none) := HL.out.trans (if_neg hk)
          have hk' : (x.k != 1) = true := by simpa using hk
          clear HL hk
          go_wp2_with fail
          go_ret2
          rw [HX.out]
          exact ⟨rfl, hb1.alloc hb1.size _⟩

set_option maxHeartbeats 2000000 in
theorem Level_any (b B t : Nat) (id : Int) (r : Raw) (l : List Th) (w : World) (h : RawAt w b r) (hl : ThRow w B r.vth l) (ht : t < 64) (hm : ∀ x ∈ l, x.mask < 18446744073709551616) (hid : -9223372036854775808 ≤ id ∧ id ≤ 9223372036854775807) :
    Calls Try.prog 28 #[.pointer (some ⟨b, 0, none⟩), .int .i64 t, .int .i64 id] w fun e w' => e = .returned (.tuple #[.int .i64 ((levelF l t id).getD 0), .int .i64 (lack (levelF l t id))]) ∧ Below w.heap.size w w' := by
  have ho := fun W hW hW' => level_any b B t id r l W hW hW' ht hm hid
  have hi := fun W => tenant_yes t ht W
  go_enter Try.func28, Try.ntmps28
  go_wp2_with fail
  refine (hi _).mono ?_
  rintro e w1 ⟨rfl, rfl⟩
  go_wp2_with fail
  refine (ho _ h hl).mono ?_
  rintro e w1 ⟨rfl, hb1⟩
  cases hown : levelF l t id with
  | none =>
    simp only [Option.getD_none, Option.isSome_none]
    go_wp2_with fail
    go_ret2
    rw [hown]
    exact ⟨rfl, hb1⟩
  | some n =>
    simp only [Option.getD_some, Option.isSome_some]
    go_wp2_with fail
    go_ret2
    rw [hown]
    exact ⟨rfl, hb1⟩
theorem Level_no (b : Nat) (t id : Int) (w : World) (ht : ¬ (0 ≤ t ∧ t < 64)) :
    Calls Try.prog 28 #[.pointer (some ⟨b, 0, none⟩), .int .i64 t, .int .i64 id] w fun e w' => e = .returned (.tuple #[.int .i64 0, .int .i64 6]) ∧ w' = w := by
  have hi := fun W => tenant_no t ht W
  go_enter Try.func28, Try.ntmps28
  go_wp2_with fail
  refine (hi _).mono ?_
  rintro e w1 ⟨rfl, rfl⟩
  go_wp2_with fail
  go_ret2
  exact ⟨rfl, rfl⟩

def kidsV (o : Option Th) : Value := match o with | some x => .agg #[.int .i64 x.p0, .int .i64 x.p1, .int .i64 x.p2, .int .i64 x.p3] | none => .agg #[.int .i64 0, .int .i64 0, .int .i64 0, .int .i64 0]
/-- a tenant's own square -/
def squareF (l : List Th) (t : Nat) (id : Int) : Option Th := (ownF l t id).filter fun x => x.k == 1

set_option maxHeartbeats 2000000 in
theorem Kids_any (b B t : Nat) (id : Int) (r : Raw) (l : List Th) (w : World) (h : RawAt w b r) (hl : ThRow w B r.vth l) (ht : t < 64) (hm : ∀ x ∈ l, x.mask < 18446744073709551616) (hid : -9223372036854775808 ≤ id ∧ id ≤ 9223372036854775807) :
    Calls Try.prog 26 #[.pointer (some ⟨b, 0, none⟩), .int .i64 t, .int .i64 id] w fun e w' => e = .returned (.tuple #[kidsV (squareF l t id), .int .i64 (lack (squareF l t id))]) ∧ Below w.heap.size w w' := by
  have ho := fun W hW hW' => own_any b B t id r l W hW hW' ht hm hid
  have hi := fun W => tenant_yes t ht W
  have hb0 : Below w.heap.size w (w.alloc (.cells #[.int .i64 0, .int .i64 0, .int .i64 0, .int .i64 0] 35)) := (Below.refl _ _).alloc (Nat.le_refl _) _
  go_enter Try.func26, Try.ntmps26
  go_wp2_with fail
  refine (hi _).mono ?_
  rintro e w1 ⟨rfl, rfl⟩
  go_wp2_with fail
  refine (ho _ (h.go (hb0.block _ h.lt)) (hl.alloc _)).mono ?_
  rintro e w1 ⟨rfl, hb1⟩
  have hb1' := hb0.trans (hb1.mono hb0.size)
  have hA : w1.heap[w.heap.size]? = some (.cells #[.int .i64 0, .int .i64 0, .int .i64 0, .int .i64 0] 35 (0, 0)) := (hb1.block w.heap.size (by simp)).trans (heap_alloc_new w _)
  have hlt : w.heap.size < w1.heap.size := (Array.getElem?_eq_some_iff.1 hA).1
  have k0 : w1.cell? ⟨w.heap.size, 0, none⟩ = some (.int .i64 0) := Lib.cell_of_heap hA 0
  have k1 : w1.cell? ⟨w.heap.size, 1, none⟩ = some (.int .i64 0) := Lib.cell_of_heap hA 1
  have k2 : w1.cell? ⟨w.heap.size, 2, none⟩ = some (.int .i64 0) := Lib.cell_of_heap hA 2
  have k3 : w1.cell? ⟨w.heap.size, 3, none⟩ = some (.int .i64 0) := Lib.cell_of_heap hA 3
  have z0 := Lib.frozen_of_heap hA 0
  have z1 := Lib.frozen_of_heap hA 1
  have z2 := Lib.frozen_of_heap hA 2
  have z3 := Lib.frozen_of_heap hA 3
  have hset : ∀ (W : World) (c0 c1 c2 c3 : Value), W.heap[w.heap.size]? = some (.cells #[.int .i64 0, .int .i64 0, .int .i64 0, .int .i64 0] 35 (0, 0)) → ((((W.setCell ⟨w.heap.size, 0, none⟩ c0).setCell ⟨w.heap.size, 1, none⟩ c1).setCell ⟨w.heap.size, 2, none⟩ c2).setCell ⟨w.heap.size, 3, none⟩ c3).heap[w.heap.size]? = some (.cells #[c0, c1, c2, c3] 35 (0, 0)) := fun W c0 c1 c2 c3 hW =>
    Go.Joins.block_setCell (Go.Joins.block_setCell (Go.Joins.block_setCell (Go.Joins.block_setCell hW c0) c1) c2) c3
  cases hown : ownF l t id with
  | none =>
    have HX : Hid (squareF l t id = none) := by
      show _ = _
      unfold squareF
      rw [hown]; rfl
    simp only [Option.getD_none, Option.isSome_none, noTh, Th.val]
    clear hown ho
    go_wp2_with fail
    have hR := hset w1 (.int .i64 0) (.int .i64 0) (.int .i64 0) (.int .i64 0) hA
    refine bodyPost_ret (v := .tuple #[.agg #[.int .i64 0, .int .i64 0, .int .i64 0, .int .i64 0], .int .i64 6]) ?_ rfl ⟨?_, ?_⟩
    · simp [results, Try.results26, go_sem, Lib.cell_of_heap hR, hlt]
    · rw [HX.out]; rfl
    · exact ((((hb1'.setCell (p := ⟨w.heap.size, 0, none⟩) (Nat.le_refl _) _).setCell (p := ⟨w.heap.size, 1, none⟩) (Nat.le_refl _) _).setCell (p := ⟨w.heap.size, 2, none⟩) (Nat.le_refl _) _).setCell (p := ⟨w.heap.size, 3, none⟩) (Nat.le_refl _) _).alloc (by simpa [World.setCell] using hb1'.size) _
  | some x =>
    simp only [Option.getD_some, Option.isSome_some, Th.val]
    clear ho
    by_cases hk : x.k = 1
    · have HX : Hid (squareF l t id = some x) := by
        show _ = _
        unfold squareF
        rw [hown, Option.filter_some, if_pos (by simpa using hk)]
      rw [hk]
      clear hown
      go_wp2_with fail
      have hR := hset w1 (.int .i64 x.p0) (.int .i64 x.p1) (.int .i64 x.p2) (.int .i64 x.p3) hA
      refine bodyPost_ret (v := .tuple #[.agg #[.int .i64 x.p0, .int .i64 x.p1, .int .i64 x.p2, .int .i64 x.p3], .int .i64 0]) ?_ rfl ⟨?_, ?_⟩
      · simp [results, Try.results26, go_sem, Lib.cell_of_heap hR, hlt]
      · rw [HX.out]; rfl
      · exact ((((hb1'.setCell (p := ⟨w.heap.size, 0, none⟩) (Nat.le_refl _) _).setCell (p := ⟨w.heap.size, 1, none⟩) (Nat.le_refl _) _).setCell (p := ⟨w.heap.size, 2, none⟩) (Nat.le_refl _) _).setCell (p := ⟨w.heap.size, 3, none⟩) (Nat.le_refl _) _).alloc (by simpa [World.setCell] using hb1'.size) _
    · have HX : Hid (squareF l t id = none) := by
        show _ = _
        unfold squareF
        rw [hown, Option.filter_some, if_neg (by simpa using hk)]
      have hk' : (x.k != 1) = true := by simpa using hk
      clear hk hown
      go_wp2_with fail
      have hR := hset w1 (.int .i64 0) (.int .i64 0) (.int .i64 0) (.int .i64 0) hA
      refine bodyPost_ret (v := .tuple #[.agg #[.int .i64 0, .int .i64 0, .int .i64 0, .int .i64 0], .int .i64 6]) ?_ rfl ⟨?_, ?_⟩
      · simp [results, Try.results26, go_sem, Lib.cell_of_heap hR, hlt]
      · rw [HX.out]; rfl
      · exact ((((hb1'.setCell (p := ⟨w.heap.size, 0, none⟩) (Nat.le_refl _) _).setCell (p := ⟨w.heap.size, 1, none⟩) (Nat.le_refl _) _).setCell (p := ⟨w.heap.size, 2, none⟩) (Nat.le_refl _) _).setCell (p := ⟨w.heap.size, 3, none⟩) (Nat.le_refl _) _).alloc (by simpa [World.setCell] using hb1'.size) _
theorem Kids_no (b : Nat) (t id : Int) (w : World) (ht : ¬ (0 ≤ t ∧ t < 64)) :
    Calls Try.prog 26 #[.pointer (some ⟨b, 0, none⟩), .int .i64 t, .int .i64 id] w fun e w' => e = .returned (.tuple #[.agg #[.int .i64 0, .int .i64 0, .int .i64 0, .int .i64 0], .int .i64 6]) ∧ Below w.heap.size w w' := by
  have hi := fun W => tenant_no t ht W
  go_enter Try.func26, Try.ntmps26
  go_wp2_with fail
  refine (hi _).mono ?_
  rintro e w1 ⟨rfl, rfl⟩
  go_wp2_with fail
  refine bodyPost_ret (v := .tuple #[.agg #[.int .i64 0, .int .i64 0, .int .i64 0, .int .i64 0], .int .i64 6]) ?_ rfl ⟨?_, ?_⟩
  · simp [results, Try.results26, go_sem]
  · rfl
  · exact (Below.refl _ _).alloc (Nat.le_refl _) _
end Go.Proofs.Ytfogedmghhacdaa.A
