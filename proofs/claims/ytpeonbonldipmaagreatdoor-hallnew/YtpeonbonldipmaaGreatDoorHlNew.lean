/- HallNew. -/
import Derived.Test.YtpeonbonldipmaaGreatDoorHlKit
import Derived.Laws.EntriesVeiled
namespace Go.Proofs.YtpeonbonldipmaaGreatDoor
open Go.RowKit Go.Maps

/-- an arena's block, of whatever it holds -/
def Big196 (w : World) (b : Nat) : Prop := ∃ cs, w.heap[b]? = some (.cells cs 49 (0, 0)) ∧ cs.size = 196
theorem Big196.cell {w : World} {b : Nat} (h : Big196 w b) (i : Nat) (hi : i < 196) : ∃ v, w.cell? ⟨b, i, none⟩ = some v := by
  obtain ⟨cs, h1, h2⟩ := h
  rw [Lib.cell_of_heap h1]
  exact ⟨cs[i]'(by omega), Array.getElem?_eq_getElem _⟩
theorem Big196.frozen {w : World} {b : Nat} (h : Big196 w b) (i : Nat) : w.frozen? ⟨b, i, none⟩ = false := by
  obtain ⟨cs, h1, h2⟩ := h
  exact Lib.frozen_of_heap h1 i
theorem Big196.set {w : World} {b : Nat} (h : Big196 w b) (i : Nat) (v : Value) : Big196 (w.setCell ⟨b, i, none⟩ v) b := by
  obtain ⟨cs, h1, h2⟩ := h
  exact ⟨_, Go.Joins.block_setCell h1 v, by simpa using h2⟩
set_option maxRecDepth 20000 in
set_option maxHeartbeats 4000000 in
theorem arena_new (w : World) : Calls Tryz.prog 4 #[.int .i64 100] w fun e w' => e = .returned (.tuple #[.pointer (some ⟨w.heap.size + 1, 0, none⟩), .int .i64 0]) ∧ Below w.heap.size w w' := by
  have hmm := @run_makeMap Tryz.prog
  go_enter Tryz.func4, Tryz.ntmps4
  go_wp2_with fail
  go_loopg [16] 64 (fun g s16 wr => ∃ k : Nat, k + g = 64 ∧ s16 = .int .i64 k ∧ Big196 wr (w.heap.size + 1) ∧ Below w.heap.size w wr)
  case atStart =>
    refine ⟨0, by omega, rfl, ⟨_, heap_alloc2_new w _ _, rfl⟩, ((Below.refl _ _).alloc (Nat.le_refl _) _).alloc (by simp) _⟩
  case round =>
    obtain ⟨k, hkg, rfl, hr, hbw⟩ := hrel
    have HK : Hid (k + gk = 64) := hkg
    have hk64 : k ≤ 64 := by omega
    clear hkg
    by_cases hlt : k < 64
    · have hi0 : (0 : Int) ≤ k := by omega
      have hi1 : (k : Int) < 64 := by omega
      obtain ⟨v, cl⟩ := hr.cell (4 + k * 3) (by omega)
      have fz := hr.frozen (4 + k * 3)
      have hwk : IntKind.i64.wrap ((k : Int) + 1) = (k : Int) + 1 := by rw [IntKind.wrap_i64]; omega
      go_wp2_with fail
      go_roundg (gk - 1)
      case measure => have := HK.out; omega
      case rel =>
        exact ⟨k + 1, by have := HK.out; omega, by go_num, hr.set _ _, hbw.setCell (p := ⟨w.heap.size + 1, 4 + k * 3, none⟩) (Nat.le_succ _) _⟩
    · have hi1 : ¬ (k : Int) < 64 := by omega
      have hk : k = 64 := by omega
      subst hk
      go_wp2_with fail
      go_ret2
      exact ⟨rfl, hbw⟩
/-- who is no tenant -/
theorem hall_range (a : Value) (tenant draw : Int) (w : World) (h : tenant < 0 ∨ 64 ≤ tenant) : Calls Tryz.prog 5 #[a, .int .i64 tenant, .int .i64 draw] w fun e w' => e = .returned (.tuple #[.pointer none, .int .i64 3]) ∧ w' = w := by
  by_cases h0 : tenant < 0
  · go_enter Tryz.func5, Tryz.ntmps5
    go_wp2_with fail
    go_ret2
    exact ⟨rfl, rfl⟩
  · have h1 : ¬ tenant < 64 := by omega
    have h2 : 64 ≤ tenant := by omega
    go_enter Tryz.func5, Tryz.ntmps5
    go_wp2_with fail
    go_ret2
    exact ⟨rfl, rfl⟩
theorem hall_nil (draw : Int) (w : World) : Calls Tryz.prog 5 #[.pointer none, .int .i64 0, .int .i64 draw] w fun e w' => e = .returned (.tuple #[.pointer none, .int .i64 11]) ∧ w' = w := by
  go_enter Tryz.func5, Tryz.ntmps5
  go_wp2_with fail
  go_ret2
  exact ⟨rfl, rfl⟩
theorem hall_good (a : Addr) (tenant draw : Int) (w : World) (h0 : 0 ≤ tenant) (h1 : tenant < 64) : Calls Tryz.prog 5 #[.pointer (some a), .int .i64 tenant, .int .i64 draw] w fun e w' => e = .returned (.tuple #[.pointer (some ⟨w.heap.size, 0, none⟩), .int .i64 0]) ∧ Below w.heap.size w w' := by
  have h2 : ¬ tenant < 0 := by omega
  have h3 : ¬ 64 ≤ tenant := by omega
  go_enter Tryz.func5, Tryz.ntmps5
  go_wp2_with fail
  go_ret2
  exact ⟨rfl, (Below.refl _ _).alloc (Nat.le_refl _) _⟩
end Go.Proofs.YtpeonbonldipmaaGreatDoor
