/- PROVED: for all arguments, a nil arena answers exactly what P4.7 says, and the input is left as it was. No condition. -/
import Derived.Test.YthobobgiendcfaaRows
import Derived.Lib.SmallJoins
import Derived.Deep.RegionHeld3
import Derived.Laws.OwnMore
import Derived.Lib.Builder
namespace Go.Proofs.Ythobobgiendcfaa
open Go.ChangeShapes Go.WideShapes Go.ChangeAt Go.RowKit Go.Joins

theorem nil_join (t : Int) (q : Value) (hq : ∃ a b c d, q = .agg #[.int .i64 a, .int .i64 b, .int .i64 c, .int .i64 d]) (w : World) : Calls Try.prog 25 #[.pointer none, .int .i64 t, q] w fun e w' => e = .returned (.tuple #[.int .i64 0, .int .i64 11]) ∧ Below w.heap.size w w' := by
  obtain ⟨a, b, c, d, rfl⟩ := hq
  go_enter Try.func25, Try.ntmps25
  go_wp2
  go_ret2
  exact ⟨rfl, (Below.refl _ _).alloc (Nat.le_refl _) _⟩
theorem nil_kids (t i : Int) (w : World) : Calls Try.prog 26 #[.pointer none, .int .i64 t, .int .i64 i] w fun e w' => e = .returned (.tuple #[.agg #[.int .i64 0, .int .i64 0, .int .i64 0, .int .i64 0], .int .i64 6]) ∧ Below w.heap.size w w' := by
  go_enter Try.func26, Try.ntmps26
  go_wp2
  refine bodyPost_ret (v := .tuple #[.agg #[.int .i64 0, .int .i64 0, .int .i64 0, .int .i64 0], .int .i64 6]) ?_ rfl ⟨rfl, ?_⟩
  · simp [results, Try.results26, go_sem]
  · exact (Below.refl _ _).alloc (Nat.le_refl _) _
theorem nil_level (t i : Int) (w : World) : Calls Try.prog 27 #[.pointer none, .int .i64 t, .int .i64 i] w fun e w' => e = .returned (.tuple #[.int .i64 0, .int .i64 6]) ∧ w' = w := by
  go_enter Try.func27, Try.ntmps27
  go_wp2
  go_ret2
  exact ⟨rfl, rfl⟩
theorem nil_recall (t a b c : Int) (w : World) : Calls Try.prog 28 #[.pointer none, .int .i64 t, .int .i64 a, .int .i64 b, .int .i64 c] w fun e w' => e = .returned (.tuple #[.int .i64 0, .bool false]) ∧ w' = w := by
  go_enter Try.func28, Try.ntmps28
  go_wp2
  go_ret2
  exact ⟨rfl, rfl⟩
theorem nil_limit (t i : Int) (w : World) : Calls Try.prog 29 #[.pointer none, .int .i64 t, .int .i64 i] w fun e w' => e = .returned (.int .i64 11) ∧ w' = w := by
  go_enter Try.func29, Try.ntmps29
  go_wp2
  go_ret
  exact ⟨rfl, rfl⟩
theorem nil_note (t a b c d : Int) (w : World) : Calls Try.prog 30 #[.pointer none, .int .i64 t, .int .i64 a, .int .i64 b, .int .i64 c, .int .i64 d] w fun e w' => e = .returned (.int .i64 11) ∧ w' = w := by
  go_enter Try.func30, Try.ntmps30
  go_wp2
  go_ret
  exact ⟨rfl, rfl⟩
theorem nil_mark (t : Int) (w : World) : Calls Try.prog 31 #[.pointer none, .int .i64 t] w fun e w' => e = .returned (.int .i64 11) ∧ w' = w := by
  go_enter Try.func31, Try.ntmps31
  go_wp2
  go_ret
  exact ⟨rfl, rfl⟩
theorem nil_back (t n : Int) (w : World) : Calls Try.prog 76 #[.pointer none, .int .i64 t, .int .i64 n] w fun e w' => e = .returned (.int .i64 0) ∧ w' = w := by
  go_enter Try.func76, Try.ntmps76
  go_wp2
  go_ret
  exact ⟨rfl, rfl⟩
theorem nil_undo (t : Int) (w : World) : Calls Try.prog 32 #[.pointer none, .int .i64 t] w fun e w' => e = .returned (.int .i64 0) ∧ w' = w := by
  go_enter Try.func32, Try.ntmps32
  go_wp2_with fail
  refine (nil_back t 0 _).mono ?_
  rintro e w1 ⟨rfl, rfl⟩
  go_wp2_with fail
  go_ret
  exact ⟨rfl, rfl⟩
theorem nil_clean (t : Int) (v : Value) (w : World) : Calls Try.prog 33 #[.pointer none, .int .i64 t, v] w fun e w' => e = .returned (.int .i64 0) ∧ w' = w := by
  go_enter Try.func33, Try.ntmps33
  go_wp2
  go_ret
  exact ⟨rfl, rfl⟩
theorem nil_sweep (w : World) : Calls Try.prog 34 #[.pointer none] w fun e w' => e = .returned (.int .i64 0) ∧ w' = w := by
  go_enter Try.func34, Try.ntmps34
  go_wp2
  go_ret
  exact ⟨rfl, rfl⟩
theorem nil_count (t : Int) (w : World) : Calls Try.prog 35 #[.pointer none, .int .i64 t] w fun e w' => e = .returned (.int .i64 0) ∧ w' = w := by
  go_enter Try.func35, Try.ntmps35
  go_wp2
  go_ret
  exact ⟨rfl, rfl⟩
theorem nil_live (w : World) : Calls Try.prog 21 #[.pointer none] w fun e w' => e = .returned (.int .i64 0) ∧ w' = w := by
  go_enter Try.func21, Try.ntmps21
  go_wp2
  go_ret
  exact ⟨rfl, rfl⟩
theorem nil_squares (w : World) : Calls Try.prog 23 #[.pointer none] w fun e w' => e = .returned (.slice none 0 0) ∧ w' = w := by
  go_enter Try.func23, Try.ntmps23
  go_wp2
  go_ret
  exact ⟨rfl, rfl⟩

set_option maxHeartbeats 1000000 in
theorem nilLaw_any (t a b c d : Int) (w : World) :
    Calls Try.prog 4 #[.int .i64 t, .agg #[.int .i64 a, .int .i64 b, .int .i64 c, .int .i64 d]] w fun e w' => e = .returned (.bool true) ∧ Below w.heap.size w w' := by
  go_enter Try.func4, Try.ntmps4
  go_wp2_with fail
  refine (nil_join t _ ⟨a, b, c, d, rfl⟩ _).mono ?_
  rintro e w1 ⟨rfl, h1⟩
  have F1 : Below w.heap.size w w1 := ((Below.refl _ _).alloc (Nat.le_refl _) _).trans (h1.mono (by simp))
  have hbk : w1.heap[w.heap.size]? = some (.cells #[.int .i64 a, .int .i64 b, .int .i64 c, .int .i64 d] 35 (0, 0)) := (h1.block _ (by simp)).trans (heap_alloc_new w _)
  have c0 : w1.cell? ⟨w.heap.size, 0, none⟩ = some (.int .i64 a) := by rw [Lib.cell_of_heap hbk]; rfl
  have c1 : w1.cell? ⟨w.heap.size, 1, none⟩ = some (.int .i64 b) := by rw [Lib.cell_of_heap hbk]; rfl
  have c2 : w1.cell? ⟨w.heap.size, 2, none⟩ = some (.int .i64 c) := by rw [Lib.cell_of_heap hbk]; rfl
  have c3 : w1.cell? ⟨w.heap.size, 3, none⟩ = some (.int .i64 d) := by rw [Lib.cell_of_heap hbk]; rfl
  go_wp2_with fail
  refine (nil_kids t a _).mono ?_
  rintro e w2 ⟨rfl, h2⟩
  have F2 : Below w.heap.size w w2 := F1.trans (h2.mono F1.size)
  have hlt := (Array.getElem?_eq_some_iff.1 hbk).1
  have hb2 := (h2.block _ hlt).trans hbk
  have F3 : Below w.heap.size w (w2.alloc (.cells #[.int .i64 0, .int .i64 0, .int .i64 0, .int .i64 0] 35)) := F2.alloc F2.size _
  have hb3 : (w2.alloc (.cells #[.int .i64 0, .int .i64 0, .int .i64 0, .int .i64 0] 35)).heap[w.heap.size]? = some (.cells #[.int .i64 a, .int .i64 b, .int .i64 c, .int .i64 d] 35 (0, 0)) := by
    rw [Go.Deep.blk_alloc_lt _ _ _ (Array.getElem?_eq_some_iff.1 hb2).1]; exact hb2
  have d0 : w2.cell? ⟨w.heap.size, 0, none⟩ = some (.int .i64 a) := by rw [Lib.cell_of_heap hb2]; rfl
  have d1 : w2.cell? ⟨w.heap.size, 1, none⟩ = some (.int .i64 b) := by rw [Lib.cell_of_heap hb2]; rfl
  have d2 : w2.cell? ⟨w.heap.size, 2, none⟩ = some (.int .i64 c) := by rw [Lib.cell_of_heap hb2]; rfl
  have d3 : w2.cell? ⟨w.heap.size, 3, none⟩ = some (.int .i64 d) := by rw [Lib.cell_of_heap hb2]; rfl
  have hl2 : w.heap.size < w2.heap.size := (Array.getElem?_eq_some_iff.1 hb2).1
  clear hbk c0 c1 c2 c3 hb2 h1 h2 F1 F2 hb3
  go_wp2_with (first | (go_at_call 27; refine (nil_level t a _).mono ?_; rintro e w' ⟨rfl, rfl⟩) | (go_at_call 28; refine (nil_recall t a b c _).mono ?_; rintro e w' ⟨rfl, rfl⟩) | (go_at_call 29; refine (nil_limit t a _).mono ?_; rintro e w' ⟨rfl, rfl⟩) | (go_at_call 30; refine (nil_note t a b c d _).mono ?_; rintro e w' ⟨rfl, rfl⟩) | (go_at_call 31; refine (nil_mark t _).mono ?_; rintro e w' ⟨rfl, rfl⟩) | (go_at_call 32; refine (nil_undo t _).mono ?_; rintro e w' ⟨rfl, rfl⟩) | (go_at_call 33; refine (nil_clean t _ _).mono ?_; rintro e w' ⟨rfl, rfl⟩) | (go_at_call 34; refine (nil_sweep _).mono ?_; rintro e w' ⟨rfl, rfl⟩) | (go_at_call 35; refine (nil_count t _).mono ?_; rintro e w' ⟨rfl, rfl⟩) | (go_at_call 21; refine (nil_live _).mono ?_; rintro e w' ⟨rfl, rfl⟩) | (go_at_call 23; refine (nil_squares _).mono ?_; rintro e w' ⟨rfl, rfl⟩))
  go_ret
  exact ⟨rfl, F3⟩
end Go.Proofs.Ythobobgiendcfaa
