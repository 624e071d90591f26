/- New, has, round, Waits. -/
import Derived.Test.YtpldaghhledjlaaGreatDoorTuMem
namespace Go.Proofs.YtpldaghhledjlaaGreatDoor
open Go.RowKit

theorem make_rows (n : Nat) (hn : n ≤ 64) (W : World) : (Instr.makeSlice 33 (.int .i64 (n : Int)) (.int .i64 (n : Int))).run Tryz.prog W = .ok (.slice (some ⟨W.heap.size, 0, none⟩) n n) (W.alloc (.cells (madeCells #[.slice none 0 0] n) 34)) := by
  obtain ⟨i0, hi, hz0, hz1, hz2⟩ := info_parts Tryz.infoRow
  have hr := run_make (P := Tryz.prog) W 33 34 i0 (.slice none 0 0) Tryz.underlying33 hi hz0 .i64 .i64 n n (by omega) (Int.le_refl _) (by rw [hz2]; omega) (by omega)
  rw [hz1] at hr
  simp only [Int.toNat_natCast, Nat.mul_one] at hr
  exact hr

theorem New_bad (n : Int) (w : World) (h : n < 1 ∨ 64 < n) : Calls Tryz.prog 17 #[.int .i64 n] w fun e w' => e = .returned (.tuple #[.pointer none, .int .i64 3]) ∧ w' = w := by
  by_cases h1 : n < 1
  · go_enter Tryz.func17, Tryz.ntmps17
    go_wp2_with fail
    go_ret2
    exact ⟨rfl, rfl⟩
  · have h2 : 64 < n := by omega
    go_enter Tryz.func17, Tryz.ntmps17
    go_wp2_with fail
    go_ret2
    exact ⟨rfl, rfl⟩

theorem New_any (n : Nat) (w : World) (h1 : 1 ≤ n) (h2 : n ≤ 64) : Calls Tryz.prog 17 #[.int .i64 n] w fun e w' => e = .returned (.tuple #[.pointer (some ⟨w.heap.size + 1, 0, none⟩), .int .i64 0]) ∧ TuAt w' w.heap.size (w.heap.size + 1) w.heap.size (List.replicate n (.slice none 0 0)) ⟨n, 0, List.replicate n []⟩ ∧ Below w.heap.size w w' := by
  have hmk := make_rows n h2
  have hq1 : ¬ (n : Int) < 1 := by omega
  have hq2 : ¬ (64 : Int) < (n : Int) := by omega
  go_enter Tryz.func17, Tryz.ntmps17
  go_wp2_with fail
  go_ret2
  refine ⟨rfl, ?_, ((Below.refl _ _).alloc (Nat.le_refl _) _).alloc (by simp) _⟩
  have hv : ∀ (i : Nat) v, (List.replicate n (Value.slice none 0 0))[i]? = some v → v = .slice none 0 0 := fun i v h => by
    rw [List.getElem?_replicate] at h
    split at h
    · exact (Option.some.inj h).symm
    · cases h
  have hr : ∀ (i : Nat) v, (List.replicate n ([] : List ByteArray))[i]? = some v → v = [] := fun i v h => by
    rw [List.getElem?_replicate] at h
    split at h
    · exact (Option.some.inj h).symm
    · cases h
  refine ⟨heap_alloc2_new w _ _, ?_, by simp, h1, h2, h1, ?_, ?_, ?_, by omega, by omega, ?_⟩
  · have h := World.ownsRow_lit (base := w.heap.size) (e := 34) (size := 1) w (madeCells #[.slice none 0 0] n) n (Nat.le_refl _) (by unfold maxLen; omega) (by rw [size_madeCells, Nat.mul_one])
    rw [toList_madeCells_one] at h
    exact h.alloc _
  · intro i v r h3 h4
    rw [hv i v h3, hr i r h4]
    exact World.ownsRow_nil _ _ _ _
  · intro i j v u q h3 h4 h5 _
    rw [hv i v h3] at h5
    cases h5
  · intro i v q h3 h5
    rw [hv i v h3] at h5
    cases h5
  · intro r h3
    rw [List.mem_replicate] at h3
    rw [h3.2]
    simp

theorem has_any (b R n : Nat) (t : Int) (w : World) (c0 : w.cell? ⟨b, 0, none⟩ = some (.slice (some ⟨R, 0, none⟩) n n)) (_hn : n ≤ 64) : Calls Tryz.prog 45 #[.pointer (some ⟨b, 0, none⟩), .int .i64 t] w fun e w' => e = .returned (.bool (decide (0 ≤ t ∧ t < n))) ∧ w' = w := by
  by_cases h1 : 0 ≤ t
  · by_cases h2 : t < n
    · rw [decide_eq_true ⟨h1, h2⟩]
      go_enter Tryz.func45, Tryz.ntmps45
      go_wp2_with fail
      go_ret
      exact ⟨rfl, rfl⟩
    · rw [decide_eq_false (by omega)]
      go_enter Tryz.func45, Tryz.ntmps45
      go_wp2_with fail
      go_ret
      exact ⟨rfl, rfl⟩
  · rw [decide_eq_false (by omega)]
    go_enter Tryz.func45, Tryz.ntmps45
    go_wp2_with fail
    go_ret
    exact ⟨rfl, rfl⟩

theorem round_any (b R n p : Nat) (w : World) (c0 : w.cell? ⟨b, 0, none⟩ = some (.slice (some ⟨R, 0, none⟩) n n)) (h1 : 1 ≤ n) (_hn : n ≤ 64) (hp : p ≤ 1000) : Calls Tryz.prog 36 #[.pointer (some ⟨b, 0, none⟩), .int .i64 p] w fun e w' => e = .returned (.int .i64 ((p % n : Nat) : Int)) ∧ w' = w := by
  have hz : ¬ (n : Int) = 0 := by omega
  have he : ((p % n : Nat) : Int) = (p : Int).tmod (n : Int) := by rw [Int.tmod_eq_emod_of_nonneg (by omega)]; omega
  rw [he]
  have hlt := Nat.mod_lt p h1
  have hw : IntKind.i64.wrap ((p : Int).tmod (n : Int)) = (p : Int).tmod (n : Int) := by rw [← he, IntKind.wrap_i64]; omega
  clear he
  go_enter Tryz.func36, Tryz.ntmps36
  go_wp2_with fail
  go_ret
  exact ⟨rfl, rfl⟩

/-- how many things of a tenant wait -/
def Tu.waits (T : Tu) (t : Int) : Nat := if 0 ≤ t ∧ t < T.n then (T.rows.getD t.toNat []).length else 0
theorem Waits_any (B b R : Nat) (vs : List Value) (T : Tu) (t : Int) (w : World) (h : TuAt w B b R vs T) : Calls Tryz.prog 27 #[.pointer (some ⟨b, 0, none⟩), .int .i64 t] w fun e w' => e = .returned (.int .i64 (T.waits t)) ∧ w' = w := by
  obtain ⟨c0, c1, _⟩ := h.cells
  have hh := has_any b R T.n t w c0 h.le
  by_cases h1 : 0 ≤ t ∧ t < T.n
  · obtain ⟨k, rfl⟩ : ∃ k : Nat, t = k := ⟨t.toNat, by omega⟩
    obtain ⟨v, r, hv, hr, hc, hf, hrow⟩ := h.cell k (by omega)
    obtain ⟨a, c, rfl, hl1, hl2⟩ := hrow.slice
    rw [decide_eq_true h1] at hh
    have e : T.waits (k : Int) = r.length := by
      unfold Tu.waits
      rw [if_pos h1, Int.toNat_natCast, List.getD_eq_getElem?_getD, hr]
      rfl
    rw [e]
    have hi1 : (0 : Int) ≤ k := by omega
    have hi2 : (k : Int) < (T.n : Int) := h1.2
    generalize r.length = m at *
    go_enter Tryz.func27, Tryz.ntmps27
    go_wp2_with fail
    refine hh.mono ?_
    rintro e w' ⟨rfl, rfl⟩
    go_wp2_with fail
    go_ret
    exact ⟨rfl, rfl⟩
  · rw [decide_eq_false h1] at hh
    have e : T.waits t = 0 := by unfold Tu.waits; rw [if_neg h1]
    rw [e]
    go_enter Tryz.func27, Tryz.ntmps27
    go_wp2_with fail
    refine hh.mono ?_
    rintro e w' ⟨rfl, rfl⟩
    go_wp2_with fail
    go_ret
    exact ⟨rfl, rfl⟩
end Go.Proofs.YtpldaghhledjlaaGreatDoor
