/- What lifelodgekeep.alive, spot and cells answer. -/
import Derived.Test.YtmpjlbafjmocbadGreatDoorTidyLaw
namespace Go.Proofs.YtmpjlbafjmocbadGreatDoor
open Go.RowKit Go.Lib Go.Sort

/-- a number counted round -/
def spotI (v n : Int) : Int := if v.tmod n < 0 then v.tmod n + n else v.tmod n
theorem spotI_bound (v n : Int) (hn : 0 < n) : 0 ≤ spotI v n ∧ spotI v n < n := by
  have h1 := Int.lt_tmod_of_pos v hn
  have h2 := Int.tmod_lt_of_pos v hn
  unfold spotI
  split <;> omega

set_option maxHeartbeats 400000 in
theorem spot_any (v n : Int) (w : World) (hn : 0 < n) (hn2 : n ≤ 4611686018427387904) : Calls Tryz.prog 15 #[.int .i64 v, .int .i64 n] w fun e w' => e = .returned (.int .i64 (spotI v n)) ∧ w' = w := by
  have h1 := Int.lt_tmod_of_pos v hn
  have h2 := Int.tmod_lt_of_pos v hn

  have hz : (n == 0) = false := by simp; omega
  by_cases h0 : v.tmod n < 0
  · have e : spotI v n = v.tmod n + n := by rw [spotI, if_pos h0]
    rw [e]
    go_enter Tryz.func15, Tryz.ntmps15
    go_wp2
    go_ret
    exact ⟨rfl, rfl⟩
  · have e : spotI v n = v.tmod n := by rw [spotI, if_neg h0]
    rw [e]
    go_enter Tryz.func15, Tryz.ntmps15
    go_wp2
    go_ret
    exact ⟨rfl, rfl⟩

theorem three_row (w : World) : Row (w.alloc (.cells #[.int .i64 2, .int .i64 0, .int .i64 1, .int .i64 0, .int .i64 2, .int .i64 0] 45)) (.slice (some ⟨w.heap.size, 0, none⟩) 3 3) [(2, 0), (1, 0), (2, 0)] := by
  refine Or.inr ⟨by simp, w.heap.size, 0, 3, rfl, by simp, by simp, by unfold maxLen; simp, fun j hj => ?_⟩
  rw [World.cell?_alloc_new, World.cell?_alloc_new]
  match j, hj with
  | 0, _ => exact ⟨rfl, rfl⟩
  | 1, _ => exact ⟨rfl, rfl⟩
  | 2, _ => exact ⟨rfl, rfl⟩
theorem two_row (w : World) : Row (w.alloc (.cells #[.int .i64 1, .int .i64 0, .int .i64 2, .int .i64 0] 45)) (.slice (some ⟨w.heap.size, 0, none⟩) 2 2) [(1, 0), (2, 0)] := by
  refine Or.inr ⟨by simp, w.heap.size, 0, 2, rfl, by simp, by simp, by unfold maxLen; simp, fun j hj => ?_⟩
  rw [World.cell?_alloc_new, World.cell?_alloc_new]
  match j, hj with
  | 0, _ => exact ⟨rfl, rfl⟩
  | 1, _ => exact ⟨rfl, rfl⟩
theorem tidied_three (ys : List (Int × Int)) (h : Tidied [(2, 0), (1, 0), (2, 0)] ys) : ys = [(1, 0), (2, 0)] :=
  h.unique ⟨by simp [Tidy, ahead], fun p => by
    have : tcode [(2, 0), (1, 0), (2, 0)] = 0 := by decide
    rw [this]
    simp only [List.mem_cons, List.not_mem_nil, or_false, and_true]
    constructor
    · rintro (h | h)
      · exact Or.inr (Or.inl h)
      · exact Or.inl h
    · rintro (h | h | h)
      · exact Or.inr h
      · exact Or.inl h
      · exact Or.inr h⟩

end Go.Proofs.YtmpjlbafjmocbadGreatDoor
