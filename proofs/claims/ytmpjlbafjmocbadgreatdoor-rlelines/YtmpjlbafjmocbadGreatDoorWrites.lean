/- lifelodgekeep.writes: rle answers. -/
import Derived.Test.YtmpjlbafjmocbadGreatDoorDecode
import Derived.Test.YtmpjlbafjmocbadGreatDoorSame
import Derived.Test.YtmpjlbafjmocbadGreatDoorAlive
namespace Go.Proofs.YtmpjlbafjmocbadGreatDoor
open Go.Shelf Go.RowKit

def trialText : List UInt8 := [120, 32, 61, 32, 50, 44, 32, 121, 32, 61, 32, 50, 44, 32, 114, 117, 108, 101, 32, 61, 32, 66, 51, 54, 47, 83, 50, 51, 10, 98, 111, 36, 50, 111, 33]
set_option maxRecDepth 100000 in
theorem trial_dec : decF readF trialText = ([(1, 0), (0, 1), (1, 1)], (72, 12), 0) := by decide +kernel
theorem three_cells (w : World) (a b c d e f : Int) : Row (w.alloc (.cells #[.int .i64 a, .int .i64 b, .int .i64 c, .int .i64 d, .int .i64 e, .int .i64 f] 45)) (.slice (some ⟨w.heap.size, 0, none⟩) 3 3) [(a, b), (c, d), (e, f)] := by
  refine Or.inr ⟨by simp, w.heap.size, 0, 3, rfl, by simp, by simp, by unfold maxLen; simp, fun j hj => ?_⟩
  simp only [World.cell?_alloc_new]
  match j, hj with
  | 0, _ => exact ⟨rfl, rfl⟩
  | 1, _ => exact ⟨rfl, rfl⟩
  | 2, _ => exact ⟨rfl, rfl⟩

set_option maxRecDepth 20000 in
set_option maxHeartbeats 2000000 in
theorem writes_any (w : World) (hv : Vars w) : Calls Tryz.prog 9 #[] w fun e w' => e = .returned (.bool true) ∧ Below w.heap.size w w' := by
  have hd := decode_any ⟨#[120, 32, 61, 32, 50, 44, 32, 121, 32, 61, 32, 50, 44, 32, 114, 117, 108, 101, 32, 61, 32, 66, 51, 54, 47, 83, 50, 51, 10, 98, 111, 36, 50, 111, 33]⟩ w hv
  have ed : (⟨#[120, 32, 61, 32, 50, 44, 32, 121, 32, 61, 32, 50, 44, 32, 114, 117, 108, 101, 32, 61, 32, 66, 51, 54, 47, 83, 50, 51, 10, 98, 111, 36, 50, 111, 33]⟩ : ByteArray).data.toList = trialText := rfl
  rw [ed] at hd
  have hd2 : Calls Tryz.prog 10 #[.string ⟨#[120, 32, 61, 32, 50, 44, 32, 121, 32, 61, 32, 50, 44, 32, 114, 117, 108, 101, 32, 61, 32, 66, 51, 54, 47, 83, 50, 51, 10, 98, 111, 36, 50, 111, 33]⟩] w fun e w' => ∃ u, e = .returned (.tuple #[u, .agg #[.int .i64 72, .int .i64 12], .int .i64 0]) ∧ Row w' u [(1, 0), (0, 1), (1, 1)] ∧ Below w.heap.size w w' := by
    refine hd.mono ?_
    rintro e w' ⟨u, he, hr, hb⟩
    rw [trial_dec] at he hr
    exact ⟨u, he, hr, hb⟩
  clear hd ed

  go_enter Tryz.func9, Tryz.ntmps9
  go_wp2_with fail
  refine hd2.mono ?_
  rintro e w1 ⟨u, rfl, hr, hb1⟩
  have hb2 : Below w1.heap.size w1 ((w1.alloc (.cells #[.int .i64 72, .int .i64 12] 24)).alloc (.cells #[.int .i64 1, .int .i64 0, .int .i64 0, .int .i64 1, .int .i64 1, .int .i64 1] 45)) := ((Below.refl _ _).alloc (Nat.le_refl _) _).alloc (by simp) _
  have h3 := three_cells (w1.alloc (.cells #[.int .i64 72, .int .i64 12] 24)) 1 0 0 1 1 1
  rw [show (w1.alloc (.cells #[.int .i64 72, .int .i64 12] 24)).heap.size = w1.heap.size + 1 from by simp] at h3
  have hsm := same_any _ _ _ _ (hr.below hb2) h3
  go_wp2_with fail
  refine hsm.mono ?_
  rintro e w3 ⟨rfl, hb3⟩
  go_wp2_with fail
  go_ret
  exact ⟨rfl, (hb1.trans (hb2.mono hb1.size)).trans (hb3.mono (Nat.le_trans hb1.size hb2.size))⟩
end Go.Proofs.YtmpjlbafjmocbadGreatDoor
