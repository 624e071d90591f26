/- A writer's head: the line that it writes. -/
import Derived.Test.YtnklpjoeopcbbaaDoorPiece
namespace Go.Proofs.YtnklpjoeopcbbaaDoor
open Go.Shelf Go.RowKit

theorem IsW.drew {B b : Nat} {l : List UInt8} {ln : Int} {w : World} (h : IsW B b l ln w) : IsW B b l ln w.drew := h
theorem Left.drew {B b : Nat} {w w' : World} (h : Left B b w w') : Left B b w w'.drew := ⟨h.1.drew, h.2.drew⟩
theorem Vars.drew {w : World} (h : Vars w) : Vars w.drew := ⟨h.pow, h.room⟩

set_option maxRecDepth 20000 in
set_option maxHeartbeats 2000000 in
theorem head_any (B b : Nat) (W H : Int) (rt : ByteArray) (w : World) (h : IsW B b [] 0 w) (hv : Vars w) (hB : B ≤ w.heap.size) (hB8 : 6 ≤ B) (hW : 0 ≤ W ∧ W ≤ 9223372036854775807) (hH : 0 ≤ H ∧ H ≤ 9223372036854775807) (hrt : rt.size ≤ 1000) :
    Calls Tryd.prog 43 #[.pointer (some ⟨b, 0, none⟩), .int .i64 W, .int .i64 H, .string rt] w fun e w' => e = .returned (.tuple #[]) ∧ IsW B b (headT W H rt.data.toList) 0 w' ∧ Left B b w w' := by
  have hlW := Lib.itoa_length_le W (by omega) hW.2
  have hlH := Lib.itoa_length_le H (by omega) hH.2
  have hiW := fun V hV => itoa_any W V (by omega) hW.2 hV
  have hiH := fun V hV => itoa_any H V (by omega) hH.2 hV
  have hhead : headT W H rt.data.toList = [120, 32, 61, 32] ++ Lib.itoa W ++ ([44, 32, 121, 32, 61, 32] ++ Lib.itoa H) ++ ([44, 32, 114, 117, 108, 101, 32, 61, 32] ++ rt.data.toList ++ [10]) := rfl
  rw [hhead]
  clear hhead
  obtain ⟨S, hS⟩ : ∃ S : ByteArray, S = ⟨(Lib.itoa W).toArray⟩ := ⟨_, rfl⟩
  obtain ⟨T, hT⟩ : ∃ T : ByteArray, T = ⟨(Lib.itoa H).toArray⟩ := ⟨_, rfl⟩
  have hSl : Lib.itoa W = S.data.toList := by rw [hS]
  have hTl : Lib.itoa H = T.data.toList := by rw [hT]
  have hSz : S.size = (Lib.itoa W).length := by rw [hS]; rfl
  have hTz : T.size = (Lib.itoa H).length := by rw [hT]; rfl
  rw [← hS] at hiW
  rw [← hT] at hiH
  rw [← hSz] at hlW
  rw [← hTz] at hlH
  rw [hSl, hTl]
  have HS : Hid (S.data.toList.length = S.size ∧ T.data.toList.length = T.size) := by
    show _ ∧ _
    rw [← hSl, hSz, ← hTl, hTz]; exact ⟨rfl, rfl⟩
  clear hS hT hSl hTl hSz hTz hW hH
  have hc1 : ¬ 9223372036854775807 < 4 + S.size := by omega
  have hc2 : ¬ 9223372036854775807 < 6 + T.size := by omega
  have hc3 : ¬ 9223372036854775807 < 9 + rt.size := by omega
  have hc4 : ¬ 9223372036854775807 < 9 + rt.size + 1 := by omega
  have hwS := fun V (g : IsW B b [] 0 V) (k : B ≤ V.heap.size) => wString_any B b [] 0 (⟨#[120, 32, 61, 32]⟩ ++ S) V g (by rw [ByteArray.size_append]; show 0 + (4 + _) ≤ _; omega) k
  go_enter Tryd.func43, Tryd.ntmps43
  go_wp2_with fail
  go_region_held3 (fun _ => True) (trivial)
    (first | (go_at_call 24; refine (hiW _ (by exact hv.drew)).mono ?_; rintro e w1 ⟨rfl, hb1⟩) | (go_at_call 64; refine (hwS _ (by exact h.drew.go hb1) (by exact Nat.le_trans hB hb1.size)).mono ?_; rintro e w2 ⟨rfl, g2, f2⟩))
  have hz1 : w.heap.size ≤ w1.heap.size := hb1.size
  have hz2 := f2.1.size
  have hv2 : Vars w2 := (hv.drew.go hb1 (by have := hv.room; exact this)).go f2.1 hB8
  have F2 : Left B b w w2 := (Left.of (B := B) (b := b) (show Below w.heap.size w w1 from (Below.refl _ _).drew.trans hb1) hB).trans f2
  clear hiW hwS
  have e2 : ([] : List UInt8) ++ (⟨#[120, 32, 61, 32]⟩ ++ S : ByteArray).data.toList = [120, 32, 61, 32] ++ S.data.toList := by simp [ByteArray.data_append]
  rw [e2] at g2
  generalize hl2 : [120, 32, 61, 32] ++ S.data.toList = l2 at g2
  have HL2 : Hid ([120, 32, 61, 32] ++ S.data.toList = l2) := hl2
  have hl2z : l2.length = 4 + S.size := by rw [← hl2, List.length_append, HS.out.1]; rfl
  have hl2b : l2.length ≤ 100 := by omega
  clear hl2 hl2z e2
  have hwT := fun V (g : IsW B b l2 0 V) (k : B ≤ V.heap.size) => wString_any B b l2 0 (⟨#[44, 32, 121, 32, 61, 32]⟩ ++ T) V g (by rw [ByteArray.size_append]; show _ + (6 + _) ≤ _; omega) k
  go_wp2_with fail
  go_region_held3 (fun _ => True) (trivial)
    (first | (go_at_call 24; refine (hiH _ (by exact hv2.drew)).mono ?_; rintro e w3 ⟨rfl, hb3⟩) | (go_at_call 64; refine (hwT _ (by exact g2.drew.go hb3) (by exact Nat.le_trans hB (Nat.le_trans hz1 (Nat.le_trans hz2 hb3.size)))).mono ?_; rintro e w4 ⟨rfl, g4, f4⟩))
  have hz3 : w2.heap.size ≤ w3.heap.size := hb3.size
  have hz4 := f4.1.size
  have F4 : Left B b w w4 := (F2.trans (Left.of (B := B) (b := b) (show Below w2.heap.size w2 w3 from (Below.refl _ _).drew.trans hb3) (by omega))).trans f4
  have e4 : l2 ++ (⟨#[44, 32, 121, 32, 61, 32]⟩ ++ T : ByteArray).data.toList = l2 ++ ([44, 32, 121, 32, 61, 32] ++ T.data.toList) := by simp [ByteArray.data_append]
  rw [e4] at g4
  generalize hl4 : l2 ++ ([44, 32, 121, 32, 61, 32] ++ T.data.toList) = l4 at g4
  have HL4 : Hid (l2 ++ ([44, 32, 121, 32, 61, 32] ++ T.data.toList) = l4) := hl4
  have hl4b : l4.length ≤ 200 := by rw [← hl4, List.length_append, List.length_append, HS.out.2]; show _ + (6 + _) ≤ _; omega
  clear hl4 e4 hiH hwT
  have hwR := wString_any B b l4 0 (⟨#[44, 32, 114, 117, 108, 101, 32, 61, 32]⟩ ++ rt ++ ⟨#[10]⟩) w4 g4 (by rw [ByteArray.size_append, ByteArray.size_append]; show _ + (9 + _ + 1) ≤ _; omega) (by omega)
  go_wp2_with fail
  refine hwR.mono ?_
  rintro e w5 ⟨rfl, g5, f5⟩
  go_wp2_with fail
  go_end0
  refine ⟨rfl, ?_, F4.trans f5⟩
  have e5 : l4 ++ (⟨#[44, 32, 114, 117, 108, 101, 32, 61, 32]⟩ ++ rt ++ ⟨#[10]⟩ : ByteArray).data.toList = l4 ++ ([44, 32, 114, 117, 108, 101, 32, 61, 32] ++ rt.data.toList ++ [10]) := by simp [ByteArray.data_append]
  rw [e5, ← HL4.out, ← HL2.out] at g5
  simpa using g5
end Go.Proofs.YtnklpjoeopcbbaaDoor
