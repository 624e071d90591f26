/- A writer's piece and head: what they write. -/
import Derived.Test.YtnklpjoeopcbbaaDoorEmbed
import Derived.Test.YtnklpjoeopcbbaaDoorRlePure
import Derived.Deep.RegionHeld3
namespace Go.Proofs.YtnklpjoeopcbbaaDoor
open Go.Shelf Go.RowKit

theorem itoa_any (n : Int) (w : World) (h0 : -9223372036854775808 ≤ n) (h1 : n ≤ 9223372036854775807) (hv : Vars w) :
    Calls Tryd.prog 24 #[.int .i64 n] w fun e w' => e = .returned (.string ⟨(Lib.itoa n).toArray⟩) ∧ Below w.heap.size w w' := by
  refine (Tryd.strconv_Itoa n h0 h1 w hv.pow).mono ?_
  rintro e w' ⟨rfl, k, os, rfl⟩
  exact ⟨rfl, Lib.below_grow _ w (Nat.le_refl _) k os⟩

theorem lay_one (k : Nat) (t : List UInt8) : lay k [t] = (if 70 < k + t.length then 10 :: t else t) ∧ layK k [t] = (if 70 < k + t.length then t.length else k + t.length) := by
  rw [lay, layK]
  split
  · exact ⟨by simp [lay], rfl⟩
  · exact ⟨by simp [lay], rfl⟩

set_option maxRecDepth 20000 in
set_option maxHeartbeats 2000000 in
theorem piece_any (B b : Nat) (l : List UInt8) (k : Nat) (n : Int) (c : UInt8) (w : World) (h : IsW B b l k w) (hv : Vars w) (hB : B ≤ w.heap.size) (hl : l.length ≤ 1000000000) (hk : k ≤ 1000) (h1 : n ≤ 9223372036854775807) :
    Calls Tryd.prog 66 #[.pointer (some ⟨b, 0, none⟩), .int .i64 n, .string ⟨#[c]⟩] w fun e w' => e = .returned (.tuple #[]) ∧ IsW B b (l ++ lay k [pieceT (n, c)]) (layK k [pieceT (n, c)]) w' ∧ Left B b w w' := by
  have hge := h.ge
  obtain ⟨e1, e2⟩ := lay_one k (pieceT (n, c))
  rw [e1, e2]
  by_cases hn : 1 < n
  · have hit := itoa_any n w (by omega) h1 hv
    have hp : pieceT (n, c) = Lib.itoa n ++ [c] := by simp [pieceT, hn]
    have hlen := Lib.itoa_length_le n (by omega) h1
    rw [hp]
    obtain ⟨S, hS⟩ : ∃ S : ByteArray, S = ⟨(Lib.itoa n).toArray⟩ := ⟨_, rfl⟩
    have hSl : Lib.itoa n = S.data.toList := by rw [hS]
    have hSz : S.size = (Lib.itoa n).length := by rw [hS]; rfl
    rw [← hS] at hit
    rw [← hSz] at hlen
    rw [hSl]
    have HS : Hid (S.data.toList.length = S.size) := by show _ = _; rw [← hSl, hSz]
    clear hS hSl hSz hp e1 e2
    have hcat : ¬ 9223372036854775807 < S.size + 1 := by omega
    have HT : Hid ((S ++ ⟨#[c]⟩ : ByteArray).data.toList = S.data.toList ++ [c]) := by show _ = _; simp [ByteArray.data_append]
    have HZ : Hid ((S ++ ⟨#[c]⟩ : ByteArray).size = S.size + 1) := by show _ = _; rw [ByteArray.size_append]; rfl
    by_cases hbig : 70 < k + (S.size + 1)
    · have hq : (70 : Int) < (k : Int) + ((S.size : Int) + 1) := by omega
      rw [if_pos (by simp [HS.out]; omega), if_pos (by simp [HS.out]; omega)]
      go_enter Tryd.func66, Tryd.ntmps66
      go_wp2_with fail
      refine hit.mono ?_
      rintro e w1 ⟨rfl, hb1⟩
      have g1 := h.go hb1
      have f1 : Left B b w w1 := Left.of hb1 hB
      obtain ⟨cl, fl⟩ := g1.line
      go_wp2_with fail
      refine (wByte_any B b l k 10 _ g1 (by omega) (Nat.le_trans hB hb1.size)).mono ?_
      rintro e w2 ⟨rfl, g2, f2⟩
      obtain ⟨cl2, fl2⟩ := g2.line
      have g3 := g2.setLine 0
      have f3 : Left B b w1 (w2.setCell ⟨b, 2, none⟩ (.int .i64 0)) := f2.setCell hge 2 _
      go_wp2_with fail
      have hlim : (l ++ [10]).length + (S ++ ⟨#[c]⟩ : ByteArray).size ≤ 140737488355328 := by rw [HZ.out, List.length_append]; show _ + 1 + _ ≤ _; omega
      have hgo := wString_any B b (l ++ [10]) 0 (S ++ ⟨#[c]⟩) _ g3 hlim (by have h1 := f3.1.size; have h2 := hb1.size; omega)
      refine hgo.mono ?_
      rintro e w4 ⟨rfl, g4, f4⟩
      obtain ⟨cl4, fl4⟩ := g4.line
      go_wp2_with fail
      go_end0
      refine ⟨rfl, ?_, ((f1.trans f3).trans f4).setCell hge 2 _⟩
      have g5 := g4.setLine ((S.size : Int) + 1)
      rw [HT.out] at g5
      rw [show (((S.data.toList ++ [c]).length : Nat) : Int) = (S.size : Int) + 1 by rw [List.length_append, HS.out]; rfl]
      rw [List.append_assoc] at g5
      simpa using g5
    · have hq : (k : Int) + ((S.size : Int) + 1) ≤ 70 := by omega
      rw [if_neg (by simp [HS.out]; omega), if_neg (by simp [HS.out]; omega)]
      go_enter Tryd.func66, Tryd.ntmps66
      go_wp2_with fail
      refine hit.mono ?_
      rintro e w1 ⟨rfl, hb1⟩
      have g1 := h.go hb1
      have f1 : Left B b w w1 := Left.of hb1 hB
      obtain ⟨cl, fl⟩ := g1.line
      go_wp2_with fail
      have hlim : l.length + (S ++ ⟨#[c]⟩ : ByteArray).size ≤ 140737488355328 := by rw [HZ.out]; omega
      have hgo := wString_any B b l k (S ++ ⟨#[c]⟩) _ g1 hlim (Nat.le_trans hB hb1.size)
      refine hgo.mono ?_
      rintro e w4 ⟨rfl, g4, f4⟩
      obtain ⟨cl4, fl4⟩ := g4.line
      go_wp2_with fail
      go_end0
      refine ⟨rfl, ?_, (f1.trans f4).setCell hge 2 _⟩
      have g5 := g4.setLine ((k : Int) + ((S.size : Int) + 1))
      rw [HT.out] at g5
      rw [show ((k + (S.data.toList ++ [c]).length : Nat) : Int) = (k : Int) + ((S.size : Int) + 1) by rw [List.length_append, HS.out]; simp]
      simpa using g5
  · have hp : pieceT (n, c) = [c] := by simp [pieceT, hn]
    have hn2 : n ≤ 1 := by omega
    rw [hp]
    clear e1 e2 hp
    by_cases hbig : 70 < k + 1
    · have hq : (70 : Int) < (k : Int) + 1 := by omega
      rw [if_pos (by simp; omega), if_pos (by simp; omega)]
      go_enter Tryd.func66, Tryd.ntmps66
      obtain ⟨cl, fl⟩ := h.line
      go_wp2_with fail
      refine (wByte_any B b l k 10 _ h (by omega) hB).mono ?_
      rintro e w2 ⟨rfl, g2, f2⟩
      obtain ⟨cl2, fl2⟩ := g2.line
      have g3 := g2.setLine 0
      have f3 : Left B b w (w2.setCell ⟨b, 2, none⟩ (.int .i64 0)) := f2.setCell hge 2 _
      go_wp2_with fail
      refine (wString_any B b (l ++ [10]) 0 ⟨#[c]⟩ _ g3 (by show _ + 1 ≤ _; simp; omega) (by have h1 := f3.1.size; omega)).mono ?_
      rintro e w4 ⟨rfl, g4, f4⟩
      obtain ⟨cl4, fl4⟩ := g4.line
      go_wp2_with fail
      go_end0
      refine ⟨rfl, ?_, (f3.trans f4).setCell hge 2 _⟩
      have g5 := g4.setLine 1
      rw [List.append_assoc] at g5
      simpa using g5
    · have hq : (k : Int) + 1 ≤ 70 := by omega
      rw [if_neg (by simp; omega), if_neg (by simp; omega)]
      go_enter Tryd.func66, Tryd.ntmps66
      obtain ⟨cl, fl⟩ := h.line
      go_wp2_with fail
      refine (wString_any B b l k ⟨#[c]⟩ _ h (by show _ + 1 ≤ _; omega) hB).mono ?_
      rintro e w4 ⟨rfl, g4, f4⟩
      obtain ⟨cl4, fl4⟩ := g4.line
      go_wp2_with fail
      go_end0
      refine ⟨rfl, ?_, f4.setCell hge 2 _⟩
      have g5 := g4.setLine ((k : Int) + 1)
      simpa using g5
end Go.Proofs.YtnklpjoeopcbbaaDoor
