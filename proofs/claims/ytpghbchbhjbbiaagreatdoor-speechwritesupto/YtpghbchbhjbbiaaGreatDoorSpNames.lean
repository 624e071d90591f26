/- madeOf, Named, Keyed. -/
import Derived.Test.YtpghbchbhjbbiaaGreatDoorSpKit
import Derived.Test.YtpghbchbhjbbiaaGreatDoorSpShelf
namespace Go.Proofs.YtpghbchbhjbbiaaGreatDoor
open Go.RowKit

/-- 1 to most bytes of a set -/
def madeB (l set : List UInt8) (most : Nat) : Bool := !l.isEmpty && decide (l.length ≤ most) && (Lib.trimS l set).isEmpty
def lettersL : List UInt8 := [97, 98, 99, 100, 101, 102, 103, 104, 105, 106, 107, 108, 109, 110, 111, 112, 113, 114, 115, 116, 117, 118, 119, 120, 121, 122]
def lettDigL : List UInt8 := lettersL ++ [48, 49, 50, 51, 52, 53, 54, 55, 56, 57]
def namedB (s : ByteArray) : Bool := madeB s.data.toList lettersL 12
def keyedB (s : ByteArray) : Bool := Lib.hasPrefix s.data.toList [33] && madeB (Lib.trimPrefix s.data.toList [33]) lettDigL 40

set_option maxRecDepth 20000 in
set_option maxHeartbeats 1000000 in
theorem madeOf_any (s set : ByteArray) (most : Nat) (w : World) (hs : s.size ≤ 9223372036854775807) (hcs : set.size < 4294967281) (hascii : ∀ (j : Nat) b, set.data.toList[j]? = some b → b.toNat < 128) :
    Calls Tryz.prog 78 #[.string s, .string set, .int .i64 most] w fun e w' => e = .returned (.bool (madeB s.data.toList set.data.toList most)) ∧ Below w.heap.size w w' := by
  have hlen := ba_len s
  have htr := Tryz.strings_Trim_ascii s set w hs hcs hascii
  have HM : Hid (madeB s.data.toList set.data.toList most = (!s.data.toList.isEmpty && decide (s.data.toList.length ≤ most) && (Lib.trimS s.data.toList set.data.toList).isEmpty)) := rfl
  by_cases h0 : s.size = 0
  · have he : s.toList.isEmpty = true := by rw [ByteArray.toList_eq, List.isEmpty_iff_length_eq_zero]; omega
    have HE : Hid (s.data.toList.isEmpty = true) := by show _ = _; rw [List.isEmpty_iff_length_eq_zero]; omega
    clear htr
    go_enter Tryz.func78, Tryz.ntmps78
    go_wp2_with fail
    go_ret
    rw [HM.out, HE.out]
    exact ⟨rfl, Below.refl _ _⟩
  · have he : s.toList.isEmpty = false := by rw [ByteArray.toList_eq, Bool.eq_false_iff, Ne, List.isEmpty_iff_length_eq_zero]; omega
    have HE : Hid (s.data.toList.isEmpty = false) := by show _ = _; rw [Bool.eq_false_iff, Ne, List.isEmpty_iff_length_eq_zero]; omega
    by_cases h1 : s.size ≤ most
    · have hi : (s.size : Int) ≤ (most : Int) := by omega
      have HD : Hid (decide (s.data.toList.length ≤ most) = true) := by show _ = _; rw [decide_eq_true_iff]; omega
      generalize Lib.trimS s.data.toList set.data.toList = T at *
      go_enter Tryz.func78, Tryz.ntmps78
      go_wp2_with (go_at_call 97; refine htr.mono ?_; rintro e w1 ⟨rfl, hb1⟩)
      go_ret
      rw [HM.out, HE.out, HD.out]
      exact ⟨rfl, hb1⟩
    · have hi : ¬ (s.size : Int) ≤ (most : Int) := by omega
      have HD : Hid (decide (s.data.toList.length ≤ most) = false) := by show _ = _; rw [decide_eq_false_iff_not]; omega
      clear htr
      go_enter Tryz.func78, Tryz.ntmps78
      go_wp2_with fail
      go_ret
      rw [HM.out, HE.out, HD.out]
      exact ⟨rfl, Below.refl _ _⟩

theorem named_any (s : ByteArray) (w : World) (hs : s.size ≤ 9223372036854775807) :
    Calls Tryz.prog 55 #[.string s] w fun e w' => e = .returned (.bool (namedB s)) ∧ Below w.heap.size w w' := by
  have c := madeOf_any s ⟨#[97, 98, 99, 100, 101, 102, 103, 104, 105, 106, 107, 108, 109, 110, 111, 112, 113, 114, 115, 116, 117, 118, 119, 120, 121, 122]⟩ 12 w hs (by decide) (ascii_of_all (by decide))
  have HN : Hid (madeB s.data.toList (⟨#[97, 98, 99, 100, 101, 102, 103, 104, 105, 106, 107, 108, 109, 110, 111, 112, 113, 114, 115, 116, 117, 118, 119, 120, 121, 122]⟩ : ByteArray).data.toList 12 = namedB s) := rfl
  rw [HN.out] at c
  go_enter Tryz.func55, Tryz.ntmps55
  go_wp2_with (go_at_call 78; refine c.mono ?_; rintro e w1 ⟨rfl, hb1⟩)
  go_ret
  exact ⟨rfl, hb1⟩

theorem trimPre_len (L P : List UInt8) : (Lib.trimPrefix L P).length ≤ L.length := by
  unfold Lib.trimPrefix
  split
  · rw [List.length_drop]; omega
  · omega
set_option maxRecDepth 20000 in
set_option maxHeartbeats 1000000 in
theorem keyed_any (s : ByteArray) (w : World) (hs : s.size ≤ 9223372036854775807) :
    Calls Tryz.prog 58 #[.string s] w fun e w' => e = .returned (.bool (keyedB s)) ∧ Below w.heap.size w w' := by
  have hl := ba_len s
  have ht := trimPre_len s.data.toList [33]
  have c0 := Tryz.strings_CutPrefix s ⟨#[33]⟩ w
  have c := madeOf_any ⟨(Lib.trimPrefix s.data.toList [33]).toArray⟩ ⟨#[97, 98, 99, 100, 101, 102, 103, 104, 105, 106, 107, 108, 109, 110, 111, 112, 113, 114, 115, 116, 117, 118, 119, 120, 121, 122, 48, 49, 50, 51, 52, 53, 54, 55, 56, 57]⟩ 40 w (by rw [ba_size]; omega) (by decide) (ascii_of_all (by decide))
  have HK : Hid (keyedB s = (Lib.hasPrefix s.data.toList [33] && madeB (Lib.trimPrefix s.data.toList [33]) lettDigL 40)) := rfl
  have e1 : (⟨#[33]⟩ : ByteArray).data.toList = [33] := rfl
  rw [e1] at c0
  have e2 : madeB (⟨(Lib.trimPrefix s.data.toList [33]).toArray⟩ : ByteArray).data.toList (⟨#[97, 98, 99, 100, 101, 102, 103, 104, 105, 106, 107, 108, 109, 110, 111, 112, 113, 114, 115, 116, 117, 118, 119, 120, 121, 122, 48, 49, 50, 51, 52, 53, 54, 55, 56, 57]⟩ : ByteArray).data.toList 40 = madeB (Lib.trimPrefix s.data.toList [33]) lettDigL 40 := rfl
  rw [e2] at c
  clear e1 e2 hl ht
  generalize madeB (Lib.trimPrefix s.data.toList [33]) lettDigL 40 = m at *
  generalize Lib.trimPrefix s.data.toList [33] = T at *
  generalize Lib.hasPrefix s.data.toList [33] = p at *
  cases p
  · clear c
    go_enter Tryz.func58, Tryz.ntmps58
    go_wp2_with (go_at_call 80; refine c0.mono ?_; rintro e w1 ⟨rfl, hw⟩; have hw2 := hw.symm; subst hw2; clear hw)
    go_ret
    rw [HK.out]
    exact ⟨rfl, Below.refl _ _⟩
  · go_enter Tryz.func58, Tryz.ntmps58
    go_wp2_with (first | (go_at_call 80; refine c0.mono ?_; rintro e w1 ⟨rfl, hw⟩; have hw2 := hw.symm; subst hw2; clear hw) | (go_at_call 78; refine c.mono ?_; rintro e w2 ⟨rfl, hb2⟩))
    go_ret
    rw [HK.out]
    exact ⟨rfl, hb2⟩
end Go.Proofs.YtpghbchbhjbbiaaGreatDoor
