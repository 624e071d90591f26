/- rle.numberBehind and rle.count: what they answer. -/
import Derived.Test.YtpldnhlancjlnaaDoorNum
import Derived.Test.YtpldnhlancjlnaaDoorReads
namespace Go.Proofs.YtpldnhlancjlnaaDoor
open Go.Shelf Go.RowKit

theorem cutPrefix_any (s : List UInt8) (p : ByteArray) (w : World) :
    Calls Tryd.prog 56 #[.string ⟨s.toArray⟩, .string p] w fun e w' => e = .returned (.tuple #[.string ⟨(Lib.trimPrefix s p.data.toList).toArray⟩, .bool (Lib.hasPrefix s p.data.toList)]) ∧ w' = w :=
  Any.strings_CutPrefix Tryd.cutPrefix ⟨s.toArray⟩ p w

set_option maxRecDepth 20000 in
set_option maxHeartbeats 2000000 in
theorem behind_any (p : ByteArray) (s : List UInt8) (w : World) (hs : s.length ≤ 30000) (hv : VarsD w) :
    Calls Tryd.prog 55 #[.string p, .string ⟨s.toArray⟩] w fun e w' => e = .returned (.tuple #[.int .i64 (behindF p.data.toList s).1, .string ⟨(behindF p.data.toList s).2.1.toArray⟩, .bool (behindF p.data.toList s).2.2]) ∧ Below w.heap.size w w' := by
  have hcp := cutPrefix_any s p w
  have hlt : (Lib.trimPrefix s p.data.toList).length ≤ s.length := by unfold Lib.trimPrefix; split <;> simp
  have hnu := number_any (Lib.trimPrefix s p.data.toList) w (by omega) hv
  cases hh : Lib.hasPrefix s p.data.toList with
  | true =>
    have HX : Hid (behindF p.data.toList s = numberF (Lib.trimPrefix s p.data.toList)) := by
      show _ = _
      rw [behindF, if_pos hh, Lib.trimPrefix, if_pos hh]
    rw [hh] at hcp
    generalize Lib.trimPrefix s p.data.toList = t at *
    generalize behindF p.data.toList s = q at *
    clear hh hlt
    rw [HX.out]
    clear HX
    go_enter Tryd.func55, Tryd.ntmps55
    go_wp2_with fail
    refine hcp.mono ?_
    rintro e w1 ⟨rfl, hw⟩
    have hw2 := hw.symm
    subst hw2
    go_wp2_with fail
    refine hnu.mono ?_
    rintro e w2 ⟨rfl, hb2⟩
    go_wp2_with fail
    go_ret3
    exact ⟨rfl, hb2⟩
  | false =>
    have HX : Hid (behindF p.data.toList s = (0, s, false)) := by
      show _ = _
      rw [behindF, if_neg (by rw [hh]; simp)]
    have ht : Lib.trimPrefix s p.data.toList = s := by rw [Lib.trimPrefix, if_neg (by rw [hh]; simp)]
    rw [hh, ht] at hcp
    generalize behindF p.data.toList s = q at *
    rw [HX.out]
    clear hh hlt HX ht hnu
    go_enter Tryd.func55, Tryd.ntmps55
    go_wp2_with fail
    refine hcp.mono ?_
    rintro e w1 ⟨rfl, hw⟩
    have hw2 := hw.symm
    subst hw2
    go_wp2_with fail
    go_ret3
    exact ⟨rfl, Below.refl _ _⟩

set_option maxRecDepth 20000 in
set_option maxHeartbeats 2000000 in
theorem count_any (s : List UInt8) (w : World) (hs : s.length ≤ 30000) (hv : VarsD w) :
    Calls Tryd.prog 59 #[.string ⟨s.toArray⟩] w fun e w' => e = .returned (.tuple #[.int .i64 (countF s).1, .string ⟨(countF s).2.1.toArray⟩, .bool (countF s).2.2]) ∧ Below w.heap.size w w' := by
  have hnu := number_any s w hs hv
  have hcf : countF s = (if (numberF s).2.1 = s then (1, s, true) else ((numberF s).1, (numberF s).2.1, (numberF s).2.2 && decide (0 < (numberF s).1))) := rfl
  generalize numberF s = q at *
  obtain ⟨n, r, ok⟩ := q
  simp only at hnu hcf
  by_cases h : r = s
  · have HX : Hid (countF s = (1, s, true)) := by show _ = _; rw [hcf, if_pos h]
    have hse : (r == s) = true := by simp [h]
    clear hcf h
    go_enter Tryd.func59, Tryd.ntmps59
    go_wp2_with fail
    refine hnu.mono ?_
    rintro e w2 ⟨rfl, hb2⟩
    go_wp2_with fail
    go_ret3
    exact ⟨by rw [HX.out]; rfl, hb2⟩
  · have HX : Hid (countF s = (n, r, ok && decide (0 < n))) := by show _ = _; rw [hcf, if_neg h]
    have hse : (r == s) = false := by simp [h]
    clear hcf h
    cases ok
    · go_enter Tryd.func59, Tryd.ntmps59
      go_wp2_with fail
      refine hnu.mono ?_
      rintro e w2 ⟨rfl, hb2⟩
      go_wp2_with fail
      go_ret3
      exact ⟨by rw [HX.out]; rfl, hb2⟩
    · go_enter Tryd.func59, Tryd.ntmps59
      go_wp2_with fail
      refine hnu.mono ?_
      rintro e w2 ⟨rfl, hb2⟩
      go_wp2_with fail
      all_goals go_ret3
      all_goals exact ⟨by rw [HX.out]; simp, hb2⟩
end Go.Proofs.YtpldnhlancjlnaaDoor
