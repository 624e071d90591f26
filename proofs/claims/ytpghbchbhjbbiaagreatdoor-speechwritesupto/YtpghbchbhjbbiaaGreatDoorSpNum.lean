/- numberOf. -/
import Derived.Test.YtpghbchbhjbbiaaGreatDoorSpVars
import Derived.Test.YtpghbchbhjbbiaaGreatDoorSpShelf
import Derived.Lib.AppendIntMem
namespace Go.Proofs.YtpghbchbhjbbiaaGreatDoor
open Go.RowKit

/-- a number's text: the number, and whether it is one -/
def numOf (l : List UInt8) : Int × Bool :=
  match Lib.atoiAll l with
  | .ok v => (v, decide (Lib.itoa v = l) && decide (-1000000000000000000 < v) && decide (v < 1000000000000000000))
  | .«syntax» => (0, false)
  | .range => (Lib.atoiSat l, false)

theorem numOf_ok {l : List UInt8} {v : Int} (h : Lib.atoiAll l = .ok v) : numOf l = (v, decide (Lib.itoa v = l) && decide (-1000000000000000000 < v) && decide (v < 1000000000000000000)) := by
  unfold numOf
  rw [h]
theorem atoi_any (s : ByteArray) (w : World) (hs : s.size ≤ 281474976710656) (hv : Vars w) :
    Calls Tryz.prog 84 #[.string s] w fun e w' => Below w.heap.size w w' ∧ ((∃ v, Lib.atoiAll s.data.toList = .ok v ∧ e = .returned (.tuple #[.int .i64 v, .nilIface])) ∨ ((∀ v, Lib.atoiAll s.data.toList ≠ .ok v) ∧ ∃ t p, e = .returned (.tuple #[.int .i64 (numOf s.data.toList).1, .iface t p]))) := by
  obtain ⟨t1, p1, h1⟩ := hv.synt
  obtain ⟨t2, p2, h2⟩ := hv.rng
  cases h : Lib.atoiAll s.data.toList with
  | ok v =>
    refine (Tryz.strconv_Atoi_ok s (by omega) v h w).mono fun e w' ⟨he, hw⟩ => ⟨?_, Or.inl ⟨v, rfl, he⟩⟩
    rcases hw with rfl | ⟨t, rfl⟩
    · exact Below.refl _ _
    · exact Lib.bytesWorld_below _ _ _
  | «syntax» =>
    have h0 : (numOf s.data.toList).1 = 0 := by unfold numOf; rw [h]
    rw [h0]
    exact (Tryz.strconv_Atoi_syntax s hs h _ w h1 (Or.inr ⟨t1, p1, rfl⟩)).mono fun e w' ⟨N, he, _, _, hb⟩ => ⟨hb, Or.inr ⟨(fun v hv => by cases hv), _, _, he⟩⟩
  | range =>
    have h0 : (numOf s.data.toList).1 = Lib.atoiSat s.data.toList := by unfold numOf; rw [h]
    rw [h0]
    exact (Tryz.strconv_Atoi_range s hs h _ w h2 (Or.inr ⟨t2, p2, rfl⟩)).mono fun e w' ⟨N, he, _, _, hb⟩ => ⟨hb, Or.inr ⟨(fun v hv => by cases hv), _, _, he⟩⟩
theorem itoa_any (n : Int) (w : World) (h0 : -9223372036854775808 ≤ n) (h1 : n ≤ 9223372036854775807) (hv : Vars w) :
    Calls Tryz.prog 48 #[.int .i64 n] w fun e w' => e = .returned (.string ⟨(Lib.itoa n).toArray⟩) ∧ Below w.heap.size w w' :=
  (Tryz.strconv_Itoa n h0 h1 w hv.pow).mono fun _ _ ⟨he, k, os, hw⟩ => ⟨he, hw ▸ Lib.below_grow w.heap.size w (Nat.le_refl _) k os⟩

set_option maxRecDepth 20000 in
set_option maxHeartbeats 1000000 in
theorem numberOf_any (s : ByteArray) (w : World) (hs : s.size ≤ 281474976710656) (hv : Vars w) :
    Calls Tryz.prog 60 #[.string s] w fun e w' => e = .returned (.tuple #[.int .i64 (numOf s.data.toList).1, .bool (numOf s.data.toList).2]) ∧ Below w.heap.size w w' := by
  have ca := atoi_any s w hs hv
  have ci := fun n W (h0 : -9223372036854775808 ≤ n) (h1 : n ≤ 9223372036854775807) (hV : Vars W) => itoa_any n W h0 h1 hV
  have HV : Hid (Vars w) := hv
  clear hv
  go_enter Tryz.func60, Tryz.ntmps60
  go_wp2_with fail
  refine ca.mono ?_
  rintro e w1 ⟨hb1, ⟨v, hv, rfl⟩ | ⟨hno, t, p, rfl⟩⟩
  · have hV1 := HV.out.below hb1
    obtain ⟨hv0, hv1⟩ := Lib.atoiAll_bounds hv
    have c2 := ci v w1 hv0 hv1 hV1
    have HN : Hid (numOf s.data.toList = (v, decide (Lib.itoa v = s.data.toList) && decide (-1000000000000000000 < v) && decide (v < 1000000000000000000))) := numOf_ok hv
    have hbq : ((⟨(Lib.itoa v).toArray⟩ : ByteArray).toList == s.toList) = decide (Lib.itoa v = s.data.toList) := by
      rw [beq_ba]
      congr 1
      apply propext
      constructor
      · intro h; rw [← h]
      · intro h; rw [h, ← ba_list s]
    clear ca ci hv hV1
    by_cases hd : Lib.itoa v = s.data.toList
    · rw [decide_eq_true hd] at hbq
      have HD : Hid (decide (Lib.itoa v = s.data.toList) = true) := decide_eq_true hd
      clear hd
      generalize (⟨(Lib.itoa v).toArray⟩ : ByteArray) = IV at *
      by_cases hl : -1000000000000000000 < v
      · by_cases hr : v < 1000000000000000000
        · go_wp2_with (go_at_call 48; refine c2.mono ?_; rintro e w2 ⟨rfl, hb2⟩)
          go_ret2
          rw [HN.out, HD.out, decide_eq_true hl, decide_eq_true hr]
          exact ⟨rfl, hb1.trans (hb2.mono hb1.size)⟩
        · go_wp2_with (go_at_call 48; refine c2.mono ?_; rintro e w2 ⟨rfl, hb2⟩)
          go_ret2
          rw [HN.out, HD.out, decide_eq_true hl, decide_eq_false (by omega)]
          exact ⟨rfl, hb1.trans (hb2.mono hb1.size)⟩
      · go_wp2_with (go_at_call 48; refine c2.mono ?_; rintro e w2 ⟨rfl, hb2⟩)
        go_ret2
        rw [HN.out, HD.out, decide_eq_false (by omega)]
        exact ⟨rfl, hb1.trans (hb2.mono hb1.size)⟩
    · rw [decide_eq_false hd] at hbq
      have HD : Hid (decide (Lib.itoa v = s.data.toList) = false) := decide_eq_false hd
      clear hd
      generalize (⟨(Lib.itoa v).toArray⟩ : ByteArray) = IV at *
      go_wp2_with (go_at_call 48; refine c2.mono ?_; rintro e w2 ⟨rfl, hb2⟩)
      go_ret2
      rw [HN.out, HD.out]
      exact ⟨rfl, hb1.trans (hb2.mono hb1.size)⟩
  · have HN : Hid ((numOf s.data.toList).2 = false) := by
      show _ = _
      unfold numOf
      cases h : Lib.atoiAll s.data.toList with
      | ok v => exact absurd h (hno v)
      | «syntax» => rfl
      | range => rfl
    clear ca ci hno
    go_wp2_with fail
    go_ret2
    rw [HN.out]
    exact ⟨rfl, hb1⟩
end Go.Proofs.YtpghbchbhjbbiaaGreatDoor
