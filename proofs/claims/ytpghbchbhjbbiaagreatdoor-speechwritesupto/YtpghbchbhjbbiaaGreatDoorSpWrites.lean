/- Write. -/
import Derived.Test.YtpghbchbhjbbiaaGreatDoorSpWrite
namespace Go.Proofs.YtpghbchbhjbbiaaGreatDoor
open Go.RowKit

theorem known_any (n : Int) (w : World) : Calls Tryz.prog 25 #[.int .i64 n] w fun e w' => e = .returned (.bool (decide (0 ≤ n) && decide (n < 11))) ∧ w' = w := by
  by_cases h0 : 0 ≤ n
  · by_cases h1 : n < 11
    · go_enter Tryz.func25, Tryz.ntmps25
      go_wp2
      go_ret
      exact ⟨by simp [h0, h1], rfl⟩
    · go_enter Tryz.func25, Tryz.ntmps25
      go_wp2
      go_ret
      exact ⟨by simp [h1], rfl⟩
  · go_enter Tryz.func25, Tryz.ntmps25
    go_wp2
    go_ret
    exact ⟨by simp; omega, rfl⟩

/-- what Write answers -/
def writeRq (q : Rq) : ByteArray × Int :=
  if 1 ≤ q.verb ∧ q.verb ≤ 10 then (if (readRq (lineF q)).2 = 0 then (if sameRq (readRq (lineF q)).1 q = true then (lineF q, 0) else (⟨#[]⟩, 2)) else (⟨#[]⟩, (readRq (lineF q)).2)) else (⟨#[]⟩, 4)

set_option maxRecDepth 20000 in
set_option maxHeartbeats 2000000 in
theorem Write_any (q : Rq) (v : Value) (w : World) (hrow : CRow w 0 v q.cells) (hv : Vars w) (hh : In64 q.n ∧ (∀ c ∈ q.cells, In64 c.1 ∧ In64 c.2) ∧ q.name.size ≤ 1000000000 ∧ q.other.size ≤ 1000000000) :
    Calls Tryz.prog 10 #[q.val v] w fun e w' => e = .returned (.tuple #[.string (writeRq q).1, .int .i64 (writeRq q).2]) ∧ Below w.heap.size w w' := by
  obtain ⟨va, vn, vc, rfl⟩ := crow_slice hrow
  have hb0 : Below w.heap.size w (w.alloc (.cells #[.int .i64 q.verb, .string q.name, .string q.other, .int .i64 q.born, .int .i64 q.live, .int .i64 q.n, .slice va vn vc] 26)) := (Below.refl _ _).alloc (Nat.le_refl _) _
  have P0 := SevIn.born w (.int .i64 q.verb) (.string q.name) (.string q.other) (.int .i64 q.born) (.int .i64 q.live) (.int .i64 q.n) (.slice va vn vc)
  have hv0 := hv.below hb0
  have hrow0 := hrow.below hb0
  have HVAL : Hid (q.val (.slice va vn vc) = .agg #[.int .i64 q.verb, .string q.name, .string q.other, .int .i64 q.born, .int .i64 q.live, .int .i64 q.n, .slice va vn vc]) := rfl
  have ck := known_any q.verb
  have HW : Hid (writeRq q = if 1 ≤ q.verb ∧ q.verb ≤ 10 then (if (readRq (lineF q)).2 = 0 then (if sameRq (readRq (lineF q)).1 q = true then (lineF q, 0) else (⟨#[]⟩, 2)) else (⟨#[]⟩, (readRq (lineF q)).2)) else (⟨#[]⟩, 4)) := rfl
  generalize writeRq q = WR at *
  by_cases hvb : 1 ≤ q.verb ∧ q.verb ≤ 10
  · have cl := lineOf_any q (.slice va vn vc) _ hrow0 hv0 hvb hh
    have hk : (decide (0 ≤ q.verb) && decide (q.verb < 11)) = true := by simp; omega
    rw [hk] at ck
    have hz : (q.verb == 0) = false := by simp; omega
    have cr := fun W hW => Read_any (lineF q) W hW
    rw [if_pos hvb] at HW
    generalize lineF q = L at *
    have HL : Hid (readRq L = ((readRq L).1, (readRq L).2)) := rfl
    rw [HVAL.out] at cl ⊢
    generalize hw0 : w.alloc (.cells #[.int .i64 q.verb, .string q.name, .string q.other, .int .i64 q.born, .int .i64 q.live, .int .i64 q.n, .slice va vn vc] 26) = w0 at *
    obtain ⟨a0, a1, a2, a3, a4, a5, a6⟩ := P0.cells
    have HB0 : Hid (Below w.heap.size w w0) := hb0
    have HR0 : Hid (CRow w0 0 (.slice va vn vc) q.cells) := hrow0
    have HV0 : Hid (Vars w0) := hv0
    have HP0 : Hid (SevIn w.heap.size (.int .i64 q.verb) (.string q.name) (.string q.other) (.int .i64 q.born) (.int .i64 q.live) (.int .i64 q.n) (.slice va vn vc) w0) := P0
    clear hb0 hrow hv hrow0 hv0 P0 hh hk
    go_enter Tryz.func10, Tryz.ntmps10
    go_wp2_with (first | (go_at_call 25; refine (ck _).mono ?_; rintro e w9 ⟨rfl, hw⟩; have hw2 := hw.symm; subst hw2; clear hw) | (go_at_call 26; refine cl.mono ?_; rintro e w1 ⟨rfl, hb1⟩))
    refine (cr _ (HV0.out.below hb1)).mono ?_
    rintro e w2 ⟨hb2, rv, rfl, hrv⟩
    obtain ⟨ra, rn, rc, rfl⟩ := crow_slice hrv
    clear HL
    generalize readRq L = RR at *
    obtain ⟨RQ, re⟩ := RR
    simp only at HW hrv ⊢
    have hb02 : Below w0.heap.size w0 w2 := hb1.trans (hb2.mono hb1.size)
    have HB2 : Hid (Below w.heap.size w w2) := HB0.out.trans (hb02.mono HB0.out.size)
    have hrow2 := HR0.out.below hb02
    have hP2 := HP0.out.go hb02
    have hb3 : Below w2.heap.size w2 (w2.alloc (.cells #[.int .i64 RQ.verb, .string RQ.name, .string RQ.other, .int .i64 RQ.born, .int .i64 RQ.live, .int .i64 RQ.n, .slice ra rn rc] 26)) := (Below.refl _ _).alloc (Nat.le_refl _) _
    have hq3 := SevIn.born w2 (.int .i64 RQ.verb) (.string RQ.name) (.string RQ.other) (.int .i64 RQ.born) (.int .i64 RQ.live) (.int .i64 RQ.n) (.slice ra rn rc)
    have hP3 := hP2.go hb3
    have cs := sameP_any RQ q (.slice ra rn rc) (.slice va vn vc) _ ((hrv.below hb3).hr) ((hrow2.below hb3).hr)
    have HB3 : Hid (Below w.heap.size w (w2.alloc (.cells #[.int .i64 RQ.verb, .string RQ.name, .string RQ.other, .int .i64 RQ.born, .int .i64 RQ.live, .int .i64 RQ.n, .slice ra rn rc] 26))) := HB2.out.trans (hb3.mono HB2.out.size)
    generalize sameRq RQ q = sm at *
    rw [HVAL.out] at cs
    unfold Rq.val at cs ⊢
    generalize hw3 : w2.alloc (.cells #[.int .i64 RQ.verb, .string RQ.name, .string RQ.other, .int .i64 RQ.born, .int .i64 RQ.live, .int .i64 RQ.n, .slice ra rn rc] 26) = w3 at *
    obtain ⟨b0, b1, b2, b3, b4, b5, b6⟩ := hP3.cells
    obtain ⟨d0, d1, d2, d3, d4, d5, d6⟩ := hq3.cells
    clear hb1 hb2 hb02 hrow2 hP2 hb3 hq3 hP3 hrv cr cl ck a0 a1 a2 a3 a4 a5 a6
    by_cases hre : re = 0
    · subst hre
      rw [if_pos rfl] at HW
      cases sm
      · rw [if_neg (by simp)] at HW
        go_wp2_with (go_at_call 27; refine cs.mono ?_; rintro e w4 ⟨rfl, hb4⟩)
        go_ret2
        rw [HW.out]
        exact ⟨rfl, HB3.out.trans (hb4.mono HB3.out.size)⟩
      · rw [if_pos rfl] at HW
        go_wp2_with (go_at_call 27; refine cs.mono ?_; rintro e w4 ⟨rfl, hb4⟩)
        go_ret2
        rw [HW.out]
        exact ⟨rfl, HB3.out.trans (hb4.mono HB3.out.size)⟩
    · have hrz : (re == 0) = false := by simpa using hre
      have hrz2 : (re != 0) = true := by simpa using hre
      rw [if_neg hre] at HW
      clear cs
      go_wp2_with fail
      go_ret2
      rw [HW.out]
      exact ⟨rfl, HB3.out⟩
  · rw [if_neg hvb] at HW
    rw [HVAL.out]
    clear hh hrow0 hv0 hrow hv
    by_cases h0 : q.verb = 0
    · have hz : (q.verb == 0) = true := by simpa using h0
      rw [h0] at hz P0 ⊢
      have h00 : ((0 : Int) == 0) = true := rfl
      go_enter Tryz.func10, Tryz.ntmps10
      go_wp2_with fail
      go_ret2
      rw [HW.out]
      exact ⟨rfl, (Below.refl _ _).alloc (Nat.le_refl _) _⟩
    · have hz : (q.verb == 0) = false := by simpa using h0
      have hk : (decide (0 ≤ q.verb) && decide (q.verb < 11)) = false := by simp; omega
      rw [hk] at ck
      go_enter Tryz.func10, Tryz.ntmps10
      go_wp2_with (go_at_call 25; refine (ck _).mono ?_; rintro e w9 ⟨rfl, hw⟩; have hw2 := hw.symm; subst hw2; clear hw)
      go_ret2
      rw [HW.out]
      exact ⟨rfl, hb0⟩
end Go.Proofs.YtpghbchbhjbbiaaGreatDoor
