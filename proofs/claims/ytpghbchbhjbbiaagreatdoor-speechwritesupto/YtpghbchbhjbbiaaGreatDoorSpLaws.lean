/- speaks, SpeechOnly. -/
import Derived.Test.YtpghbchbhjbbiaaGreatDoorSpShape
import Derived.Test.YtpghbchbhjbbiaaGreatDoorSpSame
namespace Go.Proofs.YtpghbchbhjbbiaaGreatDoor
open Go.RowKit

theorem crow_zero {w : World} {B : Nat} {v : Value} {cs : List (Int × Int)} (h : CRow w B v cs) : CRow w 0 v cs := by
  refine ⟨h.1, ?_⟩
  rcases h.2 with hn | ⟨g, cap, cur, rfl, hb, hgg, rest⟩
  · exact .inl hn
  · exact .inr ⟨g, cap, cur, rfl, Nat.zero_le _, hgg, rest⟩
theorem step_words : wordsOf ⟨#[115, 116, 101, 112, 32, 97, 98, 32, 45, 55]⟩ = [⟨#[115, 116, 101, 112]⟩, ⟨#[97, 98]⟩, ⟨#[45, 55]⟩] := by decide +kernel
theorem step_num : numOf [45, 55] = (-7, true) := by
  have h : Lib.atoiAll [45, 55] = .ok (-7) := by decide +kernel
  have h2 : Lib.itoa (-7) = [45, 55] := by
    unfold Lib.itoa
    rw [if_pos (by decide), show ((-7 : Int).natAbs) = 7 from rfl, Lib.decDigits_one (by decide)]
    rfl
  rw [numOf_ok h, h2]
  rfl
theorem step_named : namedB ⟨#[97, 98]⟩ = true := by decide +kernel
theorem step_read : readRq ⟨#[115, 116, 101, 112, 32, 97, 98, 32, 45, 55]⟩ = (⟨4, ⟨#[97, 98]⟩, ⟨#[]⟩, 0, 0, -7, []⟩, 0) := by
  have h1 : beginF ⟨#[115, 116, 101, 112, 32, 97, 98, 32, 45, 55]⟩ = ⟨[⟨#[115, 116, 101, 112]⟩, ⟨#[97, 98]⟩, ⟨#[45, 55]⟩], 0⟩ := by
    unfold beginF
    rw [if_neg (by decide), step_words]
  have h2 : Rd.verb ⟨[⟨#[115, 116, 101, 112]⟩, ⟨#[97, 98]⟩, ⟨#[45, 55]⟩], 0⟩ = (4, ⟨[⟨#[97, 98]⟩, ⟨#[45, 55]⟩], 0⟩) := rfl
  have h3 : Rd.place ⟨[⟨#[97, 98]⟩, ⟨#[45, 55]⟩], 0⟩ = (⟨#[97, 98]⟩, ⟨[⟨#[45, 55]⟩], 0⟩) := by
    unfold Rd.place
    rw [show Rd.word ⟨[⟨#[97, 98]⟩, ⟨#[45, 55]⟩], 0⟩ = (⟨#[97, 98]⟩, ⟨[⟨#[45, 55]⟩], 0⟩) from rfl, step_named]
    rfl
  have h4 : Rd.num ⟨[⟨#[45, 55]⟩], 0⟩ = (-7, ⟨[], 0⟩) := by
    unfold Rd.num
    rw [show Rd.word ⟨[⟨#[45, 55]⟩], 0⟩ = (⟨#[45, 55]⟩, ⟨[], 0⟩) from rfl, show (⟨#[45, 55]⟩ : ByteArray).data.toList = [45, 55] from rfl, step_num]
    rfl
  have h5 : Rd.request ⟨[⟨#[115, 116, 101, 112]⟩, ⟨#[97, 98]⟩, ⟨#[45, 55]⟩], 0⟩ = (⟨4, ⟨#[97, 98]⟩, ⟨#[]⟩, 0, 0, -7, []⟩, ⟨[], 0⟩) := by
    unfold Rd.request
    simp only [h2, h3, h4]
    rfl
  unfold readRq
  rw [h1, h5]
  rfl
theorem noSame : sameRq noRq noRq = true := by simp [sameRq]

set_option maxRecDepth 20000 in
set_option maxHeartbeats 2000000 in
theorem speaks_any (w : World) (hv : Vars w) : Calls Tryz.prog 14 #[] w fun e w' => e = .returned (.bool true) ∧ Below w.heap.size w w' := by
  have c := Read_any ⟨#[115, 116, 101, 112, 32, 97, 98, 32, 45, 55]⟩ w hv
  unfold ReadOut at c
  rw [step_read] at c
  unfold Rq.val at c
  simp only at c
  go_enter Tryz.func14, Tryz.ntmps14
  go_wp2_with fail
  refine c.mono ?_
  rintro e w1 ⟨hb1, v, rfl, hrow⟩
  obtain ⟨va, vn, vc, rfl⟩ := crow_slice hrow
  clear c hrow
  go_wp2_with fail
  go_ret
  exact ⟨rfl, hb1.alloc hb1.size _⟩

set_option maxRecDepth 20000 in
set_option maxHeartbeats 2000000 in
theorem only_any (s : ByteArray) (w : World) (hv : Vars w) : Calls Tryz.prog 6 #[.string s] w fun e w' => e = .returned (.bool true) ∧ Below w.heap.size w w' := by
  have c := Read_any s w hv
  have hrw := read_words s
  have hrl := read_line s
  unfold ReadOut at c
  have hz : (readRq s).2 ≠ 0 → (readRq s).1 = noRq := by
    unfold readRq
    by_cases h : (beginF s).request.2.end_.e = 0
    · rw [if_pos h]; simp
    · rw [if_neg h]; simp
  generalize readRq s = RR at *
  obtain ⟨q, re⟩ := RR
  simp only at c hrw hrl hz
  have HV : Hid (Vars w) := hv
  clear hv
  by_cases hre : re = 0
  · subst hre
    obtain ⟨_, _, _, hsm, hnm, hot⟩ := hrw rfl
    have hwr := hrl rfl
    have HW : Hid (∀ W v, CRow W 0 v q.cells → Vars W → Calls Tryz.prog 10 #[q.val v] W fun e w' => e = .returned (.tuple #[.string s, .int .i64 0]) ∧ Below W.heap.size W w') := fun W v hr hW => by
      have := Write_any q v W hr hW ⟨hsm.1, hsm.2, by omega, by omega⟩
      rw [hwr] at this
      exact this
    clear hrw hrl hz hsm hnm hot hwr
    go_enter Tryz.func6, Tryz.ntmps6
    go_wp2_with fail
    refine c.mono ?_
    rintro e w1 ⟨hb1, v, rfl, hrow⟩
    obtain ⟨va, vn, vc, rfl⟩ := crow_slice hrow
    have hbq : Below w1.heap.size w1 (w1.alloc (.cells #[.int .i64 q.verb, .string q.name, .string q.other, .int .i64 q.born, .int .i64 q.live, .int .i64 q.n, .slice va vn vc] 26)) := (Below.refl _ _).alloc (Nat.le_refl _) _
    have hq := SevIn.born w1 (.int .i64 q.verb) (.string q.name) (.string q.other) (.int .i64 q.born) (.int .i64 q.live) (.int .i64 q.n) (.slice va vn vc)
    have hv1 := (HV.out.below hb1).below hbq
    have cw := HW.out _ (.slice va vn vc) ((crow_zero hrow).below hbq) hv1
    unfold Rq.val at cw ⊢
    have HB : Hid (Below w.heap.size w (w1.alloc (.cells #[.int .i64 q.verb, .string q.name, .string q.other, .int .i64 q.born, .int .i64 q.live, .int .i64 q.n, .slice va vn vc] 26))) := hb1.trans (hbq.mono hb1.size)
    generalize hw2 : w1.alloc (.cells #[.int .i64 q.verb, .string q.name, .string q.other, .int .i64 q.born, .int .i64 q.live, .int .i64 q.n, .slice va vn vc] 26) = w2 at *
    obtain ⟨a0, a1, a2, a3, a4, a5, a6⟩ := hq.cells
    clear hb1 hrow c hbq hq HW
    have HV2 : Hid (Vars w2) := hv1
    clear hv1
    have hss : (s.toList == s.toList) = true := by simp
    go_wp2_with (first | (go_at_call 10; refine cw.mono ?_; rintro e w3 ⟨rfl, hb3⟩) | (go_at_call 14; refine (speaks_any _ (HV2.out.below hb3)).mono ?_; rintro e w4 ⟨rfl, hb4⟩))
    go_ret
    exact ⟨rfl, (HB.out.trans (hb3.mono HB.out.size)).trans (hb4.mono (Nat.le_trans HB.out.size hb3.size))⟩
  · have hq := hz hre
    subst hq
    have hr1 : (re == 0) = false := by simpa using hre
    have hr2 : (re != 0) = true := by simpa using hre
    clear hrw hrl hz hre
    go_enter Tryz.func6, Tryz.ntmps6
    go_wp2_with fail
    refine c.mono ?_
    rintro e w1 ⟨hb1, v, rfl, hrow⟩
    obtain ⟨va, vn, vc, rfl⟩ := crow_slice hrow
    have hbq : Below w1.heap.size w1 (w1.alloc (.cells #[.int .i64 0, .string ⟨#[]⟩, .string ⟨#[]⟩, .int .i64 0, .int .i64 0, .int .i64 0, .slice va vn vc] 26)) := (Below.refl _ _).alloc (Nat.le_refl _) _
    have hq := SevIn.born w1 (.int .i64 0) (.string ⟨#[]⟩) (.string ⟨#[]⟩) (.int .i64 0) (.int .i64 0) (.int .i64 0) (.slice va vn vc)
    have hv1 := (HV.out.below hb1).below hbq
    have hrow2 := hrow.below hbq
    have HB : Hid (Below w.heap.size w (w1.alloc (.cells #[.int .i64 0, .string ⟨#[]⟩, .string ⟨#[]⟩, .int .i64 0, .int .i64 0, .int .i64 0, .slice va vn vc] 26))) := hb1.trans (hbq.mono hb1.size)
    have cs := fun W hW => sameKeep_any noRq noRq (.slice va vn vc) (.slice none 0 0) W hW (CRow.hr (B := 0) (crow_nil W 0))
    rw [noSame] at cs
    unfold noRq Rq.val at cs ⊢
    simp only at cs ⊢
    generalize hw2 : w1.alloc (.cells #[.int .i64 0, .string ⟨#[]⟩, .string ⟨#[]⟩, .int .i64 0, .int .i64 0, .int .i64 0, .slice va vn vc] 26) = w2 at *
    obtain ⟨a0, a1, a2, a3, a4, a5, a6⟩ := hq.cells
    have HQ : Hid (SevIn w1.heap.size (.int .i64 0) (.string ⟨#[]⟩) (.string ⟨#[]⟩) (.int .i64 0) (.int .i64 0) (.int .i64 0) (.slice va vn vc) w2) := hq
    have HROW : Hid (CRow w2 w.heap.size (.slice va vn vc) []) := hrow2
    have csp := speaks_any w2 hv1
    clear hb1 hrow c hbq hq hrow2 hv1
    go_wp2_with fail
    refine csp.mono ?_
    rintro e w3 ⟨rfl, hb3⟩
    obtain ⟨b0, b1, b2, b3, b4, b5, b6⟩ := (HQ.out.go hb3).cells
    have hr3 := (HROW.out.below hb3).hr
    go_wp2_with (go_at_call 15; refine (cs _ hr3).mono ?_; rintro e w4 ⟨rfl, hb4⟩)
    go_ret
    exact ⟨rfl, (HB.out.trans (hb3.mono HB.out.size)).trans (hb4.mono (Nat.le_trans HB.out.size hb3.size))⟩
end Go.Proofs.YtpghbchbhjbbiaaGreatDoor
