/- SpeechReads. -/
import Derived.Test.YtpghbchbhjbbiaaGreatDoorRqSet
import Derived.Test.YtpghbchbhjbbiaaGreatDoorRqBody
import Derived.Test.YtpghbchbhjbbiaaGreatDoorSpBack
namespace Go.Proofs.YtpghbchbhjbbiaaGreatDoor
open Go.RowKit

/-- the document's ReadRequest answers what Read answers -/
theorem refReq_any (s : ByteArray) (w : World) (gv ov cv gf of cf : Nat) (hV : RVars w gv ov cv gf of cf) (hm : s.size ≤ 9223372036854775807) : Calls Tryz.prog 8 #[.string s] w (RefOut w (readRq s)) := by
  by_cases hs : s.size ≤ 6000
  · obtain ⟨ts, t, hp, _⟩ := pieceL_form 32 s.data.toList
    obtain ⟨x0, ws, hws⟩ : ∃ x0 ws, pieceL 32 s.data.toList = x0 :: ws := by
      rw [hp]
      cases ts with
      | nil => exact ⟨_, _, rfl⟩
      | cons y r => exact ⟨_, _, rfl⟩
    rw [body_is s x0 ws hs hws]
    by_cases h2 : verbF x0 = 2
    · exact rr_set s w gv ov cv gf of cf hV hs x0 ws hws h2
    · exact rr_rest s w gv ov cv gf of cf hV hs x0 ws hws h2
  · rw [read_long s (by omega)]
    refine (rr_long s w (by omega) hm).mono ?_
    rintro e w' ⟨rfl, hb⟩
    exact ref_no w 1 w' hb
theorem clean_words : wordsOf ⟨#[99, 108, 101, 97, 110]⟩ = [⟨#[99, 108, 101, 97, 110]⟩] := by decide +kernel
theorem clean_read : readRq ⟨#[99, 108, 101, 97, 110]⟩ = (⟨10, ⟨#[]⟩, ⟨#[]⟩, 0, 0, 0, []⟩, 0) := by
  have h1 : beginF ⟨#[99, 108, 101, 97, 110]⟩ = ⟨[⟨#[99, 108, 101, 97, 110]⟩], 0⟩ := by
    unfold beginF
    rw [if_neg (by decide), clean_words]
  unfold readRq
  rw [h1]
  rfl
set_option maxRecDepth 20000 in
set_option maxHeartbeats 2000000 in
theorem reads_any (s : ByteArray) (w : World) (gv ov cv gf of cf : Nat) (hv : Vars w) (hV : RVars w gv ov cv gf of cf) (hm : s.size ≤ 9223372036854775807) : Calls Tryz.prog 3 #[.string s] w fun e w' => e = .returned (.bool true) ∧ Below w.heap.size w w' := by
  have c1 := Read_any s w hv
  have c2 := fun W hW => refReq_any s W gv ov cv gf of cf hW hm
  have c3 := fun W hW => Read_any ⟨#[99, 108, 101, 97, 110]⟩ W hW
  unfold ReadOut at c1 c3
  unfold RefOut at c2
  rw [clean_read] at c3
  have HV : Hid (Vars w ∧ RVars w gv ov cv gf of cf) := ⟨hv, hV⟩
  generalize readRq s = R at *
  obtain ⟨q, re⟩ := R
  have cs := fun v u W h h' => sameRef_any q q v u W h h'
  have hss : sameRq q q = true := same_self q
  rw [hss] at cs
  clear hss hv hV
  unfold Rq.val at c1 c2 c3 cs
  simp only at c1 c2 c3
  go_enter Tryz.func3, Tryz.ntmps3
  go_wp2_with fail
  refine c1.mono ?_
  rintro e w1 ⟨hb1, v, rfl, hr1⟩
  obtain ⟨va, vn, vc, rfl⟩ := crow_slice hr1
  have hbA : Below w1.heap.size w1 (w1.alloc (.cells #[.int .i64 q.verb, .string q.name, .string q.other, .int .i64 q.born, .int .i64 q.live, .int .i64 q.n, .slice va vn vc] 26)) := (Below.refl _ _).alloc (Nat.le_refl _) _
  have hA := SevIn.born w1 (.int .i64 q.verb) (.string q.name) (.string q.other) (.int .i64 q.born) (.int .i64 q.live) (.int .i64 q.n) (.slice va vn vc)
  have hrA := hr1.below hbA
  have hBA := hb1.trans (hbA.mono hb1.size)
  have hVA := HV.out.1.below hBA
  have hRA := HV.out.2.go hBA (Nat.le_refl _)
  generalize hwA : w1.alloc (.cells #[.int .i64 q.verb, .string q.name, .string q.other, .int .i64 q.born, .int .i64 q.live, .int .i64 q.n, .slice va vn vc] 26) = wA at *
  have HA : Hid (SevIn w1.heap.size (.int .i64 q.verb) (.string q.name) (.string q.other) (.int .i64 q.born) (.int .i64 q.live) (.int .i64 q.n) (.slice va vn vc) wA ∧ CRow wA w.heap.size (.slice va vn vc) q.cells ∧ Below w.heap.size w wA) := ⟨hA, hrA, hBA⟩
  have d2 := c2 wA hRA
  clear hbA hA hrA hBA hRA c1 hb1 hr1 c2
  go_wp2_with fail
  refine d2.mono ?_
  rintro e w2 ⟨hb2, u, rfl, hr2⟩
  obtain ⟨ua, un, uc, rfl⟩ := crow_slice hr2
  have hbB : Below w2.heap.size w2 (w2.alloc (.cells #[.int .i64 q.verb, .string q.name, .string q.other, .int .i64 q.born, .int .i64 q.live, .int .i64 q.n, .slice ua un uc] 26)) := (Below.refl _ _).alloc (Nat.le_refl _) _
  have hB := SevIn.born w2 (.int .i64 q.verb) (.string q.name) (.string q.other) (.int .i64 q.born) (.int .i64 q.live) (.int .i64 q.n) (.slice ua un uc)
  have hrB := hr2.below hbB
  have hBB := hb2.trans (hbB.mono hb2.size)
  have hVB := hVA.below hBB
  generalize hwB : w2.alloc (.cells #[.int .i64 q.verb, .string q.name, .string q.other, .int .i64 q.born, .int .i64 q.live, .int .i64 q.n, .slice ua un uc] 26) = wB at *
  have HB : Hid (SevIn w2.heap.size (.int .i64 q.verb) (.string q.name) (.string q.other) (.int .i64 q.born) (.int .i64 q.live) (.int .i64 q.n) (.slice ua un uc) wB ∧ CRow wB wA.heap.size (.slice ua un uc) q.cells ∧ Below wA.heap.size wA wB) := ⟨hB, hrB, hBB⟩
  have d3 := c3 wB hVB
  clear hbB hB hrB hBB hb2 hr2 d2 c3 hVA hVB
  go_wp2_with fail
  refine d3.mono ?_
  rintro e w3 ⟨hb3, z, rfl, hr3⟩
  obtain ⟨za, zn, zc, rfl⟩ := crow_slice hr3
  have hbC : Below w3.heap.size w3 (w3.alloc (.cells #[.int .i64 10, .string ⟨#[]⟩, .string ⟨#[]⟩, .int .i64 0, .int .i64 0, .int .i64 0, .slice za zn zc] 26)) := (Below.refl _ _).alloc (Nat.le_refl _) _
  have hC := SevIn.born w3 (.int .i64 10) (.string ⟨#[]⟩) (.string ⟨#[]⟩) (.int .i64 0) (.int .i64 0) (.int .i64 0) (.slice za zn zc)
  have hBC := hb3.trans (hbC.mono hb3.size)
  generalize hwC : w3.alloc (.cells #[.int .i64 10, .string ⟨#[]⟩, .string ⟨#[]⟩, .int .i64 0, .int .i64 0, .int .i64 0, .slice za zn zc] 26) = wC at *
  have eA := (HA.out.1.go HB.out.2.2).go hBC
  have eB := HB.out.1.go hBC
  have gA := ((HA.out.2.1.below HB.out.2.2).below hBC).hr
  have gB := (HB.out.2.1.below hBC).hr
  have HC : Hid (SevIn w3.heap.size (.int .i64 10) (.string ⟨#[]⟩) (.string ⟨#[]⟩) (.int .i64 0) (.int .i64 0) (.int .i64 0) (.slice za zn zc) wC ∧ Below w.heap.size w wC) := ⟨hC, (HA.out.2.2.trans (HB.out.2.2.mono HA.out.2.2.size)).trans (hBC.mono (Nat.le_trans HA.out.2.2.size HB.out.2.2.size))⟩
  obtain ⟨a0, a1, a2, a3, a4, a5, a6⟩ := eA.cells
  obtain ⟨b0, b1, b2, b3, b4, b5, b6⟩ := eB.cells
  obtain ⟨c0, _⟩ := hC.cells
  have ds := cs (.slice va vn vc) (.slice ua un uc) wC gA gB
  clear hbC hC hBC hb3 hr3 d3 eA eB gA gB cs hwA hwB
  have hre : (re == re) = true := by simp
  go_wp2_with fail
  refine ds.mono ?_
  rintro e w4 ⟨rfl, hb4⟩
  obtain ⟨f0, _⟩ := (HC.out.1.go hb4).cells
  go_wp2_with fail
  go_ret
  exact ⟨rfl, HC.out.2.trans (hb4.mono HC.out.2.size)⟩
end Go.Proofs.YtpghbchbhjbbiaaGreatDoor
