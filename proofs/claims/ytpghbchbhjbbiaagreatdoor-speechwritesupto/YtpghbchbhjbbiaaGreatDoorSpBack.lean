/- The law SpeechBack. -/
import Derived.Test.YtpghbchbhjbbiaaGreatDoorSpLaws
namespace Go.Proofs.YtpghbchbhjbbiaaGreatDoor
open Go.RowKit

theorem same_eq {p q : Rq} (h : sameRq p q = true) : p = q := by
  obtain ⟨a1, a2, a3, a4, a5, a6, a7⟩ := p
  obtain ⟨b1, b2, b3, b4, b5, b6, b7⟩ := q
  simp only [sameRq, Bool.and_eq_true, decide_eq_true_eq, Prod.mk.injEq] at h
  obtain ⟨⟨⟨⟨⟨rfl, rfl⟩, rfl⟩, rfl, rfl⟩, rfl⟩, rfl⟩ := h
  rfl
theorem same_self (q : Rq) : sameRq q q = true := by simp [sameRq]
theorem write_err {q : Rq} (h : (writeRq q).2 ≠ 0) : (writeRq q).1 = ⟨#[]⟩ := by
  unfold writeRq at h ⊢
  split
  · split
    · split
      · rename_i h1 h2 h3; rw [if_pos h1, if_pos h2, if_pos h3] at h; exact absurd rfl h
      · rfl
    · rfl
  · rfl
theorem write_ok {q : Rq} (h : (writeRq q).2 = 0) : readRq (writeRq q).1 = (q, 0) := by
  unfold writeRq at h ⊢
  split
  · rename_i h1
    rw [if_pos h1] at h
    split
    · rename_i h2
      rw [if_pos h2] at h
      split
      · rename_i h3
        have := same_eq h3
        show readRq (lineF q) = _
        exact Prod.ext this h2
      · rename_i h3
        rw [if_neg h3] at h
        cases h
    · rename_i h2
      rw [if_neg h2] at h
      exact absurd h h2
  · rename_i h1
    rw [if_neg h1] at h
    cases h
theorem cellsL_one (cs : List (Int × Int)) : ∀ u ∈ cellsL cs, u.oneCell' = true := by
  intro u hu
  unfold cellsL at hu
  rw [List.mem_flatMap] at hu
  obtain ⟨c, _, hu⟩ := hu
  simp at hu
  rcases hu with rfl | rfl <;> rfl
theorem addr_add (g o j : Nat) : (⟨g, o, none⟩ : Addr).add j = ⟨g, o + j, none⟩ := by
  unfold Addr.add
  split
  · rename_i h; rw [h, Nat.add_zero]
  · rfl

theorem HR.keep {w w' : World} {v : Value} {cs : List (Int × Int)} (h : HR w v cs) (hk : ∀ k, k < w.heap.size → w'.heap[k]? = w.heap[k]?) : HR w' v cs := by
  obtain ⟨a, c, h1, h2, h3⟩ := h
  refine ⟨a, c, h1, h2, ?_⟩
  rcases h3 with h3 | ⟨g, o, h4, h5, h6⟩
  · exact Or.inl h3
  · have hlt : g < w'.heap.size := by
      rcases Nat.lt_or_ge g w'.heap.size with h | h
      · exact h
      · have := hk g h5
        rw [Array.getElem?_eq_none h, Array.getElem?_eq_getElem h5] at this
        cases this
    exact Or.inr ⟨g, o, h4, hlt, fun k x y hx => ⟨(cell_heap (a := ⟨g, o + k * 2, none⟩) (hk g h5)).trans (h6 k x y hx).1, (cell_heap (a := ⟨g, o + k * 2 + 1, none⟩) (hk g h5)).trans (h6 k x y hx).2⟩⟩
set_option maxHeartbeats 1000000 in
theorem keepCells_any (v : Value) (cs : List (Int × Int)) (w : World) (hn : cs.length * 16 ≤ 140737488355328) (h : HR w v cs) (hnil : ∀ n c, v = .slice none n c → c = 0) :
    Calls Tryz.prog 13 #[v] w fun e w' => ∃ u, e = .returned u ∧ Below w.heap.size w w' ∧ CRow w' w.heap.size u cs := by
  obtain ⟨a, c, rfl, _, h⟩ := h
  obtain ⟨i0, hi, hz0, hz1, hz2⟩ := info_parts Tryz.infoCell
  cases a with
  | none =>
    have hc := hnil _ c rfl
    subst hc
    rcases h with rfl | ⟨g, o, h1, _⟩
    · go_enter Tryz.func13, Tryz.ntmps13
      go_wp2
      go_ret
      exact ⟨_, rfl, Below.refl _ _, crow_nil _ _⟩
    · cases h1
  | some ad =>
    have hcells : ∀ (j : Nat) u, (cellsL cs)[j]? = some u → w.cell? (ad.add j) = some u := by
      intro j u hu
      rcases h with rfl | ⟨g, o, h1, _, h3⟩
      · simp [cellsL] at hu
      · cases h1
        have hj : j < cs.length * 2 := by rw [← cellsL_length]; exact (List.getElem?_eq_some_iff.1 hu).1
        have hjj : j / 2 < cs.length := by omega
        obtain ⟨e0, e1⟩ := cellsL_at cs (j / 2) _ _ (show cs[j / 2]? = some ((cs[j / 2]).1, (cs[j / 2]).2) by rw [List.getElem?_eq_getElem hjj])
        obtain ⟨c0, c1⟩ := h3 (j / 2) _ _ (show cs[j / 2]? = some ((cs[j / 2]).1, (cs[j / 2]).2) by rw [List.getElem?_eq_getElem hjj])
        rw [addr_add]
        by_cases hm2 : j % 2 = 0
        · rw [show j / 2 * 2 = j by omega] at e0 c0
          rw [c0]
          rw [e0] at hu
          exact hu
        · rw [show j / 2 * 2 + 1 = j by omega] at e1
          rw [show o + j / 2 * 2 + 1 = o + j by omega] at c1
          rw [c1]
          rw [e1] at hu
          exact hu
    clear h
    go_enter Tryz.func13, Tryz.ntmps13
    go_wp2_with (at_builtin; refine wpList_append_own _ rfl _ _ 24 rfl w.heap.size 51 i0 (.agg #[.int .i64 0, .int .i64 0]) 2 16 Tryz.underlying24 hi hz0 hz1 hz2 rfl (by decide) (.slice none 0 0) 0 [] rfl (World.ownsRow_nil _ _ _ _) ad cs.length c (cellsL cs) rfl (cellsL_length cs) hcells (cellsL_one cs) (by unfold maxLen; omega) (by omega) (Nat.le_refl _) ?_; intro v' w1 hown hgrow hnil)
    go_ret
    rw [Nat.zero_add, List.nil_append] at hown
    exact ⟨v', rfl, (Below.refl _ _).grown hgrow (Nat.le_refl _) (by intro k hk; simp [Value.ownBlock] at hk), hown⟩

set_option maxRecDepth 20000 in
set_option maxHeartbeats 2000000 in
theorem back_any (q : Rq) (v : Value) (w : World) (hrow : HR w v q.cells) (hnil : ∀ n c, v = .slice none n c → c = 0) (hv : Vars w) (hlen : q.cells.length * 16 ≤ 140737488355328) (hh : In64 q.n ∧ (∀ c ∈ q.cells, In64 c.1 ∧ In64 c.2) ∧ q.name.size ≤ 1000000000 ∧ q.other.size ≤ 1000000000) :
    Calls Tryz.prog 5 #[q.val v] w fun e w' => e = .returned (.bool true) ∧ Below w.heap.size w w' := by
  obtain ⟨va, vn, vc, rfl⟩ : ∃ a n c, v = .slice a n c := by obtain ⟨a, c, rfl, _⟩ := hrow; exact ⟨_, _, _, rfl⟩
  have hb0 : Below w.heap.size w (w.alloc (.cells #[.int .i64 q.verb, .string q.name, .string q.other, .int .i64 q.born, .int .i64 q.live, .int .i64 q.n, .slice va vn vc] 26)) := (Below.refl _ _).alloc (Nat.le_refl _) _
  have P0 := SevIn.born w (.int .i64 q.verb) (.string q.name) (.string q.other) (.int .i64 q.born) (.int .i64 q.live) (.int .i64 q.n) (.slice va vn vc)
  have hv0 := hv.below hb0
  have hrow0 := hrow.below hb0
  generalize hw0 : w.alloc (.cells #[.int .i64 q.verb, .string q.name, .string q.other, .int .i64 q.born, .int .i64 q.live, .int .i64 q.n, .slice va vn vc] 26) = w0 at *
  have hb1 : Below w0.heap.size w0 (w0.alloc (.cells #[.int .i64 q.verb, .string q.name, .string q.other, .int .i64 q.born, .int .i64 q.live, .int .i64 q.n, .slice va vn vc] 26)) := (Below.refl _ _).alloc (Nat.le_refl _) _
  have C1 := SevIn.born w0 (.int .i64 q.verb) (.string q.name) (.string q.other) (.int .i64 q.born) (.int .i64 q.live) (.int .i64 q.n) (.slice va vn vc)
  have P1 := P0.go hb1
  have hv1 := hv0.below hb1
  have hrow1 := hrow0.below hb1
  have HPC : Hid (w.heap.size < w0.heap.size) := P0.lt
  have HROOM : Hid (11 ≤ w0.heap.size) := hv0.room
  have HROWK : Hid (∀ W2 W3, Below (w0.alloc (.cells #[.int .i64 q.verb, .string q.name, .string q.other, .int .i64 q.born, .int .i64 q.live, .int .i64 q.n, .slice va vn vc] 26)).heap.size (w0.alloc (.cells #[.int .i64 q.verb, .string q.name, .string q.other, .int .i64 q.born, .int .i64 q.live, .int .i64 q.n, .slice va vn vc] 26)) W2 → Only w0.heap.size W2 W3 → HR W3 (.slice va vn vc) q.cells) := fun W2 W3 h2 h3 => hrow0.keep fun k hk => by
    have hk1 : k < (w0.alloc (.cells #[.int .i64 q.verb, .string q.name, .string q.other, .int .i64 q.born, .int .i64 q.live, .int .i64 q.n, .slice va vn vc] 26)).heap.size := Nat.lt_of_lt_of_le hk hb1.size
    exact ((h3.block k (Nat.lt_of_lt_of_le hk1 h2.size) (Nat.ne_of_lt hk)).trans (h2.block k hk1)).trans (hb1.block k hk)
  generalize hw1 : w0.alloc (.cells #[.int .i64 q.verb, .string q.name, .string q.other, .int .i64 q.born, .int .i64 q.live, .int .i64 q.n, .slice va vn vc] 26) = w1 at *
  have ck := keepCells_any (.slice va vn vc) q.cells w1 hlen hrow1 hnil
  have HB1 : Hid (Below w.heap.size w w1) := hb0.trans (hb1.mono hb0.size)
  have HV1 : Hid (Vars w1) := hv1
  have HP1 : Hid (SevIn w.heap.size (.int .i64 q.verb) (.string q.name) (.string q.other) (.int .i64 q.born) (.int .i64 q.live) (.int .i64 q.n) (.slice va vn vc) w1) := P1
  have HC1 : Hid (SevIn w0.heap.size (.int .i64 q.verb) (.string q.name) (.string q.other) (.int .i64 q.born) (.int .i64 q.live) (.int .i64 q.n) (.slice va vn vc) w1) := C1
  have HROW1 : Hid (HR w1 (.slice va vn vc) q.cells) := hrow1
  obtain ⟨a0, a1, a2, a3, a4, a5, a6⟩ := P0.cells
  obtain ⟨b0, b1, b2, b3, b4, b5, b6⟩ := P1.cells
  have hne : w.heap.size ≠ w0.heap.size := Nat.ne_of_lt P0.lt
  unfold Rq.val
  clear hb0 hrow hv hrow0 hv0 hv1 hrow1 hb1 P0 P1 C1 hnil
  go_enter Tryz.func5, Tryz.ntmps5
  go_wp2_with fail
  refine ck.mono ?_
  rintro e w2 ⟨u, rfl, hb2, hu⟩
  obtain ⟨ua, un, uc, rfl⟩ := crow_slice hu
  have HB2 : Hid (Below w.heap.size w w2) := HB1.out.trans (hb2.mono HB1.out.size)
  have hP2 := HP1.out.go hb2
  have hC2 := HC1.out.go hb2
  have hrow2 := HROW1.out.below hb2
  have hv2 := HV1.out.below hb2
  obtain ⟨c0, c1, c2, c3, c4, c5, c6⟩ := hC2.cells
  obtain ⟨d0, d1, d2, d3, d4, d5, d6⟩ := hP2.cells
  have z6 := hC2.frozen 6
  clear ck a0 a1 a2 a3 a4 a5 a6 b0 b1 b2 b3 b4 b5 b6 hw0 hw1
  have hlt01 : w0.heap.size < w1.heap.size := HC1.out.lt
  have ho3 : Only w0.heap.size w2 (w2.setCell ⟨w0.heap.size, 6, none⟩ (.slice ua un uc)) := Only.set _ _ _
  have hu3 := crow_zero (hu.only ho3 hlt01)
  have hroom : 11 ≤ w0.heap.size := by have := HV1.out.room; have h2 := HPC.out; have h3 := HROOM.out; omega
  have hv3 := hv2.only ho3 hroom
  have HP3 : Hid (SevIn w.heap.size (.int .i64 q.verb) (.string q.name) (.string q.other) (.int .i64 q.born) (.int .i64 q.live) (.int .i64 q.n) (.slice va vn vc) (w2.setCell ⟨w0.heap.size, 6, none⟩ (.slice ua un uc))) := hP2.only ho3 (Nat.ne_of_lt HPC.out)
  have HROW3 : Hid (HR (w2.setCell ⟨w0.heap.size, 6, none⟩ (.slice ua un uc)) (.slice va vn vc) q.cells) := HROWK.out w2 _ hb2 ho3
  have cw := Write_any q (.slice ua un uc) _ hu3 hv3 hh
  have HB3 : Hid (Below w.heap.size w (w2.setCell ⟨w0.heap.size, 6, none⟩ (.slice ua un uc))) := HB2.out.setCell (p := ⟨w0.heap.size, 6, none⟩) (Nat.le_of_lt HPC.out) _
  have HV3 : Hid (Vars (w2.setCell ⟨w0.heap.size, 6, none⟩ (.slice ua un uc))) := hv3
  have hwe := write_err (q := q)
  have hwo := write_ok (q := q)
  generalize writeRq q = WR at *
  obtain ⟨L, we⟩ := WR
  simp only at cw hwe hwo
  unfold Rq.val at cw
  clear hP2 hC2 hrow2 hv2 hv3 ho3 hu3 hu hb2 hh hlen
  go_wp2_with fail
  refine cw.mono ?_
  rintro e w4 ⟨rfl, hb4⟩
  have HP4 := HP3.out.go hb4
  have HROW4 : Hid (HR w4 (.slice va vn vc) q.cells) := HROW3.out.below hb4
  have HB4 : Hid (Below w.heap.size w w4) := HB3.out.trans (hb4.mono HB3.out.size)
  have HV4 : Hid (Vars w4) := HV3.out.below hb4
  obtain ⟨f0, f1, f2, f3, f4, f5, f6⟩ := HP4.cells
  have HP4 : Hid (SevIn w.heap.size (.int .i64 q.verb) (.string q.name) (.string q.other) (.int .i64 q.born) (.int .i64 q.live) (.int .i64 q.n) (.slice va vn vc) w4) := HP4
  clear cw hb4 c0 c1 c2 c3 c4 c5 c6 d0 d1 d2 d3 d4 d5 d6 z6 HROW3 HB3 HV3 HP3
  by_cases hwz : we = 0
  · subst hwz
    have hr := hwo rfl
    have cr := Read_any L w4 HV4.out
    unfold ReadOut at cr
    rw [hr] at cr
    clear hwe hwo hr
    go_wp2_with fail
    refine cr.mono ?_
    rintro e w5 ⟨hb5, rv, rfl, hrv⟩
    obtain ⟨ra, rn, rc, rfl⟩ := crow_slice hrv
    have hbq : Below w5.heap.size w5 (w5.alloc (.cells #[.int .i64 q.verb, .string q.name, .string q.other, .int .i64 q.born, .int .i64 q.live, .int .i64 q.n, .slice ra rn rc] 26)) := (Below.refl _ _).alloc (Nat.le_refl _) _
    have hR6 := SevIn.born w5 (.int .i64 q.verb) (.string q.name) (.string q.other) (.int .i64 q.born) (.int .i64 q.live) (.int .i64 q.n) (.slice ra rn rc)
    have hP6 := (HP4.out.go hb5).go hbq
    have hrow6 := (HROW4.out.below hb5).below hbq
    have hrv6 := hrv.below hbq
    have hv6 := (HV4.out.below hb5).below hbq
    have HB6 : Hid (Below w.heap.size w (w5.alloc (.cells #[.int .i64 q.verb, .string q.name, .string q.other, .int .i64 q.born, .int .i64 q.live, .int .i64 q.n, .slice ra rn rc] 26))) := (HB4.out.trans (hb5.mono HB4.out.size)).trans (hbq.mono (Nat.le_trans HB4.out.size hb5.size))
    generalize hw6 : w5.alloc (.cells #[.int .i64 q.verb, .string q.name, .string q.other, .int .i64 q.born, .int .i64 q.live, .int .i64 q.n, .slice ra rn rc] 26) = w6 at *
    have HP6 : Hid (SevIn w.heap.size (.int .i64 q.verb) (.string q.name) (.string q.other) (.int .i64 q.born) (.int .i64 q.live) (.int .i64 q.n) (.slice va vn vc) w6) := hP6
    have HR6 : Hid (SevIn w5.heap.size (.int .i64 q.verb) (.string q.name) (.string q.other) (.int .i64 q.born) (.int .i64 q.live) (.int .i64 q.n) (.slice ra rn rc) w6) := hR6
    have HROW6 : Hid (HR w6 (.slice va vn vc) q.cells ∧ HR w6 (.slice ra rn rc) q.cells) := ⟨hrow6, hrv6.hr⟩
    have csp := speaks_any w6 hv6
    unfold Rq.val
    clear cr hb5 hbq hR6 hP6 hrow6 hrv6 hv6 hrv f0 f1 f2 f3 f4 f5 f6
    go_wp2_with fail
    refine csp.mono ?_
    rintro e w7 ⟨rfl, hb7⟩
    obtain ⟨g0, g1, g2, g3, g4, g5, g6⟩ := (HP6.out.go hb7).cells
    obtain ⟨r0, r1, r2, r3, r4, r5, r6⟩ := (HR6.out.go hb7).cells
    have cs := sameKeep_any q q (.slice va vn vc) (.slice ra rn rc) w7 (HROW6.out.1.below hb7) (HROW6.out.2.below hb7)
    rw [same_self] at cs
    unfold Rq.val at cs
    clear csp
    go_wp2_with (go_at_call 15; refine cs.mono ?_; rintro e w8 ⟨rfl, hb8⟩)
    go_ret
    exact ⟨rfl, (HB6.out.trans (hb7.mono HB6.out.size)).trans (hb8.mono (Nat.le_trans HB6.out.size hb7.size))⟩
  · have hr1 : (we == 0) = false := by simpa using hwz
    have hr2 : (we != 0) = true := by simpa using hwz
    have hL := hwe hwz
    subst hL
    have csp := speaks_any w4 HV4.out
    clear hwe hwo
    go_wp2_with (go_at_call 14; refine csp.mono ?_; rintro e w5 ⟨rfl, hb5⟩)
    go_ret
    exact ⟨rfl, HB4.out.trans (hb5.mono HB4.out.size)⟩
end Go.Proofs.YtpghbchbhjbbiaaGreatDoor
