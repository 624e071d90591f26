/- Wrap. -/
import Derived.Test.YthobobgiendcfaaSqStep
namespace Go.Proofs.Ythobobgiendcfaa.A
open Go.RowKit Go.Maps

/-- between the rounds: four numbers in a block -/
structure WS (w W : World) (hb b t nn qb : Nat) (F0 H0 F H : Nat → Prop) (A : Ar) (E : List Int) (q0 q1 q2 q3 : Int) : Prop where
  hs : HS W hb b t nn F H A E
  st : Step w F0 H0 W F H
  blk : W.heap[qb]? = some (.cells #[.int .i64 q0, .int .i64 q1, .int .i64 q2, .int .i64 q3] 35 (0, 0))
  nF : ¬ F qb
  nH : ¬ H qb
  l0 : w.heap.size ≤ qb
section
variable {w W W' : World} {hb b t nn nn' qb : Nat} {F0 H0 F H F' H' : Nat → Prop} {A A' : Ar} {E E' : List Int} {q0 q1 q2 q3 : Int}
theorem WS.step (h : WS w W hb b t nn qb F0 H0 F H A E q0 q1 q2 q3) (hs : HS W' hb b t nn' F' H' A' E') (st : Step W F H W' F' H') : WS w W' hb b t nn' qb F0 H0 F' H' A' E' q0 q1 q2 q3 := by
  have hl : qb < W.heap.size := (Array.getElem?_eq_some_iff.1 h.blk).1
  obtain ⟨e1, e2, e3, _⟩ := st.free hl h.nF h.nH
  exact ⟨hs, h.st.trans st fun k hk => h.hs.lt hk, e1.trans h.blk, e2, e3, h.l0⟩
theorem WS.below (h : WS w W hb b t nn qb F0 H0 F H A E q0 q1 q2 q3) (hb' : Below W.heap.size W W') : WS w W' hb b t nn qb F0 H0 F H A E q0 q1 q2 q3 := h.step (h.hs.below hb') (Step.of hb')
theorem WS.set (h : WS w W hb b t nn qb F0 H0 F H A E q0 q1 q2 q3) (i : Nat) (v : Value) {r0 r1 r2 r3 : Int} (hq : (W.setCell ⟨qb, i, none⟩ v).heap[qb]? = some (.cells #[.int .i64 r0, .int .i64 r1, .int .i64 r2, .int .i64 r3] 35 (0, 0))) : WS w (W.setCell ⟨qb, i, none⟩ v) hb b t nn qb F0 H0 F H A E r0 r1 r2 r3 := by
  have l0 := h.l0
  have hz : (W.setCell ⟨qb, i, none⟩ v).heap.size = W.heap.size := size_set
  refine ⟨h.hs.other (by omega) fun k hk => heap_set ?_, ⟨h.st.sub, ⟨h.st.ap.os, h.st.ap.tape, h.st.ap.output, by rw [hz]; exact h.st.ap.size, fun k hk hn => (heap_set (by omega)).trans (h.st.ap.block k hk hn)⟩⟩, hq, h.nF, h.nH, l0⟩
  rintro rfl
  rcases hk with e | e
  · exact h.nF e
  · exact h.nH e
theorem WS.cells (h : WS w W hb b t nn qb F0 H0 F H A E q0 q1 q2 q3) : (W.cell? ⟨qb, 0, none⟩ = some (.int .i64 q0) ∧ W.cell? ⟨qb, 1, none⟩ = some (.int .i64 q1) ∧ W.cell? ⟨qb, 2, none⟩ = some (.int .i64 q2) ∧ W.cell? ⟨qb, 3, none⟩ = some (.int .i64 q3)) ∧ (W.frozen? ⟨qb, 0, none⟩ = false ∧ W.frozen? ⟨qb, 1, none⟩ = false ∧ W.frozen? ⟨qb, 2, none⟩ = false ∧ W.frozen? ⟨qb, 3, none⟩ = false) ∧ qb < W.heap.size :=
  ⟨⟨Lib.cell_of_heap h.blk 0, Lib.cell_of_heap h.blk 1, Lib.cell_of_heap h.blk 2, Lib.cell_of_heap h.blk 3⟩, ⟨Lib.frozen_of_heap h.blk 0, Lib.frozen_of_heap h.blk 1, Lib.frozen_of_heap h.blk 2, Lib.frozen_of_heap h.blk 3⟩, (Array.getElem?_eq_some_iff.1 h.blk).1⟩
end
theorem shift_nil (x y : Int) : shiftL x y [] = [] := rfl
theorem shift_zero (zs : List (Int × Int)) : shiftL 0 0 zs = zs := by unfold shiftL; simp

/-- what Wrap leaves -/
def WrapOut (w : World) (b t c lv : Nat) (F : Nat → Prop) (A : Ar) (id id' : Int) (w' : World) : Prop :=
  ∃ (A' : Ar) (F' : Nat → Prop) (nn' : Nat) (N : List Int), ArAt w' b F' nn' A' ∧ (∀ k, F' k → F k ∨ w.heap.size ≤ k) ∧ Apart F w w' ∧ Inv A' ∧ Pur A' t c nn' ∧ Gain t A A' N ∧ levelF A'.ths t id' = some ((lv + 1 : Nat) : Int) ∧ ∀ p : Int × Int, p ∈ cellsF A'.ths (lv + 1) id' ↔ (p.1 - (halfN lv : Int), p.2 - (halfN lv : Int)) ∈ cellsF A.ths lv id

set_option maxRecDepth 20000 in
set_option maxHeartbeats 8000000 in
theorem Wrap_root (b nn t c m : Nat) (id : Int) (F : Nat → Prop) (A : Ar) (w : World) (hA : ArAt w b F nn A) (hI : Inv A) (ht : t < 64) (hl : levelF A.ths t id = some ((m + 1 : Nat) : Int)) (hm43 : m + 1 ≤ 43) (hP : Pur A t (50 + c) nn) :
    Calls Try.prog 47 #[.pointer (some ⟨b, 0, none⟩), .int .i64 t, .int .i64 id] w fun x w' => ∃ id', x = .returned (.tuple #[.int .i64 id', .int .i64 0]) ∧ WrapOut w b t c (m + 1) F A id id' w' := by
  obtain ⟨x, hsq, hth, h2i, hlt, hq⟩ := square_of hI hl
  have hmask := hP.bud.mask
  have hfew := hP.bud.young.few
  have hr := fits_of hl hfew
  go_enter Try.func47, Try.ntmps47
  go_wp2_with fail
  refine (newHand_any b t _).mono ?_
  rintro e w1 ⟨rfl, hE1, hb1⟩
  obtain ⟨S0, BW⟩ := HS.born (t := t) hA hE1 hb1
  have hs1 := hb1.size
  have HX := fun W S => hlevel_step w1.heap.size b nn t id 1 43 ((m + 1 : Nat) : Int) F (fun k => k = w1.heap.size ∨ k = w.heap.size + 1) A [0] W S ht hmask hr hl (by omega) (by omega)
  have HK := fun W S => hkids_step w1.heap.size b nn t id x F (fun k => k = w1.heap.size ∨ k = w.heap.size + 1) A [0] W S ht hmask hr hsq
  go_wp2_with fail
  refine (HX _ S0).mono ?_
  rintro e w2 ⟨rfl, S2, T2⟩
  have hh2 := S2.hand
  obtain ⟨v2, hand2, _⟩ := hh2
  have c2 := hand2.c2
  obtain ⟨lvl, hlvl⟩ : ∃ lvl : Int, lvl = ((m + 1 : Nat) : Int) := ⟨_, rfl⟩
  have HLV : Hid (lvl = ((m + 1 : Nat) : Int)) := hlvl
  rw [← hlvl]
  have hlb : 1 ≤ lvl ∧ lvl ≤ 43 := by omega
  clear hlvl HX
  have b3 : Below w2.heap.size w2 (w2.alloc (.cells #[.int .i64 0, .int .i64 0, .int .i64 0, .int .i64 0] 35)) := (Below.refl _ _).alloc (Nat.le_refl _) _
  have hs2 := T2.ap.size
  have hs0 : (w1.alloc (.cells #[.pointer (some ⟨b, 0, none⟩), .int .i64 t, .int .i64 0, .slice (some ⟨w.heap.size + 1, 0, none⟩) 1 1] 131)).heap.size = w1.heap.size + 1 := by simp
  have G0 : WS (w1.alloc (.cells #[.pointer (some ⟨b, 0, none⟩), .int .i64 t, .int .i64 0, .slice (some ⟨w.heap.size + 1, 0, none⟩) 1 1] 131)) (w2.alloc (.cells #[.int .i64 0, .int .i64 0, .int .i64 0, .int .i64 0] 35)) w1.heap.size b t nn w2.heap.size F (fun k => k = w1.heap.size ∨ k = w.heap.size + 1) F (fun k => k = w1.heap.size ∨ k = w.heap.size + 1) A [0] 0 0 0 0 :=
    ⟨S2.below b3, T2.trans (Step.of b3) fun k hk => S2.lt hk, heap_alloc_new w2 _, fun e => by have := S2.lt (Or.inl e); omega, fun e => by have := S2.lt (Or.inr e); omega, by omega⟩
  clear hand2 S2 T2 b3
  go_wp2_with fail
  refine (HK _ G0.hs).mono ?_
  rintro e w3 ⟨rfl, S3, T3⟩
  have R0 := G0.step S3 T3
  have P0 : PS t A [0] (c + 5 + (45 - ([0] : List Int).length)) nn := ⟨hI, Emp.first _ _, by simp, hP.less (by simp; omega)⟩
  have g0 := Gain.refl t A
  clear G0 S3 T3 HK c2
  have i0 := Try.at0 (.int .i64 x.p0) (.int .i64 x.p1) (.int .i64 x.p2) (.int .i64 x.p3)
  have i1 := Try.at1 (.int .i64 x.p0) (.int .i64 x.p1) (.int .i64 x.p2) (.int .i64 x.p3)
  have i2 := Try.at2 (.int .i64 x.p0) (.int .i64 x.p1) (.int .i64 x.p2) (.int .i64 x.p3)
  have i3 := Try.at3 (.int .i64 x.p0) (.int .i64 x.p1) (.int .i64 x.p2) (.int .i64 x.p3)
  have k0 : levelF A.ths t x.p0 = some (m : Int) := hq 0 (by omega)
  have k1 : levelF A.ths t x.p1 = some (m : Int) := hq 1 (by omega)
  have k2 : levelF A.ths t x.p2 = some (m : Int) := hq 2 (by omega)
  have k3 : levelF A.ths t x.p3 = some (m : Int) := hq 3 (by omega)
  have hf4 := fun (q : Int) W => four_any q W
  unfold quad4 at hf4
  clear hq
  obtain ⟨⟨d0, d1, d2, d3⟩, ⟨z0, z1, z2, z3⟩, ql⟩ := R0.cells
  go_wp2_with fail
  refine wp_loop_rounds 5 ?_
  rw [rounds_succ]
  go_wp2_with fail
  refine (hempty_step w1.heap.size b nn t (c + 5) m F (fun k => k = w1.heap.size ∨ k = w.heap.size + 1) A [0] _ (lvl - 1) (by have := HLV.out; omega) (by omega) R0.hs P0 ht).mono ?_
  rintro e wa0 ⟨e0, B0, E1, Fa0, H1, na0, Na0, rfl, Sa0, Ta0, Pa0, ga0, f0, z0e, _⟩
  have Ra0 := R0.step Sa0 Ta0
  go_wp2_with fail
  refine (hf4 e0 _).mono ?_
  rintro e wb0 ⟨rfl, hbb0⟩
  have Rb0 := Ra0.below hbb0
  have kk0 := level_ext (level_ext k0 g0.ext) ga0.ext
  have Pc0 : PS t B0 E1 (c + 4 + (45 - E1.length) + 1) na0 := Pa0.less (by omega)
  have bc0 : Below wb0.heap.size wb0 (wb0.alloc (.cells #[.int .i64 e0, .int .i64 e0, .int .i64 e0, .int .i64 x.p0] 35)) := (Below.refl _ _).alloc (Nat.le_refl _) _
  have Rc0 := Rb0.below bc0
  have HJ0 := hjoin_step w1.heap.size b na0 t (c + 4 + (45 - E1.length)) m e0 e0 e0 x.p0 Fa0 H1 B0 E1 _ Rc0.hs Pc0 ht f0 f0 f0 kk0 (by omega)
  clear d0 d1 d2 d3 z0 z1 z2 z3 ql
  obtain ⟨⟨d0, d1, d2, d3⟩, ⟨z0, z1, z2, z3⟩, ql⟩ := Rb0.cells
  go_wp2_with fail
  refine HJ0.mono ?_
  rintro e wd0 ⟨id0, A1, F1, N0, rfl, Sd0, Td0, P1, J0⟩
  have Rd0 := Rc0.step Sd0 Td0
  clear d0 d1 d2 d3 z0 z1 z2 z3 ql HJ0
  obtain ⟨⟨d0, d1, d2, d3⟩, ⟨z0, z1, z2, z3⟩, ql⟩ := Rd0.cells
  go_wp2_with fail
  have R1 := Rd0.set 0 (.int .i64 id0) (Go.Joins.block_setCell Rd0.blk _)
  generalize wd0.setCell ⟨w2.heap.size, 0, none⟩ (.int .i64 id0) = V1 at *
  clear d0 d1 d2 d3 z0 z1 z2 z3 ql
  obtain ⟨⟨d0, d1, d2, d3⟩, ⟨z0, z1, z2, z3⟩, ql⟩ := R1.cells
  have g1 := (g0.trans ga0).trans J0.gain
  rw [rounds_succ]
  go_wp2_with fail
  refine (hempty_step w1.heap.size b (na0 + 1) t (c + 4) m F1 H1 A1 E1 _ (lvl - 1) (by have := HLV.out; omega) (by omega) R1.hs P1 ht).mono ?_
  rintro e wa1 ⟨e1, B1, E2, Fa1, H2, na1, Na1, rfl, Sa1, Ta1, Pa1, ga1, f1, z1e, _⟩
  have Ra1 := R1.step Sa1 Ta1
  go_wp2_with fail
  refine (hf4 e1 _).mono ?_
  rintro e wb1 ⟨rfl, hbb1⟩
  have Rb1 := Ra1.below hbb1
  have kk1 := level_ext (level_ext k1 g1.ext) ga1.ext
  have Pc1 : PS t B1 E2 (c + 3 + (45 - E2.length) + 1) na1 := Pa1.less (by omega)
  have bc1 : Below wb1.heap.size wb1 (wb1.alloc (.cells #[.int .i64 e1, .int .i64 e1, .int .i64 x.p1, .int .i64 e1] 35)) := (Below.refl _ _).alloc (Nat.le_refl _) _
  have Rc1 := Rb1.below bc1
  have HJ1 := hjoin_step w1.heap.size b na1 t (c + 3 + (45 - E2.length)) m e1 e1 x.p1 e1 Fa1 H2 B1 E2 _ Rc1.hs Pc1 ht f1 f1 kk1 f1 (by omega)
  clear d0 d1 d2 d3 z0 z1 z2 z3 ql
  obtain ⟨⟨d0, d1, d2, d3⟩, ⟨z0, z1, z2, z3⟩, ql⟩ := Rb1.cells
  go_wp2_with fail
  refine HJ1.mono ?_
  rintro e wd1 ⟨id1, A2, F2, N1, rfl, Sd1, Td1, P2, J1⟩
  have Rd1 := Rc1.step Sd1 Td1
  clear d0 d1 d2 d3 z0 z1 z2 z3 ql HJ1
  obtain ⟨⟨d0, d1, d2, d3⟩, ⟨z0, z1, z2, z3⟩, ql⟩ := Rd1.cells
  go_wp2_with fail
  have R2 := Rd1.set 1 (.int .i64 id1) (Go.Joins.block_setCell Rd1.blk _)
  generalize wd1.setCell ⟨w2.heap.size, 1, none⟩ (.int .i64 id1) = V2 at *
  clear d0 d1 d2 d3 z0 z1 z2 z3 ql
  obtain ⟨⟨d0, d1, d2, d3⟩, ⟨z0, z1, z2, z3⟩, ql⟩ := R2.cells
  have g2 := (g1.trans ga1).trans J1.gain
  rw [rounds_succ]
  go_wp2_with fail
  refine (hempty_step w1.heap.size b (na1 + 1) t (c + 3) m F2 H2 A2 E2 _ (lvl - 1) (by have := HLV.out; omega) (by omega) R2.hs P2 ht).mono ?_
  rintro e wa2 ⟨e2, B2, E3, Fa2, H3, na2, Na2, rfl, Sa2, Ta2, Pa2, ga2, f2, z2e, _⟩
  have Ra2 := R2.step Sa2 Ta2
  go_wp2_with fail
  refine (hf4 e2 _).mono ?_
  rintro e wb2 ⟨rfl, hbb2⟩
  have Rb2 := Ra2.below hbb2
  have kk2 := level_ext (level_ext k2 g2.ext) ga2.ext
  have Pc2 : PS t B2 E3 (c + 2 + (45 - E3.length) + 1) na2 := Pa2.less (by omega)
  have bc2 : Below wb2.heap.size wb2 (wb2.alloc (.cells #[.int .i64 e2, .int .i64 x.p2, .int .i64 e2, .int .i64 e2] 35)) := (Below.refl _ _).alloc (Nat.le_refl _) _
  have Rc2 := Rb2.below bc2
  have HJ2 := hjoin_step w1.heap.size b na2 t (c + 2 + (45 - E3.length)) m e2 x.p2 e2 e2 Fa2 H3 B2 E3 _ Rc2.hs Pc2 ht f2 kk2 f2 f2 (by omega)
  clear d0 d1 d2 d3 z0 z1 z2 z3 ql
  obtain ⟨⟨d0, d1, d2, d3⟩, ⟨z0, z1, z2, z3⟩, ql⟩ := Rb2.cells
  go_wp2_with fail
  refine HJ2.mono ?_
  rintro e wd2 ⟨id2, A3, F3, N2, rfl, Sd2, Td2, P3, J2⟩
  have Rd2 := Rc2.step Sd2 Td2
  clear d0 d1 d2 d3 z0 z1 z2 z3 ql HJ2
  obtain ⟨⟨d0, d1, d2, d3⟩, ⟨z0, z1, z2, z3⟩, ql⟩ := Rd2.cells
  go_wp2_with fail
  have R3 := Rd2.set 2 (.int .i64 id2) (Go.Joins.block_setCell Rd2.blk _)
  generalize wd2.setCell ⟨w2.heap.size, 2, none⟩ (.int .i64 id2) = V3 at *
  clear d0 d1 d2 d3 z0 z1 z2 z3 ql
  obtain ⟨⟨d0, d1, d2, d3⟩, ⟨z0, z1, z2, z3⟩, ql⟩ := R3.cells
  have g3 := (g2.trans ga2).trans J2.gain
  rw [rounds_succ]
  go_wp2_with fail
  refine (hempty_step w1.heap.size b (na2 + 1) t (c + 2) m F3 H3 A3 E3 _ (lvl - 1) (by have := HLV.out; omega) (by omega) R3.hs P3 ht).mono ?_
  rintro e wa3 ⟨e3, B3, E4, Fa3, H4, na3, Na3, rfl, Sa3, Ta3, Pa3, ga3, f3, z3e, _⟩
  have Ra3 := R3.step Sa3 Ta3
  go_wp2_with fail
  refine (hf4 e3 _).mono ?_
  rintro e wb3 ⟨rfl, hbb3⟩
  have Rb3 := Ra3.below hbb3
  have kk3 := level_ext (level_ext k3 g3.ext) ga3.ext
  have Pc3 : PS t B3 E4 (c + 1 + (45 - E4.length) + 1) na3 := Pa3.less (by omega)
  have bc3 : Below wb3.heap.size wb3 (wb3.alloc (.cells #[.int .i64 x.p3, .int .i64 e3, .int .i64 e3, .int .i64 e3] 35)) := (Below.refl _ _).alloc (Nat.le_refl _) _
  have Rc3 := Rb3.below bc3
  have HJ3 := hjoin_step w1.heap.size b na3 t (c + 1 + (45 - E4.length)) m x.p3 e3 e3 e3 Fa3 H4 B3 E4 _ Rc3.hs Pc3 ht kk3 f3 f3 f3 (by omega)
  clear d0 d1 d2 d3 z0 z1 z2 z3 ql
  obtain ⟨⟨d0, d1, d2, d3⟩, ⟨z0, z1, z2, z3⟩, ql⟩ := Rb3.cells
  go_wp2_with fail
  refine HJ3.mono ?_
  rintro e wd3 ⟨id3, A4, F4, N3, rfl, Sd3, Td3, P4, J3⟩
  have Rd3 := Rc3.step Sd3 Td3
  clear d0 d1 d2 d3 z0 z1 z2 z3 ql HJ3
  obtain ⟨⟨d0, d1, d2, d3⟩, ⟨z0, z1, z2, z3⟩, ql⟩ := Rd3.cells
  go_wp2_with fail
  have R4 := Rd3.set 3 (.int .i64 id3) (Go.Joins.block_setCell Rd3.blk _)
  generalize wd3.setCell ⟨w2.heap.size, 3, none⟩ (.int .i64 id3) = V4 at *
  clear d0 d1 d2 d3 z0 z1 z2 z3 ql
  obtain ⟨⟨d0, d1, d2, d3⟩, ⟨z0, z1, z2, z3⟩, ql⟩ := R4.cells
  have g4 := (g3.trans ga3).trans J3.gain
  rw [rounds_succ]
  go_wp2_with fail
  have x12 := ga1.ext.trans J1.gain.ext
  have x23 := ga2.ext.trans J2.gain.ext
  have x34 := ga3.ext.trans J3.gain.ext
  have y0 := level_ext (level_ext (level_ext J0.lv x12) x23) x34
  have y1 := level_ext (level_ext J1.lv x23) x34
  have y2 := level_ext J2.lv x34
  have y3 := J3.lv
  have HJ := hjoin_step w1.heap.size b (na3 + 1) t (c + (45 - E4.length)) (m + 1) id0 id1 id2 id3 F4 H4 A4 E4 _ R4.hs (P4.less (by omega)) ht y0 y1 y2 y3 (by omega)
  refine HJ.mono ?_
  rintro e w9 ⟨id9, A9, F9, N9, rfl, S9, T9, P9, J9⟩
  have hh9 := S9.hand
  obtain ⟨v9, hand9, _⟩ := hh9
  have R9 := R4.step S9 T9
  have HC0 : Hid (cellsF A1.ths (m + 1) id0 = shiftL ((2 ^ m : Nat) : Int) ((2 ^ m : Nat) : Int) (cellsF A.ths m x.p0)) := by
    show _ = _
    rw [J0.cells, z0e, cells_ext hI.good (g0.trans ga0).ext m _ (glevel_of k0), shift_nil, shift_nil]; simp
  have HC1 : Hid (cellsF A2.ths (m + 1) id1 = shiftL 0 ((2 ^ m : Nat) : Int) (cellsF A.ths m x.p1)) := by
    show _ = _
    rw [J1.cells, z1e, cells_ext hI.good (g1.trans ga1).ext m _ (glevel_of k1), shift_nil, shift_nil]; simp
  have HC2 : Hid (cellsF A3.ths (m + 1) id2 = shiftL ((2 ^ m : Nat) : Int) 0 (cellsF A.ths m x.p2)) := by
    show _ = _
    rw [J2.cells, z2e, cells_ext hI.good (g2.trans ga2).ext m _ (glevel_of k2), shift_nil, shift_nil]; simp
  have HC3 : Hid (cellsF A4.ths (m + 1) id3 = cellsF A.ths m x.p3) := by
    show _ = _
    rw [J3.cells, z3e, cells_ext hI.good (g3.trans ga3).ext m _ (glevel_of k3), shift_nil, shift_nil, shift_nil]; simp
  have HFIN : Hid (WrapOut w b t c (m + 1) F A id id9 w9) := by
    have hz := R9.st.ap
    have hB := BW.size
    refine ⟨A9, F9, _, _, S9.ar, fun k hk => ?_, ⟨hz.os.trans BW.os, hz.tape.trans BW.tape, hz.output.trans BW.output, Nat.le_trans hB hz.size, fun k hk hn => (hz.block k (Nat.lt_of_lt_of_le hk hB) ?_).trans (BW.block k hk)⟩, P9.inv, P9.pur.less (by omega), g4.trans J9.gain, J9.lv, fun p => ?_⟩
    · rcases R9.st.sub k (Or.inl hk) with (e | e) | e
      · exact Or.inl e
      · exact Or.inr (by rcases e with e | e <;> omega)
      · exact Or.inr (Nat.le_trans hB e)
    · rintro (e | e)
      · exact hn e
      · rcases e with e | e <;> omega
    · rw [J9.cells, cells_ext P1.inv.good ((x12.trans x23).trans x34) (m + 1) _ (glevel_of J0.lv), cells_ext P2.inv.good (x23.trans x34) (m + 1) _ (glevel_of J1.lv), cells_ext P3.inv.good x34 (m + 1) _ (glevel_of J2.lv), HC0.out, HC1.out, HC2.out, HC3.out]
      have e0 : cellsF A.ths (m + 1) id = cellsF A.ths m x.p0 ++ shiftL ((2 ^ m : Nat) : Int) 0 (cellsF A.ths m x.p1) ++ shiftL 0 ((2 ^ m : Nat) : Int) (cellsF A.ths m x.p2) ++ shiftL ((2 ^ m : Nat) : Int) ((2 ^ m : Nat) : Int) (cellsF A.ths m x.p3) := by simp only [cellsF]; rw [hth]
      rw [e0, halfN_succ]
      simp only [List.mem_append, mem_shift]
      have hpw : ((2 ^ (m + 1) : Nat) : Int) = ((2 ^ m : Nat) : Int) + ((2 ^ m : Nat) : Int) := by rw [Nat.pow_succ]; omega
      rw [hpw]
      generalize ((2 ^ m : Nat) : Int) = z
      rw [show p.1 - (z + z) - 0 = p.1 - z - z by omega, show p.2 - 0 - z = p.2 - z by omega, show p.1 - 0 - z = p.1 - z by omega, show p.2 - (z + z) - 0 = p.2 - z - z by omega, show p.1 - (z + z) = p.1 - z - z by omega, show p.2 - (z + z) = p.2 - z - z by omega, show p.2 - z - 0 = p.2 - z by omega, show p.1 - z - 0 = p.1 - z by omega]
  clear HJ
  go_wp2_with fail
  refine (answer_ok _ b t _ v9 _ hand9).mono ?_
  rintro e w10 ⟨rfl, rfl⟩
  go_wp2_with fail
  go_ret2
  exact ⟨_, rfl, HFIN.out⟩
end Go.Proofs.Ythobobgiendcfaa.A
