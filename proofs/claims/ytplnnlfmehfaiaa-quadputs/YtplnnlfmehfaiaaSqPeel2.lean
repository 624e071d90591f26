/- Peel: the walk. -/
import Derived.Test.YtplnnlfmehfaiaaSqPeel
namespace Go.Proofs.Ytplnnlfmehfaiaa.A
open Go.RowKit Go.Maps Go.ChangeMaps Go.WideElems

/-- what Peel leaves -/
def PeelOut (w : World) (b t c : Nat) (F : Nat → Prop) (A : Ar) (S : List (Int × Int)) (id' : Int) (w' : World) : Prop :=
  ∃ (A' : Ar) (F' : Nat → Prop) (nn' N' : Nat) (N : List Int), ArAt w' b F' nn' A' ∧ (∀ k, F' k → F k ∨ w.heap.size ≤ k) ∧ Apart F w w' ∧ Inv A' ∧ Pur A' t c nn' ∧ Gain t A A' N ∧ LeastLv N' S ∧ levelF A'.ths t id' = some (N' : Int) ∧ ∀ p : Int × Int, p ∈ cellsF A'.ths N' id' ↔ (p.1 - (halfN N' : Int), p.2 - (halfN N' : Int)) ∈ S

/-- between the rounds: a walker's hand, an arena, four numbers in a block -/
structure QL (w W : World) (wb b t nn qb : Nat) (v : Value) (F : Nat → Prop) (A : Ar) (q0 q1 q2 q3 : Int) : Prop where
  hand : HandAt W wb b t 0 v
  ar : ArAt W b F nn A
  bel : Below w.heap.size w W
  blk : W.heap[qb]? = some (.cells #[.int .i64 q0, .int .i64 q1, .int .i64 q2, .int .i64 q3] 35 (0, 0))
  nF : ¬ F qb
  nw : qb ≠ wb
  nFw : ¬ F wb
  l0 : w.heap.size ≤ qb
  l1 : w.heap.size ≤ wb
section
variable {w W W' : World} {wb b t nn qb : Nat} {v : Value} {F : Nat → Prop} {A : Ar} {q0 q1 q2 q3 : Int}
theorem QL.kids (h : QL w W wb b t nn qb v F A q0 q1 q2 q3) (h2 : HandAt W' wb b t 0 v) (hg : W.grownBy W' (some wb)) : QL w W' wb b t nn qb v F A q0 q1 q2 q3 := by
  have hl : qb < W.heap.size := (Array.getElem?_eq_some_iff.1 h.blk).1
  have l1 := h.l1
  have hs := h.bel.size
  refine ⟨h2, h.ar.other hg.size fun k hk => hg.block k (h.ar.flt k hk) (fun e => h.nFw (by cases e; exact hk)), h.bel.trans ⟨hg.os, hg.tape, hg.output, hg.size, fun k hk => hg.block k (by omega) (by simp; omega)⟩, (hg.block qb hl (fun e => h.nw (by cases e; rfl))).trans h.blk, h.nF, h.nw, h.nFw, h.l0, h.l1⟩
theorem QL.set (h : QL w W wb b t nn qb v F A q0 q1 q2 q3) (i : Nat) (u : Value) {r0 r1 r2 r3 : Int} (hq : (W.setCell ⟨qb, i, none⟩ u).heap[qb]? = some (.cells #[.int .i64 r0, .int .i64 r1, .int .i64 r2, .int .i64 r3] 35 (0, 0))) : QL w (W.setCell ⟨qb, i, none⟩ u) wb b t nn qb v F A r0 r1 r2 r3 := by
  have hz : (W.setCell ⟨qb, i, none⟩ u).heap.size = W.heap.size := size_set
  refine ⟨h.hand.go (heap_set (fun e => h.nw e.symm)), h.ar.other (by omega) fun k hk => heap_set (by rintro rfl; exact h.nF hk), h.bel.setCell (p := ⟨qb, i, none⟩) h.l0 u, hq, h.nF, h.nw, h.nFw, h.l0, h.l1⟩
theorem QL.cells (h : QL w W wb b t nn qb v F A q0 q1 q2 q3) : (W.cell? ⟨qb, 0, none⟩ = some (.int .i64 q0) ∧ W.cell? ⟨qb, 1, none⟩ = some (.int .i64 q1) ∧ W.cell? ⟨qb, 2, none⟩ = some (.int .i64 q2) ∧ W.cell? ⟨qb, 3, none⟩ = some (.int .i64 q3)) ∧ (W.frozen? ⟨qb, 0, none⟩ = false ∧ W.frozen? ⟨qb, 1, none⟩ = false ∧ W.frozen? ⟨qb, 2, none⟩ = false ∧ W.frozen? ⟨qb, 3, none⟩ = false) ∧ qb < W.heap.size :=
  ⟨⟨Lib.cell_of_heap h.blk 0, Lib.cell_of_heap h.blk 1, Lib.cell_of_heap h.blk 2, Lib.cell_of_heap h.blk 3⟩, ⟨Lib.frozen_of_heap h.blk 0, Lib.frozen_of_heap h.blk 1, Lib.frozen_of_heap h.blk 2, Lib.frozen_of_heap h.blk 3⟩, (Array.getElem?_eq_some_iff.1 h.blk).1⟩
end

set_option maxRecDepth 20000 in
set_option maxHeartbeats 8000000 in
theorem Peel_root (b nn t c m : Nat) (id : Int) (F : Nat → Prop) (A : Ar) (w : World) (hA : ArAt w b F nn A) (hI : Inv A) (ht : t < 64) (hl : levelF A.ths t id = some ((m + 1 : Nat) : Int)) (hm1 : 1 ≤ m) (hm44 : m + 1 ≤ 44) (hbig : (cellsF A.ths (m + 1) id).length < 4611686018427387904) (hP : Pur A t (1 + c) nn) :
    Calls Try.prog 48 #[.pointer (some ⟨b, 0, none⟩), .int .i64 t, .int .i64 id] w fun x w' => ∃ id', x = .returned (.tuple #[.int .i64 id', .int .i64 0]) ∧ PeelOut w b t c F A (absC A.ths (m + 1) id) id' w' := by
  obtain ⟨x, hsq, hth, h2i, hlt, hq⟩ := square_of hI hl
  have hmask := hP.bud.mask
  have hf := hP.bud.young.few
  have hr := fits_of hl hf
  have hflt := hA.flt
  obtain ⟨N, hNm, hN⟩ := least_from (absC A.ths (m + 1) id) (m - 1) 2 (by omega) (by rw [show 2 + (m - 1) = m + 1 by omega]; exact abs_fits hI.good (glevel_of hl)) (fun j h1 h2 => by omega)
  have hN2 := hN.two
  obtain ⟨S, hS⟩ : ∃ S, S = absC A.ths (m + 1) id := ⟨_, rfl⟩
  have HSS : Hid (S = absC A.ths (m + 1) id) := hS
  rw [← hS]
  clear hS
  have hlev := fun W hb v (hh : HandAt W hb b t 0 v) (hW : ArAt W b F nn A) (hn : ¬ F hb) => handLevel_ok hb b nn t id 2 44 ((m + 1 : Nat) : Int) v F A W hh hW hn ht hmask hr hl (by omega) (by omega)
  have hbo := fun wb mm v k D W => box_any wb mm b nn t k (m + 1) id ((m + 1 : Nat) : Int) v F A D W hI ht hmask hf (by omega) hm44 hl hbig rfl
  have HL : Hid (levelF A.ths t id = some ((m + 1 : Nat) : Int)) := hl
  clear hl
  go_enter Try.func48, Try.ntmps48
  go_wp2_with fail
  refine (newWalker_G b t _).mono ?_
  rintro e w1 ⟨g, mp, D, rfl, hb1, hown, hkn, hmg, _, _, _⟩
  obtain ⟨Q0, b2⟩ := WG.born (g := g) (t := t) hA hf hb1 hown hkn hmg
  have hh := Q0.hand
  have hs1 := hb1.size
  go_wp2_with fail
  refine (hlev _ _ _ hh (hA.below b2) Q0.nFw).mono ?_
  rintro e w3 ⟨rfl, h3, g3, h34⟩
  have c2 := h3.c2
  have Q3 := Q0.kids h3 g3 (h34.trans Q0.c4)
  have b3 : Below w.heap.size w w3 := b2.trans ⟨g3.os, g3.tape, g3.output, g3.size, fun k hk => g3.block k (by have := b2.size; omega) (by simp; omega)⟩
  have hbo1 := hbo _ _ _ 2 D _ Q3
  obtain ⟨lvl, hlvl⟩ : ∃ lvl : Int, lvl = ((m + 1 : Nat) : Int) := ⟨_, rfl⟩
  have HLV : Hid (lvl = ((m + 1 : Nat) : Int)) := hlvl
  rw [← hlvl] at hbo1 ⊢
  have hlb : 2 ≤ lvl ∧ lvl ≤ 44 := by omega
  clear hlvl hlev hbo
  go_wp2_with fail
  refine hbo1.mono ?_
  rintro e w4 ⟨x0, y0, x1, y1, rfl, hbx, T4⟩
  obtain ⟨k4, D4, Q4, _⟩ := T4.wg
  have hlt3 := Q3.hand.lt
  have b4 : Below w.heap.size w w4 := ⟨T4.os.trans b3.os, T4.tape.trans b3.tape, T4.output.trans b3.output, Nat.le_trans b3.size T4.size, fun k hk => (T4.block k (by have := b3.size; omega) (by omega) (by omega)).trans (b3.block k hk)⟩
  obtain ⟨bl, hbl⟩ : ∃ bl, bl = decide (cellsF A.ths (m + 1) id ≠ []) := ⟨_, rfl⟩
  rw [← hbl]
  clear hbl hbo1 T4
  have b5 : Below w4.heap.size w4 (w4.alloc (.cells #[.int .i64 x0, .int .i64 y0, .int .i64 x1, .int .i64 y1] 81)) := (Below.refl _ _).alloc (Nat.le_refl _) _
  have Q5 := Q4.below b5
  have hX5 : (w4.alloc (.cells #[.int .i64 x0, .int .i64 y0, .int .i64 x1, .int .i64 y1] 81)).heap[w4.heap.size]? = some (.cells #[.int .i64 x0, .int .i64 y0, .int .i64 x1, .int .i64 y1] 81 (0, 0)) := heap_alloc_new w4 _
  have hwl4 := Q4.hand.lt
  have hLL := fun W => least_any N x0 y0 x1 y1 W hN2 (by omega) ((reach_fits hbx (by omega)).2 hN.fits) (fun j h1 h2 => by
    have := hN.least j h1 h2
    unfold absC at this
    rw [← reach_fits hbx (by omega)] at this
    simpa using this)
  go_wp2_with fail
  refine (handKids_any w1.heap.size b nn t id x _ F A _ Q5.hand Q5.ar ht hmask hr hsq).mono ?_
  rintro e w6 ⟨rfl, h6, g6, _⟩
  have hX6 := (g6.block w4.heap.size (by simp) (by simp; omega)).trans hX5
  have hl6 : w4.heap.size < w6.heap.size := (Array.getElem?_eq_some_iff.1 hX6).1
  have p0 : w6.cell? ⟨w4.heap.size, 0, none⟩ = some (.int .i64 x0) := Lib.cell_of_heap hX6 0
  have p1 : w6.cell? ⟨w4.heap.size, 1, none⟩ = some (.int .i64 y0) := Lib.cell_of_heap hX6 1
  have p2 : w6.cell? ⟨w4.heap.size, 2, none⟩ = some (.int .i64 x1) := Lib.cell_of_heap hX6 2
  have p3 : w6.cell? ⟨w4.heap.size, 3, none⟩ = some (.int .i64 y1) := Lib.cell_of_heap hX6 3
  have b6 : Below w.heap.size w w6 := (b4.trans (b5.mono b4.size)).trans ⟨g6.os, g6.tape, g6.output, g6.size, fun k hk => g6.block k (by have := b4.size; simp; omega) (by simp; omega)⟩
  have hA6 : ArAt w6 b F nn A := Q5.ar.other g6.size fun k hk => g6.block k (Q5.ar.flt k hk) (fun e => Q5.nFw (by cases e; exact hk))
  go_wp2_with fail
  refine (hLL _).mono ?_
  rintro e w8 ⟨rfl, hb8⟩
  have b7 : Below w6.heap.size w6 (w6.alloc (.cells #[.int .i64 x.p0, .int .i64 x.p1, .int .i64 x.p2, .int .i64 x.p3] 35)) := (Below.refl _ _).alloc (Nat.le_refl _) _
  have b68 : Below w6.heap.size w6 w8 := b7.trans (hb8.mono b7.size)
  have hs4 := b4.size
  have L0 : QL w w8 w1.heap.size b t nn w6.heap.size (.slice (some ⟨g, 0, none⟩) 1 1) F A x.p0 x.p1 x.p2 x.p3 :=
    ⟨h6.below b68, hA6.below b68, b6.trans (b68.mono b6.size), (hb8.block w6.heap.size (by simp)).trans (heap_alloc_new w6 _), fun e => by have := hflt _ e; omega, by omega, Q5.nFw, by omega, by omega⟩
  clear p0 p1 p2 p3 hX6 h6 g6 hA6 Q5 Q4 Q3 Q0 hb8 b7 hLL b68
  go_wp2_with fail
  have HV0 : Hid (∀ p : Int × Int, p ∈ fourC A.ths m x.p0 x.p1 x.p2 x.p3 ↔ (p.1 - ((2 ^ m : Nat) : Int), p.2 - ((2 ^ m : Nat) : Int)) ∈ S) := fun p => by
    rw [HSS.out, mem_abs, halfN_succ]
    simp only [cellsF]
    rw [hth, show p.1 - ((2 ^ m : Nat) : Int) + ((2 ^ m : Nat) : Int) = p.1 by omega, show p.2 - ((2 ^ m : Nat) : Int) + ((2 ^ m : Nat) : Int) = p.2 by omega]
    exact Iff.rfl
  rw [← HSS.out] at hN
  have HN : Hid (LeastLv N S) := hN
  have HFI : Hid (∀ n, N ≤ n + 1 → ∀ s ∈ S, -((2 ^ n : Nat) : Int) ≤ s.1 ∧ s.1 < ((2 ^ n : Nat) : Int) ∧ -((2 ^ n : Nat) : Int) ≤ s.2 ∧ s.2 < ((2 ^ n : Nat) : Int)) := fun n hn s hs => by
    have := fits_mono hN.fits hn s hs
    rw [halfN_succ] at this
    exact this
  clear hN hbx hsq hth HL
  go_loopg [40] (m + 1 - N) (fun g' s40 wr => ∃ (k n : Nat) (q0 q1 q2 q3 : Int), k + g' = m + 1 - N ∧ n + k = m ∧ s40 = .int .i64 (k : Int) ∧ QL w wr w1.heap.size b t nn w6.heap.size (.slice (some ⟨g, 0, none⟩) 1 1) F A q0 q1 q2 q3 ∧ levelF A.ths t q0 = some (n : Int) ∧ levelF A.ths t q1 = some (n : Int) ∧ levelF A.ths t q2 = some (n : Int) ∧ levelF A.ths t q3 = some (n : Int) ∧ ∀ p : Int × Int, p ∈ fourC A.ths n q0 q1 q2 q3 ↔ (p.1 - ((2 ^ n : Nat) : Int), p.2 - ((2 ^ n : Nat) : Int)) ∈ S)
  case atStart => exact ⟨0, m, _, _, _, _, by omega, rfl, rfl, L0, hq 0 (by omega), hq 1 (by omega), hq 2 (by omega), hq 3 (by omega), HV0.out⟩
  case round =>
    obtain ⟨k, n, q0, q1, q2, q3, hkg, hnk, rfl, L, v0, v1, v2, v3, hV⟩ := hrel
    have HK : Hid (k + gk = m + 1 - N ∧ n + k = m) := ⟨hkg, hnk⟩
    have HVV : Hid (∀ p : Int × Int, p ∈ fourC A.ths n q0 q1 q2 q3 ↔ (p.1 - ((2 ^ n : Nat) : Int), p.2 - ((2 ^ n : Nat) : Int)) ∈ S) := hV
    clear hkg hnk hV L0 HV0
    by_cases hk : k < m + 1 - N
    · have hkl : (k : Int) < lvl - (N : Int) := by have := HLV.out; omega
      have hkb : k < 100 := by omega
      obtain ⟨n', rfl⟩ : ∃ n', n = n' + 1 := ⟨n - 1, by have := HK.out; omega⟩
      obtain ⟨x0', s0, t0, _, _, u0⟩ := square_of hI v0
      obtain ⟨x1', s1, t1, _, _, u1⟩ := square_of hI v1
      obtain ⟨x2', s2, t2, _, _, u2⟩ := square_of hI v2
      obtain ⟨x3', s3, t3, _, _, u3⟩ := square_of hI v3
      have hst := peel_step hI.good (glevel_of v0) (glevel_of v1) (glevel_of v2) (glevel_of v3) HVV.out (HFI.out n' (by have := HK.out; omega))
      rw [t0, t1, t2, t3] at hst
      have HST : Hid (∀ p : Int × Int, p ∈ fourC A.ths n' x0'.p3 x1'.p2 x2'.p1 x3'.p0 ↔ (p.1 - ((2 ^ n' : Nat) : Int), p.2 - ((2 ^ n' : Nat) : Int)) ∈ S) := hst
      have y0 : levelF A.ths t x0'.p3 = some (n' : Int) := u0 3 (by omega)
      have y1 : levelF A.ths t x1'.p2 = some (n' : Int) := u1 2 (by omega)
      have y2 : levelF A.ths t x2'.p1 = some (n' : Int) := u2 1 (by omega)
      have y3 : levelF A.ths t x3'.p0 = some (n' : Int) := u3 0 (by omega)
      clear hst u0 u1 u2 u3 t0 t1 t2 t3 hq
      obtain ⟨⟨d0, d1, d2, d3⟩, ⟨z0, z1, z2, z3⟩, ql⟩ := L.cells
      obtain ⟨gK, hgK⟩ : ∃ a, a = gk := ⟨_, rfl⟩
      subst hgK
      go_wp2_with fail
      refine wp_loop_rounds 5 ?_
      rw [rounds_succ]
      go_wp2_with fail
      refine (handKids_any w1.heap.size b nn t q0 x0' _ F A _ L.hand L.ar ht hmask (fits_of v0 hf) s0).mono ?_
      rintro e wk0 ⟨rfl, hk0, gk0, _⟩
      have K0 := L.kids hk0 gk0
      clear d0 d1 d2 d3 z0 z1 z2 z3 ql
      obtain ⟨⟨d0, d1, d2, d3⟩, ⟨z0, z1, z2, z3⟩, ql⟩ := K0.cells
      have ix0 := Try.at3 (.int .i64 x0'.p0) (.int .i64 x0'.p1) (.int .i64 x0'.p2) (.int .i64 x0'.p3)
      go_wp2_with fail
      have M1 := K0.set 0 (.int .i64 x0'.p3) (Go.Joins.block_setCell K0.blk _)
      generalize wk0.setCell ⟨w6.heap.size, 0, none⟩ (.int .i64 x0'.p3) = V1 at *
      clear d0 d1 d2 d3 z0 z1 z2 z3 ql ix0
      obtain ⟨⟨d0, d1, d2, d3⟩, ⟨z0, z1, z2, z3⟩, ql⟩ := M1.cells
      rw [rounds_succ]
      go_wp2_with fail
      refine (handKids_any w1.heap.size b nn t q1 x1' _ F A _ M1.hand M1.ar ht hmask (fits_of v1 hf) s1).mono ?_
      rintro e wk1 ⟨rfl, hk1, gk1, _⟩
      have K1 := M1.kids hk1 gk1
      clear d0 d1 d2 d3 z0 z1 z2 z3 ql
      obtain ⟨⟨d0, d1, d2, d3⟩, ⟨z0, z1, z2, z3⟩, ql⟩ := K1.cells
      have ix1 := Try.at2 (.int .i64 x1'.p0) (.int .i64 x1'.p1) (.int .i64 x1'.p2) (.int .i64 x1'.p3)
      go_wp2_with fail
      have M2 := K1.set 1 (.int .i64 x1'.p2) (Go.Joins.block_setCell K1.blk _)
      generalize wk1.setCell ⟨w6.heap.size, 1, none⟩ (.int .i64 x1'.p2) = V2 at *
      clear d0 d1 d2 d3 z0 z1 z2 z3 ql ix1
      obtain ⟨⟨d0, d1, d2, d3⟩, ⟨z0, z1, z2, z3⟩, ql⟩ := M2.cells
      rw [rounds_succ]
      go_wp2_with fail
      refine (handKids_any w1.heap.size b nn t q2 x2' _ F A _ M2.hand M2.ar ht hmask (fits_of v2 hf) s2).mono ?_
      rintro e wk2 ⟨rfl, hk2, gk2, _⟩
      have K2 := M2.kids hk2 gk2
      clear d0 d1 d2 d3 z0 z1 z2 z3 ql
      obtain ⟨⟨d0, d1, d2, d3⟩, ⟨z0, z1, z2, z3⟩, ql⟩ := K2.cells
      have ix2 := Try.at1 (.int .i64 x2'.p0) (.int .i64 x2'.p1) (.int .i64 x2'.p2) (.int .i64 x2'.p3)
      go_wp2_with fail
      have M3 := K2.set 2 (.int .i64 x2'.p1) (Go.Joins.block_setCell K2.blk _)
      generalize wk2.setCell ⟨w6.heap.size, 2, none⟩ (.int .i64 x2'.p1) = V3 at *
      clear d0 d1 d2 d3 z0 z1 z2 z3 ql ix2
      obtain ⟨⟨d0, d1, d2, d3⟩, ⟨z0, z1, z2, z3⟩, ql⟩ := M3.cells
      rw [rounds_succ]
      go_wp2_with fail
      refine (handKids_any w1.heap.size b nn t q3 x3' _ F A _ M3.hand M3.ar ht hmask (fits_of v3 hf) s3).mono ?_
      rintro e wk3 ⟨rfl, hk3, gk3, _⟩
      have K3 := M3.kids hk3 gk3
      clear d0 d1 d2 d3 z0 z1 z2 z3 ql
      obtain ⟨⟨d0, d1, d2, d3⟩, ⟨z0, z1, z2, z3⟩, ql⟩ := K3.cells
      have ix3 := Try.at0 (.int .i64 x3'.p0) (.int .i64 x3'.p1) (.int .i64 x3'.p2) (.int .i64 x3'.p3)
      go_wp2_with fail
      have M4 := K3.set 3 (.int .i64 x3'.p0) (Go.Joins.block_setCell K3.blk _)
      generalize wk3.setCell ⟨w6.heap.size, 3, none⟩ (.int .i64 x3'.p0) = V4 at *
      clear d0 d1 d2 d3 z0 z1 z2 z3 ql ix3
      obtain ⟨⟨d0, d1, d2, d3⟩, ⟨z0, z1, z2, z3⟩, ql⟩ := M4.cells
      rw [rounds_succ]
      go_wp2_with fail
      go_roundg (gK - 1)
      case measure => have := HK.out; omega
      case rel => exact ⟨k + 1, n', _, _, _, _, by have := HK.out; omega, by have := HK.out; omega, by go_num, M4, y0, y1, y2, y3, HST.out⟩
    · have hkl : ¬ (k : Int) < lvl - (N : Int) := by have := HLV.out; omega
      have HE : Hid (n + 1 = N) := by have := HK.out; show _ = _; omega
      obtain ⟨⟨d0, d1, d2, d3⟩, ⟨z0, z1, z2, z3⟩, ql⟩ := L.cells
      obtain ⟨M, hJ, hz, hPu⟩ := joins_any A t c nn q0 q1 q2 q3 n hI ht (hP.less (by omega)) v0 v1 v2 v3 (by have := HK.out; omega)
      have hY := hP.bud.young
      have hnn := hP.nn
      have HJ := hjoin_any w1.heap.size b nn t q0 q1 q2 q3 _ F A wr L.hand L.ar L.nFw hY ht (fits_of v0 hf) (fits_of v1 hf) (fits_of v2 hf) (fits_of v3 hf) (by omega) (fun l hl => by rw [v0] at hl; cases hl; omega)
      unfold quad4 at HJ
      rw [hz] at HJ
      have HFIN : Hid (∀ w9, ArAt w9 b (More F wr w9) (nn + 1) (A.join t q0 q1 q2 q3).1 → Apart (With F w1.heap.size) wr w9 → PeelOut w b t c F A S (A.join t q0 q1 q2 q3).2.1 w9) := fun w9 a1 a2 => by
        have hB := L.bel
        have l1 := L.l1
        have hs := hB.size
        have e : N = n + 1 := HE.out.symm
        refine ⟨_, _, nn + 1, N, M, a1, fun k hk => ?_, ⟨a2.os.trans hB.os, a2.tape.trans hB.tape, a2.output.trans hB.output, Nat.le_trans hs a2.size, fun k hk hn => (a2.block k (by omega) ?_).trans (hB.block k hk)⟩, hJ.inv, hPu, hJ.gain, HN.out, by rw [e]; exact hJ.lv, fun p => ?_⟩
        · rcases hk with e | e
          · exact Or.inl e
          · exact Or.inr (by omega)
        · rintro (e | e)
          · exact hn e
          · omega
        · rw [e, hJ.cells, halfN_succ]
          exact HVV.out p
      clear HK hz hPu hJ
      go_wp2_with fail
      refine HJ.mono ?_
      rintro e w9 ⟨rfl, hand9, hA9, P9⟩
      go_wp2_with fail
      refine (answer_ok _ b t _ _ _ hand9).mono ?_
      rintro e w10 ⟨rfl, rfl⟩
      go_wp2_with fail
      go_ret2
      exact ⟨_, rfl, HFIN.out _ hA9 P9⟩
end Go.Proofs.Ytplnnlfmehfaiaa.A
