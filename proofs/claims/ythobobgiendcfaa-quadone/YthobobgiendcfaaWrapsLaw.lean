/- QuadWraps: the law's walk. -/
import Derived.Test.YthobobgiendcfaaSqPeel
import Derived.Test.YthobobgiendcfaaFromsLaw
import Derived.Test.YthobobgiendcfaaSqWrap
import Derived.Test.YthobobgiendcfaaMg
namespace Go.Proofs.Ythobobgiendcfaa.A
open Go.RowKit Go.Maps Go.ChangeMaps Go.WideElems

/-- what Peel leaves -/
def PeelOut (w : World) (b t c : Nat) (F : Nat → Prop) (A : Ar) (S : List (Int × Int)) (id' : Int) (w' : World) : Prop :=
  ∃ (A' : Ar) (F' : Nat → Prop) (nn' N' : Nat) (N : List Int), ArAt w' b F' nn' A' ∧ (∀ k, F' k → F k ∨ w.heap.size ≤ k) ∧ Apart F w w' ∧ Inv A' ∧ Pur A' t c nn' ∧ Gain t A A' N ∧ LeastLv N' S ∧ levelF A'.ths t id' = some (N' : Int) ∧ ∀ p : Int × Int, p ∈ cellsF A'.ths N' id' ↔ (p.1 - (halfN N' : Int), p.2 - (halfN N' : Int)) ∈ S

/-- between the rounds: a walker's hand, an arena, four numbers in a block -/
structure QL (w W : World) (wb b t nn qb : Nat) (v : Value) (F : Nat → Prop) (A : Ar) (q0 q1 q2 q3 : Int) : Prop where
  hand : HandAt W wb b t 0 v
  ar : ArAt W b F nn A
  bel : Below w.heap.size w W
  blk : W.heap[qb]? = some (.cells #[.int .i64 q0, .int .i64 q1, .int .i64 q2, .int .i64 q3] 35 (0, 0))
  nF : ¬ F qb
  nw : qb ≠ wb
  nFw : ¬ F wb
  l0 : w.heap.size ≤ qb
  l1 : w.heap.size ≤ wb
section
variable {w W W' : World} {wb b t nn qb : Nat} {v : Value} {F : Nat → Prop} {A : Ar} {q0 q1 q2 q3 : Int}
theorem QL.kids (h : QL w W wb b t nn qb v F A q0 q1 q2 q3) (h2 : HandAt W' wb b t 0 v) (hg : W.grownBy W' (some wb)) : QL w W' wb b t nn qb v F A q0 q1 q2 q3 := by
  have hl : qb < W.heap.size := (Array.getElem?_eq_some_iff.1 h.blk).1
  have l1 := h.l1
  have hs := h.bel.size
  refine ⟨h2, h.ar.other hg.size fun k hk => hg.block k (h.ar.flt k hk) (fun e => h.nFw (by cases e; exact hk)), h.bel.trans ⟨hg.os, hg.tape, hg.output, hg.size, fun k hk => hg.block k (by omega) (by simp; omega)⟩, (hg.block qb hl (fun e => h.nw (by cases e; rfl))).trans h.blk, h.nF, h.nw, h.nFw, h.l0, h.l1⟩
theorem QL.set (h : QL w W wb b t nn qb v F A q0 q1 q2 q3) (i : Nat) (u : Value) {r0 r1 r2 r3 : Int} (hq : (W.setCell ⟨qb, i, none⟩ u).heap[qb]? = some (.cells #[.int .i64 r0, .int .i64 r1, .int .i64 r2, .int .i64 r3] 35 (0, 0))) : QL w (W.setCell ⟨qb, i, none⟩ u) wb b t nn qb v F A r0 r1 r2 r3 := by
  have hz : (W.setCell ⟨qb, i, none⟩ u).heap.size = W.heap.size := size_set
  refine ⟨h.hand.go (heap_set (fun e => h.nw e.symm)), h.ar.other (by omega) fun k hk => heap_set (by rintro rfl; exact h.nF hk), h.bel.setCell (p := ⟨qb, i, none⟩) h.l0 u, hq, h.nF, h.nw, h.nFw, h.l0, h.l1⟩
theorem QL.cells (h : QL w W wb b t nn qb v F A q0 q1 q2 q3) : (W.cell? ⟨qb, 0, none⟩ = some (.int .i64 q0) ∧ W.cell? ⟨qb, 1, none⟩ = some (.int .i64 q1) ∧ W.cell? ⟨qb, 2, none⟩ = some (.int .i64 q2) ∧ W.cell? ⟨qb, 3, none⟩ = some (.int .i64 q3)) ∧ (W.frozen? ⟨qb, 0, none⟩ = false ∧ W.frozen? ⟨qb, 1, none⟩ = false ∧ W.frozen? ⟨qb, 2, none⟩ = false ∧ W.frozen? ⟨qb, 3, none⟩ = false) ∧ qb < W.heap.size :=
  ⟨⟨Lib.cell_of_heap h.blk 0, Lib.cell_of_heap h.blk 1, Lib.cell_of_heap h.blk 2, Lib.cell_of_heap h.blk 3⟩, ⟨Lib.frozen_of_heap h.blk 0, Lib.frozen_of_heap h.blk 1, Lib.frozen_of_heap h.blk 2, Lib.frozen_of_heap h.blk 3⟩, (Array.getElem?_eq_some_iff.1 h.blk).1⟩
end

set_option maxRecDepth 20000 in
set_option maxHeartbeats 8000000 in
theorem Peel_root (b nn t c m : Nat) (id : Int) (F : Nat → Prop) (A : Ar) (w : World) (hA : ArAt w b F nn A) (hI : Inv A) (ht : t < 64) (hl : levelF A.ths t id = some ((m + 1 : Nat) : Int)) (hm1 : 1 ≤ m) (hm44 : m + 1 ≤ 44) (hbig : (cellsF A.ths (m + 1) id).length < 4611686018427387904) (hP : Pur A t (1 + c) nn) :
    Calls Try.prog 48 #[.pointer (some ⟨b, 0, none⟩), .int .i64 t, .int .i64 id] w fun x w' => ∃ id', x = .returned (.tuple #[.int .i64 id', .int .i64 0]) ∧ PeelOut w b t c F A (absC A.ths (m + 1) id) id' w' := by
  obtain ⟨x, hsq, hth, h2i, hlt, hq⟩ := square_of hI hl
  have hmask := hP.bud.mask
  have hf := hP.bud.young.few
  have hr := fits_of hl hf
  have hflt := hA.flt
  obtain ⟨N, hNm, hN⟩ := least_from (absC A.ths (m + 1) id) (m - 1) 2 (by omega) (by rw [show 2 + (m - 1) = m + 1 by omega]; exact abs_fits hI.good (glevel_of hl)) (fun j h1 h2 => by omega)
  have hN2 := hN.two
  obtain ⟨S, hS⟩ : ∃ S, S = absC A.ths (m + 1) id := ⟨_, rfl⟩
  have HSS : Hid (S = absC A.ths (m + 1) id) := hS
  rw [← hS]
  clear hS
  have hlev := fun W hb v (hh : HandAt W hb b t 0 v) (hW : ArAt W b F nn A) (hn : ¬ F hb) => handLevel_ok hb b nn t id 2 44 ((m + 1 : Nat) : Int) v F A W hh hW hn ht hmask hr hl (by omega) (by omega)
  have hbo := fun wb mm v k D W => box_any wb mm b nn t k (m + 1) id ((m + 1 : Nat) : Int) v F A D W hI ht hmask hf (by omega) hm44 hl hbig rfl
  have HL : Hid (levelF A.ths t id = some ((m + 1 : Nat) : Int)) := hl
  clear hl
  go_enter Try.func48, Try.ntmps48
  go_wp2_with fail
  refine (newWalker_G b t _).mono ?_
  rintro e w1 ⟨g, mp, D, rfl, hb1, hown, hkn, hmg, _, _, _⟩
  obtain ⟨Q0, b2⟩ := WG.born (g := g) (t := t) hA hf hb1 hown hkn hmg
  have hh := Q0.hand
  have hs1 := hb1.size
  go_wp2_with fail
  refine (hlev _ _ _ hh (hA.below b2) Q0.nFw).mono ?_
  rintro e w3 ⟨rfl, h3, g3, h34⟩
  have c2 := h3.c2
  have Q3 := Q0.kids h3 g3 (h34.trans Q0.c4)
  have b3 : Below w.heap.size w w3 := b2.trans ⟨g3.os, g3.tape, g3.output, g3.size, fun k hk => g3.block k (by have := b2.size; omega) (by simp; omega)⟩
  have hbo1 := hbo _ _ _ 2 D _ Q3
  obtain ⟨lvl, hlvl⟩ : ∃ lvl : Int, lvl = ((m + 1 : Nat) : Int) := ⟨_, rfl⟩
  have HLV : Hid (lvl = ((m + 1 : Nat) : Int)) := hlvl
  rw [← hlvl] at hbo1 ⊢
  have hlb : 2 ≤ lvl ∧ lvl ≤ 44 := by omega
  clear hlvl hlev hbo
  go_wp2_with fail
  refine hbo1.mono ?_
  rintro e w4 ⟨x0, y0, x1, y1, rfl, hbx, T4⟩
  obtain ⟨k4, D4, Q4, _⟩ := T4.wg
  have hlt3 := Q3.hand.lt
  have b4 : Below w.heap.size w w4 := ⟨T4.os.trans b3.os, T4.tape.trans b3.tape, T4.output.trans b3.output, Nat.le_trans b3.size T4.size, fun k hk => (T4.block k (by have := b3.size; omega) (by omega) (by omega)).trans (b3.block k hk)⟩
  obtain ⟨bl, hbl⟩ : ∃ bl, bl = decide (cellsF A.ths (m + 1) id ≠ []) := ⟨_, rfl⟩
  rw [← hbl]
  clear hbl hbo1 T4
  have b5 : Below w4.heap.size w4 (w4.alloc (.cells #[.int .i64 x0, .int .i64 y0, .int .i64 x1, .int .i64 y1] 81)) := (Below.refl _ _).alloc (Nat.le_refl _) _
  have Q5 := Q4.below b5
  have hX5 : (w4.alloc (.cells #[.int .i64 x0, .int .i64 y0, .int .i64 x1, .int .i64 y1] 81)).heap[w4.heap.size]? = some (.cells #[.int .i64 x0, .int .i64 y0, .int .i64 x1, .int .i64 y1] 81 (0, 0)) := heap_alloc_new w4 _
  have hwl4 := Q4.hand.lt
  have hLL := fun W => least_any N x0 y0 x1 y1 W hN2 (by omega) ((reach_fits hbx (by omega)).2 hN.fits) (fun j h1 h2 => by
    have := hN.least j h1 h2
    unfold absC at this
    rw [← reach_fits hbx (by omega)] at this
    simpa using this)
  go_wp2_with fail
  refine (handKids_any w1.heap.size b nn t id x _ F A _ Q5.hand Q5.ar ht hmask hr hsq).mono ?_
  rintro e w6 ⟨rfl, h6, g6, _⟩
  have hX6 := (g6.block w4.heap.size (by simp) (by simp; omega)).trans hX5
  have hl6 : w4.heap.size < w6.heap.size := (Array.getElem?_eq_some_iff.1 hX6).1
  have p0 : w6.cell? ⟨w4.heap.size, 0, none⟩ = some (.int .i64 x0) := Lib.cell_of_heap hX6 0
  have p1 : w6.cell? ⟨w4.heap.size, 1, none⟩ = some (.int .i64 y0) := Lib.cell_of_heap hX6 1
  have p2 : w6.cell? ⟨w4.heap.size, 2, none⟩ = some (.int .i64 x1) := Lib.cell_of_heap hX6 2
  have p3 : w6.cell? ⟨w4.heap.size, 3, none⟩ = some (.int .i64 y1) := Lib.cell_of_heap hX6 3
  have b6 : Below w.heap.size w w6 := (b4.trans (b5.mono b4.size)).trans ⟨g6.os, g6.tape, g6.output, g6.size, fun k hk => g6.block k (by have := b4.size; simp; omega) (by simp; omega)⟩
  have hA6 : ArAt w6 b F nn A := Q5.ar.other g6.size fun k hk => g6.block k (Q5.ar.flt k hk) (fun e => Q5.nFw (by cases e; exact hk))
  go_wp2_with fail
  refine (hLL _).mono ?_
  rintro e w8 ⟨rfl, hb8⟩
  have b7 : Below w6.heap.size w6 (w6.alloc (.cells #[.int .i64 x.p0, .int .i64 x.p1, .int .i64 x.p2, .int .i64 x.p3] 35)) := (Below.refl _ _).alloc (Nat.le_refl _) _
  have b68 : Below w6.heap.size w6 w8 := b7.trans (hb8.mono b7.size)
  have hs4 := b4.size
  have L0 : QL w w8 w1.heap.size b t nn w6.heap.size (.slice (some ⟨g, 0, none⟩) 1 1) F A x.p0 x.p1 x.p2 x.p3 :=
    ⟨h6.below b68, hA6.below b68, b6.trans (b68.mono b6.size), (hb8.block w6.heap.size (by simp)).trans (heap_alloc_new w6 _), fun e => by have := hflt _ e; omega, by omega, Q5.nFw, by omega, by omega⟩
  clear p0 p1 p2 p3 hX6 h6 g6 hA6 Q5 Q4 Q3 Q0 hb8 b7 hLL b68
  go_wp2_with fail
  have HV0 : Hid (∀ p : Int × Int, p ∈ fourC A.ths m x.p0 x.p1 x.p2 x.p3 ↔ (p.1 - ((2 ^ m : Nat) : Int), p.2 - ((2 ^ m : Nat) : Int)) ∈ S) := fun p => by
    rw [HSS.out, mem_abs, halfN_succ]
    simp only [cellsF]
    rw [hth, show p.1 - ((2 ^ m : Nat) : Int) + ((2 ^ m : Nat) : Int) = p.1 by omega, show p.2 - ((2 ^ m : Nat) : Int) + ((2 ^ m : Nat) : Int) = p.2 by omega]
    exact Iff.rfl
  rw [← HSS.out] at hN
  have HN : Hid (LeastLv N S) := hN
  have HFI : Hid (∀ n, N ≤ n + 1 → ∀ s ∈ S, -((2 ^ n : Nat) : Int) ≤ s.1 ∧ s.1 < ((2 ^ n : Nat) : Int) ∧ -((2 ^ n : Nat) : Int) ≤ s.2 ∧ s.2 < ((2 ^ n : Nat) : Int)) := fun n hn s hs => by
    have := fits_mono hN.fits hn s hs
    rw [halfN_succ] at this
    exact this
  clear hN hbx hsq hth HL
  go_loopg [40] (m + 1 - N) (fun g' s40 wr => ∃ (k n : Nat) (q0 q1 q2 q3 : Int), k + g' = m + 1 - N ∧ n + k = m ∧ s40 = .int .i64 (k : Int) ∧ QL w wr w1.heap.size b t nn w6.heap.size (.slice (some ⟨g, 0, none⟩) 1 1) F A q0 q1 q2 q3 ∧ levelF A.ths t q0 = some (n : Int) ∧ levelF A.ths t q1 = some (n : Int) ∧ levelF A.ths t q2 = some (n : Int) ∧ levelF A.ths t q3 = some (n : Int) ∧ ∀ p : Int × Int, p ∈ fourC A.ths n q0 q1 q2 q3 ↔ (p.1 - ((2 ^ n : Nat) : Int), p.2 - ((2 ^ n : Nat) : Int)) ∈ S)
  case atStart => exact ⟨0, m, _, _, _, _, by omega, rfl, rfl, L0, hq 0 (by omega), hq 1 (by omega), hq 2 (by omega), hq 3 (by omega), HV0.out⟩
  case round =>
    obtain ⟨k, n, q0, q1, q2, q3, hkg, hnk, rfl, L, v0, v1, v2, v3, hV⟩ := hrel
    have HK : Hid (k + gk = m + 1 - N ∧ n + k = m) := ⟨hkg, hnk⟩
    have HVV : Hid (∀ p : Int × Int, p ∈ fourC A.ths n q0 q1 q2 q3 ↔ (p.1 - ((2 ^ n : Nat) : Int), p.2 - ((2 ^ n : Nat) : Int)) ∈ S) := hV
    clear hkg hnk hV L0 HV0
    by_cases hk : k < m + 1 - N
    · have hkl : (k : Int) < lvl - (N : Int) := by have := HLV.out; omega
      have hkb : k < 100 := by omega
      obtain ⟨n', rfl⟩ : ∃ n', n = n' + 1 := ⟨n - 1, by have := HK.out; omega⟩
      obtain ⟨x0', s0, t0, _, _, u0⟩ := square_of hI v0
      obtain ⟨x1', s1, t1, _, _, u1⟩ := square_of hI v1
      obtain ⟨x2', s2, t2, _, _, u2⟩ := square_of hI v2
      obtain ⟨x3', s3, t3, _, _, u3⟩ := square_of hI v3
      have hst := peel_step hI.good (glevel_of v0) (glevel_of v1) (glevel_of v2) (glevel_of v3) HVV.out (HFI.out n' (by have := HK.out; omega))
      rw [t0, t1, t2, t3] at hst
      have HST : Hid (∀ p : Int × Int, p ∈ fourC A.ths n' x0'.p3 x1'.p2 x2'.p1 x3'.p0 ↔ (p.1 - ((2 ^ n' : Nat) : Int), p.2 - ((2 ^ n' : Nat) : Int)) ∈ S) := hst
      have y0 : levelF A.ths t x0'.p3 = some (n' : Int) := u0 3 (by omega)
      have y1 : levelF A.ths t x1'.p2 = some (n' : Int) := u1 2 (by omega)
      have y2 : levelF A.ths t x2'.p1 = some (n' : Int) := u2 1 (by omega)
      have y3 : levelF A.ths t x3'.p0 = some (n' : Int) := u3 0 (by omega)
      clear hst u0 u1 u2 u3 t0 t1 t2 t3 hq
      obtain ⟨⟨d0, d1, d2, d3⟩, ⟨z0, z1, z2, z3⟩, ql⟩ := L.cells
      obtain ⟨gK, hgK⟩ : ∃ a, a = gk := ⟨_, rfl⟩
      subst hgK
      go_wp2_with fail
      refine wp_loop_rounds 5 ?_
      rw [rounds_succ]
      go_wp2_with fail
      refine (handKids_any w1.heap.size b nn t q0 x0' _ F A _ L.hand L.ar ht hmask (fits_of v0 hf) s0).mono ?_
      rintro e wk0 ⟨rfl, hk0, gk0, _⟩
      have K0 := L.kids hk0 gk0
      clear d0 d1 d2 d3 z0 z1 z2 z3 ql
      obtain ⟨⟨d0, d1, d2, d3⟩, ⟨z0, z1, z2, z3⟩, ql⟩ := K0.cells
      have ix0 := Try.at3 (.int .i64 x0'.p0) (.int .i64 x0'.p1) (.int .i64 x0'.p2) (.int .i64 x0'.p3)
      go_wp2_with fail
      have M1 := K0.set 0 (.int .i64 x0'.p3) (Go.Joins.block_setCell K0.blk _)
      generalize wk0.setCell ⟨w6.heap.size, 0, none⟩ (.int .i64 x0'.p3) = V1 at *
      clear d0 d1 d2 d3 z0 z1 z2 z3 ql ix0
      obtain ⟨⟨d0, d1, d2, d3⟩, ⟨z0, z1, z2, z3⟩, ql⟩ := M1.cells
      rw [rounds_succ]
      go_wp2_with fail
      refine (handKids_any w1.heap.size b nn t q1 x1' _ F A _ M1.hand M1.ar ht hmask (fits_of v1 hf) s1).mono ?_
      rintro e wk1 ⟨rfl, hk1, gk1, _⟩
      have K1 := M1.kids hk1 gk1
      clear d0 d1 d2 d3 z0 z1 z2 z3 ql
      obtain ⟨⟨d0, d1, d2, d3⟩, ⟨z0, z1, z2, z3⟩, ql⟩ := K1.cells
      have ix1 := Try.at2 (.int .i64 x1'.p0) (.int .i64 x1'.p1) (.int .i64 x1'.p2) (.int .i64 x1'.p3)
      go_wp2_with fail
      have M2 := K1.set 1 (.int .i64 x1'.p2) (Go.Joins.block_setCell K1.blk _)
      generalize wk1.setCell ⟨w6.heap.size, 1, none⟩ (.int .i64 x1'.p2) = V2 at *
      clear d0 d1 d2 d3 z0 z1 z2 z3 ql ix1
      obtain ⟨⟨d0, d1, d2, d3⟩, ⟨z0, z1, z2, z3⟩, ql⟩ := M2.cells
      rw [rounds_succ]
      go_wp2_with fail
      refine (handKids_any w1.heap.size b nn t q2 x2' _ F A _ M2.hand M2.ar ht hmask (fits_of v2 hf) s2).mono ?_
      rintro e wk2 ⟨rfl, hk2, gk2, _⟩
      have K2 := M2.kids hk2 gk2
      clear d0 d1 d2 d3 z0 z1 z2 z3 ql
      obtain ⟨⟨d0, d1, d2, d3⟩, ⟨z0, z1, z2, z3⟩, ql⟩ := K2.cells
      have ix2 := Try.at1 (.int .i64 x2'.p0) (.int .i64 x2'.p1) (.int .i64 x2'.p2) (.int .i64 x2'.p3)
      go_wp2_with fail
      have M3 := K2.set 2 (.int .i64 x2'.p1) (Go.Joins.block_setCell K2.blk _)
      generalize wk2.setCell ⟨w6.heap.size, 2, none⟩ (.int .i64 x2'.p1) = V3 at *
      clear d0 d1 d2 d3 z0 z1 z2 z3 ql ix2
      obtain ⟨⟨d0, d1, d2, d3⟩, ⟨z0, z1, z2, z3⟩, ql⟩ := M3.cells
      rw [rounds_succ]
      go_wp2_with fail
      refine (handKids_any w1.heap.size b nn t q3 x3' _ F A _ M3.hand M3.ar ht hmask (fits_of v3 hf) s3).mono ?_
      rintro e wk3 ⟨rfl, hk3, gk3, _⟩
      have K3 := M3.kids hk3 gk3
      clear d0 d1 d2 d3 z0 z1 z2 z3 ql
      obtain ⟨⟨d0, d1, d2, d3⟩, ⟨z0, z1, z2, z3⟩, ql⟩ := K3.cells
      have ix3 := Try.at0 (.int .i64 x3'.p0) (.int .i64 x3'.p1) (.int .i64 x3'.p2) (.int .i64 x3'.p3)
      go_wp2_with fail
      have M4 := K3.set 3 (.int .i64 x3'.p0) (Go.Joins.block_setCell K3.blk _)
      generalize wk3.setCell ⟨w6.heap.size, 3, none⟩ (.int .i64 x3'.p0) = V4 at *
      clear d0 d1 d2 d3 z0 z1 z2 z3 ql ix3
      obtain ⟨⟨d0, d1, d2, d3⟩, ⟨z0, z1, z2, z3⟩, ql⟩ := M4.cells
      rw [rounds_succ]
      go_wp2_with fail
      go_roundg (gK - 1)
      case measure => have := HK.out; omega
      case rel => exact ⟨k + 1, n', _, _, _, _, by have := HK.out; omega, by have := HK.out; omega, by go_num, M4, y0, y1, y2, y3, HST.out⟩
    · have hkl : ¬ (k : Int) < lvl - (N : Int) := by have := HLV.out; omega
      have HE : Hid (n + 1 = N) := by have := HK.out; show _ = _; omega
      obtain ⟨⟨d0, d1, d2, d3⟩, ⟨z0, z1, z2, z3⟩, ql⟩ := L.cells
      obtain ⟨M, hJ, hz, hPu⟩ := joins_any A t c nn q0 q1 q2 q3 n hI ht (hP.less (by omega)) v0 v1 v2 v3 (by have := HK.out; omega)
      have hY := hP.bud.young
      have hnn := hP.nn
      have HJ := hjoin_any w1.heap.size b nn t q0 q1 q2 q3 _ F A wr L.hand L.ar L.nFw hY ht (fits_of v0 hf) (fits_of v1 hf) (fits_of v2 hf) (fits_of v3 hf) (by omega) (fun l hl => by rw [v0] at hl; cases hl; omega)
      unfold quad4 at HJ
      rw [hz] at HJ
      have HFIN : Hid (∀ w9, ArAt w9 b (More F wr w9) (nn + 1) (A.join t q0 q1 q2 q3).1 → Apart (With F w1.heap.size) wr w9 → PeelOut w b t c F A S (A.join t q0 q1 q2 q3).2.1 w9) := fun w9 a1 a2 => by
        have hB := L.bel
        have l1 := L.l1
        have hs := hB.size
        have e : N = n + 1 := HE.out.symm
        refine ⟨_, _, nn + 1, N, M, a1, fun k hk => ?_, ⟨a2.os.trans hB.os, a2.tape.trans hB.tape, a2.output.trans hB.output, Nat.le_trans hs a2.size, fun k hk hn => (a2.block k (by omega) ?_).trans (hB.block k hk)⟩, hJ.inv, hPu, hJ.gain, HN.out, by rw [e]; exact hJ.lv, fun p => ?_⟩
        · rcases hk with e | e
          · exact Or.inl e
          · exact Or.inr (by omega)
        · rintro (e | e)
          · exact hn e
          · omega
        · rw [e, hJ.cells, halfN_succ]
          exact HVV.out p
      clear HK hz hPu hJ
      go_wp2_with fail
      refine HJ.mono ?_
      rintro e w9 ⟨rfl, hand9, hA9, P9⟩
      go_wp2_with fail
      refine (answer_ok _ b t _ _ _ hand9).mono ?_
      rintro e w10 ⟨rfl, rfl⟩
      go_wp2_with fail
      go_ret2
      exact ⟨_, rfl, HFIN.out _ hA9 P9⟩
end Go.Proofs.Ythobobgiendcfaa.A

namespace Go.Proofs.Ythobobgiendcfaa.A
open Go.RowKit Go.Maps

/-- a row in a block from lo to below hi -/
def RowIn (w : World) (lo hi : Nat) (u : Value) (ys : List (Int × Int)) : Prop :=
  (ys = [] ∧ u = .slice none 0 0) ∨ (ys ≠ [] ∧ ∃ b off c, u = .slice (some ⟨b, off, none⟩) ys.length c ∧ lo ≤ b ∧ b < hi ∧ hi ≤ w.heap.size ∧ ys.length ≤ c ∧ c ≤ maxLen ∧ HoldsR w b off ys)
theorem RowIn.row {w : World} {lo hi : Nat} {u : Value} {ys : List (Int × Int)} (h : RowIn w lo hi u ys) : Row w u ys := by
  rcases h with h | ⟨hz, b, off, c, hv, hlo, hhi, hw, hl, hm, hh⟩
  · exact Or.inl h
  · exact Or.inr ⟨hz, b, off, c, hv, by omega, hl, hm, hh⟩
theorem RowIn.apart {w w' : World} {lo hi : Nat} {u : Value} {ys : List (Int × Int)} {F : Nat → Prop} (h : RowIn w lo hi u ys) (P : Apart F w w') (hn : ∀ k, lo ≤ k → k < hi → ¬ F k) : RowIn w' lo hi u ys := by
  rcases h with h | ⟨hz, b, off, c, hv, hlo, hhi, hw, hl, hm, hh⟩
  · exact Or.inl h
  · have e := P.block b (by omega) (hn b hlo hhi)
    refine Or.inr ⟨hz, b, off, c, hv, hlo, hhi, Nat.le_trans hw P.size, hl, hm, fun j hj => ?_⟩
    obtain ⟨a1, a2⟩ := hh j hj
    exact ⟨(World.cell?_of_block (a := ⟨b, off + j * 2, none⟩) e).trans a1, (World.cell?_of_block (a := ⟨b, off + j * 2 + 1, none⟩) e).trans a2⟩
theorem rowIn_kept {w : World} {base : Nat} {u : Value} {ys : List (Int × Int)} (h : Kept w base u ys) : RowIn w base w.heap.size u ys := by
  rcases h with ⟨rfl, rfl⟩ | ⟨hz, hown⟩
  · exact Or.inl ⟨rfl, rfl⟩
  · rcases id hown with ⟨_, ⟨_, h0⟩ | ⟨g, cap, cur, hv, hB, _, hc, hm, _⟩⟩
    · exact absurd (List.length_eq_zero_iff.1 h0) hz
    · subst hv
      exact Or.inr ⟨hz, g, 0, cap, rfl, hB, (hown.lt g rfl).2, Nat.le_refl _, hc, hm, holdsR_of_owns hown⟩
theorem rowIn_orow {w : World} {base : Nat} {u : Value} {ys : List (Int × Int)} (h : ORow w base u ys) : RowIn w base w.heap.size u ys := by
  rcases h with h | ⟨hz, b, off, c, hv, hB, hlt, hl, hm, hh⟩
  · exact Or.inl h
  · exact Or.inr ⟨hz, b, off, c, hv, hB, hlt, Nat.le_refl _, hl, hm, hh.read⟩
theorem apart_of_below {w w' : World} (h : Below w.heap.size w w') (F : Nat → Prop) : Apart F w w' := ⟨h.os, h.tape, h.output, h.size, fun k hk _ => h.block k hk⟩
theorem below_apart {w w1 w2 : World} {F : Nat → Prop} (b : Below w.heap.size w w1) (P : Apart F w1 w2) (hF : ∀ k, F k → w.heap.size ≤ k) : Below w.heap.size w w2 :=
  ⟨P.os.trans b.os, P.tape.trans b.tape, P.output.trans b.output, Nat.le_trans b.size P.size, fun k hk => (P.block k (Nat.lt_of_lt_of_le hk b.size) (fun e => by have := hF k e; omega)).trans (b.block k hk)⟩

/-- what a wrapped square holds -/
theorem wrap_cells {l l4 : List Th} {m : Nat} {id id4 : Int} {ys : List (Int × Int)} (hc : ∀ p : Int × Int, p ∈ cellsF l (m + 1) id ↔ (p.1 - (halfN (m + 1) : Int), p.2 - (halfN (m + 1) : Int)) ∈ ys) (h4 : ∀ p : Int × Int, p ∈ cellsF l4 (m + 1 + 1) id4 ↔ (p.1 - (halfN (m + 1) : Int), p.2 - (halfN (m + 1) : Int)) ∈ cellsF l (m + 1) id) :
    ∀ p : Int × Int, p ∈ cellsF l4 (m + 1 + 1) id4 ↔ (p.1 - (halfN (m + 1 + 1) : Int), p.2 - (halfN (m + 1 + 1) : Int)) ∈ ys := fun p => by
  rw [h4, hc]
  have e : halfN (m + 1 + 1) = halfN (m + 1) + halfN (m + 1) := by rw [halfN_succ, halfN_succ, Nat.pow_succ]; omega
  rw [e]
  generalize halfN (m + 1) = k
  simp only
  rw [show p.1 - (k : Int) - (k : Int) = p.1 - ((k + k : Nat) : Int) by omega, show p.2 - (k : Int) - (k : Int) = p.2 - ((k + k : Nat) : Int) by omega]
theorem LeastLv.congr {N : Nat} {S T : List (Int × Int)} (h : LeastLv N S) (hm : ∀ p, p ∈ S ↔ p ∈ T) : LeastLv N T := ⟨h.two, fun p hp => h.fits p ((hm p).2 hp), fun j h2 hj hf => h.least j h2 hj fun p hp => hf p ((hm p).1 hp)⟩
/-- what is peeled of a wrapped root is that root -/
theorem peel_same {A A7 : Ar} {m N' : Nat} {id id7 : Int} {S ys : List (Int × Int)} (hG : Good A.ths) (hI7 : Inv A7) (hx : Ext A.ths A7.ths) (hlev : glevel A.ths id = some ((m + 1 : Nat) : Int)) (hL : LeastLv (m + 1) ys) (hS : ∀ p, p ∈ S ↔ p ∈ ys) (hc : ∀ p : Int × Int, p ∈ cellsF A.ths (m + 1) id ↔ (p.1 - (halfN (m + 1) : Int), p.2 - (halfN (m + 1) : Int)) ∈ ys) (hL7 : LeastLv N' S) (hl7 : glevel A7.ths id7 = some (N' : Int)) (hc7 : ∀ p : Int × Int, p ∈ cellsF A7.ths N' id7 ↔ (p.1 - (halfN N' : Int), p.2 - (halfN N' : Int)) ∈ S) : id7 = id := by
  obtain rfl : N' = m + 1 := (hL7.congr hS).unique hL
  refine cells_one hI7.good hI7.uniq (m + 1) id7 id hl7 (glevel_ext hlev hx) fun p => ?_
  rw [hc7, hS, cells_ext hG hx (m + 1) id hlev, hc]

set_option maxRecDepth 20000 in
set_option maxHeartbeats 8000000 in
theorem wraps_any (v : Value) (zs0 : List (Int × Int)) (w : World) (hrow0 : RRow w v zs0) :
    Calls Try.prog 9 #[v] w fun e w' => e = .returned (.bool true) ∧ Below w.heap.size w w' := by
  obtain ⟨a0, c0, hv0, hc0, _, ha0, hp0⟩ := id hrow0
  have HR0 : Hid (RRow w v zs0) := hrow0
  clear hrow0
  subst hv0
  go_enter Try.func9, Try.ntmps9
  go_upto_if 21 with fail
  go_cut [0] from 19 to 23 (fun s0 wc => ∃ (a : Option Addr) (c m : Nat) (zs : List (Int × Int)), s0 = .slice a m c ∧ m = zs.length ∧ zs.length ≤ 300 ∧ RRow w s0 zs ∧ wc = w)
  case first =>
    by_cases hl : 300 < zs0.length
    · have hl3 : (300 : Int) < (zs0.length : Int) := by omega
      have hd3 : decide ((300 : Int) < (zs0.length : Int)) = true := by simpa using hl3
      have hc3 : (300 : Int) ≤ (c0 : Int) := by omega
      obtain ⟨b, off, rfl, _⟩ : ∃ b off, a0 = some (⟨b, off, none⟩ : Addr) ∧ True := by
        rcases hp0 with h | ⟨b, off, h, _⟩
        · omega
        · exact ⟨b, off, h, trivial⟩
      have HREL : Hid (∃ (a : Option Addr) (c m : Nat) (zs : List (Int × Int)), Value.slice (some ⟨b, off, none⟩) 300 c0 = .slice a m c ∧ m = zs.length ∧ zs.length ≤ 300 ∧ RRow w (.slice (some ⟨b, off, none⟩) 300 c0) zs) := by
        have hlen : (zs0.take 300).length = 300 := by rw [List.length_take]; omega
        exact ⟨_, _, 300, zs0.take 300, rfl, hlen.symm, Nat.le_of_eq hlen, cut_row HR0.out hl⟩
      generalize zs0.length = M at *
      clear hp0 HR0
      go_wp2_with fail
      go_meet
      case rel =>
        obtain ⟨a, c, m, zs, h1, h2, h3, h4⟩ := HREL.out
        exact ⟨a, c, m, zs, h1, h2, h3, h4, rfl⟩
    · have hl3 : ¬ (300 : Int) < (zs0.length : Int) := by omega
      have hd3 : decide ((300 : Int) < (zs0.length : Int)) = false := by simpa using hl3
      have HREL : Hid (∃ (a : Option Addr) (c m : Nat) (zs : List (Int × Int)), Value.slice a0 zs0.length c0 = .slice a m c ∧ m = zs.length ∧ zs.length ≤ 300 ∧ RRow w (.slice a0 zs0.length c0) zs) := ⟨_, _, _, zs0, rfl, rfl, by omega, HR0.out⟩
      generalize zs0.length = M at *
      clear hp0 HR0
      go_wp2_with fail
      go_meet
      case rel =>
        obtain ⟨a, c, m, zs, h1, h2, h3, h4⟩ := HREL.out
        exact ⟨a, c, m, zs, h1, h2, h3, h4, rfl⟩
  case rest =>
  obtain ⟨a, c, m, zs, rfl, hm, hlen, hrow, rfl⟩ := hcut
  clear HR0 hp0 hc0 ha0
  obtain ⟨ys, hys⟩ := tidied_exists zs
  have HLEN : Hid (zs.length ≤ 300) := hlen
  have hMA := fun W h => made_any (.slice a m c) zs ys W h hlen hys
  have hRT := fun W h => refTidy_own (.slice a m c) zs W h
  have HR : Hid (RRow wc (.slice a m c) zs) := hrow
  have HYS : Hid (Tidied zs ys) := hys
  clear hrow hys hlen hm
  go_wp2_with fail
  refine (hMA _ HR.out).mono ?_
  rintro e w1 ⟨b, id, rfl, hb1, hid, hmade⟩
  have hr1 := RRow.below HR.out hb1
  clear hMA
  obtain ⟨tc, htc⟩ : ∃ tc, tc = tcode zs := ⟨_, rfl⟩
  rw [← htc] at hRT hid hmade ⊢
  have HTC : Hid (tc = tcode zs) := htc
  clear htc
  go_wp2_with fail
  refine (hRT _ hr1).mono ?_
  rintro e w2 ⟨u, ys', rfl, hb2, ht2, hr2⟩
  obtain rfl : ys' = ys := ht2.unique HYS.out
  have b2 : Below wc.heap.size wc w2 := hb1.trans (hb2.mono hb1.size)
  clear hRT ht2 hid
  by_cases h0 : tc = 0
  · obtain ⟨A, F, nn, lv, hA, hF, hI, hP, hL, hlv, hlev, hcells⟩ := hmade h0
    subst h0
    clear hmade
    have hA2 := hA.below hb2
    have hmask := hP.bud.mask
    have hfew := hP.bud.young.few
    have hyl : ys'.length ≤ 300 := Nat.le_trans (tidied_len HYS.out) HLEN.out
    have hlv2 := hL.two
    obtain ⟨m', rfl⟩ : ∃ m', lv = m' + 1 := ⟨lv - 1, by omega⟩
    have hLv : ∀ (A1 : Ar) (F1 : Nat → Prop) (n1 : Nat) (i l : Int) W, ArAt W b F1 n1 A1 → (∀ x ∈ A1.ths, x.mask < 18446744073709551616) → A1.ths.length < 1000000 → levelF A1.ths 3 i = some l → Calls Try.prog 27 #[.pointer (some ⟨b, 0, none⟩), .int .i64 3, .int .i64 i] W fun x w' => x = .returned (.tuple #[.int .i64 l, .int .i64 0]) ∧ Below W.heap.size W w' := fun A1 F1 n1 i l W ⟨r, D, h⟩ hm1 hf1 hl1 => by
      have := Level_any b 0 3 i r A1.ths W h.raw h.ths (by omega) hm1 (fits_of hl1 hf1)
      rw [hl1] at this
      exact this
    have hWr : ∀ W, ArAt W b F nn A → Calls Try.prog 47 #[.pointer (some ⟨b, 0, none⟩), .int .i64 3, .int .i64 id] W fun x w' => ∃ id', x = .returned (.tuple #[.int .i64 id', .int .i64 0]) ∧ WrapOut W b 3 1000 (m' + 1) F A id id' w' := fun W h => Wrap_root b nn 3 1000 m' id F A W h hI (by omega) hlev (by omega) (hP.less (by omega))
    have R2 := rowIn_kept hr2
    obtain ⟨ua, uc, hu⟩ := row_shape R2.row
    clear hr2
    subst hu
    have HU2 : Hid (RowIn w2 w1.heap.size w2.heap.size (.slice ua ys'.length uc) ys') := R2
    clear R2
    generalize hyn : ys'.length = yn at *
    obtain ⟨lvl, hlvl⟩ : ∃ lvl : Int, lvl = ((m' + 1 : Nat) : Int) := ⟨_, rfl⟩
    have hlvb : 0 ≤ lvl ∧ lvl ≤ 44 := by omega
    have hL0 := hLv A F nn id _ w2 hA2 hmask hfew hlev
    rw [← hlvl] at hL0
    have HLVL : Hid (lvl = ((m' + 1 : Nat) : Int)) := hlvl
    have HM : Hid (2 ≤ m' + 1 ∧ m' + 1 ≤ 41) := ⟨hlv2, hlv⟩
    have HYN : Hid (ys'.length = yn ∧ yn ≤ 300) := ⟨hyn, hyl⟩
    clear hlvl hlv2 hlv hyn hyl
    go_wp2_with fail
    refine hL0.mono ?_
    rintro e w3 ⟨rfl, hb3⟩
    have hA3 := hA2.below hb3
    have b3 : Below wc.heap.size wc w3 := b2.trans (hb3.mono b2.size)
    clear hL0
    go_wp2_with fail
    refine (hWr _ hA3).mono ?_
    rintro e w4 ⟨id4, rfl, A4, F4, n4, N4, hA4, hF4, P4, hI4, hP4, g4, hl4, hc4⟩
    have hm4 := hP4.bud.mask
    have hf4 := hP4.bud.young.few
    have b4 : Below wc.heap.size wc w4 := below_apart b3 P4 hF
    have hF4' : ∀ k, F4 k → wc.heap.size ≤ k := fun k hk => by
      rcases hF4 k hk with e | e
      · exact hF k e
      · exact Nat.le_trans b3.size e
    have HU4 : Hid (RowIn w4 w1.heap.size w2.heap.size (.slice ua yn uc) ys') := (HU2.out.apart (apart_of_below hb3 F) (fun k h1 _ e => by have := hA.flt k e; omega)).apart P4 (fun k h1 _ e => by have := hA.flt k e; omega)
    have HNF4 : Hid (∀ k, w1.heap.size ≤ k → k < w2.heap.size → ¬ F4 k) := fun k h1 h2 e => by
      rcases hF4 k e with e | e
      · have := hA.flt k e; omega
      · have := hb3.size; omega
    have HC4 : Hid (∀ p : Int × Int, p ∈ cellsF A4.ths (m' + 1 + 1) id4 ↔ (p.1 - (halfN (m' + 1 + 1) : Int), p.2 - (halfN (m' + 1 + 1) : Int)) ∈ ys') := wrap_cells hcells hc4
    have hlen4 := made_len hI4.good (glevel_of hl4) HYS.out.1 HC4.out
    have hmem4 := made_mem HC4.out
    have htid4 := made_tidied HYS.out hmem4 (by rw [shift_len]; have := HYN.out; omega)
    have hCe0 := fun W h => Cells_root b n4 3 (m' + 1 + 1) id4 F4 A4 W h hI4 (by omega) hm4 hf4 hl4 (by omega) (by have := HM.out; omega) (by have := HYN.out; omega)
    have hCe : ∀ W, ArAt W b F4 n4 A4 → Calls Try.prog 41 #[.pointer (some ⟨b, 0, none⟩), .int .i64 3, .int .i64 id4] W fun x w' => ∃ u, x = .returned (.tuple #[u, .int .i64 0]) ∧ RowIn w' W.heap.size w'.heap.size u ys' ∧ Below W.heap.size W w' := fun W h => (hCe0 W h).mono fun x w' ⟨u, ys2, h1, h2, h3, h4⟩ => ⟨u, by rw [h1, htid4.2], rowIn_orow (by rw [← h2.unique htid4.1]; exact h3), h4⟩
    have hPe : ∀ W, ArAt W b F4 n4 A4 → Calls Try.prog 48 #[.pointer (some ⟨b, 0, none⟩), .int .i64 3, .int .i64 id4] W fun x w' => x = .returned (.tuple #[.int .i64 id, .int .i64 0]) ∧ Apart F4 W w' := fun W h => (Peel_root b n4 3 0 (m' + 1) id4 F4 A4 W h hI4 (by omega) hl4 (by omega) (by have := HM.out; omega) (by have := HYN.out; omega) (hP4.less (by omega))).mono fun x w' ⟨id7, h1, A7, F7, n7, N', N7, h2, h3, h4, h5, h6, h7, h8, h9, h10⟩ => ⟨by rw [h1, peel_same hI.good h5 (g4.ext.trans h7.ext) (glevel_of hlev) hL hmem4 hcells h8 (glevel_of h9) h10], h4⟩
    have hL4 := hLv A4 F4 n4 id4 _ w4 hA4 hm4 hf4 hl4
    have hlv4 : ((m' + 1 + 1 : Nat) : Int) = lvl + 1 := by rw [HLVL.out]; omega
    rw [hlv4] at hL4
    have hSa := fun (u1 : Value) W h1 h2 => sameCells_any u1 (.slice ua yn uc) ys' W h1 h2
    have hflt4 := hA4.flt
    clear hlv4 hLv hWr hCe0 htid4 hmem4 hlen4 hc4 hcells hl4 hlev hL hI hI4 hP hP4 g4 hmask hfew hm4 hf4 hA hA2 hA3 hF4
    go_wp2_with fail
    refine hL4.mono ?_
    rintro e w5 ⟨rfl, hb5⟩
    have hA5 := hA4.below hb5
    have b5 : Below wc.heap.size wc w5 := b4.trans (hb5.mono b4.size)
    clear hL4
    go_wp2_with fail
    refine (hCe _ hA5).mono ?_
    rintro e w6 ⟨u6, rfl, hr6, hb6⟩
    have hA6 := hA5.below hb6
    have b6 : Below wc.heap.size wc w6 := b5.trans (hb6.mono b5.size)
    clear hCe
    go_wp2_with fail
    refine (hPe _ hA6).mono ?_
    rintro e w7 ⟨rfl, P7⟩
    have b7 : Below wc.heap.size wc w7 := below_apart b6 P7 hF4'
    have hr7 := (hr6.apart P7 (fun k h1 _ e => by have := hflt4 k e; have := hb5.size; omega)).row
    have hu7 := (((HU4.out.apart (apart_of_below hb5 F4) HNF4.out).apart (apart_of_below hb6 F4) HNF4.out).apart P7 HNF4.out).row
    clear hPe
    go_wp2_with fail
    refine (hSa _ _ hr7 hu7).mono ?_
    rintro e w8 ⟨rfl, hb8⟩
    go_wp2_with fail
    go_ret
    exact ⟨rfl, b7.trans (hb8.mono b7.size)⟩
  · have h0' : (tc != 0) = true := by simpa using h0
    clear hmade
    go_wp2_with fail
    go_ret
    exact ⟨rfl, b2⟩

end Go.Proofs.Ythobobgiendcfaa.A
