/- Peel, over any arena, where it may fail. -/
import Derived.Test.YtofbcngcblleaabGreatSqPeel2
namespace Go.Proofs.YtofbcngcblleaabGreat.A
open Go.RowKit Go.Maps Go.Proofs.YtofbcngcblleaabGreat.L
variable {w : World} {o : Nat → Nat} {b t : Nat} {A : Ar} {PR : (Bool → Nat → Bool) → Int → Prop} {q : Nat → Int}
def PeelS (Q : Qs4) (M N : Nat) (id x : Int) : Prop := ∀ g : Gr, Shows Q (M + 1) id g (-(2 ^ M)) (-(2 ^ M)) → Shows Q (N + 1) x g (-(2 ^ N)) (-(2 ^ N))
def PQ (Q : Qs4) (M n : Nat) (id q0 q1 q2 q3 : Int) : Prop := ∀ g : Gr, Shows Q (M + 1) id g (-(2 ^ M)) (-(2 ^ M)) → Shows Q n q0 g (-(2 ^ n)) (-(2 ^ n)) ∧ Shows Q n q1 g 0 (-(2 ^ n)) ∧ Shows Q n q2 g (-(2 ^ n)) 0 ∧ Shows Q n q3 g 0 0
theorem PQ.first {Q : Qs4} {M : Nat} {id : Int} {k : Int × Int × Int × Int} (hk : Q id = some k) : PQ Q M M id k.1 k.2.1 k.2.2.1 k.2.2.2 := fun g hs => by
  obtain ⟨s0, s1, s2, s3⟩ := shows_kids hk hs
  exact ⟨s0, shows_mv s1 (by omega) rfl, shows_mv s2 rfl (by omega), shows_mv s3 (by omega) (by omega)⟩
theorem PQ.step {Q : Qs4} {M n : Nat} {id q0 q1 q2 q3 : Int} {k0 k1 k2 k3 : Int × Int × Int × Int} (h : PQ Q M (n + 1) id q0 q1 q2 q3) (h0 : Q q0 = some k0) (h1 : Q q1 = some k1) (h2 : Q q2 = some k2) (h3 : Q q3 = some k3) : PQ Q M n id k0.2.2.2 k1.2.2.1 k2.2.1 k3.1 := fun g hs => by
  obtain ⟨s0, s1, s2, s3⟩ := h g hs
  have hp := two_powI n
  exact ⟨shows_mv (shows_kids h0 s0).2.2.2 (by omega) (by omega), shows_mv (shows_kids h1 s1).2.2.1 (by omega) (by omega), shows_mv (shows_kids h2 s2).2.1 (by omega) (by omega), (shows_kids h3 s3).1⟩
theorem PQ.last {Q Q' : Qs4} {M n : Nat} {id q0 q1 q2 q3 x : Int} (h : PQ Q M n id q0 q1 q2 q3) (he : L.Ext Q Q') (hi : IsSq Q (M + 1) id) (i0 : IsSq Q n q0) (i1 : IsSq Q n q1) (i2 : IsSq Q n q2) (i3 : IsSq Q n q3) (hx : Q' x = some (q0, q1, q2, q3)) : PeelS Q' M n id x := fun g hs => by
  obtain ⟨s0, s1, s2, s3⟩ := h g (hs.back hi he)
  exact shows_join hx (s0.ext i0 he) (shows_mv (s1.ext i1 he) (by omega) rfl) (shows_mv (s2.ext i2 he) rfl (by omega)) (shows_mv (s3.ext i3 he) (by omega) (by omega))
def PeelD (m : Nat) (P : Gr) (S : List (Int × Int)) (i : Item) : Prop := ∃ n, LeastLv (n + 1) S ∧ i = .sq (n + 1) (pic (ctr m P) (-(2 ^ n)) (-(2 ^ n)) (n + 1))
theorem hkids_Q {hb n : Nat} {v : Value} {F : Nat → Prop} {Af : Ar} {W : World} (h : HandAt W hb b t 0 v) (hA : ArAt W b F n Af) (hS : Sound A) (ht : t < 64) (hths : Af.ths = A.ths) (id : Int) (hid : Fits id) (k0 k1 k2 k3 : Int) (hq : QV (view A t) id = some (k0, k1, k2, k3)) :
    Calls Tryz.prog 58 #[.pointer (some ⟨hb, 0, none⟩), .int .i64 id] W fun e w' => e = .returned (.agg #[.int .i64 k0, .int .i64 k1, .int .i64 k2, .int .i64 k3]) ∧ HandAt w' hb b t 0 v ∧ W.grownBy w' (some hb) ∧ w'.cell? ⟨hb, 4, none⟩ = W.cell? ⟨hb, 4, none⟩ := by
  obtain ⟨x, hx, hk⟩ := square_QV hq
  simp only [Prod.mk.injEq] at hk
  obtain ⟨rfl, rfl, rfl, rfl⟩ := hk
  exact handKids_any hb b n t id x v F Af W h hA ht (by rw [hths]; exact hS.mask) hid (by rw [hths]; exact hx)
set_option maxRecDepth 20000 in
set_option maxHeartbeats 8000000 in
theorem peel_rel (hA : ArL w o b A) (hst : NxSt PR t q A) (ht : t < 64) (id : Int) (m : Nat) (hm1 : 1 ≤ m) (hm44 : m + 1 ≤ 44) (hl : levV (view A t).V id = some ((m + 1 : Nat) : Int)) (hbig : (cellsF A.ths (m + 1) id).length < 4611686018427387904) :
    Calls Tryz.prog 63 #[.pointer (some ⟨b, 0, none⟩), .int .i64 t, .int .i64 id] w fun r w' => ∃ x e', r = .returned (.tuple #[.int .i64 x, .int .i64 e']) ∧ ∃ A' o', ArL w' o' b A' ∧ Ch (fun l => l = 1) o w o' w' ∧ NxSt PR t q A' ∧ Gx t A A' 0 e' (PeelD m (picQ (QV (view A t)) (m + 1) id) (absC A.ths (m + 1) id)) ∧ (Er e' ∨ (e' = 0 ∧ ∃ n, LeastLv (n + 1) (absC A.ths (m + 1) id) ∧ n ≤ m ∧ levV (view A' t).V x = some ((n + 1 : Nat) : Int) ∧ PeelS (QV (view A' t)) m n id x)) := by
  obtain ⟨F, hFA, hF1⟩ := hA
  obtain ⟨L, hat⟩ := hFA.ar
  have hI := inv_of hst.s hst.g L
  obtain ⟨kk, hkq, hkl⟩ := kids_lev (hst.g.wel t ht) hl
  have hr := lev_fits hst.s hl
  have HW : Hid (NxSt PR t q A ∧ AtP w b F A ∧ (∀ k, F k → o k = 1) ∧ IsSq (QV (view A t)) (m + 1) id) := ⟨hst, hFA, hF1, isSq_of_lev (hst.g.wel t ht) hst.p _ _ hl⟩
  have hlF : levelF A.ths t id = some ((m + 1 : Nat) : Int) := by rw [levelF_V]; exact hl
  obtain ⟨Af, hAf⟩ : ∃ Af, Af = { A with free := L } := ⟨_, rfl⟩
  have hths : Af.ths = A.ths := by rw [hAf]
  rw [← hAf] at hat hI
  rw [← hths] at hlF hbig ⊢
  have hmask : ∀ x ∈ Af.ths, x.mask < 18446744073709551616 := by rw [hths]; exact hst.s.mask
  have hf : Af.ths.length < 1000000 := by rw [hths]; have := hst.s.len; have := hst.s.room1; omega
  have hflt := hat.flt
  obtain ⟨nn, hnn⟩ : ∃ nn, nn = liveN A.ths := ⟨_, rfl⟩
  rw [← hnn] at hat
  clear hAf hnn hFA hF1
  obtain ⟨N, hNm, hN⟩ := least_from (absC Af.ths (m + 1) id) (m - 1) 2 (by omega) (by rw [show 2 + (m - 1) = m + 1 by omega]; exact abs_fits hI.good (glevel_of hlF)) (fun j h1 h2 => by omega)
  have hN2 := hN.two
  obtain ⟨S, hS⟩ : ∃ S, S = absC Af.ths (m + 1) id := ⟨_, rfl⟩
  have HSS : Hid (S = absC Af.ths (m + 1) id) := hS
  rw [← hS]
  clear hS
  have hlev := fun W hb v (hh : HandAt W hb b t 0 v) (hW : ArAt W b F nn Af) (hn : ¬ F hb) => handLevel_ok hb b nn t id 2 44 ((m + 1 : Nat) : Int) v F Af W hh hW hn ht hmask hr hlF (by omega) (by omega)
  have hbo := fun wb mm v k D W => box_any wb mm b nn t k (m + 1) id ((m + 1 : Nat) : Int) v F Af D W hI ht hmask hf (by omega) hm44 hlF hbig rfl
  have hsd := hst.s
  have hwel := hst.g.wel t ht
  clear hst
  go_enter Tryz.func63, Tryz.ntmps63
  go_wp2_with fail
  refine (newWalker_G b t _).mono ?_
  rintro e w1 ⟨g, mp, D, rfl, hb1, hown, hkn, hmg, _, _, _⟩
  obtain ⟨Q0, b2⟩ := WG.born (g := g) (t := t) hat hf hb1 hown hkn hmg
  have hh := Q0.hand
  have hs1 := hb1.size
  go_wp2_with fail
  refine (hlev _ _ _ hh (hat.below b2) Q0.nFw).mono ?_
  rintro e w3 ⟨rfl, h3, g3, h34⟩
  have c2 := h3.c2
  have Q3 := Q0.kids h3 g3 (h34.trans Q0.c4)
  have b3 : Below w.heap.size w w3 := b2.trans ⟨g3.os, g3.tape, g3.output, g3.size, fun k hk => g3.block k (by have := b2.size; omega) (by simp; omega)⟩
  have hbo1 := hbo _ _ _ 2 D _ Q3
  obtain ⟨lvl, hlvl⟩ : ∃ lvl : Int, lvl = ((m + 1 : Nat) : Int) := ⟨_, rfl⟩
  have HLV : Hid (lvl = ((m + 1 : Nat) : Int)) := hlvl
  rw [← hlvl] at hbo1 ⊢
  have hlb : 2 ≤ lvl ∧ lvl ≤ 44 := by omega
  clear hlvl hlev hbo
  go_wp2_with fail
  refine hbo1.mono ?_
  rintro e w4 ⟨x0, y0, x1, y1, rfl, hbx, T4⟩
  obtain ⟨k4, D4, Q4', _⟩ := T4.wg
  have hlt3 := Q3.hand.lt
  have b4 : Below w.heap.size w w4 := ⟨T4.os.trans b3.os, T4.tape.trans b3.tape, T4.output.trans b3.output, Nat.le_trans b3.size T4.size, fun k hk => (T4.block k (by have := b3.size; omega) (by omega) (by omega)).trans (b3.block k hk)⟩
  obtain ⟨bl, hbl⟩ : ∃ bl, bl = decide (cellsF Af.ths (m + 1) id ≠ []) := ⟨_, rfl⟩
  rw [← hbl]
  clear hbl hbo1 T4
  have b5 : Below w4.heap.size w4 (w4.alloc (.cells #[.int .i64 x0, .int .i64 y0, .int .i64 x1, .int .i64 y1] 49)) := (Below.refl _ _).alloc (Nat.le_refl _) _
  have Q5 := Q4'.below b5
  have hX5 : (w4.alloc (.cells #[.int .i64 x0, .int .i64 y0, .int .i64 x1, .int .i64 y1] 49)).heap[w4.heap.size]? = some (.cells #[.int .i64 x0, .int .i64 y0, .int .i64 x1, .int .i64 y1] 49 (0, 0)) := heap_alloc_new w4 _
  have hwl4 := Q4'.hand.lt
  have hLL := fun W => least_any N x0 y0 x1 y1 W hN2 (by omega) ((reach_fits hbx (by omega)).2 hN.fits) (fun j h1 h2 => by
    have := hN.least j h1 h2
    unfold absC at this
    rw [← reach_fits hbx (by omega)] at this
    simpa using this)
  go_wp2_with fail
  refine (hkids_Q Q5.hand Q5.ar hsd ht hths id hr _ _ _ _ hkq).mono ?_
  rintro e w6 ⟨rfl, h6, g6, _⟩
  have hX6 := (g6.block w4.heap.size (by simp) (by simp; omega)).trans hX5
  have hl6 : w4.heap.size < w6.heap.size := (Array.getElem?_eq_some_iff.1 hX6).1
  have p0 : w6.cell? ⟨w4.heap.size, 0, none⟩ = some (.int .i64 x0) := Lib.cell_of_heap hX6 0
  have p1 : w6.cell? ⟨w4.heap.size, 1, none⟩ = some (.int .i64 y0) := Lib.cell_of_heap hX6 1
  have p2 : w6.cell? ⟨w4.heap.size, 2, none⟩ = some (.int .i64 x1) := Lib.cell_of_heap hX6 2
  have p3 : w6.cell? ⟨w4.heap.size, 3, none⟩ = some (.int .i64 y1) := Lib.cell_of_heap hX6 3
  have b6 : Below w.heap.size w w6 := (b4.trans (b5.mono b4.size)).trans ⟨g6.os, g6.tape, g6.output, g6.size, fun k hk => g6.block k (by have := b4.size; simp; omega) (by simp; omega)⟩
  have hA6 : ArAt w6 b F nn Af := Q5.ar.other g6.size fun k hk => g6.block k (Q5.ar.flt k hk) (fun e => Q5.nFw (by cases e; exact hk))
  go_wp2_with fail
  refine (hLL _).mono ?_
  rintro e w8 ⟨rfl, hb8⟩
  have b7 : Below w6.heap.size w6 (w6.alloc (.cells #[.int .i64 (kk 0), .int .i64 (kk 1), .int .i64 (kk 2), .int .i64 (kk 3)] 41)) := (Below.refl _ _).alloc (Nat.le_refl _) _
  have b68 : Below w6.heap.size w6 w8 := b7.trans (hb8.mono b7.size)
  have hs4 := b4.size
  have L0 : QL w w8 w1.heap.size b t nn w6.heap.size (.slice (some ⟨g, 0, none⟩) 1 1) F Af (kk 0) (kk 1) (kk 2) (kk 3) :=
    ⟨h6.below b68, hA6.below b68, b6.trans (b68.mono b6.size), (hb8.block w6.heap.size (by simp)).trans (heap_alloc_new w6 _), fun e => by have := hflt _ e; omega, by omega, Q5.nFw, by omega, by omega⟩
  clear p0 p1 p2 p3 hX6 h6 g6 hA6 Q5 Q4' Q3 Q0 hb8 b7 hLL b68
  go_wp2_with fail
  rw [← HSS.out] at hN
  have HN : Hid (LeastLv N S) := hN
  have HV0 : Hid (PQ (QV (view A t)) m m id (kk 0) (kk 1) (kk 2) (kk 3)) := PQ.first (k := (kk 0, kk 1, kk 2, kk 3)) hkq
  clear hN hbx hlF
  go_loopg [40] (m + 1 - N) (fun g' s40 wr => ∃ (k n : Nat) (q0 q1 q2 q3 : Int), k + g' = m + 1 - N ∧ n + k = m ∧ s40 = .int .i64 (k : Int) ∧ QL w wr w1.heap.size b t nn w6.heap.size (.slice (some ⟨g, 0, none⟩) 1 1) F Af q0 q1 q2 q3 ∧ levV (view A t).V q0 = some (n : Int) ∧ levV (view A t).V q1 = some (n : Int) ∧ levV (view A t).V q2 = some (n : Int) ∧ levV (view A t).V q3 = some (n : Int) ∧ PQ (QV (view A t)) m n id q0 q1 q2 q3)
  case atStart => exact ⟨0, m, _, _, _, _, by omega, rfl, rfl, L0, hkl 0 (by omega), hkl 1 (by omega), hkl 2 (by omega), hkl 3 (by omega), HV0.out⟩
  case round =>
    obtain ⟨k, n, q0, q1, q2, q3, hkg, hnk, rfl, L, v0, v1, v2, v3, hV⟩ := hrel
    have HK : Hid (k + gk = m + 1 - N ∧ n + k = m) := ⟨hkg, hnk⟩
    have HVV : Hid (PQ (QV (view A t)) m n id q0 q1 q2 q3) := hV
    clear hkg hnk hV L0 HV0
    by_cases hk : k < m + 1 - N
    · have hkl2 : (k : Int) < lvl - (N : Int) := by have := HLV.out; omega
      have hkb : k < 100 := by omega
      obtain ⟨n', rfl⟩ : ∃ n', n = n' + 1 := ⟨n - 1, by have := HK.out; omega⟩
      obtain ⟨r0, s0, u0⟩ := kids_lev hwel v0
      obtain ⟨r1, s1, u1⟩ := kids_lev hwel v1
      obtain ⟨r2, s2, u2⟩ := kids_lev hwel v2
      obtain ⟨r3, s3, u3⟩ := kids_lev hwel v3
      have HST : Hid (PQ (QV (view A t)) m n' id (r0 3) (r1 2) (r2 1) (r3 0)) := HVV.out.step s0 s1 s2 s3
      have f0 := lev_fits hsd v0
      have f1 := lev_fits hsd v1
      have f2 := lev_fits hsd v2
      have f3 := lev_fits hsd v3
      have HU : Hid (levV (view A t).V (r0 3) = some (n' : Int) ∧ levV (view A t).V (r1 2) = some (n' : Int) ∧ levV (view A t).V (r2 1) = some (n' : Int) ∧ levV (view A t).V (r3 0) = some (n' : Int)) := ⟨u0 3 (by omega), u1 2 (by omega), u2 1 (by omega), u3 0 (by omega)⟩
      clear u0 u1 u2 u3 v0 v1 v2 v3
      obtain ⟨⟨d0, d1, d2, d3⟩, ⟨z0, z1, z2, z3⟩, ql⟩ := L.cells
      obtain ⟨gK, hgK⟩ : ∃ a, a = gk := ⟨_, rfl⟩
      subst hgK
      go_wp2_with fail
      refine wp_loop_rounds 5 ?_
      rw [rounds_succ]
      go_wp2_with fail
      refine (hkids_Q L.hand L.ar hsd ht hths q0 f0 _ _ _ _ s0).mono ?_
      rintro e wk0 ⟨rfl, hk0, gk0, _⟩
      have K0 := L.kids hk0 gk0
      clear d0 d1 d2 d3 z0 z1 z2 z3 ql
      obtain ⟨⟨d0, d1, d2, d3⟩, ⟨z0, z1, z2, z3⟩, ql⟩ := K0.cells
      have ix0 := Tryz.at3 (.int .i64 (r0 0)) (.int .i64 (r0 1)) (.int .i64 (r0 2)) (.int .i64 (r0 3))
      go_wp2_with fail
      have M1 := K0.set 0 (.int .i64 (r0 3)) (Go.Joins.block_setCell K0.blk _)
      generalize wk0.setCell ⟨w6.heap.size, 0, none⟩ (.int .i64 (r0 3)) = V1 at *
      clear d0 d1 d2 d3 z0 z1 z2 z3 ql ix0
      obtain ⟨⟨d0, d1, d2, d3⟩, ⟨z0, z1, z2, z3⟩, ql⟩ := M1.cells
      rw [rounds_succ]
      go_wp2_with fail
      refine (hkids_Q M1.hand M1.ar hsd ht hths q1 f1 _ _ _ _ s1).mono ?_
      rintro e wk1 ⟨rfl, hk1, gk1, _⟩
      have K1 := M1.kids hk1 gk1
      clear d0 d1 d2 d3 z0 z1 z2 z3 ql
      obtain ⟨⟨d0, d1, d2, d3⟩, ⟨z0, z1, z2, z3⟩, ql⟩ := K1.cells
      have ix1 := Tryz.at2 (.int .i64 (r1 0)) (.int .i64 (r1 1)) (.int .i64 (r1 2)) (.int .i64 (r1 3))
      go_wp2_with fail
      have M2 := K1.set 1 (.int .i64 (r1 2)) (Go.Joins.block_setCell K1.blk _)
      generalize wk1.setCell ⟨w6.heap.size, 1, none⟩ (.int .i64 (r1 2)) = V2 at *
      clear d0 d1 d2 d3 z0 z1 z2 z3 ql ix1
      obtain ⟨⟨d0, d1, d2, d3⟩, ⟨z0, z1, z2, z3⟩, ql⟩ := M2.cells
      rw [rounds_succ]
      go_wp2_with fail
      refine (hkids_Q M2.hand M2.ar hsd ht hths q2 f2 _ _ _ _ s2).mono ?_
      rintro e wk2 ⟨rfl, hk2, gk2, _⟩
      have K2 := M2.kids hk2 gk2
      clear d0 d1 d2 d3 z0 z1 z2 z3 ql
      obtain ⟨⟨d0, d1, d2, d3⟩, ⟨z0, z1, z2, z3⟩, ql⟩ := K2.cells
      have ix2 := Tryz.at1 (.int .i64 (r2 0)) (.int .i64 (r2 1)) (.int .i64 (r2 2)) (.int .i64 (r2 3))
      go_wp2_with fail
      have M3 := K2.set 2 (.int .i64 (r2 1)) (Go.Joins.block_setCell K2.blk _)
      generalize wk2.setCell ⟨w6.heap.size, 2, none⟩ (.int .i64 (r2 1)) = V3 at *
      clear d0 d1 d2 d3 z0 z1 z2 z3 ql ix2
      obtain ⟨⟨d0, d1, d2, d3⟩, ⟨z0, z1, z2, z3⟩, ql⟩ := M3.cells
      rw [rounds_succ]
      go_wp2_with fail
      refine (hkids_Q M3.hand M3.ar hsd ht hths q3 f3 _ _ _ _ s3).mono ?_
      rintro e wk3 ⟨rfl, hk3, gk3, _⟩
      have K3 := M3.kids hk3 gk3
      clear d0 d1 d2 d3 z0 z1 z2 z3 ql
      obtain ⟨⟨d0, d1, d2, d3⟩, ⟨z0, z1, z2, z3⟩, ql⟩ := K3.cells
      have ix3 := Tryz.at0 (.int .i64 (r3 0)) (.int .i64 (r3 1)) (.int .i64 (r3 2)) (.int .i64 (r3 3))
      go_wp2_with fail
      have M4 := K3.set 3 (.int .i64 (r3 0)) (Go.Joins.block_setCell K3.blk _)
      generalize wk3.setCell ⟨w6.heap.size, 3, none⟩ (.int .i64 (r3 0)) = V4 at *
      clear d0 d1 d2 d3 z0 z1 z2 z3 ql ix3
      obtain ⟨⟨d0, d1, d2, d3⟩, ⟨z0, z1, z2, z3⟩, ql⟩ := M4.cells
      rw [rounds_succ]
      go_wp2_with fail
      go_roundg (gK - 1)
      case measure => have := HK.out; omega
      case rel => exact ⟨k + 1, n', _, _, _, _, by have := HK.out; omega, by have := HK.out; omega, by go_num, M4, HU.out.1, HU.out.2.1, HU.out.2.2.1, HU.out.2.2.2, HST.out⟩
    · have hkl2 : ¬ (k : Int) < lvl - (N : Int) := by have := HLV.out; omega
      have HE' : Hid (n + 1 = N ∧ n ≤ m) := by have := HK.out; show _ ∧ _; omega
      obtain ⟨⟨d0, d1, d2, d3⟩, ⟨z0, z1, z2, z3⟩, ql⟩ := L.cells
      have hB := L.bel
      have l1 := L.l1
      have hHA : HA wr (hin o w.heap.size (w1.heap.size + 1) w1.heap.size) w1.heap.size b t 0 (.slice (some ⟨g, 0, none⟩) 1 1) A := by
        refine ⟨L.hand, ?_, F, HW.out.2.1.other hB.size fun k hk => hB.block k (hflt k hk), fun k hk => ?_⟩
        · unfold hin
          rw [if_neg (by omega), if_neg (by omega), if_pos rfl]
        · unfold hin
          rw [if_pos (hflt k hk), if_pos (HW.out.2.2.1 k hk)]
      have hjn := hdJoin_rel hHA HW.out.1 ht (.inl rfl) n (by have := HE'.out; omega) q0 q1 q2 q3 (fun _ => ⟨v0, v1, v2, v3⟩)
      unfold quad4 at hjn
      have HB : Hid (Below w.heap.size w wr) := hB
      have HV' : Hid (levV (view A t).V q0 = some (n : Int) ∧ levV (view A t).V q1 = some (n : Int) ∧ levV (view A t).V q2 = some (n : Int) ∧ levV (view A t).V q3 = some (n : Int)) := ⟨v0, v1, v2, v3⟩
      clear HK hHA hB
      go_wp2_with fail
      refine hjn.mono ?_
      rintro e w9 ⟨x, rfl, e9, A9, ⟨o9, h9, C9⟩, s9, g9, d9⟩
      have HO : Hid (∃ A' o', ArL w9 o' b A' ∧ Ch (fun l => l = 1) o w o' w9 ∧ NxSt PR t q A' ∧ Gx t A A' 0 e9 (PeelD m (picQ (QV (view A t)) (m + 1) id) S) ∧ (Er e9 ∨ (e9 = 0 ∧ ∃ n, LeastLv (n + 1) S ∧ n ≤ m ∧ levV (view A' t).V x = some ((n + 1 : Nat) : Int) ∧ PeelS (QV (view A' t)) m n id x))) := by
        obtain ⟨a1, a2⟩ := hand_out HB.out (C9.mono HL_HM) h9.ar
        have hG := HVV.out _ (ctr_shows (Q := QV (view A t)) (m := m) (id := id))
        have hjp : joinPic n (picQ (QV (view A t)) n q0) (picQ (QV (view A t)) n q1) (picQ (QV (view A t)) n q2) (picQ (QV (view A t)) n q3) = pic (ctr m (picQ (QV (view A t)) (m + 1) id)) (-(2 ^ n)) (-(2 ^ n)) (n + 1) := join_pic hG.1 (shows_mv hG.2.1 (by omega) rfl) (shows_mv hG.2.2.1 rfl (by omega)) (shows_mv hG.2.2.2 (by omega) (by omega))
        refine ⟨A9, _, a1, a2, s9, g9.eqv (fun _ it => ?_) (.inl rfl), ?_⟩
        · unfold joinD PeelD
          rw [hjp]
          constructor
          · exact fun h => ⟨n, by rw [HE'.out.1]; exact HN.out, h⟩
          · rintro ⟨n', h1, h2⟩
            have e := LeastLv.unique h1 HN.out
            have e' : n' = n := by have := HE'.out.1; omega
            subst e'
            exact h2
        rcases d9 with d9 | ⟨d9, _, d7, d8⟩
        · exact .inl d9
        · have sq := fun i h => isSq_of_lev hwel HW.out.1.p n i h
          exact .inr ⟨d9, n, by rw [HE'.out.1]; exact HN.out, HE'.out.2, d8, HVV.out.last g9.sees.ext HW.out.2.2.2 (sq _ HV'.out.1) (sq _ HV'.out.2.1) (sq _ HV'.out.2.2.1) (sq _ HV'.out.2.2.2) d7⟩
      have he9 : e9 = 0 ∨ Er e9 := by rcases d9 with d9 | d9; exact .inr d9; exact .inl d9.1
      have hh9 := h9.hand
      clear h9 C9 s9 g9 d9 hjn
      go_wp2_with fail
      rcases he9 with rfl | he9
      · refine (answer_ok _ b t x _ _ hh9).mono ?_
        rintro r w10 ⟨rfl, h10⟩
        have h11 := h10.symm
        subst h11
        go_wp2_with fail
        go_ret2
        obtain ⟨A', o', a1, a2, a3, a4, a5⟩ := HO.out
        exact ⟨_, _, rfl, A', o', a1, a2, a3, a4, by rcases a5 with a5 | ⟨_, a5⟩; exact .inl a5; exact .inr ⟨rfl, a5⟩⟩
      · refine (answer_no _ b t e9 x _ _ hh9 he9.ne).mono ?_
        rintro r w10 ⟨rfl, nd, rfl⟩
        go_wp2_with fail
        go_ret2
        obtain ⟨A', o', a1, a2, a3, a4, a5⟩ := HO.out
        exact ⟨_, _, rfl, A', o', a1.ch ((Ch.refl (fun _ => False) o' _).drewN nd) (fun h => h), a2.drewN nd, a3, a4, .inl he9⟩
end Go.Proofs.YtofbcngcblleaabGreat.A
