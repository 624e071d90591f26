/- Whole numbers: the rest by 2^64, the long way. -/
import Derived.Test.YtekjcmejnhhpaaaDoorBigDiv
namespace Go.Proofs.YtekjcmejnhhpaaaDoor
open Go.RowKit

theorem or64 (H W : Nat) (hH : H < 2147483648) (hW : W < 4294967296) : bits .or .u64 ((H : Int) * 4294967296) (W : Int) = (H : Int) * 4294967296 + (W : Int) := by
  have h1 := Nat.two_pow_add_eq_or_of_lt (i := 32) (show W < 2 ^ 32 by omega) H
  have hx : 4294967296 * H ||| W = 4294967296 * H + W := h1.symm
  have h2 : (BitVec.ofInt 64 ((H : Int) * 4294967296)).toNat = 4294967296 * H := by rw [show (H : Int) * 4294967296 = ((4294967296 * H : Nat) : Int) by omega, BitVec.ofInt_natCast, BitVec.toNat_ofNat]; exact Nat.mod_eq_of_lt (by omega)
  have h3 : (BitVec.ofInt 64 (W : Int)).toNat = W := by rw [BitVec.ofInt_natCast, BitVec.toNat_ofNat]; exact Nat.mod_eq_of_lt (by omega)
  show IntKind.u64.wrap ((BitVec.ofInt 64 ((H : Int) * 4294967296) ||| BitVec.ofInt 64 (W : Int)).toNat : Int) = _
  rw [BitVec.toNat_or, h2, h3, hx, wrapU]
  omega
/-- the words of what is divided, ahead of a round -/
def du (A g p : Nat) : Nat := if g + 3 ≤ p then 0 else if p = g + 2 then wd A p % 2147483648 else wd A p
theorem du_start {A m p : Nat} (hA : A < 4294967296 ^ (m + 3)) (hp : p < m + 4) : du A (m + 1) p = wd A p := by
  unfold du
  rw [if_neg (by omega)]
  by_cases h : p = m + 1 + 2
  · rw [if_pos h, wd_none hA (by omega)]
  · rw [if_neg h]
theorem du_end (A p : Nat) : du A 0 p = wd (A % 39614081257132168796771975168) p := by
  unfold du
  by_cases h : 0 + 3 ≤ p
  · rw [if_pos h, wd_none (k := 3) (Nat.lt_of_lt_of_le (Nat.mod_lt A (by omega)) (by decide)) (by omega)]
  · rw [if_neg h]
    by_cases h2 : p = 0 + 2
    · rw [if_pos h2, h2]
      unfold wd
      rw [show 4294967296 ^ (0 + 2) = 18446744073709551616 by decide]
      omega
    · rw [if_neg h2]
      rcases (show p = 0 ∨ p = 1 by omega) with rfl | rfl
      · unfold wd
        rw [Nat.pow_zero, Nat.div_one, Nat.div_one]
        omega
      · unfold wd
        rw [Nat.pow_one]
        omega
theorem wd_by64 (n p : Nat) : wd (n / 18446744073709551616) p = wd n (p + 2) := by
  unfold wd
  rw [Nat.div_div_eq_div_mul, m64, ← Nat.pow_add, Nat.add_comm 2 p]
theorem rest_back (n : Nat) : (n * 2147483648) % 39614081257132168796771975168 / 2 ^ 31 = n % 18446744073709551616 := by omega
set_option maxRecDepth 20000 in
set_option maxHeartbeats 4000000 in
/-- the rest of a greater number -/
theorem div_big (B B' n k1 : Nat) (a1 : Option Addr) (c1 : Nat) (v : Value) (w : World) (hu : Wd w B (.slice a1 k1 c1) n) (hk : k1 = 3 ∨ k1 = 4) (hv : Wd w B' v 18446744073709551616) (hn : 18446744073709551616 ≤ n) (hn2 : n < 4294967296 ^ k1) :
    Calls Tryd.prog 62 #[.slice a1 k1 c1, v] w fun e w' => ∃ x y, e = .returned (.tuple #[y, x]) ∧ Wd w' w.heap.size x (n % 18446744073709551616) ∧ (∃ N, Wd w' w.heap.size y N) ∧ Below w.heap.size w w' := by
  have hfew : Few n := Nat.lt_of_lt_of_le hn2 (Nat.pow_le_pow_right (by omega) (by unfold lim; omega))
  have hfew2 : Few 18446744073709551616 := Nat.lt_of_lt_of_le (show (18446744073709551616 : Nat) < 4294967296 ^ 3 by decide) (Nat.pow_le_pow_right (by omega) (by unfold lim; omega))
  have cc := cmp_any B B' n 18446744073709551616 (.slice a1 k1 c1) v w hu hv
  have hc : 0 ≤ cmpW n 18446744073709551616 := by unfold cmpW; rw [if_neg (by omega)]; split <;> omega
  have cl := fun q => length64 B' v (w.drewN q) (hv.below (drewB w q))
  have cv := fun q => bigLeft_any B' 18446744073709551616 31 v (w.drewN q) (hv.below (drewB w q)) hfew2 (by omega)
  have cu := fun W (h : Wd W B (.slice a1 k1 c1) n) => bigLeft_any B n 31 (.slice a1 k1 c1) W h hfew (by omega)
  obtain ⟨b, o, c, rfl, _⟩ := hv.m64
  have hk1 : ¬ (k1 : Int) ≤ 2 := by omega
  generalize cmpW n 18446744073709551616 = cw at *
  have hcw : ¬ cw < 0 := by omega
  have HU : Hid (Wd w B (.slice a1 k1 c1) n) := hu
  clear hu hv hc
  go_enter Tryd.func62, Tryd.ntmps62
  go_wp2_with fail
  refine cc.mono ?_
  rintro e w1 ⟨rfl, q, rfl⟩
  go_wp2_with fail
  refine (cl q).mono ?_
  rintro e w1 ⟨rfl, rfl⟩
  go_wp2_with fail
  refine (cv q).mono ?_
  rintro e w1 ⟨vv, rfl, hvv, hb1'⟩
  have hb1 : Below w.heap.size w w1 := (drewB w q).trans hb1'
  rw [show 18446744073709551616 * 2 ^ 31 = 39614081257132168796771975168 by decide] at hvv
  obtain ⟨bv, ov, cv2, rfl, hbv, hbvl, v0, v1, v2⟩ := hvv.m95
  have hmk := run_make_row' (P := Tryd.prog) 42 62 (.int .u32 0) 4 Tryd.underlying42 (by kernel_rfl) rfl .i64 .i64 (k1 + 2) (by omega) (by omega) w1
  rw [show (((k1 + 2 : Nat) : Int)) = (k1 : Int) + 2 by omega] at hmk
  obtain ⟨K, hK⟩ : ∃ K, K = k1 + 2 := ⟨_, rfl⟩
  rw [← hK] at hmk
  have HK : Hid (K = k1 + 2 ∧ (k1 = 3 ∨ k1 = 4)) := ⟨hK, hk⟩
  have hR := World.rowIs_made w1 (.int .u32 0) K 62
  have hB := (Below.refl w1.heap.size w1).alloc (Nat.le_refl _) (.cells (madeCells #[.int .u32 0] K) 62)
  have hwk : IntKind.i64.wrap ((k1 : Int) + 2) = (k1 : Int) + 2 := by rw [IntKind.wrap_i64]; omega
  have hU1 := (HU.out.below hb1).below hB
  have HB1 : Hid (Below w.heap.size w w1 ∧ w.heap.size ≤ bv ∧ bv < w1.heap.size) := ⟨hb1, hbv, hbvl⟩
  have HV : Hid (w1.cell? ⟨bv, ov, none⟩ = some (.int .u32 0) ∧ w1.cell? ⟨bv, ov + 1, none⟩ = some (.int .u32 0) ∧ w1.cell? ⟨bv, ov + 2, none⟩ = some (.int .u32 2147483648)) := ⟨v0, v1, v2⟩
  generalize hwM : w1.alloc (.cells (madeCells #[.int .u32 0] K) 62) = wM at *
  have cu1 := cu wM hU1
  clear cc cl cv cu hvv hb1' hb1 hU1 v0 v1 v2 hK hk
  go_wp2_with fail
  refine cu1.mono ?_
  rintro e w2 ⟨uu, rfl, huu, hb2⟩
  have HHH : Hid True := trivial
  obtain ⟨A, hA⟩ : ∃ A, A = n * 2 ^ 31 := ⟨_, rfl⟩
  rw [← hA] at huu
  have HA : Hid (A = n * 2147483648 ∧ A < 4294967296 ^ (k1 + 1)) := ⟨by rw [hA], by rw [hA]; exact left_fits hn2 (by omega)⟩
  obtain ⟨a', k', c', rfl, hk', hc', hk1000', hnA, hpA, hrA⟩ := huu
  have hkK : k' ≤ k1 + 1 := by
    have := wd_count HA.out.2 hpA
    exact this
  rcases hrA with hrA | ⟨b', o', rfl, _, hb'l, hwA⟩
  · exfalso
    rw [hrA] at hnA
    have := HA.out.1
    simp at hnA
    omega
  have hR2 : w2.rowIs w1.heap.size 62 K (fun _ => .int .u32 0) := by
    obtain ⟨cs, q1, q2⟩ := hR
    have hl : w1.heap.size < wM.heap.size := (Array.getElem?_eq_some_iff.1 q1).1
    exact ⟨cs, (hb2.block _ hl).trans q1, q2⟩
  obtain ⟨w3, hcp, hr3, hb3⟩ := copy_words w2 3 w1.heap.size K A k' c' b' o' (fun _ => .int .u32 0) hR2 (by have := HK.out; omega) hwA
  have HR3 : Hid (w3.rowIs w1.heap.size 62 K (fun i => .int .u32 (wd A i : Nat))) := hr3.congr fun i hi => by
    by_cases h1 : i < k'
    · rw [if_pos h1]
    · rw [if_neg h1, wd_none hnA (by omega)]
      rfl
  have hb23 : Below w1.heap.size w1 w2 := hB.trans (hb2.mono hB.size)
  have hb13 : Below w1.heap.size w1 w3 := hb3 _ _ hb23 (Nat.le_refl _)
  have HB3 : Hid (Below w1.heap.size w1 w3) := hb13
  have v0 := (hb13.cell (p := ⟨bv, ov, none⟩) HB1.out.2.2).trans HV.out.1
  have v1 := (hb13.cell (p := ⟨bv, ov + 1, none⟩) HB1.out.2.2).trans HV.out.2.1
  have v2 := (hb13.cell (p := ⟨bv, ov + 2, none⟩) HB1.out.2.2).trans HV.out.2.2
  obtain ⟨mm, hmm⟩ : ∃ mm, K = mm + 4 := ⟨K - 4, by have := HK.out; omega⟩
  have HMM : Hid (K = mm + 4 ∧ k1 = mm + 2 ∧ (mm = 1 ∨ mm = 2)) := ⟨hmm, by have := HK.out; omega, by have := HK.out; omega⟩
  have hmk3 := run_make_row' (P := Tryd.prog) 42 62 (.int .u32 0) 4 Tryd.underlying42 (by kernel_rfl) rfl .i64 .i64 (mm + 1) (by have := HMM.out; omega) (by have := HMM.out; omega) w3
  rw [show (((mm + 1 : Nat) : Int)) = (mm : Int) + 1 by omega] at hmk3
  have hmb : (mm : Int) ≤ 2 := by have := HMM.out; omega
  have hmb0 : (1 : Int) ≤ (mm : Int) := by have := HMM.out; omega
  have z1 : IntKind.i64.wrap ((K : Int) - 3) = (mm : Int) + 1 := by rw [IntKind.wrap_i64]; omega
  have z2 : IntKind.i64.wrap ((mm : Int) + 1 - 1) = (mm : Int) := by rw [IntKind.wrap_i64]; omega
  have z3 : IntKind.i64.wrap ((mm : Int) + 1) = (mm : Int) + 1 := by rw [IntKind.wrap_i64]; omega
  clear hA hr3 hR2 hwA hb3 hb23 hb13 hR hmm hcw hk1 hB hb2 hnA hpA hmk cu1 hfew hfew2
  have hQ := World.rowIs_made w3 (.int .u32 0) (mm + 1) 62
  have hB4 : Below w3.heap.size w3 (w3.alloc (.cells (madeCells #[.int .u32 0] (mm + 1)) 62)) := (Below.refl w3.heap.size w3).alloc (Nat.le_refl _) _
  generalize hw4 : w3.alloc (.cells (madeCells #[.int .u32 0] (mm + 1)) 62) = w4 at *
  have hb14 : Below w1.heap.size w1 w4 := HB3.out.trans (hB4.mono HB3.out.size)
  have hR4 : w4.rowIs w1.heap.size 62 K (fun i => .int .u32 (wd A i : Nat)) := by
    obtain ⟨cs, q1, q2⟩ := HR3.out
    have hl : w1.heap.size < w3.heap.size := (Array.getElem?_eq_some_iff.1 q1).1
    exact ⟨cs, (hB4.block _ hl).trans q1, q2⟩
  have HLQ : Hid (w1.heap.size < w3.heap.size) := HR3.out.lt
  have x1 := (hb14.cell (p := ⟨bv, ov + 1, none⟩) HB1.out.2.2).trans HV.out.2.1
  have x2 := (hb14.cell (p := ⟨bv, ov + 2, none⟩) HB1.out.2.2).trans HV.out.2.2
  have H4 : Hid (w4.rowIs w1.heap.size 62 K (fun i => .int .u32 (wd A i : Nat)) ∧ w4.rowIs w3.heap.size 62 (mm + 1) (fun _ => .int .u32 0) ∧ Below w1.heap.size w1 w4) := ⟨hR4, hQ, hb14⟩
  have z5 : IntKind.i64.wrap ((3 : Int) - 1) = 2 := by decide
  have z6 : IntKind.i64.wrap ((3 : Int) - 2) = 1 := by decide
  clear v0 v1 v2 hQ hB4 hR4 hb14
  go_wp2_with fail
  clear hmk3 hw4
  go_region
  go_wp2_with fail
  clear z1 z2 z3 z5 z6 x1 x2 hcp hwk
  go_loopg [18] (mm + 1) (fun g s18 wr => s18 = .int .i64 ((g : Int) - 1) ∧ g ≤ mm + 1 ∧ wr.rowIs w1.heap.size 62 K (fun p => .int .u32 (du A g p : Nat)) ∧ wr.rowIs w3.heap.size 62 (mm + 1) (fun p => .int .u32 (if p < g then 0 else wd n (p + 2) : Nat)) ∧ Below w1.heap.size w1 wr)
  case atStart =>
    refine ⟨by have h := hmb; exact congrArg (Value.int .i64) (by omega), Nat.le_refl _, H4.out.1.congr fun p hp => ?_, H4.out.2.1.congr fun p hp => by rw [if_pos hp]; rfl, ⟨H4.out.2.2.os, H4.out.2.2.tape, H4.out.2.2.output, H4.out.2.2.size, H4.out.2.2.block⟩⟩
    rw [du_start (by have := HMM.out; have := HA.out; rw [show mm + 3 = k1 + 1 by omega]; exact HA.out.2) (by have := HMM.out; omega)]
  case round =>
    obtain ⟨rfl, hgm, hru, hrq, hbw⟩ := hrel
    by_cases hg0 : gk = 0
    · subst hg0
      have hNq : n / 18446744073709551616 < 4294967296 ^ (mm + 1) := by
        refine Nat.div_lt_of_lt_mul ?_
        have h3 := HMM.out
        rw [m64, ← Nat.pow_add]
        exact Nat.lt_of_lt_of_le hn2 (Nat.pow_le_pow_right (by omega) (by omega))
      have hfu : A % 39614081257132168796771975168 < 4294967296 ^ K := Nat.lt_of_lt_of_le (Nat.lt_trans (Nat.mod_lt A (by omega)) (show 39614081257132168796771975168 < 4294967296 ^ 3 by decide)) (Nat.pow_le_pow_right (by omega) (by have := HMM.out; omega))
      have hfew : Few (A % 39614081257132168796771975168) := Nat.lt_of_lt_of_le (Nat.lt_trans (Nat.mod_lt A (by omega)) (show 39614081257132168796771975168 < 4294967296 ^ 3 by decide)) (Nat.pow_le_pow_right (by omega) (by unfold lim; omega))
      have hw1 : w.heap.size ≤ w1.heap.size := HB1.out.1.size
      have tq := trim_any w.heap.size w3.heap.size 0 (mm + 1) (mm + 1) (n / 18446744073709551616) wr (by have := HLQ.out; omega) (Nat.le_refl _) (by unfold maxLen; have := HMM.out; omega) (by have := HMM.out; omega) hrq.lt hNq (fun p hp => by
        rw [Nat.zero_add, hrq.cell (i := p) hp, if_neg (by omega), wd_by64])
      have tu := trim_any w.heap.size w1.heap.size 0 K K (A % 39614081257132168796771975168) wr hw1 (Nat.le_refl _) (by unfold maxLen; have := HK.out; omega) (by have := HK.out; omega) hru.lt hfu (fun p hp => by
        rw [Nat.zero_add, hru.cell (i := p) hp, du_end])
      have HE : Hid (Below w1.heap.size w1 wr ∧ Few (A % 39614081257132168796771975168)) := ⟨hbw, hfew⟩
      clear hru hrq hbw hfew hfu hNq
      go_wp2_with fail
      refine tq.mono ?_
      rintro e w' ⟨y, rfl, hy, hw'⟩
      subst hw'
      go_wp2_with fail
      refine tu.mono ?_
      rintro e w'' ⟨x, rfl, hx, hw''⟩
      subst hw''
      have tr := bigRight_any w.heap.size (A % 39614081257132168796771975168) 31 x w'' hx HE.out.2 (by omega)
      rw [show A % 39614081257132168796771975168 / 2 ^ 31 = n % 18446744073709551616 by rw [HA.out.1]; exact rest_back n] at tr
      go_wp2_with fail
      refine tr.mono ?_
      rintro e w5 ⟨z, rfl, hz, hb5⟩
      go_wp2_with fail
      go_ret2
      have hbb : Below w.heap.size w w'' := HB1.out.1.trans (HE.out.1.mono hw1)
      exact ⟨z, y, rfl, hz.mono hbb.size, ⟨_, hy.below hb5⟩, hbb.trans (hb5.mono hbb.size)⟩
    · obtain ⟨gK, hgK⟩ : ∃ x, x = gk := ⟨_, rfl⟩
      subst hgK
      obtain ⟨j, hj⟩ : ∃ j, gK = j + 1 := ⟨gK - 1, by omega⟩
      obtain ⟨wR, hwR⟩ : ∃ x, x = wr := ⟨_, rfl⟩
      subst hwR
      have HG : Hid (gK = j + 1 ∧ j ≤ mm ∧ mm ≤ 2) := ⟨hj, by omega, by omega⟩
      have hjm : (j : Int) ≤ (mm : Int) := by omega
      have hj0 : (0 : Int) ≤ (j : Int) := by omega
      have hj2 : (j : Int) ≤ 2 := by omega
      have hjg : (gK : Int) - 1 = (j : Int) := by omega
      have HU : Hid (wR.rowIs w1.heap.size 62 K (fun p => .int .u32 (du A (j + 1) p : Nat)) ∧ wR.rowIs w3.heap.size 62 (mm + 1) (fun p => .int .u32 (if p < j + 1 then 0 else wd n (p + 2) : Nat)) ∧ Below w1.heap.size w1 wR) := by rw [← hj]; exact ⟨hru, hrq, hbw⟩
      have hKj : (j : Int) + 3 < (K : Int) := by have := HMM.out; omega
      have c0 := HU.out.1.cell (i := j) (by omega)
      have c1 := HU.out.1.cell (i := j + 1) (by omega)
      have c2 := HU.out.1.cell (i := j + 2) (by omega)
      have c3 := HU.out.1.cell (i := j + 3) (by omega)
      rw [show du A (j + 1) j = wd A j by unfold du; rw [if_neg (by omega), if_neg (by omega)]] at c0
      rw [show du A (j + 1) (j + 1) = wd A (j + 1) by unfold du; rw [if_neg (by omega), if_neg (by omega)]] at c1
      rw [show du A (j + 1) (j + 2) = wd A (j + 2) by unfold du; rw [if_neg (by omega), if_neg (by omega)]] at c2
      rw [show du A (j + 1) (j + 3) = wd A (j + 3) % 2147483648 by unfold du; rw [if_neg (by omega), if_pos (by omega)]] at c3
      have HQ : Hid (wd n (j + 2) = 2 * (wd A (j + 3) % 2147483648) + wd A (j + 2) / 2147483648) := by
        show _ = _
        have h := wd_right A 31 (j + 2) (by omega)
        rw [show A / 2 ^ 31 = n by have := HA.out.1; omega] at h
        rw [show j + 2 + 1 = j + 3 by omega] at h
        rw [h]
        have := wd_lt A (j + 2)
        omega
      have q0 := wd_lt A j
      have q1 := wd_lt A (j + 1)
      have q2 := wd_lt A (j + 2)
      have q3 : wd A (j + 3) % 2147483648 < 2147483648 := Nat.mod_lt _ (by omega)
      have f0 := HU.out.1.frozen j
      have f1 := HU.out.1.frozen (j + 1)
      have f2 := HU.out.1.frozen (j + 2)
      have f3 := HU.out.1.frozen (j + 3)
      have g0 := HU.out.2.1.frozen j
      have v0 := (hbw.cell (p := ⟨bv, ov, none⟩) HB1.out.2.2).trans HV.out.1
      have v1 := (hbw.cell (p := ⟨bv, ov + 1, none⟩) HB1.out.2.2).trans HV.out.2.1
      have v2 := (hbw.cell (p := ⟨bv, ov + 2, none⟩) HB1.out.2.2).trans HV.out.2.2
      generalize wd A j = U0 at *
      generalize wd A (j + 1) = U1 at *
      obtain ⟨W, hW⟩ : ∃ W, W = wd A (j + 2) := ⟨_, rfl⟩
      have HW2 : Hid (wd A (j + 2) = W) := hW.symm
      rw [← hW] at c2 HQ q2
      clear hW
      obtain ⟨H, hH⟩ : ∃ H, H = wd A (j + 3) % 2147483648 := ⟨_, rfl⟩
      have HH3 : Hid (wd A (j + 3) % 2147483648 = H) := hH.symm
      rw [← hH] at c3 HQ q3
      clear hH
      have hor := or64 H W q3 q2
      have p0 : (U0 : Int) < 4294967296 := by omega
      have p1 : (U1 : Int) < 4294967296 := by omega
      have p2 : (W : Int) < 4294967296 := by omega
      have p3 : (H : Int) < 2147483648 := by omega
      have z1 : IntKind.i64.wrap ((j : Int) + 3) = (j : Int) + 3 := by rw [IntKind.wrap_i64]; omega
      have z2 : IntKind.i64.wrap ((j : Int) + 3 - 1) = (j : Int) + 2 := by rw [IntKind.wrap_i64]; omega
      have z3 : IntKind.i64.wrap ((j : Int) + 3 - 2) = (j : Int) + 1 := by rw [IntKind.wrap_i64]; omega
      have z4 : ((j : Int) + 3).toNat = j + 3 := by omega
      have z5 : ((j : Int) + 2).toNat = j + 2 := by omega
      have z6 : ((j : Int) + 1).toNat = j + 1 := by omega
      have z7 : (0 : Int) ≤ (j : Int) + 3 := by omega
      have z8 : (0 : Int) ≤ (j : Int) + 2 := by omega
      have z9 : (0 : Int) ≤ (j : Int) + 1 := by omega
      have y1 : (j : Int) + 2 < (K : Int) := by omega
      have y2 : (j : Int) + 1 < (K : Int) := by omega
      have y3 : (j : Int) < (K : Int) := by omega
      have y4 : IntKind.u64.wrap ((H : Int) * 4294967296) = (H : Int) * 4294967296 := by rw [wrapU]; omega
      rw [hjg]
      clear hru hrq hbw hg0 hgm hj hjg q0 q1 q2 q3
      go_wp2_with fail
      go_region
      go_wp2_with fail
      go_region
      go_wp2_with fail
      obtain ⟨G, hG⟩ : ∃ G, G = 2 * H + W / 2147483648 := ⟨_, rfl⟩
      obtain ⟨R, hR⟩ : ∃ R, R = W % 2147483648 := ⟨_, rfl⟩
      have e1 : ((H : Int) * 4294967296 + (W : Int)) / 2147483648 = (G : Int) := by omega
      have e2 : ((H : Int) * 4294967296 + (W : Int)) % 2147483648 = (R : Int) := by omega
      have HQ' : Hid (wd n (j + 2) = G) := by show _ = _; rw [HQ.out, hG]
      have hor2 := or64 R U1 (by omega) (by omega)
      have HGR : Hid (G = 2 * H + W / 2147483648 ∧ R = W % 2147483648) := ⟨hG, hR⟩
      have r1 : (R : Int) < 2147483648 := by omega
      have r2 : (G : Int) < 4294967296 := by omega
      have r3 : IntKind.u64.wrap ((R : Int) * 4294967296) = (R : Int) * 4294967296 := by rw [wrapU]; omega
      have r4 : ¬ (4294967295 : Int) < (G : Int) := by omega
      have r5 : ¬ (R : Int) * 4294967296 + (U1 : Int) < 0 := by omega
      rw [e1, e2]
      clear e1 e2 hG hR HQ hor y4
      refine wp_loop_rounds 1 ?_
      rw [rounds_succ]
      go_wp2_with fail
      clear hor2 r3 r4 r5 z1 z2 z3 z4 z5 z6 z7 z8 z9 y1 y2 y3 f0 f1 f2 f3 g0 v0 v1 v2 c0 c1 c2 c3
      go_loopg [22, 23, 24] 3 (fun g s22 s23 s24 wr => ∃ i : Nat, i + g = 3 ∧ s24 = .int .i64 i ∧ s23 = .int .u64 0 ∧ s22 = .int .u64 (if i = 3 then H else 0 : Nat) ∧ wr.rowIs w1.heap.size 62 K (fun p => .int .u32 (if i = 3 ∧ p = j + 2 then R else du A (j + 1) p : Nat)) ∧ wr.rowIs w3.heap.size 62 (mm + 1) (fun p => .int .u32 (if p < j + 1 then 0 else wd n (p + 2) : Nat)) ∧ Below w1.heap.size w1 wr)
      case atStart =>
        refine ⟨0, rfl, rfl, rfl, rfl, ?_, HU.out.2.1, HU.out.2.2.drew.drew⟩
        exact HU.out.1.congr fun p hp => by rw [if_neg (by omega)]
      case round =>
        obtain ⟨i, hi, rfl, rfl, rfl, hru, hrq, hbw⟩ := hrel
        have HI : Hid (i + gk = 3) := hi
        have HROW : Hid (wr.rowIs w1.heap.size 62 K (fun p => .int .u32 (if i = 3 ∧ p = j + 2 then R else du A (j + 1) p : Nat)) ∧ wr.rowIs w3.heap.size 62 (mm + 1) (fun p => .int .u32 (if p < j + 1 then 0 else wd n (p + 2) : Nat)) ∧ Below w1.heap.size w1 wr) := ⟨hru, hrq, hbw⟩
        by_cases hi2 : i < 2
        · have v0 : wr.cell? ⟨bv, ov + i, none⟩ = some (.int .u32 0) := by
            refine (hbw.cell (p := ⟨bv, ov + i, none⟩) HB1.out.2.2).trans ?_
            rcases (show i = 0 ∨ i = 1 by omega) with rfl | rfl
            · exact HV.out.1
            · exact HV.out.2.1
          have c0 := hru.cell (i := i + j) (by omega)
          have f0 := hru.frozen (i + j)
          rw [if_neg (by omega)] at c0
          rw [show (((if i = 3 then H else 0 : Nat) : Nat) : Int) = 0 by rw [if_neg (by omega)]; rfl]
          have hU : du A (j + 1) (i + j) = wd A (i + j) := by unfold du; rw [if_neg (by omega), if_neg (by omega)]
          have q0 := wd_lt A (i + j)
          rw [hU] at c0
          have HUU : Hid (du A (j + 1) (i + j) = wd A (i + j)) := hU
          obtain ⟨U, hUU⟩ : ∃ U, U = wd A (i + j) := ⟨_, rfl⟩
          rw [← hUU] at c0 q0 HUU
          have p0 : (U : Int) < 4294967296 := by omega
          have z1 : IntKind.i64.wrap ((i : Int) + (j : Int)) = (i : Int) + (j : Int) := by rw [IntKind.wrap_i64]; omega
          have z2 : (0 : Int) ≤ (i : Int) + (j : Int) := by omega
          have z3 : ((i : Int) + (j : Int)).toNat = i + j := by omega
          have z4 : (i : Int) + (j : Int) < (K : Int) := by omega
          have z5 : (i : Int) < 3 := by omega
          have z6 : (0 : Int) ≤ (i : Int) := by omega
          have z7 : IntKind.u64.wrap (U : Int) = (U : Int) := by rw [wrapU]; omega
          have z8 : (U : Int) / 9223372036854775808 = 0 := by omega
          clear hi hru hrq hbw hU hUU q0 HU
          go_wp2_with fail
          go_roundg (gk - 1)
          case measure => have := HI.out; omega
          case rel =>
            refine ⟨i + 1, by have := HI.out; omega, by go_num, rfl, by rw [if_neg (by omega)]; rfl, ?_, HROW.out.2.1.setOther (a := ⟨w1.heap.size, i + j, none⟩) (by have := HLQ.out; show w3.heap.size ≠ w1.heap.size; omega) _, HROW.out.2.2.setCell (p := ⟨w1.heap.size, i + j, none⟩) (Nat.le_refl _) _⟩
            refine (HROW.out.1.set (i + j) _).congr fun p hp => ?_
            rw [if_neg (show ¬ (i + 1 = 3 ∧ p = j + 2) by omega), if_neg (show ¬ (i = 3 ∧ p = j + 2) by omega)]
            by_cases h : p = i + j
            · rw [if_pos h, h, HUU.out]
            · rw [if_neg h]
        · by_cases hi3 : i = 2
          · subst hi3
            have v0 : wr.cell? ⟨bv, ov + 2, none⟩ = some (.int .u32 2147483648) := (hbw.cell (p := ⟨bv, ov + 2, none⟩) HB1.out.2.2).trans HV.out.2.2
            have c0 := hru.cell (i := 2 + j) (by omega)
            have f0 := hru.frozen (2 + j)
            rw [if_neg (by omega)] at c0
            rw [show (((if 2 = 3 then H else 0 : Nat) : Nat) : Int) = 0 by rw [if_neg (by omega)]; rfl]
            have hU : du A (j + 1) (2 + j) = wd A (j + 2) := by unfold du; rw [if_neg (by omega), if_neg (by omega), Nat.add_comm]
            rw [hU, HW2.out] at c0
            have z1 : IntKind.i64.wrap ((2 : Int) + (j : Int)) = (2 : Int) + (j : Int) := by rw [IntKind.wrap_i64]; omega
            have z2 : (0 : Int) ≤ (2 : Int) + (j : Int) := by omega
            have z3 : ((2 : Int) + (j : Int)).toNat = 2 + j := by omega
            have z4 : (2 : Int) + (j : Int) < (K : Int) := by omega
            have z5 : IntKind.u64.wrap ((G : Int) * 2147483648) = (G : Int) * 2147483648 := by rw [wrapU]; omega
            have z6 : (G : Int) * 2147483648 % 4294967296 = (W : Int) - (R : Int) := by have := HGR.out; omega
            have z7 : IntKind.u64.wrap ((W : Int) - ((W : Int) - (R : Int))) = (R : Int) := by rw [wrapU]; omega
            have z8 : (R : Int) / 9223372036854775808 = 0 := by omega
            have z9 : (G : Int) * 2147483648 / 4294967296 = (H : Int) := by have := HGR.out; omega
            clear hi hru hrq hbw hU HU
            go_wp2_with fail
            go_roundg (gk - 1)
            case measure => have := HI.out; omega
            case rel =>
              refine ⟨3, by have := HI.out; omega, rfl, rfl, by rw [if_pos rfl], ?_, HROW.out.2.1.setOther (a := ⟨w1.heap.size, 2 + j, none⟩) (by have := HLQ.out; show w3.heap.size ≠ w1.heap.size; omega) _, HROW.out.2.2.setCell (p := ⟨w1.heap.size, 2 + j, none⟩) (Nat.le_refl _) _⟩
              refine (HROW.out.1.set (2 + j) _).congr fun p hp => ?_
              by_cases h : p = 2 + j
              · rw [if_pos h, if_pos ⟨rfl, by omega⟩]
              · rw [if_neg h, if_neg (by omega), if_neg (by omega)]
          · have hi4 : i = 3 := by omega
            subst hi4
            have c0 := hru.cell (i := j + 3) (by omega)
            have f0 := hru.frozen (j + 3)
            have g0 := hrq.frozen j
            rw [if_neg (by omega), show du A (j + 1) (j + 3) = wd A (j + 3) % 2147483648 by unfold du; rw [if_neg (by omega), if_pos (by omega)], HH3.out] at c0
            rw [show (((if 3 = 3 then H else 0 : Nat) : Nat) : Int) = (H : Int) by rw [if_pos rfl]]
            have z1 : IntKind.i64.wrap ((j : Int) + 3) = (j : Int) + 3 := by rw [IntKind.wrap_i64]; omega
            have z2 : (0 : Int) ≤ (j : Int) + 3 := by omega
            have z3 : ((j : Int) + 3).toNat = j + 3 := by omega
            have z4 : (j : Int) < (mm : Int) + 1 := by omega
            have hne : w3.heap.size ≠ w1.heap.size := by have := HLQ.out; omega
            have z5 : IntKind.i64.wrap ((j : Int) - 1) = (j : Int) - 1 := by rw [IntKind.wrap_i64]; omega
            clear hi hru hrq hbw HU hi2 hi3 hne
            go_upto_region 49 with fail
            have HZ : Hid ((wr.setCell ⟨w1.heap.size, j + 3, none⟩ (.int .u32 0)).rowIs w1.heap.size 62 K (fun p => .int .u32 (du A j p : Nat)) ∧ (wr.setCell ⟨w1.heap.size, j + 3, none⟩ (.int .u32 0)).rowIs w3.heap.size 62 (mm + 1) (fun p => .int .u32 (if p < j + 1 then 0 else wd n (p + 2) : Nat)) ∧ Below w1.heap.size w1 (wr.setCell ⟨w1.heap.size, j + 3, none⟩ (.int .u32 0))) := by
              refine ⟨?_, HROW.out.2.1.setOther (a := ⟨w1.heap.size, j + 3, none⟩) (by have := HLQ.out; show w3.heap.size ≠ w1.heap.size; omega) _, HROW.out.2.2.setCell (p := ⟨w1.heap.size, j + 3, none⟩) (Nat.le_refl _) _⟩
              refine (HROW.out.1.set (j + 3) _).congr fun p hp => ?_
              unfold du
              by_cases h : p = j + 3
              · rw [if_pos h, if_pos (show j + 3 ≤ p by omega)]
                rfl
              · rw [if_neg h]
                by_cases h2 : p = j + 2
                · rw [if_pos ⟨rfl, h2⟩, if_neg (show ¬ j + 3 ≤ p by omega), if_pos h2, h2, HW2.out, HGR.out.2]
                · rw [if_neg (show ¬ (3 = 3 ∧ p = j + 2) by omega), if_neg (show ¬ p = j + 2 by omega), if_neg (show ¬ p = j + 1 + 2 by omega)]
                  by_cases h3 : j + 3 ≤ p
                  · rw [if_pos h3, if_pos (by omega)]
                  · rw [if_neg h3, if_neg (by omega)]
            have g1 := HZ.out.2.1.frozen j
            have g2 := HZ.out.2.1.cell (i := j) (by omega)
            rw [if_pos (by omega)] at g2
            clear g0 f0 c0 HROW
            generalize wr.setCell ⟨w1.heap.size, j + 3, none⟩ (.int .u32 0) = wz at *
            obtain ⟨M, hM⟩ : ∃ M, M = mm + 1 := ⟨_, rfl⟩
            rw [← hM]
            have HM : Hid (M = mm + 1) := hM
            have z6 : (j : Int) < (M : Int) := by omega
            clear hM z4 hjm
            go_wp2_with fail
            obtain rfl := HM.out
            go_roundg (gK - 1)
            case measure => have := HG.out; omega
            case rel =>
              have h3 := HG.out
              refine ⟨?_, by omega, ?_, ?_, HZ.out.2.2.setCell (p := ⟨w3.heap.size, j, none⟩) (by have := HLQ.out; show w1.heap.size ≤ w3.heap.size; omega) _⟩
              · exact congrArg (Value.int .i64) (by omega)
              · rw [show gK - 1 = j by omega]
                exact HZ.out.1.setOther (a := ⟨w3.heap.size, j, none⟩) (by have := HLQ.out; show w1.heap.size ≠ w3.heap.size; omega) _
              · rw [show gK - 1 = j by omega]
                refine (HZ.out.2.1.set j _).congr fun p hp => ?_
                by_cases h : p = j
                · rw [if_pos h, if_neg (show ¬ p < j by omega), h, HQ'.out]
                · rw [if_neg h]
                  by_cases h4 : p < j
                  · rw [if_pos (show p < j + 1 by omega), if_pos h4]
                  · rw [if_neg (show ¬ p < j + 1 by omega), if_neg h4]
end Go.Proofs.YtekjcmejnhhpaaaDoor
