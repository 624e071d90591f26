/- PROVED: for all rules, made so that they are ones, all lists of cells, of whatever length a slice may have, made of at most 30 cells near 0, all numbers of steps, made less than 60, and all quotas, made less than 3000, LeapQuota answers true (a tenant that may have less is told ErrQuota or has the same cells, and never has more than it may: P6.3), and the input is left as it was. No condition. -/
import Derived.Test.YtofbcngcblleaaaGreatLpQtMQ
import Derived.Lib.MinMax
import Derived.Test.YtofbcngcblleaaaGreatLpOpenA
import Derived.Deep.QuietTactic
namespace Go.Proofs.YtofbcngcblleaaaGreat.A
open Go.RowKit Go.Lib Go.Sort
set_option maxHeartbeats 1000000 in
theorem same_nil (w : World) : Calls Tryz.prog 24 #[.slice none 0 0, .slice none 0 0] w fun e w' => e = .returned (.bool true) ∧ w' = w := by
  go_enter Tryz.func24, Tryz.ntmps24
  go_wp2
  refine wp_loop_rounds 1 ?_
  rw [rounds_succ]
  go_wp2
  go_ret
  exact ⟨rfl, rfl⟩
set_option maxHeartbeats 1000000 in
theorem same_some (b off c b' off' c' : Nat) (zs : List (Int × Int)) (w : World) (hn : zs.length ≤ 9223372036854775807) (h : HoldsR w b off zs) (h' : HoldsR w b' off' zs) :
    Calls Tryz.prog 24 #[.slice (some ⟨b, off, none⟩) zs.length c, .slice (some ⟨b', off', none⟩) zs.length c'] w fun e w' => e = .returned (.bool true) ∧ ∃ q, w' = w.drewN q := by
  have HA : Hid (HoldsR w b off zs) := h
  have HB : Hid (HoldsR w b' off' zs) := h'
  clear h h'
  generalize hl : zs.length = n at *
  have HL : Hid (zs.length = n) := hl
  clear hl
  go_enter Tryz.func24, Tryz.ntmps24
  go_wp2
  go_loopg [5] n (fun g s wr => ∃ k q : Nat, k + g = n ∧ s = .int .i64 k ∧ wr = w.drewN q)
  case atStart => exact ⟨0, 0, by omega, rfl, rfl⟩
  case round =>
    obtain ⟨k, q, hk, rfl, rfl⟩ := hrel
    have HK : Hid (k + gk = n) := hk
    have hkn : k ≤ n := by omega
    clear hk
    by_cases hlt : k < n
    · obtain ⟨c0, c1⟩ := HA.out k (by rw [HL.out]; exact hlt)
      obtain ⟨d0, d1⟩ := HB.out k (by rw [HL.out]; exact hlt)
      generalize zs[k]! = x at c0 c1 d0 d1
      have hi1 : (0 : Int) ≤ (k : Int) := by omega
      have hi2 : (k : Int) < (n : Int) := by omega
      have hne : ∀ w, (binOp .neq 52 (.agg #[.int .i64 x.1, .int .i64 x.2]) (.agg #[.int .i64 x.1, .int .i64 x.2])).run Tryz.prog w = .ok (.bool false) w := fun w => by rw [neP_run]; simp
      go_wp2
      go_region
      go_wp2
      go_roundg (gk - 1)
      case measure => have := HK.out; omega
      case rel => have := HK.out; exact ⟨k + 1, q + 1, by omega, by go_num, rfl⟩
    · go_wp2
      go_ret
      exact ⟨rfl, q, rfl⟩
theorem below_drewN (w : World) (q : Nat) : Below w.heap.size w (w.drewN q) := ⟨rfl, rfl, rfl, Nat.le_refl _, fun _ _ => rfl⟩
theorem same_any (v u : Value) (zs : List (Int × Int)) (w : World) (h : Row w v zs) (h' : Row w u zs) : Calls Tryz.prog 24 #[v, u] w fun e w' => e = .returned (.bool true) ∧ Below w.heap.size w w' := by
  rcases h with ⟨rfl, rfl⟩ | ⟨hz, b, off, c, rfl, _, hl, hm, hh⟩
  · rcases h' with ⟨_, rfl⟩ | ⟨hz, _⟩
    · exact (same_nil w).mono fun e w' ⟨he, hw⟩ => ⟨he, by rw [hw]; exact Below.refl _ _⟩
    · exact absurd rfl hz
  · rcases h' with ⟨e, _⟩ | ⟨_, b', off', c', rfl, _, _, _, hh'⟩
    · exact absurd e hz
    · unfold maxLen at hm
      exact (same_some b off c b' off' c' zs w (by omega) hh hh').mono fun e w' ⟨he, q, hw⟩ => ⟨he, by rw [hw]; exact below_drewN w q⟩
end Go.Proofs.YtofbcngcblleaaaGreat.A
namespace Go.Proofs.YtofbcngcblleaaaGreat.A
open Go.RowKit Go.Maps Go.Proofs.YtofbcngcblleaaaGreat.L
theorem begL_cnt : arBegL.cnt 63 = 1 := by decide +kernel
theorem begL_full : ((arNew 200000).joinP 63 1 0 0 1).2 = (2, 0) := by decide +kernel
theorem oneL_fits : Fits 1 := ⟨by omega, by omega⟩
theorem begL_snd : Sound arBegL := join_sound (new_sound (by omega) (by omega)) (by omega) oneL_fits fits_zero fits_zero oneL_fits
theorem begL_glob : Glob arBegL := glob_join (glob_new 200000) (new_sound (by omega) (by omega)) (by omega) (by rw [begL_full]; decide)
theorem begL_lim : arBegL.lim 1 = 200000 := by decide +kernel
theorem begL_zero : arBegL.cnt 1 = 0 := by decide +kernel
theorem begL_kinds : arBegL.ths.all (fun x => x.k == 1) = true := by decide +kernel
theorem begL_room : RoomT 1 199999 arBegL := by
  show lsum tens (fun u => if u = 1 then (199999 : Int) else arBegL.cnt u) ≤ arBegL.room
  decide +kernel
theorem begL_st {PR : (Bool → Nat → Bool) → Int → Prop} (hu : ∀ R R' rn, PR R rn → PR R' rn → R = R') : NxSt PR 1 (fun _ => 199999) arBegL := by
  refine ⟨begL_snd, begL_glob, fun id f hf _ => ?_, fun R rn _ x hx hk => ?_, hu, begL_room⟩
  · obtain ⟨_, x, hx, hb, _⟩ := ownV_iff.1 hf
    have h0 := begL_snd.cnt 1 (by omega)
    rw [begL_zero] at h0
    have h1 : ownN arBegL.ths 1 = 0 := by omega
    have := List.countP_eq_zero.1 h1 x (List.mem_of_getElem? hx)
    exact absurd hb this
  · have := List.all_eq_true.1 begL_kinds x hx
    rw [hk] at this
    cases this
set_option maxRecDepth 20000 in
set_option maxHeartbeats 1000000 in
theorem begL_any (w : World) : Calls Tryz.prog 21 #[] w fun e w' => e = .returned (.tuple #[.pointer (some ⟨w.heap.size + 1, 0, none⟩), .bool true]) ∧ ArL w' (fun k => if k < w.heap.size then 0 else 1) (w.heap.size + 1) arBegL ∧ Below w.heap.size w w' := by
  have hnew := newP_any 200000 w (by omega) (by omega)
  have HE := begL_full
  have HC := begL_cnt
  unfold arBegL at HC ⊢
  generalize hA2 : ((arNew 200000).joinP 63 1 0 0 1).1 = A2 at HC ⊢
  have HA2 : Hid (((arNew 200000).joinP 63 1 0 0 1).1 = A2) := hA2
  clear hA2
  go_enter Tryz.func21, Tryz.ntmps21
  go_wp2_with fail
  refine hnew.mono ?_
  rintro e w1 ⟨rfl, ⟨F1, hF1, A1⟩, hb1⟩
  have hj := joinP_any (w.heap.size + 1) 63 1 0 0 1 F1 (arNew 200000) w1 A1 (new_sound (by omega) (by omega)) (by omega) oneL_fits fits_zero fits_zero oneL_fits
  unfold JoinPOut at hj
  rw [HE, HA2.out] at hj
  unfold quad4 at hj
  clear HE A1
  go_wp2_with fail
  refine hj.mono ?_
  rintro e w2 ⟨rfl, F2, hF2, A2', P2⟩
  have hcn := countP_any (w.heap.size + 1) 63 F2 A2 w2 A2' (by omega)
  rw [HC] at hcn
  have HFIN : Hid (ArL w2 (fun k => if k < w.heap.size then 0 else 1) (w.heap.size + 1) A2 ∧ Below w.heap.size w w2) := ⟨⟨F2, A2', fun k hk => by
      have : w.heap.size ≤ k := by
        rcases hF2 k hk with e | e
        · exact hF1 k e
        · exact Nat.le_trans hb1.size e
      simp only
      rw [if_neg (by omega)]⟩, ⟨P2.os.trans hb1.os, P2.tape.trans hb1.tape, P2.output.trans hb1.output, Nat.le_trans hb1.size P2.size, fun k hk => (P2.block k (Nat.lt_of_lt_of_le hk hb1.size) fun hf => by have := hF1 k hf; omega).trans (hb1.block k hk)⟩⟩
  clear A2' P2 hF2 hF1 hb1 hj hnew HC
  go_wp2_with fail
  all_goals
    refine hcn.mono ?_
    rintro e w3 ⟨rfl, rfl⟩
    go_wp2_with fail
    go_ret2
    exact ⟨rfl, HFIN.out⟩
end Go.Proofs.YtofbcngcblleaaaGreat.A
namespace Go.Proofs.YtofbcngcblleaaaGreat.A
open Go.RowKit Go.Maps Go.Proofs.YtofbcngcblleaaaGreat.L
set_option maxRecDepth 20000 in
set_option maxHeartbeats 8000000 in
theorem quota_law (rb0 rl0 : Int) (v : Value) (zs : List (Int × Int)) (n qu : Int) (w : World) (hv : RRow w v zs) :
    Calls Tryz.prog 7 #[.agg #[.int .i64 rb0, .int .i64 rl0], v, .int .i64 n, .int .i64 qu] w fun e w' => e = .returned (.bool true) ∧ Below w.heap.size w w' := by
  have s0 := fun W => spot_any n 60 W (by omega) (by omega)
  have s1 := fun W => spot_any qu 3000 W (by omega) (by omega)
  have b0 := spotI_bound n 60 (by omega)
  have b1 := spotI_bound qu 3000 (by omega)
  generalize spotI n 60 = N at *
  generalize spotI qu 3000 = Q at *
  obtain ⟨k, rfl⟩ := Int.eq_ofNat_of_zero_le b0.1
  have HP : Hid ((0 ≤ Q ∧ Q < 3000) ∧ k < 60) := ⟨⟨b1.1, b1.2⟩, by omega⟩
  have hbg := fun W => begL_any W
  have hright := fun W => right_any rb0 rl0 W
  have hgood := right_good rb0 rl0
  generalize rightB rb0 = rb at *
  generalize spotI rl0 512 = rl at *
  have hR : lifeR rb rl false 0 = false := (goodR_of hgood).2.2
  have HG : Hid (goodB rb rl = true ∧ lifeR rb rl false 0 = false) := ⟨hgood, hR⟩
  have hX0 : (w.alloc (.cells #[.int .i64 rb0, .int .i64 rl0] 23)).heap[w.heap.size]? = some (.cells #[.int .i64 rb0, .int .i64 rl0] 23 (0, 0)) := heap_alloc_new w _
  have hb0 : Below w.heap.size w (w.alloc (.cells #[.int .i64 rb0, .int .i64 rl0] 23)) := (Below.refl _ _).alloc (Nat.le_refl _) _
  have f0 := Lib.cell_of_heap hX0 0
  have f1 := Lib.cell_of_heap hX0 1
  clear hgood hR b0 b1
  go_enter Tryz.func7, Tryz.ntmps7
  go_wp2_with fail
  refine (hright _).mono ?_
  rintro e w1 ⟨rfl, c1⟩
  have hX1 := (c1.block w.heap.size (by simp)).trans hX0
  have hb1 := hb0.trans (c1.mono hb0.size)
  have hsome := some_any v zs 30 10 w1 (hv.below hb1) (by omega) (by omega) (by omega)
  clear f0 f1 hX0 hb0 c1 hright
  go_wp2_with fail
  refine hsome.mono ?_
  rintro e w2 ⟨vl, rfl, c2, k2⟩
  have hl1 : w.heap.size < w1.heap.size := (Array.getElem?_eq_some_iff.1 hX1).1
  have hX2 := (c2.block w.heap.size hl1).trans hX1
  have f0 := Lib.cell_of_heap hX2 0
  have f1 := Lib.cell_of_heap hX2 1
  have z0 := Lib.frozen_of_heap hX2 0
  have z1 := Lib.frozen_of_heap hX2 1
  have hb2 : Below w.heap.size w w2 := hb1.trans (c2.mono hb1.size)
  clear hsome hX1 hb1
  go_wp2_with fail
  have hX3 : ((w2.setCell ⟨w.heap.size, 0, none⟩ (.int .i64 rb)).setCell ⟨w.heap.size, 1, none⟩ (.int .i64 rl)).heap[w.heap.size]? = some (.cells #[.int .i64 rb, .int .i64 rl] 23 (0, 0)) := Go.Joins.block_setCell (Go.Joins.block_setCell hX2 _) _
  have hb3 : Below w.heap.size w ((w2.setCell ⟨w.heap.size, 0, none⟩ (.int .i64 rb)).setCell ⟨w.heap.size, 1, none⟩ (.int .i64 rl)) := (hb2.setCell (p := ⟨w.heap.size, 0, none⟩) (Nat.le_refl _) _).setCell (p := ⟨w.heap.size, 1, none⟩) (Nat.le_refl _) _
  have k3 := (kept_set (kept_set k2 hl1 0 (.int .i64 rb)) hl1 1 (.int .i64 rl)).row
  clear hX2 f0 f1 z0 z1 hb2 k2 c2 hl1
  generalize hw3 : (w2.setCell ⟨w.heap.size, 0, none⟩ (.int .i64 rb)).setCell ⟨w.heap.size, 1, none⟩ (.int .i64 rl) = w3 at *
  have H3 : Hid (w3.heap[w.heap.size]? = some (.cells #[.int .i64 rb, .int .i64 rl] 23 (0, 0)) ∧ Below w.heap.size w w3 ∧ Row w3 vl (someL 30 10 zs)) := ⟨hX3, hb3, k3⟩
  clear hX3 hb3 k3 hw3
  refine (s0 _).mono ?_
  rintro e wx ⟨rfl, hw⟩
  have hw2 := hw.symm
  subst hw2
  clear hw
  go_wp2_with fail
  refine (s1 _).mono ?_
  rintro e wx ⟨rfl, hw⟩
  have hw2 := hw.symm
  subst hw2
  clear hw
  clear s0 s1
  go_wp2_with fail
  refine (hbg _).mono ?_
  rintro e w4 ⟨rfl, hA4, hb4⟩
  have Q4 : MvL w w4 (fun k => if k < w3.heap.size then 0 else 1) (w3.heap.size + 1) w.heap.size rb rl arBegL [(vl, someL 30 10 zs)] := by
    have hs := H3.out.2.1.size
    have hlt : w.heap.size < w3.heap.size := (Array.getElem?_eq_some_iff.1 H3.out.1).1
    refine ⟨hA4, (hb4.block _ hlt).trans H3.out.1, by show (if _ then _ else _) ≠ 1; rw [if_pos hlt]; decide, fun x hx => ?_, H3.out.2.1.trans (hb4.mono hs), fun i hi => by show (if _ then _ else _) ≠ 1; rw [if_pos (by omega)]; decide⟩
    simp only [List.mem_singleton] at hx
    subst hx
    have : LRow w3 (fun k => if k < w3.heap.size then 0 else 1) vl (someL 30 10 zs) := LRow.of H3.out.2.2 fun i hi => by show (if _ then _ else _) ≠ 1; rw [if_pos hi]; decide
    rcases this with h | ⟨h0, b, off, c, h1, hl, h2, h3, h4, h5⟩
    · exact Or.inl h
    · have hbb := hb4.block b h2
      exact Or.inr ⟨h0, b, off, c, h1, hl, Nat.lt_of_lt_of_le h2 hb4.size, h3, h4, fun j hj => ⟨(World.cell?_of_block (a := ⟨b, off + j * 2, none⟩) hbb).trans (h5 j hj).1, (World.cell?_of_block (a := ⟨b, off + j * 2 + 1, none⟩) hbb).trans (h5 j hj).2⟩⟩
  obtain ⟨a, ha⟩ : ∃ a, a = w3.heap.size + 1 := ⟨_, rfl⟩
  rw [← ha] at Q4 ⊢
  clear ha
  generalize (fun k => if k < w3.heap.size then 0 else 1) = o4 at *
  have HQ4 : Hid (MvL w w4 o4 a w.heap.size rb rl arBegL [(vl, someL 30 10 zs)]) := Q4
  clear hA4 hb4 H3 Q4
  go_wp2_with fail
  refine (hbg _).mono ?_
  rintro e w5 ⟨rfl, hB5, hb5⟩
  have Q5 := HQ4.out.second hb5 hB5
  generalize hbb : w4.heap.size + 1 = b at *
  generalize ext o4 w4.heap.size 0 = oa at *
  generalize (fun k => if k < w4.heap.size then 0 else 1) = ob at *
  have hT := tidied_exists (someL 30 10 zs) (someL_code (by omega) (by omega) (by omega) zs)
  obtain ⟨ys, hT⟩ := hT
  have HT : Hid (Tidied (someL 30 10 zs) ys ∧ Twin (cellsG ys) ys 0 0) := ⟨hT, Twin.ofSome hT⟩
  have hfr := from_rel (t := 1) Q5.a.ar (begL_st (oneR_u rb rl)) (by omega) vl (someL 30 10 zs) ys (Q5.a.rows (vl, someL 30 10 zs) (by simp)).row (someL_code (by omega) (by omega) (by omega) zs) hT
  have HQ5 : Hid (MvT w w5 oa ob a b w.heap.size rb rl arBegL arBegL [(vl, someL 30 10 zs)]) := Q5
  clear hbg hb5 hB5 HQ4 Q5 hbb hT
  go_wp2_with fail
  refine hfr.mono ?_
  rintro e w6 ⟨p, e6, rfl, A6, o6, a1, a2, a3, hF⟩
  obtain ⟨rfl, hcn, hlm, hgo, M, hM1, hrt, hlg⟩ := from_fine a3 hF (Nat.le_trans (tidied_len HT.out.1) (someL_len 30 10 zs)) (by rw [begL_zero]; omega) begL_lim
  rw [begL_zero] at hcn
  have Q6 := HQ5.out.ch a2 a1
  obtain ⟨ob6, hob6⟩ : ∃ x, x = ext ob w5.heap.size 0 := ⟨_, rfl⟩
  rw [← hob6] at Q6
  have hfr2 := from_rel (t := 1) Q6.b.ar (begL_st (oneR_u rb rl)) (by omega) vl (someL 30 10 zs) ys (Q6.b.rows (vl, someL 30 10 zs) (by simp)).row (someL_code (by omega) (by omega) (by omega) zs) HT.out.1
  obtain ⟨g, hgd⟩ : ∃ g, g = cellsG ys := ⟨_, rfl⟩
  rw [← hgd] at hrt hlg
  have H6 : Hid (MvT w w6 o6 ob6 a b w.heap.size rb rl A6 arBegL [(vl, someL 30 10 zs)] ∧ NxSt (oneR rb rl) 1 (fun _ => 199999) A6 ∧ Rt A6 1 M p g ∧ LeastG (M + 1) g ∧ 1 ≤ M ∧ A6.cnt 1 ≤ 1300 ∧ A6.lim 1 = 200000) := ⟨Q6, a3, hrt, hlg, hM1, by omega, hlm⟩
  have HGD : Hid (g = cellsG ys) := hgd
  clear hfr a1 a2 a3 hF hcn hlm hgo hM1 hrt hlg Q6 HQ5 hgd hob6
  go_wp2_with fail
  refine hfr2.mono ?_
  rintro e w7 ⟨p2, e7, rfl, B7, o7, a1, a2, a3, hF⟩
  obtain ⟨rfl, hcn, hlm, hgo, M2, hM2, hrt2, hlg2⟩ := from_fine a3 hF (Nat.le_trans (tidied_len HT.out.1) (someL_len 30 10 zs)) (by rw [begL_zero]; omega) begL_lim
  rw [begL_zero] at hcn
  rw [← HGD.out] at hrt2 hlg2
  have Q7 := (H6.out.1.swap.ch a2 a1).swap
  obtain ⟨oa7, hoa7⟩ : ∃ x, x = ext o6 w6.heap.size 0 := ⟨_, rfl⟩
  rw [← hoa7] at Q7
  have tw : Twin g ys 0 0 := ⟨HT.out.2.tidy, HT.out.2.near, HT.out.2.len, HGD.out⟩
  obtain ⟨F7, hF7, hF71⟩ := id Q7.a.ar
  have hcnt := countP_any a 1 F7 A6 w7 hF7 (by omega)
  have hc0 : 0 ≤ A6.cnt 1 := by
    have := H6.out.2.1.s.cnt 1 (by omega)
    omega
  have hqq : ∃ c : Int, c = A6.cnt 1 := ⟨_, rfl⟩
  obtain ⟨c, hc⟩ := hqq
  rw [← hc] at hcnt hc0
  have HQM : Hid (0 ≤ max Q c ∧ max Q c ≤ 3000 ∧ A6.cnt 1 ≤ max Q c) := by
    have h1 := HP.out.1
    have h2 := H6.out.2.2.2.2.2.1
    rw [← hc] at h2
    refine ⟨by omega, by omega, by rw [← hc]; omega⟩
  have hlim := fun (QQ : Int) (h0 : 0 ≤ QQ) (h1 : QQ ≤ 3000) => limP_any a 1 F7 QQ A6 w7 hF7 (by omega) h0 (by
    have := H6.out.2.1.s.lim 1 (by omega)
    rw [H6.out.2.2.2.2.2.2] at this
    omega)
  have H7 : Hid (MvT w w7 oa7 o7 a b w.heap.size rb rl A6 B7 [(vl, someL 30 10 zs)] ∧ NxSt (oneR rb rl) 1 (fun _ => 199999) B7 ∧ Rt B7 1 M2 p2 g ∧ LeastG (M2 + 1) g ∧ 1 ≤ M2 ∧ B7.cnt 1 ≤ 1300 ∧ B7.lim 1 = 200000 ∧ Twin g ys 0 0 ∧ ∀ k, F7 k → oa7 k = 1) := ⟨Q7, a3, hrt2, hlg2, hM2, by omega, hlm, tw, hF71⟩
  clear hfr2 a1 a2 a3 hF hcn hlm hgo hM2 hrt2 hlg2 Q7 tw hoa7 hF7 hF71 hc HT HGD
  go_wp2_with fail
  refine hcnt.mono ?_
  rintro e wx ⟨rfl, hw⟩
  have hw2 := hw.symm
  subst hw2
  clear hw hcnt
  go_wp2_with fail
  have hl8 := hlim (max Q c) HQM.out.1 HQM.out.2.1
  obtain ⟨QQ, hQQ⟩ : ∃ x : Int, x = max Q c := ⟨_, rfl⟩
  rw [← hQQ] at hl8 HQM ⊢
  clear hlim hQQ hc0
  refine hl8.mono ?_
  rintro e w8 ⟨rfl, hled⟩
  obtain ⟨b1, b2⟩ := led_ch H7.out.2.2.2.2.2.2.2.2 hled
  have Q8 := H7.out.1.ch b2 b1
  obtain ⟨o8, ho8⟩ : ∃ x, x = ext oa7 w7.heap.size 1 := ⟨_, rfl⟩
  obtain ⟨ob8, hob8⟩ : ∃ x, x = ext o7 w7.heap.size 0 := ⟨_, rfl⟩
  rw [← ho8, ← hob8] at Q8
  have tw := H7.out.2.2.2.2.2.2.2.1
  have hroom : QQ ≤ A6.room := by
    have := (H6.out.2.1.s.lim 1 (by omega)).2
    rw [H6.out.2.2.2.2.2.2] at this
    have := HQM.out
    omega
  have st8 := st_lim H6.out.2.1 HQM.out.1 hroom
  have rt8 := rt_lim H6.out.2.2.1 QQ
  have hL8 : (A6.limP 1 QQ).lim 1 = QQ := lim_is _ _ _
  have hC8 : (A6.limP 1 QQ).cnt 1 ≤ 1300 ∧ (A6.limP 1 QQ).cnt 1 ≤ QQ := ⟨H6.out.2.2.2.2.2.1, HQM.out.2.2⟩
  generalize A6.limP 1 QQ = A8 at *
  have hM21 : M ≤ 21 := near_least (c := 0) (d := 0) (by omega) (fun x y h => by have := tw.g1 x y h; omega) H6.out.2.2.2.1
  have hf8 := Q8.a.rule
  have f0 := Lib.cell_of_heap hf8 0
  have f1 := Lib.cell_of_heap hf8 1
  have hst1 := Steps_rel (rb := rb) (rl := rl) Q8.a.ar st8 (by omega) HG.out.1 ⟨rfl, rfl⟩ p M H6.out.2.2.2.2.1 (by omega) rt8 k (by have := HP.out.2; omega) (fun s hs A' m' x' h1 h2 _ => run_big60 HG.out.2 tw.g1 (by have := HP.out.2; omega) h1 h2)
  have H8 : Hid (MvT w w8 o8 ob8 a b w.heap.size rb rl A8 B7 [(vl, someL 30 10 zs)] ∧ NxSt (oneR rb rl) 1 (fun _ => 199999) A8 ∧ A8.lim 1 = QQ ∧ A8.cnt 1 ≤ QQ) := ⟨Q8, st8, hL8, hC8.2⟩
  clear hl8 hled b1 b2 Q8 ho8 hob8 tw hroom st8 rt8 hL8 hC8 hM21 hf8
  go_wp2_with fail
  refine hst1.mono ?_
  rintro e w9 ⟨x1, e9, rfl, A9, o9, a1, a2, a3, hS⟩
  have Q9 := H8.out.1.ch a2 a1
  obtain ⟨ob9, hob9⟩ : ∃ x, x = ext ob8 w8.heap.size 0 := ⟨_, rfl⟩
  rw [← hob9] at Q9
  have tw := H7.out.2.2.2.2.2.2.2.1
  have hans : (e9 = 9 ∧ x1 = 0 ∧ A9.cnt 1 ≤ QQ) ∨ (e9 = 0 ∧ A9.cnt 1 ≤ QQ ∧ ∃ M3, M3 + 1 ≤ 44 ∧ Rt A9 1 M3 x1 (iter (lifeR rb rl) k g)) := by
    rcases hS with ⟨h1, h2, h3, A1, h4, h5⟩ | ⟨h1, h2, M3, h3, h4⟩
    · refine .inl ⟨small_nine h5 h4 (by rw [H8.out.2.2.1]; exact HQM.out.2.1) h1, h2, ?_⟩
      have : A9.cnt 1 = A8.cnt 1 := congrArg Vw.cnt (h3 1)
      rw [this]
      exact H8.out.2.2.2
    · have hcap := h2.cap (by rw [H8.out.2.2.1]; exact H8.out.2.2.2)
      rw [h2.lim, H8.out.2.2.1] at hcap
      have : M3 ≤ 7 := box_level (M := 7) HG.out.2 tw.g1 (by omega) (fun z hz => by have := HP.out.2; omega) h3
      exact .inr ⟨h1, hcap, M3, by omega, h4⟩
  have hM21 : M2 ≤ 21 := near_least (c := 0) (d := 0) (by omega) (fun x y h => by have := tw.g1 x y h; omega) H7.out.2.2.2.1
  have hf9 := Q9.a.rule
  have f0 := Lib.cell_of_heap hf9 0
  have f1 := Lib.cell_of_heap hf9 1
  have hst2 := Steps_rel (rb := rb) (rl := rl) Q9.b.ar H7.out.2.1 (by omega) HG.out.1 ⟨rfl, rfl⟩ p2 M2 H7.out.2.2.2.2.1 (by omega) H7.out.2.2.1 k (by have := HP.out.2; omega) (fun s hs A' m' x' h1 h2 _ => run_big60 HG.out.2 tw.g1 (by have := HP.out.2; omega) h1 h2)
  have H9 : Hid (MvT w w9 o9 ob9 a b w.heap.size rb rl A9 B7 [(vl, someL 30 10 zs)] ∧ NxSt (oneR rb rl) 1 (fun _ => 199999) A9 ∧ ((e9 = 9 ∧ x1 = 0 ∧ A9.cnt 1 ≤ QQ) ∨ (e9 = 0 ∧ A9.cnt 1 ≤ QQ ∧ ∃ M3, M3 + 1 ≤ 44 ∧ Rt A9 1 M3 x1 (iter (lifeR rb rl) k g)))) := ⟨Q9, a3, hans⟩
  clear hst1 a1 a2 a3 hS Q9 hob9 tw hans hM21 hf9 H8
  go_wp2_with fail
  refine hst2.mono ?_
  rintro e w10 ⟨x2, e10, rfl, B10, o10, a1, a2, a3, hS⟩
  obtain ⟨rfl, M4, hM4, rt4⟩ : e10 = 0 ∧ ∃ M4, M4 + 1 ≤ 44 ∧ Rt B10 1 M4 x2 (iter (lifeR rb rl) k g) := by
    have tw := H7.out.2.2.2.2.2.2.2.1
    rcases hS with ⟨h1, _, _, A1, h2, h3⟩ | ⟨h1, h2, M4, h3, h4⟩
    · exact absurd h1 (quota_fine h2 h3 HG.out.2 HP.out.2 tw.g1 (by have := H7.out.2.2.2.2.2.1; omega) H7.out.2.2.2.2.2.2.1)
    · have : M4 ≤ 7 := box_level (M := 7) HG.out.2 tw.g1 (by omega) (fun z hz => by have := HP.out.2; omega) h3
      exact ⟨h1, M4, by omega, h4⟩
  have Q10 := (H9.out.1.swap.ch a2 a1).swap
  obtain ⟨oa10, hoa10⟩ : ∃ x, x = ext o9 w9.heap.size 0 := ⟨_, rfl⟩
  rw [← hoa10] at Q10
  have hcnt := (fun (F : Nat → Prop) (hF : AtP w10 a F A9) => countP_any a 1 F A9 w10 hF (by omega))
  obtain ⟨F10, hF10, _⟩ := id Q10.a.ar
  have hcnt := hcnt F10 hF10
  have H10 : Hid (MvT w w10 oa10 o10 a b w.heap.size rb rl A9 B10 [(vl, someL 30 10 zs)] ∧ NxSt (oneR rb rl) 1 (fun _ => 199999) B10 ∧ M4 + 1 ≤ 44 ∧ Rt B10 1 M4 x2 (iter (lifeR rb rl) k g)) := ⟨Q10, a3, hM4, rt4⟩
  have hle : A9.cnt 1 ≤ QQ := by
    rcases H9.out.2.2 with h | h
    · exact h.2.2
    · exact h.2.1
  obtain ⟨c9, hc9⟩ : ∃ x : Int, x = A9.cnt 1 := ⟨_, rfl⟩
  rw [← hc9] at hcnt hle
  have hng : ¬ QQ < c9 := by omega
  clear hst2 a1 a2 a3 hS hM4 rt4 Q10 hoa10 hF10 hc9 hle f0 f1
  by_cases hcase : e9 = 9
  · have hx0 : x1 = 0 := by
      rcases H9.out.2.2 with h | h
      · exact h.2.1
      · exact absurd (hcase.symm.trans h.1) (by decide)
    subst hcase
    subst hx0
    have HB : Hid (Below w.heap.size w w10) := H10.out.1.a.below
    clear H9 H10 H7 H6 HQM
    go_wp2_with fail
    refine hcnt.mono ?_
    rintro e wx ⟨rfl, hw⟩
    have hw2 := hw.symm
    subst hw2
    clear hw hcnt
    go_wp2_with fail
    go_ret
    exact ⟨rfl, HB.out⟩
  · obtain ⟨rfl, M3, hM3, rt3⟩ : e9 = 0 ∧ ∃ M3, M3 + 1 ≤ 44 ∧ Rt A9 1 M3 x1 (iter (lifeR rb rl) k g) := by
      rcases H9.out.2.2 with h | h
      · exact absurd h.1 hcase
      · exact ⟨h.1, h.2.2⟩
    have tw := H7.out.2.2.2.2.2.2.2.1
    have hce1 := cells_rel (t := 1) H10.out.1.a.ar H9.out.2.1 (by omega) rt3 hM3 (run_big60 HG.out.2 tw.g1 HP.out.2 H9.out.2.1 rt3)
    have HTW : Hid (Twin g ys 0 0) := tw
    clear hcase H9 H7 H6 HQM rt3 hM3 tw
    go_wp2_with fail
    refine hcnt.mono ?_
    rintro e wx ⟨rfl, hw⟩
    have hw2 := hw.symm
    subst hw2
    clear hw hcnt
    go_wp2_with fail
    refine hce1.mono ?_
    rintro e w11 ⟨z1, hz1, nd1, hC1⟩
    have HZ : Hid ((∀ p : Int × Int, p ∈ z1 ↔ iter (lifeR rb rl) k g p.1 p.2 = true) ∧ z1.Nodup) := ⟨hz1, nd1⟩
    clear hce1 hz1 nd1
    rcases hC1 with ⟨hbig, rfl, hb11⟩ | ⟨hle, u1, ys1, he, t1, r1, hb11⟩
    · have Q11 := H10.out.1.grow hb11
      have hce2 := cells_rel (t := 1) Q11.b.ar H10.out.2.1 (by omega) H10.out.2.2.2 H10.out.2.2.1 (run_big60 HG.out.2 HTW.out.g1 HP.out.2 H10.out.2.1 H10.out.2.2.2)
      have HB : Hid (Below w.heap.size w w11) := Q11.a.below
      have HL : Hid (4096 < z1.length) := hbig
      clear hbig hb11 Q11 H10
      go_wp2_with fail
      refine hce2.mono ?_
      rintro e w12 ⟨z2, hz2, nd2, hC2⟩
      have hlen : z2.length = z1.length := (same_perm nd2 HZ.out.2 fun p => by rw [hz2 p, HZ.out.1 p]).length_eq
      have hl := HL.out
      rcases hC2 with ⟨_, rfl, hb12⟩ | ⟨h, _⟩
      · have HB2 : Hid (Below w.heap.size w w12) := HB.out.trans (hb12.mono HB.out.size)
        have hsm := same_any (.slice none 0 0) (.slice none 0 0) [] w12 (Or.inl ⟨rfl, rfl⟩) (Or.inl ⟨rfl, rfl⟩)
        clear hlen hl hz2 nd2 hce2 hb12
        go_wp2_with fail
        refine hsm.mono ?_
        rintro e w13 ⟨rfl, hb13⟩
        have HE := HB2.out.trans (hb13.mono HB2.out.size)
        clear hsm hb13
        go_wp2_with fail
        go_ret
        exact ⟨rfl, HE⟩
      · omega
    · have Q11 := (H10.out.1.grow hb11).more r1
      have hce2 := cells_rel (t := 1) Q11.b.ar H10.out.2.1 (by omega) H10.out.2.2.2 H10.out.2.2.1 (run_big60 HG.out.2 HTW.out.g1 HP.out.2 H10.out.2.1 H10.out.2.2.2)
      obtain ⟨cc, hcc⟩ : ∃ x : Int, x = tcode z1 := ⟨_, rfl⟩
      have HL : Hid (z1.length ≤ 4096 ∧ Tidied z1 ys1 ∧ cc = tcode z1) := ⟨hle, t1, hcc⟩
      rw [← hcc] at he
      subst he
      have H11 : Hid (Below w.heap.size w w11 ∧ Row w11 u1 ys1) := ⟨Q11.a.below, r1.read⟩
      clear hle t1 hcc r1 hb11 Q11 H10
      go_wp2_with fail
      refine hce2.mono ?_
      rintro e w12 ⟨z2, hz2, nd2, hC2⟩
      have hmem : ∀ p, p ∈ z2 ↔ p ∈ z1 := fun p => by rw [hz2 p, HZ.out.1 p]
      have hlen : z2.length = z1.length := (same_perm nd2 HZ.out.2 hmem).length_eq
      rcases hC2 with ⟨h, _⟩ | ⟨_, u2, ys2, he, t2, r2, hb12⟩
      · have := HL.out.1
        omega
      · obtain ⟨e1, e2⟩ := same_tidied hmem hlen HL.out.2.1 t2
        rw [e1, ← HL.out.2.2] at he
        subst he
        rw [e2] at r2
        have hsm := same_any u1 u2 ys1 w12 (H11.out.2.below hb12) r2.read
        have HB2 : Hid (Below w.heap.size w w12) := H11.out.1.trans (hb12.mono H11.out.1.size)
        have hccs : (cc == cc) = true := by simp
        clear hlen hmem hz2 nd2 hce2 hb12 e1 e2 r2 t2 H11
        go_wp2_with fail
        refine hsm.mono ?_
        rintro e w13 ⟨rfl, hb13⟩
        have HE := HB2.out.trans (hb13.mono HB2.out.size)
        clear hsm hb13
        go_wp2_with fail
        go_ret
        exact ⟨rfl, HE⟩
end Go.Proofs.YtofbcngcblleaaaGreat.A

namespace Go.Proofs.YtofbcngcblleaaaGreat
open Go.ChangeShapes Go.WideShapes Go.ChangeAt Go.RowKit Go.Joins
set_option maxRecDepth 100000 in
theorem quota_lifted (os : Os) (started : os.Started) (H : Type) (enc : TypeId × Value → H) :
    ReturnsInHanded {} Tryz.checked os 7 .any (Rows.leapQuotaSpec.pre6 enc Tryz.prog Tryz.f7 Rows.leapQuotaRow.domain false) (Rows.leapQuotaSpec.post enc Tryz.prog Tryz.f7 false true false false) := by
  refine returnsInHanded_of_change_sized (C := Tryz.checked) (by kernel_rfl) started (by kernel_rfl) Tryz.func7
    (ChangeSpec.witness6 (enc := enc) (C := Tryz.checked) false ⟨#[], #[.agg #[.int .i64 0, .int .i64 0], .slice none 0 0, .int .i64 0, .int .i64 0], []⟩ 7 (by kernel_rfl) (by kernel_rfl) (by kernel_rfl) (by kernel_rfl)) ?_
  intro W base args ds gs before hval0 hW _ hsz0 _
  have hsz : (DataW.weightsEach Tryz.prog (Tryz.f7.params.toList ++ Rows.leapQuotaSpec.plain.varTypes Tryz.prog) (ds ++ gs)).all (· ≤ reachBytes) = true := hsz0
  clear hsz0
  have hval : ∀ (j : Nat) t v, Tryz.f7.params[j]? = some t → args[j]? = some v → Value.okWide Tryz.prog W .any base t v := hval0
  have hW' := hW
  obtain ⟨p, q, hA0, hV, rfl, _, _⟩ := hW
  have hA : DataW.TrodAll enc Tryz.prog W 0 (fun _ => true) true Tryz.f7.params.toList args.toList ds p := hA0
  rw [Tryz.params7] at hA hval hsz
  obtain ⟨v0, v1, v2, v3, d0, d1, d2, d3, p0, p1, p2, p3, rfl, rfl, rfl, h0, h1, h2, h3⟩ := trodAll_4 hA
  obtain ⟨rfl, rfl⟩ := trodVars_none hV
  obtain ⟨b, l, rfl, rfl, hr⟩ := open_arule (hval 0 23 v0 rfl rfl) h0
  obtain ⟨n, rfl, rfl, rfl, wn⟩ := open_int Tryz.underlying3 (hval 2 3 v2 rfl rfl) h2
  obtain ⟨qu, rfl, rfl, rfl, wq⟩ := open_int Tryz.underlying3 (hval 3 3 v3 rfl rfl) h3
  clear hA0 hval0
  simp only [List.append_nil, List.nil_append] at hW'
  have hlt : ∀ x ∈ p1, x.block < W.heap.size := fun x hx => by simpa using hW'.lt x (by simpa using hx)
  obtain ⟨zs, hrow⟩ := open_cellrow 1 hsz rfl rfl h1 hlt (by obtain ⟨a, l, c, e⟩ := okWide_slice Tryz.underlying24 (hval 1 24 v1 rfl rfl); exact ⟨a, l, c, e⟩)
  have hargs : ∀ (W' : World), Below W.heap.size W W' → DataW.Trod enc Tryz.prog W' 0 (fun b => decide (b < W.heap.size)) true 24 v1 d1 p1 :=
    fun W' hb => Below.trod Tryz.laidOut (by kernel_rfl) (of_decide_eq_true (by kernel_rfl)) h1 hb hlt
  refine (A.quota_law b l v1 zs n qu W hrow).mono fun e W' ⟨he, hb⟩ => ?_
  subst he
  refine ⟨_, rfl, _, _, _, [], [] ++ (p1 ++ ([] ++ [])), [], hW', ?_, ?_, rfl, hb.frame _, fun h => by cases h⟩
  · exact trodAll_mk1 (shut_bool Tryz.underlying4 true)
  · exact ⟨_, _, hr _ _, trodAll_mk3 (hargs _ hb) (shut_int Tryz.underlying3 wn) (shut_int Tryz.underlying3 wq), rfl⟩
theorem quota_holds : Rows.LeapQuotaSaid :=
  OpenClaim.holds_of_wide 7 Tryz.f7 rfl rfl rfl rfl rfl rfl rfl ⟨rfl, rfl, rfl, rfl, rfl⟩ rfl rfl rfl rfl rfl (by kernel_rfl) Tryz.func7 (by kernel_rfl)
    (of_decide_eq_true (by kernel_rfl)) (by unfold Func.isWrapper; first | (rw [if_pos (by decide +kernel)]; kernel_rfl) | (rw [if_neg (by decide +kernel)]; exact ⟨rfl, rfl⟩))
    (fun os started H enc _ => quota_lifted os started H enc)
#print axioms quota_holds
end Go.Proofs.YtofbcngcblleaaaGreat
