/- PROVED: for all rules, all lists of cells, of whatever length a slice may have, made of at most 40 cells near 0, and all j (made less than 5 where they are such), LeapGoes answers true (Leap makes the least root of just the cells that live 2^j steps later by the document's own reckoning, or tells the document's error: P6.1), and the input is left as it was. No condition. -/
import Derived.Test.YtofbcngcblleaaaGreatLpStB
import Derived.Test.YtofbcngcblleaaaGreatLpPeel
import Derived.Test.YtofbcngcblleaaaGreatLpOpenA
namespace Go.Proofs.YtofbcngcblleaaaGreat.A
open Go.RowKit Go.Maps Go.Proofs.YtofbcngcblleaaaGreat.L
variable {R : Bool → Nat → Bool} {rn : Int} {g : Gr} {PR : (Bool → Nat → Bool) → Int → Prop} {A A' : Ar}
theorem steps_cnt3 {e' : Int} {S1 : Item → Prop} {n : Nat} (h4 : NxSt PR 3 (fun _ => 200000) A') (k : Gx 3 A A' 0 e' (StepsD R rn S1 g n)) (hR : R false 0 = false) (hn : n < 40) (hg1 : Near20 g) (hc : A.cnt 3 ≤ 1700) (hl : A.lim 3 = 200000) : A'.cnt 3 ≤ 170000 ∧ A'.lim 3 = 200000 := by
  have hcnt := gx_count k h4 (by omega) (boxL R g rn 20 9 0 0 n) fun i hi => box_steps hR hg1 (LM := 9) (by omega) (by omega) (fun T N hT hL => by
    have := box_level (M := 6) hR hg1 (by omega) (fun z hz => by omega) hL
    omega) hi
  have b1 := boxN_steps n hn
  rw [boxL_len] at hcnt
  exact ⟨by omega, k.lim.trans hl⟩
theorem peel_same {q : Nat → Int} {M : Nat} {x y e' : Int} (hst : NxSt PR 3 q A) (hst' : NxSt PR 3 (fun _ => 200000) A') (hrt : Rt A 3 M x g) (hL : LeastG (M + 1) g) (hc : A.cnt 3 ≤ 170000) (hl : A.lim 3 = 200000)
    (k : Gx 3 A A' 0 e' (PeelD M (picQ (QV (view A 3)) (M + 1) x) (absC A.ths (M + 1) x)))
    (h : Er e' ∨ (e' = 0 ∧ ∃ n, LeastLv (n + 1) (absC A.ths (M + 1) x) ∧ n ≤ M ∧ levV (view A' 3).V y = some ((n + 1 : Nat) : Int) ∧ PeelS (QV (view A' 3)) M n x y)) : e' = 0 ∧ y = x := by
  have hcnt := gx_count k hst' (by omega) [.sq (M + 1) (pic (ctr M (picQ (QV (view A 3)) (M + 1) x)) (-(2 ^ M)) (-(2 ^ M)) (M + 1))] fun i ⟨n, h1, h2⟩ => by
    have h3 := ((hrt.least hst (by omega)).1 h1).unique hL
    have : n = M := by omega
    subst this
    rw [h2]
    exact List.mem_singleton_self _
  have hl' : A'.lim 3 = 200000 := k.lim.trans hl
  simp only [List.length_singleton] at hcnt
  have hne := gx_fine k hst' (by show A'.cnt 3 < 200000; omega) (by omega)
  rcases h with h | ⟨h1, n, h2, h3, h4, h5⟩
  · exact absurd h hne
  · have hL2 := (hrt.least hst (by omega)).1 h2
    have hrt' := hrt.go hst (by omega) k.toGoes1
    exact ⟨h1, root_one hst' (by omega) hL2 hL (hrt.peel hst (by omega) hrt' h2 h4 h5) hrt'⟩
theorem run_to {b l : Int} {zs ts : List (Int × Int)} {n c : Int} {m : Nat} (hn : n = (m : Int)) (hm : m ≤ 256) (hg : goodB b l = true) (h : F.RunIs b l zs n c ts) : F.StepsTo b l zs m c ts := by
  subst hn
  unfold F.RunIs at h
  rw [if_neg (by omega), if_neg (by rw [hg]; simp)] at h
  simpa using h
end Go.Proofs.YtofbcngcblleaaaGreat.A

namespace Go.Proofs.YtofbcngcblleaaaGreat.A
open Go.RowKit Go.Maps Go.Proofs.YtofbcngcblleaaaGreat.L
set_option maxRecDepth 20000 in
set_option maxHeartbeats 8000000 in
theorem goes_law_bad (rb rl : Int) (v : Value) (zs : List (Int × Int)) (n : Int) (w : World) (hv : RRow w v zs) (hg : goodB rb rl = false) :
    Calls Tryz.prog 3 #[.agg #[.int .i64 rb, .int .i64 rl], v, .int .i64 n] w fun e w' => e = .returned (.bool true) ∧ Below w.heap.size w w' := by
  have hst := fun p t id N W => Leap_bad p t rb rl id N W hg
  have hgd := fun W => F.refGood_any rb rl W
  rw [hg] at hgd
  have hfew := few_any v zs (w.alloc (.cells #[.int .i64 rb, .int .i64 rl] 23)) (hv.below ((Below.refl _ _).alloc (Nat.le_refl _) _))
  obtain ⟨ys, hT⟩ := tidied_exists (fewL zs) (fewL_code zs)
  have HT : Hid (Tidied (fewL zs) ys) := hT
  have hmd := fun vl W (h : RRow W vl (fewL zs)) => made_rel (oneR_u 8 12) vl (fewL zs) ys W h (by have := fewL_len zs; omega) (fewL_code zs) HT.out
  clear hT hv
  clear hg
  have hcs : n < 0 ∨ 30 < n ∨ (0 ≤ n ∧ n ≤ 30) := by omega
  rcases hcs with h0 | h0 | ⟨h0, h1⟩
  all_goals
    first | (have h2 : 0 ≤ n := by omega) | skip
    go_enter Tryz.func3, Tryz.ntmps3
    go_wp2_with fail
    refine hfew.mono ?_
    rintro e w1 ⟨vl, rfl, c1, k1⟩
    have B1 := lwB_first c1 k1
    have HB1 : Hid (LwB w w1 rb rl vl (fewL zs)) := B1
    have hm1 := hmd vl w1 B1.row.isRow
    clear c1 k1 B1
    go_wp2_with fail
    refine hm1.mono ?_
    rintro e w2 ⟨b, id, e', rfl, hb2, _⟩
    have B2 := HB1.out.go hb2
    obtain ⟨f0, f1⟩ := B2.rule0
    have HB2 : Hid (LwB w w2 rb rl vl (fewL zs)) := B2
    clear hb2 B2 hm1
    go_wp2_with fail
    refine (hst _ _ _ _ _).mono ?_
    rintro e w3 ⟨rfl, hb3⟩
    have B3 := HB2.out.go hb3
    obtain ⟨f0, f1⟩ := B3.rule0
    have HB3 : Hid (LwB w w3 rb rl vl (fewL zs)) := B3
    clear hb3 B3
    go_wp2_with fail
    refine (hgd _).mono ?_
    rintro e w4 ⟨rfl, hb4⟩
    have HB4 : Hid (Below w.heap.size w w4) := (HB3.out.go hb4).below
    clear hb4 f0 f1
    go_wp2_with fail
    go_ret
    exact ⟨rfl, HB4.out⟩
end Go.Proofs.YtofbcngcblleaaaGreat.A

namespace Go.Proofs.YtofbcngcblleaaaGreat.A
open Go.RowKit Go.Maps Go.Proofs.YtofbcngcblleaaaGreat.L
set_option maxRecDepth 20000 in
set_option maxHeartbeats 8000000 in
theorem goes_law_out (rb rl : Int) (v : Value) (zs : List (Int × Int)) (n : Int) (w : World) (hv : RRow w v zs) (hg : goodB rb rl = true) (hn : n < 0 ∨ 30 < n) :
    Calls Tryz.prog 3 #[.agg #[.int .i64 rb, .int .i64 rl], v, .int .i64 n] w fun e w' => e = .returned (.bool true) ∧ Below w.heap.size w w' := by
  have hst := fun p t id W => Leap_out p t rb rl id n W hg hn
  have hgd := fun W => F.refGood_any rb rl W
  rw [hg] at hgd
  have hfew := few_any v zs (w.alloc (.cells #[.int .i64 rb, .int .i64 rl] 23)) (hv.below ((Below.refl _ _).alloc (Nat.le_refl _) _))
  obtain ⟨ys, hT⟩ := tidied_exists (fewL zs) (fewL_code zs)
  have HT : Hid (Tidied (fewL zs) ys) := hT
  have hmd := fun vl W (h : RRow W vl (fewL zs)) => made_rel (oneR_u 8 12) vl (fewL zs) ys W h (by have := fewL_len zs; omega) (fewL_code zs) HT.out
  clear hT hv hg
  by_cases h0 : n < 0
  all_goals
    first | (have h1 : 30 < n := by omega) | skip
    first | (have h2 : 0 ≤ n := by omega) | skip
    clear hn
    go_enter Tryz.func3, Tryz.ntmps3
    go_wp2_with fail
    refine hfew.mono ?_
    rintro e w1 ⟨vl, rfl, c1, k1⟩
    have B1 := lwB_first c1 k1
    have HB1 : Hid (LwB w w1 rb rl vl (fewL zs)) := B1
    have hm1 := hmd vl w1 B1.row.isRow
    clear c1 k1 B1
    go_wp2_with fail
    refine hm1.mono ?_
    rintro e w2 ⟨b, id, e', rfl, hb2, _⟩
    have B2 := HB1.out.go hb2
    obtain ⟨f0, f1⟩ := B2.rule0
    have HB2 : Hid (LwB w w2 rb rl vl (fewL zs)) := B2
    clear hb2 B2 hm1
    go_wp2_with fail
    refine (hst _ _ _ _).mono ?_
    rintro e w3 ⟨rfl, hb3⟩
    have B3 := HB2.out.go hb3
    obtain ⟨f0, f1⟩ := B3.rule0
    have HB3 : Hid (LwB w w3 rb rl vl (fewL zs)) := B3
    clear hb3 B3
    go_wp2_with fail
    refine (hgd _).mono ?_
    rintro e w4 ⟨rfl, hb4⟩
    have HB4 : Hid (Below w.heap.size w w4) := (HB3.out.go hb4).below
    clear hb4 f0 f1
    go_wp2_with fail
    go_ret
    exact ⟨rfl, HB4.out⟩
end Go.Proofs.YtofbcngcblleaaaGreat.A

namespace Go.Proofs.YtofbcngcblleaaaGreat.A
open Go.RowKit Go.Maps Go.Proofs.YtofbcngcblleaaaGreat.L
set_option maxRecDepth 20000 in
set_option maxHeartbeats 8000000 in
theorem goes_law_good (rb rl : Int) (v : Value) (zs : List (Int × Int)) (n : Int) (w : World) (hv : RRow w v zs) (h0 : 0 ≤ n) (h1 : n ≤ 30) (hg : goodB rb rl = true) :
    Calls Tryz.prog 3 #[.agg #[.int .i64 rb, .int .i64 rl], v, .int .i64 n] w fun e w' => e = .returned (.bool true) ∧ Below w.heap.size w w' := by
  have hfew := few_any v zs (w.alloc (.cells #[.int .i64 rb, .int .i64 rl] 23)) (hv.below ((Below.refl _ _).alloc (Nat.le_refl _) _))
  obtain ⟨ys, hT⟩ := tidied_exists (fewL zs) (fewL_code zs)
  have HT : Hid (Tidied (fewL zs) ys ∧ ys.length ≤ 40) := ⟨hT, Nat.le_trans (tidied_len hT) (fewL_len zs)⟩
  have hmd := fun vl W (h : RRow W vl (fewL zs)) => made_rel (oneR_u rb rl) vl (fewL zs) ys W h (by have := fewL_len zs; omega) (fewL_code zs) HT.out.1
  have hgd := fun W => F.refGood_any rb rl W
  rw [hg] at hgd
  have HG : Hid (goodB rb rl = true ∧ lifeR rb rl false 0 = false ∧ cellsG ys = cellsG (fewL zs) ∧ Near20 (cellsG (fewL zs))) := ⟨hg, (goodR_of hg).2.2, F.tidied_plane hT (fewL_code zs), by rw [← F.tidied_plane hT (fewL_code zs)]; exact few_near20 hT⟩
  have k1 := Int.lt_tmod_of_pos n (b := 5) (by omega)
  have k2 := Int.tmod_lt_of_pos n (b := 5) (by omega)
  have k3 := Int.tmod_nonneg 5 h0
  obtain ⟨N, hN⟩ : ∃ N : Int, n.tmod 5 = N := ⟨_, rfl⟩
  rw [hN] at k1 k2 k3
  obtain ⟨k, rfl⟩ := Int.eq_ofNat_of_zero_le k3
  have HK : Hid (k < 5 ∧ 2 ^ k < 40) := ⟨by omega, by have h2 : 2 ^ k ≤ 2 ^ 4 := Nat.pow_le_pow_right (by omega) (by omega); omega⟩
  have n0 : ¬ (k : Int) < 0 := by omega
  have n1 : ¬ 30 < (k : Int) := by omega
  obtain ⟨K2, hK2⟩ : ∃ K2, K2 = 2 ^ k := ⟨_, rfl⟩
  have HK2 : Hid (K2 = 2 ^ k ∧ K2 < 40) := ⟨hK2, by rw [hK2]; exact HK.out.2⟩
  clear hK2
  clear hT hv hg k1 k2 k3
  go_enter Tryz.func3, Tryz.ntmps3
  go_wp2_with fail
  refine hfew.mono ?_
  rintro e w1 ⟨vl, rfl, c1, k1⟩
  have B1 := lwB_first c1 k1
  have HB1 : Hid (LwB w w1 rb rl vl (fewL zs)) := B1
  have hm1 := hmd vl w1 B1.row.isRow
  clear c1 k1 B1 hfew hmd
  go_wp2_with fail
  refine hm1.mono ?_
  rintro e w2 ⟨b, id, e', rfl, hb2, A2, o2, a1, a2, a3, hF⟩
  obtain ⟨rfl, hcn, hlm, M, hM1, hrt, hlg⟩ := from_fine3 a3 hF HT.out.2
  rw [HG.out.2.2.1] at hrt hlg
  have Q2 := HB1.out.mv hb2 a1 a2
  have hM6 : M ≤ 6 := least20 (s := 0) HG.out.2.1 HG.out.2.2.2 (by omega) hlg
  have hst := Leap_rel (rb := rb) (rl := rl) a1 a3 (by omega) HG.out.1 ⟨rfl, rfl⟩ id M hM1 (by omega) hrt k HK.out.1 (fun s hs A' m' x' h1 h2 _ => run_big20 HG.out.2.1 HG.out.2.2.2 (by have := HK.out.2; omega) h1 h2)
  have hf := Q2.rule
  have f0 := Lib.cell_of_heap hf 0
  have f1 := Lib.cell_of_heap hf 1
  have H2 : Hid (MvL w w2 o2 b w.heap.size rb rl A2 [(vl, fewL zs)] ∧ A2.cnt 3 ≤ 1700 ∧ A2.lim 3 = 200000) := ⟨Q2, hcn, hlm⟩
  clear hm1 hb2 a1 a2 a3 hF hcn hlm hM1 hrt hlg Q2 hM6 hf hN
  go_wp2_with fail
  refine hst.mono ?_
  rintro e w3 ⟨x, e3, rfl, A3, o3, a1, a2, a3, hS⟩
  rw [← HK2.out.1] at hS
  obtain ⟨rfl, M3, hM3, rt3, lg3, cn3, lm3⟩ : e3 = 0 ∧ ∃ M3, M3 + 1 ≤ 44 ∧ Rt A3 3 M3 x (iter (lifeR rb rl) K2 (cellsG (fewL zs))) ∧ LeastG (M3 + 1) (iter (lifeR rb rl) K2 (cellsG (fewL zs))) ∧ A3.cnt 3 ≤ 170000 ∧ A3.lim 3 = 200000 := by
    rcases hS with ⟨h1, _, _, A1, h2, h3⟩ | ⟨h1, h2, M3, h3, h4⟩
    · exact absurd h1 (steps_fine3 h2 h3 HG.out.2.1 HK2.out.2 HG.out.2.2.2 H2.out.2.1 H2.out.2.2)
    · have := least20 HG.out.2.1 HG.out.2.2.2 HK2.out.2 h3
      obtain ⟨c1, c2⟩ := steps_cnt3 a3 h2 HG.out.2.1 HK2.out.2 HG.out.2.2.2 H2.out.2.1 H2.out.2.2
      exact ⟨h1, M3, by omega, h4, h3, c1, c2⟩
  have Q3 := H2.out.1.ch a2 a1
  have hf := Q3.rule
  have f0 := Lib.cell_of_heap hf 0
  have f1 := Lib.cell_of_heap hf 1
  have H3 : Hid (MvL w w3 o3 b w.heap.size rb rl A3 [(vl, fewL zs)] ∧ NxSt (oneR rb rl) 3 (fun _ => 200000) A3 ∧ M3 + 1 ≤ 44 ∧ Rt A3 3 M3 x (iter (lifeR rb rl) K2 (cellsG (fewL zs))) ∧ LeastG (M3 + 1) (iter (lifeR rb rl) K2 (cellsG (fewL zs))) ∧ A3.cnt 3 ≤ 170000 ∧ A3.lim 3 = 200000) := ⟨Q3, a3, hM3, rt3, lg3, cn3, lm3⟩
  clear hst a1 a2 a3 hS hM3 rt3 lg3 cn3 lm3 Q3 hf H2
  go_wp2_with fail
  refine (hgd _).mono ?_
  rintro e w4 ⟨rfl, hb4⟩
  have Q4 := H3.out.1.grow hb4
  have hf := Q4.rule
  have f0 := Lib.cell_of_heap hf 0
  have f1 := Lib.cell_of_heap hf 1
  obtain ⟨o4, ho4⟩ : ∃ o4, o4 = ext o3 w3.heap.size 0 := ⟨_, rfl⟩
  rw [← ho4] at Q4
  obtain ⟨pw, hpw⟩ : ∃ pw : Int, pw = (K2 : Int) := ⟨_, rfl⟩
  have hrun := F.refRun_says rb rl pw vl (fewL zs) w4 (Q4.rows (vl, fewL zs) (by simp)).row.isRow
  have H4 : Hid (MvL w w4 o4 b w.heap.size rb rl A3 [(vl, fewL zs)] ∧ pw = (K2 : Int)) := ⟨Q4, hpw⟩
  have hk5 : k = 0 ∨ k = 1 ∨ k = 2 ∨ k = 3 ∨ k = 4 := by have := HK.out.1; omega
  have hpk : pw = ((2 ^ k : Nat) : Int) := by rw [hpw, HK2.out.1]
  clear hgd hb4 Q4 hf ho4 hpw n0 n1 HK
  rcases hk5 with rfl | rfl | rfl | rfl | rfl
  all_goals
    first | (have hp2 : pw = 1 := hpk.trans (by decide)) | (have hp2 : pw = 2 := hpk.trans (by decide)) | (have hp2 : pw = 4 := hpk.trans (by decide)) | (have hp2 : pw = 8 := hpk.trans (by decide)) | (have hp2 : pw = 16 := hpk.trans (by decide)) | fail
    clear hpk
    subst hp2
    go_wp2_with fail
    refine hrun.mono ?_
    rintro e w5 ⟨uw, cw, ts, rfl, hb5, hrw, hri⟩
    have Q5 := H4.out.1.grow hb5
    have HB5 : Hid (Below w.heap.size w w5) := Q5.below
    by_cases hcw : cw = 0
    · subst hcw
      have hto := run_to H4.out.2 (by have := HK2.out.2; omega) HG.out.1 hri
      have hce := cells_rel (t := 3) Q5.ar H3.out.2.1 (by omega) H3.out.2.2.2.1 H3.out.2.2.1 (run_big20 HG.out.2.1 HG.out.2.2.2 HK2.out.2 H3.out.2.1 H3.out.2.2.2.1)
      obtain ⟨o5, ho5⟩ : ∃ o5, o5 = ext o4 w4.heap.size 0 := ⟨_, rfl⟩
      rw [← ho5] at Q5
      have H5 : Hid (MvL w w5 o5 b w.heap.size rb rl A3 [(uw, ts), (vl, fewL zs)] ∧ F.StepsTo rb rl (fewL zs) K2 0 ts) := ⟨⟨Q5.ar, Q5.rule, Q5.lr, fun z hz => by
        rcases List.mem_cons.1 hz with rfl | hz
        · rcases hrw.1 with h | ⟨h0, bb, off, c, h1, h2, h3, h4, h5⟩
          · exact Or.inl h
          · have := hrw.2 bb (by rw [h1]; rfl)
            exact Or.inr ⟨h0, bb, off, c, h1, by rw [ho5, ext_new this]; decide, h2, h3, h4, h5⟩
        · exact Q5.rows z hz, Q5.below, Q5.low⟩, hto⟩
      clear hrun hb5 hrw hri Q5 H4 hto f0 f1 ho5 HB5
      go_wp2_with fail
      refine hce.mono ?_
      intro e w6 hC
      obtain ⟨ug, rfl, r6, hb6⟩ := cells_told hC H5.out.2
      have Q6 := (H5.out.1.grow hb6).more r6
      obtain ⟨o6, ho6⟩ : ∃ o6, o6 = ext o5 w5.heap.size 0 := ⟨_, rfl⟩
      rw [← ho6] at Q6
      have hpl := peel_rel (t := 3) Q6.ar H3.out.2.1 (by omega) x M3 (by have := H3.out.2.2.2.2.1.two; omega) H3.out.2.2.1 H3.out.2.2.2.1.lev (run_big20 HG.out.2.1 HG.out.2.2.2 HK2.out.2 H3.out.2.1 H3.out.2.2.2.1)
      have H6 : Hid (MvL w w6 o6 b w.heap.size rb rl A3 [(ug, ts), (uw, ts), (vl, fewL zs)]) := Q6
      clear hce hC r6 hb6 H5 Q6 ho6
      go_wp2_with fail
      refine hpl.mono ?_
      rintro e w7 ⟨x2, e7, rfl, A7, o7, a1, a2, a3, a4, a5⟩
      obtain ⟨rfl, rfl⟩ := peel_same H3.out.2.1 a3 H3.out.2.2.2.1 H3.out.2.2.2.2.1 H3.out.2.2.2.2.2.1 H3.out.2.2.2.2.2.2 a4 a5
      have Q7 := H6.out.ch a2 a1
      have hsm := sameC_any ug uw ts w7 (Q7.rows (ug, ts) (by simp)).row (Q7.rows (uw, ts) (by simp)).row
      have HB7 : Hid (Below w.heap.size w w7) := Q7.below
      have hxx : (x2 == x2) = true := by simp
      clear hpl a1 a2 a3 a4 a5 Q7 H6 H3
      go_wp2_with fail
      refine hsm.mono ?_
      rintro e w8 ⟨rfl, hb8⟩
      have HE := HB7.out.trans (hb8.mono HB7.out.size)
      clear hsm hb8
      go_wp2_with fail
      go_ret
      exact ⟨rfl, HE⟩
    · have hne : (cw != 0) = true := by simpa using hcw
      clear hrun hb5 hrw hri Q5 H3 H4 hcw f0 f1
      go_wp2_with fail
      go_ret
      exact ⟨rfl, HB5.out⟩
end Go.Proofs.YtofbcngcblleaaaGreat.A

namespace Go.Proofs.YtofbcngcblleaaaGreat.A
open Go.RowKit Go.Maps Go.Proofs.YtofbcngcblleaaaGreat.L
theorem goes_law (rb rl : Int) (v : Value) (zs : List (Int × Int)) (n : Int) (w : World) (hv : RRow w v zs) :
    Calls Tryz.prog 3 #[.agg #[.int .i64 rb, .int .i64 rl], v, .int .i64 n] w fun e w' => e = .returned (.bool true) ∧ Below w.heap.size w w' := by
  cases hg : goodB rb rl with
  | false => exact goes_law_bad rb rl v zs n w hv hg
  | true =>
    by_cases hn : n < 0 ∨ 30 < n
    · exact goes_law_out rb rl v zs n w hv hg hn
    · exact goes_law_good rb rl v zs n w hv (by omega) (by omega) hg
end Go.Proofs.YtofbcngcblleaaaGreat.A

namespace Go.Proofs.YtofbcngcblleaaaGreat
open Go.ChangeShapes Go.WideShapes Go.ChangeAt Go.RowKit Go.Joins
set_option maxRecDepth 100000 in
theorem goes_lifted (os : Os) (started : os.Started) (H : Type) (enc : TypeId × Value → H) :
    ReturnsInHanded {} Tryz.checked os 3 .any (Rows.leapGoesSpec.pre6 enc Tryz.prog Tryz.f3 Rows.leapGoesRow.domain false) (Rows.leapGoesSpec.post enc Tryz.prog Tryz.f3 false true false false) := by
  refine returnsInHanded_of_change_sized (C := Tryz.checked) (by kernel_rfl) started (by kernel_rfl) Tryz.func3
    (ChangeSpec.witness6 (enc := enc) (C := Tryz.checked) false ⟨#[], #[.agg #[.int .i64 0, .int .i64 0], .slice none 0 0, .int .i64 0], []⟩ 6 (by kernel_rfl) (by kernel_rfl) (by kernel_rfl) (by kernel_rfl)) ?_
  intro W base args ds gs before hval0 hW _ hsz0 _
  have hsz : (DataW.weightsEach Tryz.prog (Tryz.f3.params.toList ++ Rows.leapGoesSpec.plain.varTypes Tryz.prog) (ds ++ gs)).all (· ≤ reachBytes) = true := hsz0
  clear hsz0
  have hval : ∀ (j : Nat) t v, Tryz.f3.params[j]? = some t → args[j]? = some v → Value.okWide Tryz.prog W .any base t v := hval0
  have hW' := hW
  obtain ⟨p, q, hA0, hV, rfl, _, _⟩ := hW
  have hA : DataW.TrodAll enc Tryz.prog W 0 (fun _ => true) true Tryz.f3.params.toList args.toList ds p := hA0
  rw [Tryz.params3] at hA hval hsz
  obtain ⟨v0, v1, v2, d0, d1, d2, p0, p1, p2, rfl, rfl, rfl, h0, h1, h2⟩ := trodAll_3b hA
  obtain ⟨rfl, rfl⟩ := trodVars_none hV
  obtain ⟨b, l, rfl, rfl, hr⟩ := open_arule (hval 0 23 v0 rfl rfl) h0
  obtain ⟨n, rfl, rfl, rfl, wn⟩ := open_int Tryz.underlying3 (hval 2 3 v2 rfl rfl) h2
  clear hA0 hval0
  simp only [List.append_nil, List.nil_append] at hW'
  have hlt : ∀ x ∈ p1, x.block < W.heap.size := fun x hx => by simpa using hW'.lt x (by simpa using hx)
  obtain ⟨zs, hrow⟩ := open_cellrow 1 hsz rfl rfl h1 hlt (by obtain ⟨a, l, c, e⟩ := okWide_slice Tryz.underlying24 (hval 1 24 v1 rfl rfl); exact ⟨a, l, c, e⟩)
  have hargs : ∀ (W' : World), Below W.heap.size W W' → DataW.Trod enc Tryz.prog W' 0 (fun b => decide (b < W.heap.size)) true 24 v1 d1 p1 :=
    fun W' hb => Below.trod Tryz.laidOut (by kernel_rfl) (of_decide_eq_true (by kernel_rfl)) h1 hb hlt
  refine (A.goes_law b l v1 zs n W hrow).mono fun e W' ⟨he, hb⟩ => ?_
  subst he
  refine ⟨_, rfl, _, _, _, [], [] ++ (p1 ++ []), [], hW', ?_, ?_, rfl, hb.frame _, fun h => by cases h⟩
  · exact trodAll_mk1 (shut_bool Tryz.underlying4 true)
  · exact ⟨_, _, hr _ _, trodAll_mk2 (hargs _ hb) (shut_int Tryz.underlying3 wn), rfl⟩
theorem goes_holds : Rows.LeapGoesSaid :=
  OpenClaim.holds_of_wide 3 Tryz.f3 rfl rfl rfl rfl rfl rfl rfl ⟨rfl, rfl, rfl, rfl, rfl⟩ rfl rfl rfl rfl rfl (by kernel_rfl) Tryz.func3 (by kernel_rfl)
    (of_decide_eq_true (by kernel_rfl)) (by unfold Func.isWrapper; first | (rw [if_pos (by decide +kernel)]; kernel_rfl) | (rw [if_neg (by decide +kernel)]; exact ⟨rfl, rfl⟩))
    (fun os started H enc _ => goes_lifted os started H enc)
#print axioms goes_holds
end Go.Proofs.YtofbcngcblleaaaGreat
