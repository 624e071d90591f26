/- PROVED: for all rules, all lists of cells, of whatever length a slice may have, made of at most 40 cells near 0, and all numbers (made less than 40 where they are numbers of steps), LeapSteps answers true (Steps makes a root of just the cells that live so many steps later by the document's own reckoning, or tells the document's error: P6.2), and the input is left as it was. No condition. -/
import Derived.Test.YtofbcngcblleaaaGreatLpStB
import Derived.Test.YtofbcngcblleaaaGreatLpOpenA
namespace Go.Proofs.YtofbcngcblleaaaGreat.A
open Go.RowKit Go.Maps Go.Proofs.YtofbcngcblleaaaGreat.L
set_option maxRecDepth 20000 in
set_option maxHeartbeats 8000000 in
theorem steps_law_out (rb rl : Int) (v : Value) (zs : List (Int × Int)) (n : Int) (w : World) (hv : RRow w v zs) (hn : n < 0 ∨ 1073741824 < n) :
    Calls Tryz.prog 4 #[.agg #[.int .i64 rb, .int .i64 rl], v, .int .i64 n] w fun e w' => e = .returned (.bool true) ∧ Below w.heap.size w w' := by
  have hst := fun p t id W => Steps_out p t rb rl id n W hn
  have hfew := few_any v zs (w.alloc (.cells #[.int .i64 rb, .int .i64 rl] 23)) (hv.below ((Below.refl _ _).alloc (Nat.le_refl _) _))
  obtain ⟨ys, hT⟩ := tidied_exists (fewL zs) (fewL_code zs)
  have HT : Hid (Tidied (fewL zs) ys) := hT
  have hmd := fun vl W (h : RRow W vl (fewL zs)) => made_rel (oneR_u 8 12) vl (fewL zs) ys W h (by have := fewL_len zs; omega) (fewL_code zs) HT.out
  clear hT hv
  by_cases h0 : n < 0
  all_goals
    first | (have h1 : 1073741824 < n := by omega) | skip
    first | (have h2 : 0 ≤ n := by omega) | skip
    clear hn
    go_enter Tryz.func4, Tryz.ntmps4
    go_wp2_with fail
    refine hfew.mono ?_
    rintro e w1 ⟨vl, rfl, c1, k1⟩
    have B1 := lwB_first c1 k1
    have HB1 : Hid (LwB w w1 rb rl vl (fewL zs)) := B1
    have hm1 := hmd vl w1 B1.row.isRow
    clear c1 k1 B1
    go_wp2_with fail
    refine hm1.mono ?_
    rintro e w2 ⟨b, id, e', rfl, hb2, _⟩
    have B2 := HB1.out.go hb2
    obtain ⟨f0, f1⟩ := B2.rule0
    have HB2 : Hid (LwB w w2 rb rl vl (fewL zs)) := B2
    clear hb2 B2 hm1
    go_wp2_with fail
    refine (hst _ _ _ _).mono ?_
    rintro e w3 ⟨rfl, hb3⟩
    have HB3 : Hid (Below w.heap.size w w3) := (HB2.out.go hb3).below
    clear hb3 f0 f1
    go_wp2_with fail
    go_ret
    exact ⟨rfl, HB3.out⟩
end Go.Proofs.YtofbcngcblleaaaGreat.A

namespace Go.Proofs.YtofbcngcblleaaaGreat.A
open Go.RowKit Go.Maps Go.Proofs.YtofbcngcblleaaaGreat.L
set_option maxRecDepth 20000 in
set_option maxHeartbeats 8000000 in
theorem steps_law_bad (rb rl : Int) (v : Value) (zs : List (Int × Int)) (n : Int) (w : World) (hv : RRow w v zs) (h0 : 0 ≤ n) (h1 : n ≤ 1073741824) (hg : goodB rb rl = false) :
    Calls Tryz.prog 4 #[.agg #[.int .i64 rb, .int .i64 rl], v, .int .i64 n] w fun e w' => e = .returned (.bool true) ∧ Below w.heap.size w w' := by
  have hfew := few_any v zs (w.alloc (.cells #[.int .i64 rb, .int .i64 rl] 23)) (hv.below ((Below.refl _ _).alloc (Nat.le_refl _) _))
  obtain ⟨ys, hT⟩ := tidied_exists (fewL zs) (fewL_code zs)
  have HT : Hid (Tidied (fewL zs) ys) := hT
  have hmd := fun vl W (h : RRow W vl (fewL zs)) => made_rel (oneR_u 8 12) vl (fewL zs) ys W h (by have := fewL_len zs; omega) (fewL_code zs) HT.out
  have hgd := fun W => F.refGood_any rb rl W
  rw [hg] at hgd
  have k1 := Int.lt_tmod_of_pos n (b := 40) (by omega)
  have k2 := Int.tmod_lt_of_pos n (b := 40) (by omega)
  have k3 := Int.tmod_nonneg 40 h0
  obtain ⟨N, hN⟩ : ∃ N : Int, n.tmod 40 = N := ⟨_, rfl⟩
  rw [hN] at k1 k2 k3
  have hst := fun p t id W => Steps_bad p t rb rl id N W (by omega) (by omega) hg
  have n0 : ¬ N < 0 := by omega
  have n1 : ¬ 1073741824 < N := by omega
  clear hT hv hg k1 k2 k3
  go_enter Tryz.func4, Tryz.ntmps4
  go_wp2_with fail
  refine hfew.mono ?_
  rintro e w1 ⟨vl, rfl, c1, k1⟩
  have B1 := lwB_first c1 k1
  have HB1 : Hid (LwB w w1 rb rl vl (fewL zs)) := B1
  have hm1 := hmd vl w1 B1.row.isRow
  clear c1 k1 B1
  go_wp2_with fail
  refine hm1.mono ?_
  rintro e w2 ⟨b, id, e', rfl, hb2, _⟩
  have B2 := HB1.out.go hb2
  obtain ⟨f0, f1⟩ := B2.rule0
  have HB2 : Hid (LwB w w2 rb rl vl (fewL zs)) := B2
  clear hb2 B2 hm1 hN
  go_wp2_with fail
  refine (hst _ _ _ _).mono ?_
  rintro e w3 ⟨rfl, hb3⟩
  have B3 := HB2.out.go hb3
  obtain ⟨f0, f1⟩ := B3.rule0
  have HB3 : Hid (LwB w w3 rb rl vl (fewL zs)) := B3
  clear hb3 B3 hst
  go_wp2_with fail
  refine (hgd _).mono ?_
  rintro e w4 ⟨rfl, hb4⟩
  have HB4 : Hid (Below w.heap.size w w4) := (HB3.out.go hb4).below
  clear hb4 f0 f1
  go_wp2_with fail
  go_ret
  exact ⟨rfl, HB4.out⟩
end Go.Proofs.YtofbcngcblleaaaGreat.A

namespace Go.Proofs.YtofbcngcblleaaaGreat.A
open Go.RowKit Go.Maps Go.Proofs.YtofbcngcblleaaaGreat.L
set_option maxRecDepth 20000 in
set_option maxHeartbeats 8000000 in
theorem steps_law_good (rb rl : Int) (v : Value) (zs : List (Int × Int)) (n : Int) (w : World) (hv : RRow w v zs) (h0 : 0 ≤ n) (h1 : n ≤ 1073741824) (hg : goodB rb rl = true) :
    Calls Tryz.prog 4 #[.agg #[.int .i64 rb, .int .i64 rl], v, .int .i64 n] w fun e w' => e = .returned (.bool true) ∧ Below w.heap.size w w' := by
  have hfew := few_any v zs (w.alloc (.cells #[.int .i64 rb, .int .i64 rl] 23)) (hv.below ((Below.refl _ _).alloc (Nat.le_refl _) _))
  obtain ⟨ys, hT⟩ := tidied_exists (fewL zs) (fewL_code zs)
  have HT : Hid (Tidied (fewL zs) ys ∧ ys.length ≤ 40) := ⟨hT, Nat.le_trans (tidied_len hT) (fewL_len zs)⟩
  have hmd := fun vl W (h : RRow W vl (fewL zs)) => made_rel (oneR_u rb rl) vl (fewL zs) ys W h (by have := fewL_len zs; omega) (fewL_code zs) HT.out.1
  have hgd := fun W => F.refGood_any rb rl W
  rw [hg] at hgd
  have HG : Hid (goodB rb rl = true ∧ lifeR rb rl false 0 = false ∧ cellsG ys = cellsG (fewL zs) ∧ Near20 (cellsG (fewL zs))) := ⟨hg, (goodR_of hg).2.2, F.tidied_plane hT (fewL_code zs), by rw [← F.tidied_plane hT (fewL_code zs)]; exact few_near20 hT⟩
  have k1 := Int.lt_tmod_of_pos n (b := 40) (by omega)
  have k2 := Int.tmod_lt_of_pos n (b := 40) (by omega)
  have k3 := Int.tmod_nonneg 40 h0
  obtain ⟨N, hN⟩ : ∃ N : Int, n.tmod 40 = N := ⟨_, rfl⟩
  rw [hN] at k1 k2 k3
  obtain ⟨k, rfl⟩ := Int.eq_ofNat_of_zero_le k3
  have HK : Hid (k < 40) := by show k < 40; omega
  have n0 : ¬ (k : Int) < 0 := by omega
  have n1 : ¬ 1073741824 < (k : Int) := by omega
  clear hT hv hg k1 k2 k3
  go_enter Tryz.func4, Tryz.ntmps4
  go_wp2_with fail
  refine hfew.mono ?_
  rintro e w1 ⟨vl, rfl, c1, k1⟩
  have B1 := lwB_first c1 k1
  have HB1 : Hid (LwB w w1 rb rl vl (fewL zs)) := B1
  have hm1 := hmd vl w1 B1.row.isRow
  clear c1 k1 B1 hfew hmd
  go_wp2_with fail
  refine hm1.mono ?_
  rintro e w2 ⟨b, id, e', rfl, hb2, A2, o2, a1, a2, a3, hF⟩
  obtain ⟨rfl, hcn, hlm, M, hM1, hrt, hlg⟩ := from_fine3 a3 hF HT.out.2
  rw [HG.out.2.2.1] at hrt hlg
  have Q2 := HB1.out.mv hb2 a1 a2
  have hM6 : M ≤ 6 := least20 (s := 0) HG.out.2.1 HG.out.2.2.2 (by omega) hlg
  have hst := Steps_rel (rb := rb) (rl := rl) a1 a3 (by omega) HG.out.1 ⟨rfl, rfl⟩ id M hM1 (by omega) hrt k (by have := HK.out; omega) (fun s hs A' m' x' h1 h2 _ => run_big20 HG.out.2.1 HG.out.2.2.2 (by have := HK.out; omega) h1 h2)
  have hf := Q2.rule
  have f0 := Lib.cell_of_heap hf 0
  have f1 := Lib.cell_of_heap hf 1
  have H2 : Hid (MvL w w2 o2 b w.heap.size rb rl A2 [(vl, fewL zs)] ∧ A2.cnt 3 ≤ 1700 ∧ A2.lim 3 = 200000) := ⟨Q2, hcn, hlm⟩
  clear hm1 hb2 a1 a2 a3 hF hcn hlm hM1 hrt hlg Q2 hM6 hf hN
  go_wp2_with fail
  refine hst.mono ?_
  rintro e w3 ⟨x, e3, rfl, A3, o3, a1, a2, a3, hS⟩
  obtain ⟨rfl, M3, hM3, rt3⟩ : e3 = 0 ∧ ∃ M3, M3 + 1 ≤ 44 ∧ Rt A3 3 M3 x (iter (lifeR rb rl) k (cellsG (fewL zs))) := by
    rcases hS with ⟨h1, _, _, A1, h2, h3⟩ | ⟨h1, h2, M3, h3, h4⟩
    · exact absurd h1 (steps_fine3 h2 h3 HG.out.2.1 HK.out HG.out.2.2.2 H2.out.2.1 H2.out.2.2)
    · have := least20 HG.out.2.1 HG.out.2.2.2 HK.out h3
      exact ⟨h1, M3, by omega, h4⟩
  have Q3 := H2.out.1.ch a2 a1
  have hf := Q3.rule
  have f0 := Lib.cell_of_heap hf 0
  have f1 := Lib.cell_of_heap hf 1
  have H3 : Hid (MvL w w3 o3 b w.heap.size rb rl A3 [(vl, fewL zs)] ∧ NxSt (oneR rb rl) 3 (fun _ => 200000) A3 ∧ M3 + 1 ≤ 44 ∧ Rt A3 3 M3 x (iter (lifeR rb rl) k (cellsG (fewL zs)))) := ⟨Q3, a3, hM3, rt3⟩
  clear hst a1 a2 a3 hS hM3 rt3 Q3 hf H2
  go_wp2_with fail
  refine (hgd _).mono ?_
  rintro e w4 ⟨rfl, hb4⟩
  have Q4 := H3.out.1.grow hb4
  have hf := Q4.rule
  have f0 := Lib.cell_of_heap hf 0
  have f1 := Lib.cell_of_heap hf 1
  obtain ⟨o4, ho4⟩ : ∃ o4, o4 = ext o3 w3.heap.size 0 := ⟨_, rfl⟩
  rw [← ho4] at Q4
  have hrun := F.refRun_says rb rl (k : Int) vl (fewL zs) w4 (Q4.rows (vl, fewL zs) (by simp)).row.isRow
  have H4 : Hid (MvL w w4 o4 b w.heap.size rb rl A3 [(vl, fewL zs)]) := Q4
  clear hgd hb4 Q4 hf ho4
  go_wp2_with fail
  refine hrun.mono ?_
  rintro e w5 ⟨uw, cw, ts, rfl, hb5, hrw, hri⟩
  have Q5 := H4.out.grow hb5
  have HB5 : Hid (Below w.heap.size w w5) := Q5.below
  by_cases hcw : cw = 0
  · subst hcw
    have hto : F.StepsTo rb rl (fewL zs) k 0 ts := by
      unfold F.RunIs at hri
      rw [if_neg (by have := HK.out; omega), if_neg (by rw [HG.out.1]; simp)] at hri
      simpa using hri
    have hce := cells_rel (t := 3) Q5.ar H3.out.2.1 (by omega) H3.out.2.2.2 H3.out.2.2.1 (run_big20 HG.out.2.1 HG.out.2.2.2 HK.out H3.out.2.1 H3.out.2.2.2)
    have H5 : Hid (Row w5 uw ts ∧ F.StepsTo rb rl (fewL zs) k 0 ts) := ⟨hrw.1, hto⟩
    clear hrun hb5 hrw hri Q5 H3 H4 hto f0 f1
    go_wp2_with fail
    refine hce.mono ?_
    intro e w6 hC
    obtain ⟨ug, rfl, r6, hb6⟩ := cells_told hC H5.out.2
    have hsm := sameC_any ug uw ts w6 r6.read (H5.out.1.below hb6)
    have HB6 : Hid (Below w.heap.size w w6) := HB5.out.trans (hb6.mono HB5.out.size)
    clear hce hC r6 hb6 H5
    go_wp2_with fail
    refine hsm.mono ?_
    rintro e w7 ⟨rfl, hb7⟩
    have HE := HB6.out.trans (hb7.mono HB6.out.size)
    clear hsm hb7
    go_wp2_with fail
    go_ret
    exact ⟨rfl, HE⟩
  · have hne : (cw != 0) = true := by simpa using hcw
    clear hrun hb5 hrw hri Q5 H3 H4 hcw f0 f1
    go_wp2_with fail
    go_ret
    exact ⟨rfl, HB5.out⟩
end Go.Proofs.YtofbcngcblleaaaGreat.A

namespace Go.Proofs.YtofbcngcblleaaaGreat.A
open Go.RowKit Go.Maps Go.Proofs.YtofbcngcblleaaaGreat.L
theorem steps_law (rb rl : Int) (v : Value) (zs : List (Int × Int)) (n : Int) (w : World) (hv : RRow w v zs) :
    Calls Tryz.prog 4 #[.agg #[.int .i64 rb, .int .i64 rl], v, .int .i64 n] w fun e w' => e = .returned (.bool true) ∧ Below w.heap.size w w' := by
  by_cases hn : n < 0 ∨ 1073741824 < n
  · exact steps_law_out rb rl v zs n w hv hn
  · cases hg : goodB rb rl with
    | false => exact steps_law_bad rb rl v zs n w hv (by omega) (by omega) hg
    | true => exact steps_law_good rb rl v zs n w hv (by omega) (by omega) hg
end Go.Proofs.YtofbcngcblleaaaGreat.A

namespace Go.Proofs.YtofbcngcblleaaaGreat
open Go.ChangeShapes Go.WideShapes Go.ChangeAt Go.RowKit Go.Joins
set_option maxRecDepth 100000 in
theorem steps_lifted (os : Os) (started : os.Started) (H : Type) (enc : TypeId × Value → H) :
    ReturnsInHanded {} Tryz.checked os 4 .any (Rows.leapStepsSpec.pre6 enc Tryz.prog Tryz.f4 Rows.leapStepsRow.domain false) (Rows.leapStepsSpec.post enc Tryz.prog Tryz.f4 false true false false) := by
  refine returnsInHanded_of_change_sized (C := Tryz.checked) (by kernel_rfl) started (by kernel_rfl) Tryz.func4
    (ChangeSpec.witness6 (enc := enc) (C := Tryz.checked) false ⟨#[], #[.agg #[.int .i64 0, .int .i64 0], .slice none 0 0, .int .i64 0], []⟩ 6 (by kernel_rfl) (by kernel_rfl) (by kernel_rfl) (by kernel_rfl)) ?_
  intro W base args ds gs before hval0 hW _ hsz0 _
  have hsz : (DataW.weightsEach Tryz.prog (Tryz.f4.params.toList ++ Rows.leapStepsSpec.plain.varTypes Tryz.prog) (ds ++ gs)).all (· ≤ reachBytes) = true := hsz0
  clear hsz0
  have hval : ∀ (j : Nat) t v, Tryz.f4.params[j]? = some t → args[j]? = some v → Value.okWide Tryz.prog W .any base t v := hval0
  have hW' := hW
  obtain ⟨p, q, hA0, hV, rfl, _, _⟩ := hW
  have hA : DataW.TrodAll enc Tryz.prog W 0 (fun _ => true) true Tryz.f4.params.toList args.toList ds p := hA0
  rw [Tryz.params4] at hA hval hsz
  obtain ⟨v0, v1, v2, d0, d1, d2, p0, p1, p2, rfl, rfl, rfl, h0, h1, h2⟩ := trodAll_3b hA
  obtain ⟨rfl, rfl⟩ := trodVars_none hV
  obtain ⟨b, l, rfl, rfl, hr⟩ := open_arule (hval 0 23 v0 rfl rfl) h0
  obtain ⟨n, rfl, rfl, rfl, wn⟩ := open_int Tryz.underlying3 (hval 2 3 v2 rfl rfl) h2
  clear hA0 hval0
  simp only [List.append_nil, List.nil_append] at hW'
  have hlt : ∀ x ∈ p1, x.block < W.heap.size := fun x hx => by simpa using hW'.lt x (by simpa using hx)
  obtain ⟨zs, hrow⟩ := open_cellrow 1 hsz rfl rfl h1 hlt (by obtain ⟨a, l, c, e⟩ := okWide_slice Tryz.underlying24 (hval 1 24 v1 rfl rfl); exact ⟨a, l, c, e⟩)
  have hargs : ∀ (W' : World), Below W.heap.size W W' → DataW.Trod enc Tryz.prog W' 0 (fun b => decide (b < W.heap.size)) true 24 v1 d1 p1 :=
    fun W' hb => Below.trod Tryz.laidOut (by kernel_rfl) (of_decide_eq_true (by kernel_rfl)) h1 hb hlt
  refine (A.steps_law b l v1 zs n W hrow).mono fun e W' ⟨he, hb⟩ => ?_
  subst he
  refine ⟨_, rfl, _, _, _, [], [] ++ (p1 ++ []), [], hW', ?_, ?_, rfl, hb.frame _, fun h => by cases h⟩
  · exact trodAll_mk1 (shut_bool Tryz.underlying4 true)
  · exact ⟨_, _, hr _ _, trodAll_mk2 (hargs _ hb) (shut_int Tryz.underlying3 wn), rfl⟩
theorem steps_holds : Rows.LeapStepsSaid :=
  OpenClaim.holds_of_wide 4 Tryz.f4 rfl rfl rfl rfl rfl rfl rfl ⟨rfl, rfl, rfl, rfl, rfl⟩ rfl rfl rfl rfl rfl (by kernel_rfl) Tryz.func4 (by kernel_rfl)
    (of_decide_eq_true (by kernel_rfl)) (by unfold Func.isWrapper; first | (rw [if_pos (by decide +kernel)]; kernel_rfl) | (rw [if_neg (by decide +kernel)]; exact ⟨rfl, rfl⟩))
    (fun os started H enc _ => steps_lifted os started H enc)
#print axioms steps_holds
end Go.Proofs.YtofbcngcblleaaaGreat
