/- QuadShared: the law's walk. -/
import Derived.Test.YthobobgiendcfaaSqSub
namespace Go.Proofs.Ythobobgiendcfaa.A
open Go.RowKit Go.Maps

set_option maxRecDepth 20000 in
set_option maxHeartbeats 8000000 in
theorem shared_any (v : Value) (zs : List (Int × Int)) (T U : Int) (w : World) (hrow : RRow w v zs) :
    Calls Try.prog 14 #[v, .int .i64 T, .int .i64 U] w fun e w' => e = .returned (.bool true) ∧ Below w.heap.size w w' := by
  have c1 : ∀ W, RRow W v zs → Calls Try.prog 53 #[v, .int .i64 200, .int .i64 549755813888] W fun e w' => ∃ u, e = .returned u ∧ Below W.heap.size W w' ∧ Kept w' W.heap.size u (someL 200 549755813888 zs) := fun W h => some_any v zs 200 549755813888 W h (by omega) (by omega) (by omega)
  have c2 := fun W => spot_any T 62 W (by omega) (by omega)
  have c3 := fun W => spot_any U 62 W (by omega) (by omega)
  obtain ⟨t, ht62, ht⟩ : ∃ t : Nat, t < 62 ∧ spotI T 62 = (t : Int) := ⟨(spotI T 62).toNat, by have := spotI_bound T 62 (by omega); omega, by have := spotI_bound T 62 (by omega); omega⟩
  obtain ⟨u, hu62, hu⟩ : ∃ u : Nat, u < 62 ∧ spotI U 62 = (u : Int) := ⟨(spotI U 62).toNat, by have := spotI_bound U 62 (by omega); omega, by have := spotI_bound U 62 (by omega); omega⟩
  rw [ht] at c2
  rw [hu] at c3
  have c4 := fun W => begun_any W
  clear ht hu
  go_enter Try.func14, Try.ntmps14
  go_wp2_with fail
  refine (c1 _ hrow).mono ?_
  rintro e w1 ⟨u1, rfl, hb1, hk1⟩
  have R1 := rowIn_kept hk1
  clear c1 hk1 hrow
  go_wp2_with fail
  refine (c2 _).mono ?_
  rintro e w1' ⟨rfl, hw⟩
  have hw' := hw.symm
  subst hw'
  clear c2 hw
  go_wp2_with fail
  refine (c3 _).mono ?_
  rintro e w1' ⟨rfl, hw⟩
  have hw' := hw.symm
  subst hw'
  clear c3 hw
  go_wp2_with fail
  refine (c4 _).mono ?_
  rintro e w2 ⟨b, F, rfl, hA2, hF2, hb2⟩
  have b2 : Below w.heap.size w w2 := hb1.trans (hb2.mono hb1.size)
  obtain ⟨L, hL⟩ : ∃ L, L = someL 200 549755813888 zs := ⟨_, rfl⟩
  rw [← hL] at R1
  have hcode : tcode L = 0 := by rw [hL]; exact someL_code (by omega) (by omega) (by omega) zs
  have hlen : L.length ≤ 200 := by rw [hL]; exact someL_len _ _ _
  obtain ⟨ys, hys⟩ := tidied_exists L
  have hyl : ys.length ≤ 200 := Nat.le_trans (tidied_len hys) hlen
  have R2 := R1.apart (apart_of_below hb2 F) (fun k _ h2 e => by have := hF2 k e; omega)
  have c5 := from_any b 1 t 30000 F arBegun u1 L ys w2 hA2 (by omega) begun_inv R2.row hcode hys (begun_pur t _ (by omega) (by omega))
  clear c4 hL
  go_wp2_with fail
  refine c5.mono ?_
  rintro e w3 ⟨p, rfl, A3, F3, n3, N3, lv, hA3, hF3, P3, hI3, hP3, g3, s3, hL3, hlv3, hl3, hc3⟩
  have b3 : Below w.heap.size w w3 := below_apart b2 P3 (fun k e => by have := hF2 k e; have := hb1.size; omega)
  have R3 := R2.apart P3 (fun k _ h2 e => by have := hF2 k e; omega)
  have hfr3 := hP3.bud.free
  have hfw3 := hP3.bud.young.few
  have c6 := Live_any b n3 F3 A3 w3 hA3 hfr3 hfw3
  have c7 := fun W h => Count_any b n3 t F3 A3 W h (by omega)
  have hF3w : ∀ k, F3 k → w1.heap.size ≤ k := fun k e => by
    rcases hF3 k e with h | h
    · exact hF2 k h
    · have := hb2.size; omega
  have hP3u : Pur A3 u 20000 n3 := by
    refine ⟨hP3.bud.less (by omega), ?_, by have := hP3.nn; omega⟩
    have h1 := (hI3.cnt u (by omega))
    rw [g3.lim, begun_lim]
    rw [g3.cnt, upd]
    have hq := hP3.quo
    rw [g3.cnt, upd, if_pos rfl, g3.lim, begun_lim] at hq
    split
    · omega
    · rw [begun_cnt0 u (by omega)]; omega
  clear c5
  go_wp2_with fail
  refine c6.mono ?_
  rintro e w4 ⟨rfl, hb4⟩
  have hA4 := hA3.below hb4
  clear c6
  go_wp2_with fail
  refine (c7 _ hA4).mono ?_
  rintro e w4' ⟨rfl, hw⟩
  have hw' := hw.symm
  subst hw'
  have b4 : Below w.heap.size w w4 := b3.trans (hb4.mono b3.size)
  have R4 := R3.apart (apart_of_below hb4 F3) (fun k _ h2 e => by have := hF3w k e; omega)
  have c8 := from_any b n3 u 5000 F3 A3 u1 L ys w4 hA4 (by omega) hI3 R4.row hcode hys (hP3u.less (by omega))
  clear c7 hw
  go_wp2_with fail
  refine c8.mono ?_
  rintro e w5 ⟨q, rfl, A5, F5, n5, N5, lv5, hA5, hF5, P5, hI5, hP5, g5, s5, hL5, hlv5, hl5, hc5⟩
  have b5 : Below w.heap.size w w5 := below_apart b4 P5 (fun k e => by have := hF3w k e; have := hb1.size; omega)
  obtain rfl : lv5 = lv := hL5.unique hL3
  have hpq : q = p := cells_one hI5.good hI5.uniq lv5 q p (glevel_of hl5) (glevel_ext (glevel_of hl3) g5.ext) (fun x => by rw [hc5 x, cells_ext hI3.good g5.ext _ _ (glevel_of hl3), hc3 x])
  subst hpq
  obtain ⟨hlen5, hsm, hdf⟩ := shared_gain g3 g5 hI3 hI5 (bare_of begun_inv (by omega) (begun_cnt0 t (by omega))) (bare_of begun_inv (by omega) (begun_cnt0 u (by omega))) s3 s5 hl3 hl5
  have hct : A5.cnt t = A3.cnt t ∧ A5.cnt u = A3.cnt t := by
    by_cases e : u = t
    · have h1 := hsm e
      subst e
      rw [g5.cnt, upd, if_pos rfl, h1]
      simp
    · have h1 := hdf e
      have h2 : A3.cnt u = 0 := by rw [g3.cnt, upd, if_neg e]; exact begun_cnt0 u (by omega)
      have h3 : A3.cnt t = (N3.length : Int) := by rw [g3.cnt, upd, if_pos rfl, begun_cnt0 t (by omega)]; omega
      rw [g5.cnt]
      refine ⟨by rw [upd, if_neg (fun x => e x.symm)], ?_⟩
      rw [upd, if_pos rfl, h2, h1, h3]
      omega
  have hfr5 := hP5.bud.free
  have hfw5 := hP5.bud.young.few
  have c9 := Live_any b n5 F5 A5 w5 hA5 hfr5 hfw5
  have c10 := fun W h => Count_any b n5 t F5 A5 W h (by omega)
  have c11 := fun W h => Count_any b n5 u F5 A5 W h (by omega)
  rw [hct.1] at c10
  rw [hct.2] at c11
  rw [hlen5] at c9
  generalize A3.cnt t = cc at *
  generalize A3.ths.length = ll at *
  clear c8 hP3u hct hsm hdf hlen5 hc3 hc5 hl3 hl5 g3 g5 s3 s5 hI3 hI5 hP3 hP5 hfr3 hfw3 hfr5 hfw5 hcode hys R1 R2 R3 R4
  go_wp2_with fail
  refine c9.mono ?_
  rintro e w6 ⟨rfl, hb6⟩
  have hA6 := hA5.below hb6
  have b6 : Below w.heap.size w w6 := b5.trans (hb6.mono b5.size)
  clear c9
  go_wp2_with fail
  refine (c10 _ hA6).mono ?_
  rintro e w6' ⟨rfl, hw⟩
  have hw' := hw.symm
  subst hw'
  clear c10 hw
  go_wp2_with fail
  refine (c11 _ hA6).mono ?_
  rintro e w6' ⟨rfl, hw⟩
  have hw' := hw.symm
  subst hw'
  clear c11 hw
  go_wp2_with fail
  go_ret
  exact ⟨rfl, b6⟩
end Go.Proofs.Ythobobgiendcfaa.A
