/- RuleCuts: the walk of the law itself. -/
import Derived.Test.YtoppncaidhlenacFew
namespace Go.Proofs.Ytoppncaidhlenac
open Go.RowKit

theorem few_kept (v : Value) (zs : List (Int × Int)) (w : World) (h : RRow w v zs) :
    Calls Try.prog 14 #[v, .int .i64 30, .int .i64 8] w fun e w' => ∃ u, e = .returned u ∧ Below w.heap.size w w' ∧ Kept w' w.heap.size u (fewL zs) := by
  obtain ⟨a, c, rfl, _, _, _, h⟩ := h
  rcases h with h | ⟨b, off, rfl, hb, hp⟩
  · have hz := List.length_eq_zero_iff.1 h
    subst hz
    exact (few_none a c w).mono fun e w' ⟨he, hw⟩ => ⟨_, he, by rw [hw]; exact Below.refl _ _, Or.inl ⟨rfl, rfl⟩⟩
  · exact few_some b off _ c zs w hb rfl hp

set_option maxRecDepth 4000 in
set_option maxHeartbeats 4000000 in
theorem cuts_any (b l : Int) (v : Value) (zs : List (Int × Int)) (n m : Int) (w : World) (hv : RRow w v zs) :
    Calls Try.prog 8 #[.agg #[.int .i64 b, .int .i64 l], v, .int .i64 n, .int .i64 m] w fun e w' => e = .returned (.bool true) ∧ Below w.heap.size w w' := by
  have hsx := fun W => spot_any n 12 W (by omega) (by omega)
  have hsy := fun W => spot_any m 12 W (by omega) (by omega)
  obtain ⟨x0, x1⟩ := spotI_bound n 12 (by omega)
  obtain ⟨y0, y1⟩ := spotI_bound m 12 (by omega)
  generalize spotI n 12 = sx at *
  generalize spotI m 12 = sy at *
  obtain ⟨sn, rfl⟩ := Int.eq_ofNat_of_zero_le x0
  obtain ⟨sm, rfl⟩ := Int.eq_ofNat_of_zero_le y0
  have hright := fun W => right_any b l W
  have hgood := right_good b l
  generalize rightB b = rb at *
  generalize spotI l 512 = rl at *
  have q0 := RuleIn.born w b l 23
  go_enter Try.func8, Try.ntmps8
  go_wp2_with fail
  refine (hright _).mono ?_
  rintro e w1 ⟨rfl, c1⟩
  have q1 := q0.go c1
  go_wp2_with fail
  refine (few_kept v zs w1 (hv.below (q1.2.2.2.2.2))).mono ?_
  rintro e w2 ⟨vl, rfl, c2, k2⟩
  have q2 := q1.go c2
  have hbase := q1.2.2.2.2.1
  have q3 := q2.set rb rl
  have k3 := (k2.setCell (a := ⟨w.heap.size, 0, none⟩) hbase (.int .i64 rb)).setCell (a := ⟨w.heap.size, 1, none⟩) hbase (.int .i64 rl)
  obtain ⟨f0, f1, g0, g1, gl, _⟩ := id q2
  have HQ : Hid (RuleIn w rb rl ((w2.setCell ⟨w.heap.size, 0, none⟩ (.int .i64 rb)).setCell ⟨w.heap.size, 1, none⟩ (.int .i64 rl)) ∧ Row ((w2.setCell ⟨w.heap.size, 0, none⟩ (.int .i64 rb)).setCell ⟨w.heap.size, 1, none⟩ (.int .i64 rl)) vl (fewL zs)) := ⟨q3, k3.row⟩
  clear q0 q1 q2 q3 k2 k3 c1 c2 hright hv
  go_wp2_with fail
  generalize hw3 : (w2.setCell ⟨w.heap.size, 0, none⟩ (.int .i64 rb)).setCell ⟨w.heap.size, 1, none⟩ (.int .i64 rl) = w3 at HQ ⊢
  clear hw3 f0 f1 g0 g1 gl
  refine (hsx _).mono ?_
  rintro e w' ⟨rfl, hw⟩
  have hw2 := hw.symm
  subst hw2
  clear hw
  go_wp2_with fail
  refine (hsy _).mono ?_
  rintro e w' ⟨rfl, hw⟩
  have hw2 := hw.symm
  subst hw2
  clear hw hsx hsy
  obtain ⟨f0, f1, _⟩ := HQ.out.1
  have hadd : IntKind.i64.wrap ((sn : Int) + (sm : Int)) = ((sn + sm : Nat) : Int) := by rw [IntKind.wrap_i64]; omega
  have hrun := run_any rb rl vl (fewL zs) (sn + sm) w3 HQ.out.2 hgood (by omega)
  rw [Int.natCast_add] at hrun
  go_wp2_with fail
  refine hrun.mono ?_
  rintro e w4 ⟨va, ea, ta, ra, rfl, c4, o4⟩
  have HQ4 : Hid (RuleIn w rb rl w4 ∧ Row w4 vl (fewL zs) ∧ Row w4 va ta) := ⟨HQ.out.1.go c4, HQ.out.2.below c4, o4.read⟩
  have HA : Hid (RunsTo rb rl (fewL zs) (sn + sm) ea ta) := ra
  clear hrun ra c4 o4 HQ f0 f1 hadd
  obtain ⟨f0, f1, _⟩ := HQ4.out.1
  go_wp2_with fail
  refine (run_any rb rl vl (fewL zs) sn w4 HQ4.out.2.1 hgood (by omega)).mono ?_
  rintro e w5 ⟨vb, eb, tb, rb5, rfl, c5, o5⟩
  have HQ5 : Hid (RuleIn w rb rl w5 ∧ Row w5 vb tb ∧ Row w5 va ta) := ⟨HQ4.out.1.go c5, o5.read, HQ4.out.2.2.below c5⟩
  have HB : Hid (RunsTo rb rl (fewL zs) sn eb tb) := rb5
  clear rb5 c5 o5 HQ4 f0 f1
  obtain ⟨f0, f1, _⟩ := HQ5.out.1
  go_wp2_with fail
  refine (run_any rb rl vb tb sm w5 HQ5.out.2.1 hgood (by omega)).mono ?_
  rintro e w6 ⟨vc, ec, tc, rc6, rfl, c6, o6⟩
  have HQ6 : Hid (Row w6 vc tc ∧ Row w6 va ta) := ⟨o6.read, HQ5.out.2.2.below c6⟩
  have b6 : Below w.heap.size w w6 := (HQ5.out.1.go c6).2.2.2.2.2
  have HC : Hid (RunsTo rb rl tb sm ec tc) := rc6
  clear rc6 c6 o6 HQ5 f0 f1
  by_cases hea : ea = 0
  · subst hea
    have hb0 : eb = 0 := HB.out.first HA.out
    subst hb0
    obtain ⟨hc0, ht⟩ := RunsTo.cut HB.out HA.out HC.out
    subst hc0 ht
    go_wp2_with fail
    refine (livesOk_any w6).mono ?_
    rintro e w7 ⟨rfl, c7⟩
    have b7 : Below w.heap.size w w7 := b6.trans (c7.mono b6.size)
    go_wp2_with fail
    refine (same_any va vc ta w7 (HQ6.out.2.below c7) (HQ6.out.1.below c7)).mono ?_
    rintro e w8 ⟨rfl, c8⟩
    go_wp2_with fail
    go_ret
    exact ⟨rfl, b7.trans (c8.mono b7.size)⟩
  · have hcb : (ea == 0) = false := by simpa using hea
    go_wp2_with fail
    refine (livesOk_any w6).mono ?_
    rintro e w7 ⟨rfl, c7⟩
    have b7 : Below w.heap.size w w7 := b6.trans (c7.mono b6.size)
    go_wp2_with fail
    go_ret
    exact ⟨rfl, b7⟩
end Go.Proofs.Ytoppncaidhlenac
