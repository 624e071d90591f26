/- RuleMoves: the walk of the law itself. -/
import Derived.Test.YtoppncaidhlenacRight
namespace Go.Proofs.Ytoppncaidhlenac
open Go.RowKit

theorem mv_tidy (dx dy : Int) {ys : List (Int × Int)} (h : Tidy ys) : Tidy (ys.map (mv dx dy)) := by
  unfold Tidy at *
  rw [List.pairwise_map]
  refine h.imp ?_
  intro a b hab
  unfold ahead at *
  simp only [mv]
  omega

/-- a rule in its block, free to be written -/
def RuleIn (w : World) (x y : Int) (wr : World) : Prop :=
  wr.cell? ⟨w.heap.size, 0, none⟩ = some (.int .i64 x) ∧ wr.cell? ⟨w.heap.size, 1, none⟩ = some (.int .i64 y) ∧ wr.frozen? ⟨w.heap.size, 0, none⟩ = false ∧ wr.frozen? ⟨w.heap.size, 1, none⟩ = false ∧ w.heap.size < wr.heap.size ∧ Below w.heap.size w wr
theorem RuleIn.born (w : World) (x y : Int) (t : TypeId) : RuleIn w x y (w.alloc (.cells #[.int .i64 x, .int .i64 y] t)) :=
  ⟨by rw [World.cell?_alloc_new]; rfl, by rw [World.cell?_alloc_new]; rfl, by simp [World.frozen?_alloc_new], by simp [World.frozen?_alloc_new], by simp, (Below.refl _ _).alloc (Nat.le_refl _) _⟩
theorem RuleIn.go {w w1 w2 : World} {x y : Int} (h : RuleIn w x y w1) (hb : Below w1.heap.size w1 w2) : RuleIn w x y w2 := by
  obtain ⟨h1, h2, h3, h4, h5, h6⟩ := h
  refine ⟨(hb.cell (p := ⟨w.heap.size, 0, none⟩) h5).trans h1, (hb.cell (p := ⟨w.heap.size, 1, none⟩) h5).trans h2, ?_, ?_, Nat.lt_of_lt_of_le h5 hb.size, h6.trans (hb.mono (Nat.le_of_lt h5))⟩
  · rw [hb.frozen (p := ⟨w.heap.size, 0, none⟩) h5]; exact h3
  · rw [hb.frozen (p := ⟨w.heap.size, 1, none⟩) h5]; exact h4
theorem RuleIn.set {w w1 : World} {x y : Int} (h : RuleIn w x y w1) (x' y' : Int) : RuleIn w x' y' ((w1.setCell ⟨w.heap.size, 0, none⟩ (.int .i64 x')).setCell ⟨w.heap.size, 1, none⟩ (.int .i64 y')) := by
  obtain ⟨h1, h2, h3, h4, h5, h6⟩ := h
  have s1 : (w1.setCell ⟨w.heap.size, 0, none⟩ (.int .i64 x')).cell? ⟨w.heap.size, 1, none⟩ = some (.int .i64 y) := by rw [World.cell?_setCell_other _ _ _ _ (by simp)]; exact h2
  refine ⟨?_, World.cell?_setCell_same _ _ _ s1, ?_, ?_, by simpa [World.setCell] using h5, (h6.setCell (Nat.le_refl _) _).setCell (Nat.le_refl _) _⟩
  · rw [World.cell?_setCell_other _ _ _ _ (by simp)]; exact World.cell?_setCell_same _ _ _ h1
  · rw [World.frozen?_setCell, World.frozen?_setCell]; exact h3
  · rw [World.frozen?_setCell, World.frozen?_setCell]; exact h4
theorem Kept.setCell {w : World} {base : Nat} {v : Value} {ys : List (Int × Int)} (h : Kept w base v ys) {a : Addr} (ha : a.block < base) (x : Value) : Kept (w.setCell a x) base v ys := by
  rcases h with h | ⟨hne, h⟩
  · exact Or.inl h
  · exact Or.inr ⟨hne, owns_of_block h fun g hk => Below.heap_setCell _ _ _ _ (by have := (h.lt g hk).1; omega)⟩
theorem some_kept (v : Value) (zs : List (Int × Int)) (w : World) (h : RRow w v zs) :
    Calls Try.prog 14 #[v, .int .i64 300, .int .i64 1048576] w fun e w' => ∃ u, e = .returned u ∧ Below w.heap.size w w' ∧ Kept w' w.heap.size u (someL zs) := by
  obtain ⟨a, c, rfl, _, _, _, h⟩ := h
  rcases h with h | ⟨b, off, rfl, hb, hp⟩
  · have hz := List.length_eq_zero_iff.1 h
    subst hz
    exact (some_none a c w).mono fun e w' ⟨he, hw⟩ => ⟨_, he, by rw [hw]; exact Below.refl _ _, Or.inl ⟨rfl, rfl⟩⟩
  · exact some_some b off _ c zs w hb rfl hp
theorem someL_in (zs : List (Int × Int)) (p : Int × Int) (h : p ∈ someL zs) : -1048576 ≤ p.1 ∧ p.1 ≤ 1048576 ∧ -1048576 ≤ p.2 ∧ p.2 ≤ 1048576 := by
  simp only [someL, List.mem_map] at h
  obtain ⟨q, _, rfl⟩ := h
  have h1 := nearI_bound q.1
  have h2 := nearI_bound q.2
  exact ⟨h1.1, by have := h1.2; unfold nearP; simp only; omega, h2.1, by have := h2.2; unfold nearP; simp only; omega⟩
theorem tidied_in {zs ys : List (Int × Int)} (ht : Tidied (someL zs) ys) : ys.length ≤ 400 ∧ ∀ p ∈ ys, -1048576 ≤ p.1 ∧ p.1 ≤ 1048576 ∧ -1048576 ≤ p.2 ∧ p.2 ≤ 1048576 := by
  refine ⟨?_, fun p hp => someL_in zs p ((ht.2 p).1 hp).1⟩
  have h1 := len_le (tidy_nodup ht.1) (fun p hp => ((ht.2 p).1 hp).1)
  have h2 := someL_len zs
  omega

theorem moved_near {ys : List (Int × Int)} {dx dy : Int} (hx0 : 0 ≤ dx) (hx1 : dx < 1048576) (hy0 : 0 ≤ dy) (hy1 : dy < 1048576) (hin : ∀ p ∈ ys, -1048576 ≤ p.1 ∧ p.1 ≤ 1048576 ∧ -1048576 ≤ p.2 ∧ p.2 ≤ 1048576) : (ys.map (mv dx dy)).any farP = false := by
  rw [List.any_eq_false]
  intro p hp
  obtain ⟨q, hq, rfl⟩ := List.mem_map.1 hp
  have := hin q hq
  have e1 : farI (mv dx dy q).1 = false := by unfold farI mv; simp; omega
  have e2 : farI (mv dx dy q).2 = false := by unfold farI mv; simp; omega
  simp [farP, e1, e2]

/-- what holds of steps and moves -/
theorem moved_step {b l : Int} {ys out1 ts1 out2 ts2 ys2 : List (Int × Int)} {dx dy : Int} (hg : goodB b l = true) (hx0 : 0 ≤ dx) (hx1 : dx < 1048576) (hy0 : 0 ≤ dy) (hy1 : dy < 1048576) (hT : Tidy ys) (hl : ys.length ≤ 400) (hin : ∀ p ∈ ys, -1048576 ≤ p.1 ∧ p.1 ≤ 1048576 ∧ -1048576 ≤ p.2 ∧ p.2 ≤ 1048576)
    (h1 : NextSet b l ys out1) (t1 : Tidied out1 ts1) (hy2 : Tidied (ys.map (mv dx dy)) ys2) (h2 : NextSet b l ys2 out2) (t2 : Tidied out2 ts2) :
    tcode out1 = 0 ∧ tcode out2 = 0 ∧ tcode ts1 = 0 ∧ (∀ us, Tidied ts1 us → shiftF us (tcode ts1) dx dy = (0, ts2)) := by
  obtain ⟨c1, n1⟩ := next_code (m := 1048576) hg h1 hl (by omega) hin
  have hinM : ∀ p ∈ ys.map (mv dx dy), -2097152 ≤ p.1 ∧ p.1 ≤ 2097152 ∧ -2097152 ≤ p.2 ∧ p.2 ≤ 2097152 := fun p hp => by
    obtain ⟨q, hq, rfl⟩ := List.mem_map.1 hp
    have := hin q hq
    simp only [mv]
    omega
  have hcM : tcode (ys.map (mv dx dy)) = 0 := tcode_zero.2 ⟨by rw [List.length_map]; omega, by
    rw [List.any_eq_false]
    intro p hp
    have := hinM p hp
    have e1 : farI p.1 = false := by unfold farI; simp; omega
    have e2 : farI p.2 = false := by unfold farI; simp; omega
    simp [farP, e1, e2]⟩
  have e2 : ys2 = ys.map (mv dx dy) := tidy_unique _ _ hy2.1 (mv_tidy dx dy hT) fun p => by rw [hy2.2 p, hcM]; simp
  subst e2
  obtain ⟨c2, _⟩ := next_code (m := 2097152) hg h2 (by rw [List.length_map]; exact hl) (by omega) hinM
  have hts : ∀ p, p ∈ ts1 ↔ p ∈ out1 := fun p => by rw [t1.2 p, c1]; simp
  have hl1 : ts1.length ≤ out1.length := len_le (tidy_nodup t1.1) (fun p hp => (hts p).1 hp)
  have hco := tcode_zero.1 c1
  have hcts : tcode ts1 = 0 := tcode_zero.2 ⟨by omega, by
    rw [List.any_eq_false]
    intro p hp
    exact (List.any_eq_false.1 hco.2) p ((hts p).1 hp)⟩
  refine ⟨c1, c2, hcts, fun us hus => ?_⟩
  have eu : us = ts1 := tidy_unique _ _ hus.1 t1.1 fun p => by rw [hus.2 p, hcts]; simp
  subst eu
  rw [hcts, shiftF_ok (by simp [far2]; omega) (by
    rw [List.any_eq_false]
    intro p hp
    obtain ⟨q, hq, rfl⟩ := List.mem_map.1 hp
    have := n1 q ((hts q).1 hq)
    have e1 : farI (mv dx dy q).1 = false := by unfold farI mv; simp; omega
    have e2 : farI (mv dx dy q).2 = false := by unfold farI mv; simp; omega
    simp [farP, e1, e2])]
  refine Prod.ext rfl ?_
  refine tidy_unique _ _ (mv_tidy dx dy t1.1) t2.1 fun p => ?_
  rw [t2.2 p, c2, h2.2 p, List.mem_map]
  simp only [and_true]
  have hbes : ∀ p c, beside (mv dx dy p) (mv dx dy c) ↔ beside p c := fun p c => by
    obtain ⟨px, py⟩ := p
    obtain ⟨cx, cy⟩ := c
    simp only [beside, mv, ne_eq, Prod.mk.injEq]
    omega
  have hinj : ∀ p q : Int × Int, mv dx dy p = mv dx dy q → p = q := fun p q e => by
    obtain ⟨px, py⟩ := p
    obtain ⟨qx, qy⟩ := q
    simp only [mv, Prod.mk.injEq] at e ⊢
    omega
  have hback : mv dx dy (p.1 - dx, p.2 - dy) = p := by
    obtain ⟨px, py⟩ := p
    simp only [mv, Prod.mk.injEq]
    omega
  constructor
  · rintro ⟨q, hq, rfl⟩
    rw [lv_map b l _ hbes hinj]
    exact (h1.2 q).1 ((hts q).1 hq)
  · intro hv
    refine ⟨(p.1 - dx, p.2 - dy), ?_, hback⟩
    rw [hts, h1.2, ← lv_map b l _ hbes hinj, hback]
    exact hv

set_option maxRecDepth 4000 in
set_option maxHeartbeats 4000000 in
theorem moves_any (b l : Int) (v : Value) (zs : List (Int × Int)) (dx dy : Int) (w : World) (hv : RRow w v zs) :
    Calls Try.prog 5 #[.agg #[.int .i64 b, .int .i64 l], v, .int .i64 dx, .int .i64 dy] w fun e w' => e = .returned (.bool true) ∧ Below w.heap.size w w' := by
  have hsx := fun W => spot_any dx 1048576 W (by omega) (by omega)
  have hsy := fun W => spot_any dy 1048576 W (by omega) (by omega)
  obtain ⟨x0, x1⟩ := spotI_bound dx 1048576 (by omega)
  obtain ⟨y0, y1⟩ := spotI_bound dy 1048576 (by omega)
  generalize spotI dx 1048576 = sx at *
  generalize spotI dy 1048576 = sy at *
  have hright := fun W => right_any b l W
  have hgood := right_good b l
  generalize rightB b = rb at *
  generalize spotI l 512 = rl at *
  have q0 := RuleIn.born w b l 23
  go_enter Try.func5, Try.ntmps5
  go_wp2_with fail
  refine (hright _).mono ?_
  rintro e w1 ⟨rfl, c1⟩
  have q1 := q0.go c1
  go_wp2_with fail
  refine (some_kept v zs w1 (hv.below (q1.2.2.2.2.2))).mono ?_
  rintro e w2 ⟨vl, rfl, c2, k2⟩
  have q2 := q1.go c2
  have hbase := q1.2.2.2.2.1
  have q3 := q2.set rb rl
  have k3 := (k2.setCell (a := ⟨w.heap.size, 0, none⟩) hbase (.int .i64 rb)).setCell (a := ⟨w.heap.size, 1, none⟩) hbase (.int .i64 rl)
  obtain ⟨f0, f1, g0, g1, gl, _⟩ := id q2
  have HQ : Hid (RuleIn w rb rl ((w2.setCell ⟨w.heap.size, 0, none⟩ (.int .i64 rb)).setCell ⟨w.heap.size, 1, none⟩ (.int .i64 rl)) ∧ Row ((w2.setCell ⟨w.heap.size, 0, none⟩ (.int .i64 rb)).setCell ⟨w.heap.size, 1, none⟩ (.int .i64 rl)) vl (someL zs)) := ⟨q3, k3.row⟩
  clear q0 q1 q2 q3 k2 k3 c1 c2 hright hv
  go_wp2_with fail
  generalize hw3 : (w2.setCell ⟨w.heap.size, 0, none⟩ (.int .i64 rb)).setCell ⟨w.heap.size, 1, none⟩ (.int .i64 rl) = w3 at HQ ⊢
  clear hw3 f0 f1 g0 g1 gl
  refine (hsx _).mono ?_
  rintro e w' ⟨rfl, hw⟩
  have hw2 := hw.symm
  subst hw2
  clear hw
  go_wp2_with fail
  refine (hsy _).mono ?_
  rintro e w' ⟨rfl, hw⟩
  have hw2 := hw.symm
  subst hw2
  clear hw hsx hsy
  obtain ⟨f0, f1, _⟩ := HQ.out.1
  go_wp2_with fail
  refine (next_some rb rl vl (someL zs) w3 HQ.out.2 hgood (someL_code zs)).mono ?_
  rintro e w4 ⟨va, ys, out1, ts1, ty1, n1, t1, rfl, c4, o4⟩
  have q4 := HQ.out.1.go c4
  have R4 : Hid (AllRows w4 [(va, ts1), (vl, someL zs)]) := fun x hx => by
    simp at hx
    rcases hx with rfl | rfl
    · exact o4.read
    · exact HQ.out.2.below c4
  obtain ⟨hl, hin⟩ := tidied_in ty1
  have H1 : Hid (Tidied (someL zs) ys ∧ NextSet rb rl ys out1 ∧ Tidied out1 ts1 ∧ ys.length ≤ 400 ∧ ∀ p ∈ ys, -1048576 ≤ p.1 ∧ p.1 ≤ 1048576 ∧ -1048576 ≤ p.2 ∧ p.2 ≤ 1048576) := ⟨ty1, n1, t1, hl, hin⟩
  have HQ4 : Hid (RuleIn w rb rl w4) := q4
  clear ty1 n1 t1 hl hin q4 c4 o4 HQ f0 f1
  go_wp2_with fail
  refine (shift_any vl (someL zs) sx sy w4 (R4.out (vl, someL zs) (by simp [someL]))).mono ?_
  rintro e w5 ⟨vm, ys', ty2, rfl, c5, o5⟩
  have e5 : ys' = ys := ty2.unique H1.out.1
  subst e5
  have hs5 : shiftF ys' (tcode (someL zs)) sx sy = (0, ys'.map (mv sx sy)) := by
    rw [someL_code]
    exact shiftF_ok (by simp [far2]; omega) (moved_near x0 x1 y0 y1 H1.out.2.2.2.2)
  rw [hs5] at o5
  rw [hs5]
  have HQ5 : Hid (RuleIn w rb rl w5) := HQ4.out.go c5
  have R5 : Hid (AllRows w5 [(vm, ys'.map (mv sx sy)), (va, ts1)]) := fun x hx => by
    simp only [List.mem_cons, List.not_mem_nil, or_false] at hx
    rcases hx with rfl | rfl
    · exact o5.read
    · exact (R4.out _ (by simp)).below c5
  obtain ⟨f0, f1, _⟩ := HQ5.out
  have hcm : tcode (ys'.map (mv sx sy)) = 0 := tcode_zero.2 ⟨by rw [List.length_map]; have := H1.out.2.2.2.1; omega, moved_near x0 x1 y0 y1 H1.out.2.2.2.2⟩
  clear ty2 c5 o5 hs5 R4 HQ4
  go_wp2_with fail
  refine (next_some rb rl vm (ys'.map (mv sx sy)) w5 (R5.out (vm, ys'.map (mv sx sy)) (by simp)) hgood hcm).mono ?_
  rintro e w6 ⟨vb, ys2, out2, ts2, ty3, n2, t2, rfl, c6, o6⟩
  obtain ⟨m1, m2, m3, m4⟩ := moved_step hgood x0 x1 y0 y1 H1.out.1.1 H1.out.2.2.2.1 H1.out.2.2.2.2 H1.out.2.1 H1.out.2.2.1 ty3 n2 t2
  rw [m1, m2]
  have HM : Hid (tcode ts1 = 0 ∧ ∀ us, Tidied ts1 us → shiftF us (tcode ts1) sx sy = (0, ts2)) := ⟨m3, m4⟩
  have b6 : Below w.heap.size w w6 := (HQ5.out.go c6).2.2.2.2.2
  have R6 : Hid (AllRows w6 [(vb, ts2), (va, ts1)]) := fun x hx => by
    simp only [List.mem_cons, List.not_mem_nil, or_false] at hx
    rcases hx with rfl | rfl
    · exact o6.read
    · exact (R5.out _ (by simp)).below c6
  clear m1 m2 m3 m4 ty3 n2 t2 c6 o6 R5 HQ5 f0 f1 H1 hcm hgood
  go_wp2_with fail
  refine (shift_any va ts1 sx sy w6 (R6.out (va, ts1) (by simp))).mono ?_
  rintro e w7 ⟨vc, us, ty4, rfl, c7, o7⟩
  have hs7 := HM.out.2 us ty4
  rw [hs7] at o7
  rw [hs7]
  have b7 : Below w.heap.size w w7 := b6.trans (c7.mono b6.size)
  have R7 : Hid (AllRows w7 [(vc, ts2), (vb, ts2)]) := fun x hx => by
    simp only [List.mem_cons, List.not_mem_nil, or_false] at hx
    rcases hx with rfl | rfl
    · exact o7.read
    · exact (R6.out _ (by simp)).below c7
  clear ty4 hs7 c7 o7 R6 b6 HM x0 x1 y0 y1
  go_wp2_with fail
  refine (livesOk_any w7).mono ?_
  rintro e w8 ⟨rfl, c8⟩
  have b8 : Below w.heap.size w w8 := b7.trans (c8.mono b7.size)
  go_wp2_with fail
  refine (same_any vb vc ts2 w8 ((R7.out (vb, ts2) (by simp)).below c8) ((R7.out (vc, ts2) (by simp)).below c8)).mono ?_
  rintro e w9 ⟨rfl, c9⟩
  go_wp2_with fail
  go_ret
  exact ⟨rfl, b8.trans (c9.mono b8.size)⟩
end Go.Proofs.Ytoppncaidhlenac
