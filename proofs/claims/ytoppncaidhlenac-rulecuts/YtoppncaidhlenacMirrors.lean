/- RuleMirrors: the walk of the law itself. -/
import Derived.Test.YtoppncaidhlenacFlip
namespace Go.Proofs.Ytoppncaidhlenac
open Go.RowKit

set_option maxHeartbeats 400000 in
theorem flip_none (way : Int) (w : World) : Calls Try.prog 19 #[.slice none 0 0, .int .i64 way] w fun e w' => e = .returned (.slice none 0 0) ∧ w' = w := by
  go_enter Try.func19, Try.ntmps19
  go_wp2
  refine wp_loop_rounds 1 ?_
  rw [rounds_succ]
  go_wp2
  go_ret
  exact ⟨rfl, rfl⟩
theorem flip_any (v : Value) (zs : List (Int × Int)) (way : Int) (w : World) (h : Row w v zs) (hn : zs.length ≤ 4096) (HN : zs.any farP = false) (b1 b2 b4 : Bool) (h1 : (bits .and .i64 way 1 == 1) = b1) (h2 : (bits .and .i64 way 2 == 2) = b2) (h4 : (bits .and .i64 way 4 == 4) = b4) :
    Calls Try.prog 19 #[v, .int .i64 way] w fun e w' => ∃ u, e = .returned u ∧ Below w.heap.size w w' ∧ Row w' u (zs.map (flipP b1 b2 b4)) := by
  rcases h with ⟨rfl, rfl⟩ | ⟨hz, b, off, c, rfl, hb, hl, hm, hh⟩
  · exact (flip_none way w).mono fun e w' ⟨he, hw⟩ => ⟨_, he, by rw [hw]; exact Below.refl _ _, Or.inl ⟨rfl, rfl⟩⟩
  · exact (flip_some b off _ c zs way b1 b2 b4 w hb rfl hh hn HN h1 h2 h4).mono fun e w' ⟨u, he, hbel, hk⟩ => ⟨u, he, hbel, hk.row⟩

theorem flip_beside (b1 b2 b4 : Bool) (p c : Int × Int) : beside (flipP b1 b2 b4 p) (flipP b1 b2 b4 c) ↔ beside p c := by
  obtain ⟨px, py⟩ := p
  obtain ⟨cx, cy⟩ := c
  cases b1 <;> cases b2 <;> cases b4 <;> simp only [beside, flipP, if_true, if_false, Bool.false_eq_true, ne_eq, Prod.mk.injEq] <;> omega
theorem flip_inj (b1 b2 b4 : Bool) (p q : Int × Int) (h : flipP b1 b2 b4 p = flipP b1 b2 b4 q) : p = q := by
  obtain ⟨px, py⟩ := p
  obtain ⟨qx, qy⟩ := q
  cases b1 <;> cases b2 <;> cases b4 <;> simp only [flipP, if_true, if_false, Bool.false_eq_true, Prod.mk.injEq] at h ⊢ <;> omega
theorem flip_back (b1 b2 b4 : Bool) (p : Int × Int) : ∃ q, flipP b1 b2 b4 q = p := by
  obtain ⟨px, py⟩ := p
  refine ⟨if b4 then (if b1 then -py else py, if b2 then -px else px) else (if b1 then -px else px, if b2 then -py else py), ?_⟩
  cases b1 <;> cases b2 <;> cases b4 <;> simp [flipP]
theorem flip_in (b1 b2 b4 : Bool) {p : Int × Int} {m : Int} (h : -m ≤ p.1 ∧ p.1 ≤ m ∧ -m ≤ p.2 ∧ p.2 ≤ m) : -m ≤ (flipP b1 b2 b4 p).1 ∧ (flipP b1 b2 b4 p).1 ≤ m ∧ -m ≤ (flipP b1 b2 b4 p).2 ∧ (flipP b1 b2 b4 p).2 ≤ m := by
  obtain ⟨px, py⟩ := p
  simp only at h
  cases b1 <;> cases b2 <;> cases b4 <;> simp only [flipP, if_true, if_false, Bool.false_eq_true] <;> omega

/-- few cells near 0 are tidied without an error -/
theorem code_of {zs : List (Int × Int)} {m : Int} (hl : zs.length ≤ 4096) (hm : m ≤ 1000000000) (hin : ∀ p ∈ zs, -m ≤ p.1 ∧ p.1 ≤ m ∧ -m ≤ p.2 ∧ p.2 ≤ m) : tcode zs = 0 :=
  tcode_zero.2 ⟨hl, by
    rw [List.any_eq_false]
    intro p hp
    have := hin p hp
    have e1 : farI p.1 = false := by unfold farI; simp; omega
    have e2 : farI p.2 = false := by unfold farI; simp; omega
    simp [farP, e1, e2]⟩

/-- what holds of steps and mirrors -/
theorem flipped_step {b l : Int} {L ys out1 ts1 ys2 out2 ts2 : List (Int × Int)} (b1 b2 b4 : Bool) (hg : goodB b l = true) (hL : L.length ≤ 400) (hin : ∀ p ∈ L, -1048576 ≤ p.1 ∧ p.1 ≤ 1048576 ∧ -1048576 ≤ p.2 ∧ p.2 ≤ 1048576)
    (hy : Tidied L ys) (h1 : NextSet b l ys out1) (t1 : Tidied out1 ts1) (hy2 : Tidied (L.map (flipP b1 b2 b4)) ys2) (h2 : NextSet b l ys2 out2) (t2 : Tidied out2 ts2) :
    tcode out1 = 0 ∧ tcode out2 = 0 ∧ ts1.length ≤ 4096 ∧ ts1.any farP = false ∧ tcode (ts1.map (flipP b1 b2 b4)) = 0 ∧ ∀ us, Tidied (ts1.map (flipP b1 b2 b4)) us → us = ts2 := by
  have cL : tcode L = 0 := code_of (m := 1048576) (by omega) (by omega) hin
  have hinF : ∀ p ∈ L.map (flipP b1 b2 b4), -1048576 ≤ p.1 ∧ p.1 ≤ 1048576 ∧ -1048576 ≤ p.2 ∧ p.2 ≤ 1048576 := fun p hp => by
    obtain ⟨q, hq, rfl⟩ := List.mem_map.1 hp
    exact flip_in b1 b2 b4 (hin q hq)
  have cF : tcode (L.map (flipP b1 b2 b4)) = 0 := code_of (m := 1048576) (by rw [List.length_map]; omega) (by omega) hinF
  have my : ∀ p, p ∈ ys ↔ p ∈ L := fun p => by rw [hy.2 p, cL]; simp
  have my2 : ∀ p, p ∈ ys2 ↔ p ∈ L.map (flipP b1 b2 b4) := fun p => by rw [hy2.2 p, cF]; simp
  have ly : ys.length ≤ 400 := Nat.le_trans (len_le (tidy_nodup hy.1) (fun p hp => (my p).1 hp)) hL
  have ly2 : ys2.length ≤ 400 := Nat.le_trans (len_le (tidy_nodup hy2.1) (fun p hp => (my2 p).1 hp)) (by rw [List.length_map]; exact hL)
  obtain ⟨c1, n1⟩ := next_code (m := 1048576) hg h1 ly (by omega) (fun p hp => hin p ((my p).1 hp))
  obtain ⟨c2, _⟩ := next_code (m := 1048576) hg h2 ly2 (by omega) (fun p hp => hinF p ((my2 p).1 hp))
  have mt : ∀ p, p ∈ ts1 ↔ p ∈ out1 := fun p => by rw [t1.2 p, c1]; simp
  have lt : ts1.length ≤ 4096 := Nat.le_trans (len_le (tidy_nodup t1.1) (fun p hp => (mt p).1 hp)) (tcode_zero.1 c1).1
  have inT : ∀ p ∈ ts1, -1048577 ≤ p.1 ∧ p.1 ≤ 1048577 ∧ -1048577 ≤ p.2 ∧ p.2 ≤ 1048577 := fun p hp => by
    have := n1 p ((mt p).1 hp)
    omega
  have cT : tcode ts1 = 0 := code_of (m := 1048577) lt (by omega) inT
  have cU : tcode (ts1.map (flipP b1 b2 b4)) = 0 := code_of (m := 1048577) (by rw [List.length_map]; exact lt) (by omega) (fun p hp => by
    obtain ⟨q, hq, rfl⟩ := List.mem_map.1 hp
    exact flip_in b1 b2 b4 (inT q hq))
  refine ⟨c1, c2, lt, (tcode_zero.1 cT).2, cU, fun us hu => tidy_unique _ _ hu.1 t2.1 fun p => ?_⟩
  have hnd : (ys.map (flipP b1 b2 b4)).Nodup := by
    have := tidy_nodup hy.1
    rw [List.nodup_iff_pairwise_ne] at this ⊢
    rw [List.pairwise_map]
    exact this.imp fun {a c} hne e => hne (flip_inj b1 b2 b4 a c e)
  have hperm : ys2.Perm (ys.map (flipP b1 b2 b4)) := perm_of (tidy_nodup hy2.1) hnd fun p => by
    rw [my2 p, List.mem_map, List.mem_map]
    exact ⟨fun ⟨q, hq, e⟩ => ⟨q, (my q).2 hq, e⟩, fun ⟨q, hq, e⟩ => ⟨q, (my q).1 hq, e⟩⟩
  obtain ⟨q, rfl⟩ := flip_back b1 b2 b4 p
  rw [hu.2, cU, t2.2, c2, h2.2, lv_same b l hperm, lv_map b l _ (flip_beside b1 b2 b4) (flip_inj b1 b2 b4), ← h1.2, ← mt]
  simp only [and_true, List.mem_map]
  exact ⟨fun ⟨a, ha, e⟩ => by rw [← flip_inj b1 b2 b4 a q e]; exact ha, fun h => ⟨q, h, rfl⟩⟩

theorem rule_go {w w1 w2 : World} {x y : Int} {v : Value} {ts : List (Int × Int)} (h : w1.cell? ⟨w.heap.size, 0, none⟩ = some (.int .i64 x) ∧ w1.cell? ⟨w.heap.size, 1, none⟩ = some (.int .i64 y) ∧ RuleIn w x y w1 ∧ Row w1 v ts) (hb : Below w1.heap.size w1 w2) :
    w2.cell? ⟨w.heap.size, 0, none⟩ = some (.int .i64 x) ∧ w2.cell? ⟨w.heap.size, 1, none⟩ = some (.int .i64 y) ∧ RuleIn w x y w2 ∧ Row w2 v ts :=
  ⟨(h.2.2.1.go hb).1, (h.2.2.1.go hb).2.1, h.2.2.1.go hb, h.2.2.2.below hb⟩

set_option maxRecDepth 4000 in
set_option maxHeartbeats 4000000 in
theorem mirrors_any (b l : Int) (v : Value) (zs : List (Int × Int)) (way : Int) (w : World) (hv : RRow w v zs) :
    Calls Try.prog 6 #[.agg #[.int .i64 b, .int .i64 l], v, .int .i64 way] w fun e w' => e = .returned (.bool true) ∧ Below w.heap.size w w' := by
  have hsw := fun W => spot_any way 8 W (by omega) (by omega)
  generalize spotI way 8 = sw at *
  have hright := fun W => right_any b l W
  have hgood := right_good b l
  generalize rightB b = rb at *
  generalize spotI l 512 = rl at *
  have q0 := RuleIn.born w b l 23
  go_enter Try.func6, Try.ntmps6
  go_wp2_with fail
  refine (hright _).mono ?_
  rintro e w1 ⟨rfl, c1⟩
  have q1 := q0.go c1
  go_wp2_with fail
  refine (some_kept v zs w1 (hv.below (q1.2.2.2.2.2))).mono ?_
  rintro e w2 ⟨vl, rfl, c2, k2⟩
  have q2 := q1.go c2
  have hbase := q1.2.2.2.2.1
  have q3 := q2.set rb rl
  have k3 := (k2.setCell (a := ⟨w.heap.size, 0, none⟩) hbase (.int .i64 rb)).setCell (a := ⟨w.heap.size, 1, none⟩) hbase (.int .i64 rl)
  obtain ⟨f0, f1, g0, g1, gl, _⟩ := id q2
  have HQ : Hid (RuleIn w rb rl ((w2.setCell ⟨w.heap.size, 0, none⟩ (.int .i64 rb)).setCell ⟨w.heap.size, 1, none⟩ (.int .i64 rl)) ∧ Row ((w2.setCell ⟨w.heap.size, 0, none⟩ (.int .i64 rb)).setCell ⟨w.heap.size, 1, none⟩ (.int .i64 rl)) vl (someL zs)) := ⟨q3, k3.row⟩
  clear q0 q1 q2 q3 k2 k3 c1 c2 hright hv
  go_wp2_with fail
  refine (hsw _).mono ?_
  rintro e w' ⟨rfl, hw⟩
  have hw2 := hw.symm
  subst hw2
  clear hw hsw
  go_wp2_with fail
  generalize hw3 : (w2.setCell ⟨w.heap.size, 0, none⟩ (.int .i64 rb)).setCell ⟨w.heap.size, 1, none⟩ (.int .i64 rl) = w3 at HQ ⊢
  clear hw3 f0 f1 g0 g1 gl
  refine (next_some rb rl vl (someL zs) w3 HQ.out.2 hgood (someL_code zs)).mono ?_
  rintro e w4 ⟨va, ys, out1, ts1, ty1, n1, t1, rfl, c4, o4⟩
  have HQ4 : Hid (RuleIn w rb rl w4) := HQ.out.1.go c4
  have R4 : Hid (AllRows w4 [(va, ts1), (vl, someL zs)]) := fun x hx => by
    simp only [List.mem_cons, List.not_mem_nil, or_false] at hx
    rcases hx with rfl | rfl
    · exact o4.read
    · exact HQ.out.2.below c4
  have H1 : Hid (Tidied (someL zs) ys ∧ NextSet rb rl ys out1 ∧ Tidied out1 ts1) := ⟨ty1, n1, t1⟩
  clear ty1 n1 t1 c4 o4 HQ
  obtain ⟨b1, h1⟩ : ∃ b1, (bits .and .i64 sw 1 == 1) = b1 := ⟨_, rfl⟩
  obtain ⟨b2, h2⟩ : ∃ b2, (bits .and .i64 sw 2 == 2) = b2 := ⟨_, rfl⟩
  obtain ⟨b4, h4⟩ : ∃ b4, (bits .and .i64 sw 4 == 4) = b4 := ⟨_, rfl⟩
  have HB : Hid ((bits .and .i64 sw 1 == 1) = b1 ∧ (bits .and .i64 sw 2 == 2) = b2 ∧ (bits .and .i64 sw 4 == 4) = b4) := ⟨h1, h2, h4⟩
  clear h1 h2 h4
  have hlen : (someL zs).length ≤ 400 := by have := someL_len zs; omega
  have hcf : tcode ((someL zs).map (flipP b1 b2 b4)) = 0 := code_of (m := 1048576) (by rw [List.length_map]; omega) (by omega) (fun p hp => by
    obtain ⟨q, hq, rfl⟩ := List.mem_map.1 hp
    exact flip_in b1 b2 b4 (someL_in zs q hq))
  have hS0 : w4.drew.cell? ⟨w.heap.size, 0, none⟩ = some (.int .i64 rb) ∧ w4.drew.cell? ⟨w.heap.size, 1, none⟩ = some (.int .i64 rl) ∧ RuleIn w rb rl w4.drew ∧ Row w4.drew va ts1 :=
    ⟨HQ4.out.1, HQ4.out.2.1, HQ4.out.go (below_drewN w4 1), (R4.out (va, ts1) (by simp)).below (below_drewN w4 1)⟩
  have hrl : Row w4.drew vl (someL zs) := (R4.out (vl, someL zs) (by simp)).below (below_drewN w4 1)
  have hfl := flip_any vl (someL zs) sw w4.drew hrl (by omega) (someL_near zs) b1 b2 b4 HB.out.1 HB.out.2.1 HB.out.2.2
  clear hrl
  go_wp2_with fail
  go_region_held3 (fun w' => w'.cell? ⟨w.heap.size, 0, none⟩ = some (.int .i64 rb) ∧ w'.cell? ⟨w.heap.size, 1, none⟩ = some (.int .i64 rl) ∧ RuleIn w rb rl w' ∧ Row w' va ts1) (first | exact hS0 | exact rule_go hS0 c5 | exact rule_go (by assumption) c6)
    (first | (go_at_call 19; refine hfl.mono ?_; rintro e w5 ⟨vf, rfl, c5, r5⟩) | (go_at_call 16; refine (next_some rb rl _ ((someL zs).map (flipP b1 b2 b4)) _ (by assumption) hgood hcf).mono ?_; rintro e w6 ⟨vb, ys2, out2, ts2, ty2, n2, t2, rfl, c6, o6⟩))
  rename_i hH
  have b6 : Below w.heap.size w w6 := hH.2.2.1.2.2.2.2.2
  have R6 : Hid (AllRows w6 [(vb, ts2), (va, ts1)]) := fun x hx => by
    simp only [List.mem_cons, List.not_mem_nil, or_false] at hx
    rcases hx with rfl | rfl
    · exact o6.read
    · exact hH.2.2.2
  obtain ⟨m1, m2, m3, m4, m5, m6⟩ := flipped_step b1 b2 b4 hgood hlen (someL_in zs) H1.out.1 H1.out.2.1 H1.out.2.2 ty2 n2 t2
  have HF : Hid (∀ us, Tidied (ts1.map (flipP b1 b2 b4)) us → us = ts2) := m6
  rw [m1, m2]
  clear ty2 n2 t2 c6 o6 c5 r5 HQ4 R4 H1 hcf hgood hlen m1 m2 m6 hH hS0 hfl
  go_wp2_with fail
  refine (flip_any va ts1 sw w6 (R6.out (va, ts1) (by simp)) m3 m4 b1 b2 b4 HB.out.1 HB.out.2.1 HB.out.2.2).mono ?_
  rintro e w7 ⟨vg, rfl, c7, r7⟩
  have b7 : Below w.heap.size w w7 := b6.trans (c7.mono b6.size)
  have htl := tidy_told vg (ts1.map (flipP b1 b2 b4)) w7 r7
  rw [m5] at htl
  have rb7 : Row w7 vb ts2 := (R6.out (vb, ts2) (by simp)).below c7
  have R7 : Hid (Row w7 vb ts2) := rb7
  clear rb7 m3 m4 m5 c7 r7 R6 b6
  go_wp2_with fail
  refine htl.mono ?_
  rintro e w8 ⟨vc, us, rfl, c8, t8, o8⟩
  have e8 : us = ts2 := HF.out us t8
  subst e8
  have b8 : Below w.heap.size w w8 := b7.trans (c8.mono b7.size)
  have R8 : Hid (Row w8 vb us ∧ Row w8 vc us) := ⟨R7.out.below c8, o8.read⟩
  clear htl t8 o8 c8 R7 HF b7
  go_wp2_with fail
  refine (livesOk_any w8).mono ?_
  rintro e w9 ⟨rfl, c9⟩
  have b9 : Below w.heap.size w w9 := b8.trans (c9.mono b8.size)
  go_wp2_with fail
  refine (same_any vb vc us w9 (R8.out.1.below c9) (R8.out.2.below c9)).mono ?_
  rintro e w10 ⟨rfl, c10⟩
  go_wp2_with fail
  go_ret
  exact ⟨rfl, b9.trans (c10.mono b9.size)⟩
end Go.Proofs.Ytoppncaidhlenac
