/- find at greater levels, slower. -/
import Derived.Test.YtofbcngcblleaabGreatLpFindA
namespace Go.Proofs.YtofbcngcblleaabGreat.A
open Go.RowKit Go.Proofs.YtofbcngcblleaabGreat.L
set_option maxRecDepth 20000 in
set_option maxHeartbeats 8000000 in
theorem find_part {m : Nat} {PR : (Bool → Nat → Bool) → Int → Prop} {S : Item → Prop} (hN : NxC m) (w : World) (o : Nat → Nat) (lb b t : Nat) (rb rl : Int) (q : Nat → Int) (A : Ar) (id : Int) (j : Nat) (h : LS w o lb b t rb rl 0 A) (hst : NxSt PR t q A) (ht : t < 64) (h0 : PB PR rb rl) (h1 : rb ≤ 511) (hn : m + 1 ≤ 42) (hl : levV (view A t).V id = some ((m + 1 + 2 : Nat) : Int)) (hj : j ≤ m) (hcl : Cl (lifeR rb rl) (rnum rb rl) S (view A t)) :
    Calls Tryz.prog 85 #[.pointer (some ⟨lb, 0, none⟩), .int .i64 id, .int .i64 ((m + 1 + 2 : Nat) : Int), .int .i64 (j : Int)] w fun r w' => ∃ v, r = .returned (.int .i64 v) ∧ Out PR rb rl t q A o w lb b 0 (FindD (lifeR rb rl) (rnum rb rl) S (m + 1) (picQ (QV (view A t)) (m + 3) id) j) (fun A' => Nx (lifeR rb rl) (QV (view A' t)) (m + 1) id j v ∧ levV (view A' t).V v = some ((m + 1 + 1 : Nat) : Int) ∧ Cl (lifeR rb rl) (rnum rb rl) S (view A' t)) w' := by
  have hw := hst.g.wel t ht
  obtain ⟨r, P, g1, g2, g3⟩ := grid_of (n := m + 1) hw hl
  have hg := lpGrid_any h hst.s ht id r P (.inl ⟨rfl, lev_fits hst.s hl, g1⟩) fun i hi => .inl ⟨rfl, lev_fits hst.s (g2 i hi).1, (g2 i hi).2⟩
  have hsq := isSq_of_lev hw hst.p _ id hl
  have HP : Hid (PG rb rl t A id m (gvf P 16)) := ⟨hsq, parts_at (At.root hsq) g1 fun i hi => (g2 i hi).2, fun p hp => gvf_get (C := fun v => levV (view A t).V v = some ((m + 1 : Nat) : Int)) g3 hp⟩
  have HN : Hid (NxC m ∧ t < 64 ∧ PB PR rb rl ∧ rb ≤ 511 ∧ m + 1 ≤ 42) := ⟨hN, ht, h0, h1, hn⟩
  have HS : Hid (NxSt PR t q A) := hst
  have HCL : Hid (Cl (lifeR rb rl) (rnum rb rl) S (view A t)) := hcl
  have HJ : Hid (j ≤ m) := hj
  obtain ⟨f, hfe⟩ : ∃ f, f = gvf P 16 := ⟨_, rfl⟩
  rw [← hfe] at hg HP
  obtain ⟨LV, hLV⟩ : ∃ L : Int, L = ((m + 1 + 2 : Nat) : Int) := ⟨_, rfl⟩
  obtain ⟨L1, hL1⟩ : ∃ L : Int, L = ((m + 2 : Nat) : Int) := ⟨_, rfl⟩
  obtain ⟨J, hJ⟩ : ∃ J : Int, J = (j : Int) := ⟨_, rfl⟩
  have HL1 : Hid (L1 = ((m + 2 : Nat) : Int)) := hL1
  have HJ1 : Hid (J = (j : Int)) := hJ
  have n2 : (LV == 2) = false := beq_eq_false_iff_ne.2 (by omega)
  have wl1 : IntKind.i64.wrap (LV - 1) = L1 := by rw [IntKind.wrap_i64]; omega
  obtain ⟨K2, hK2⟩ : ∃ K : Int, K = ((m + 1 : Nat) : Int) := ⟨_, rfl⟩
  have wl2 : IntKind.i64.wrap (LV - 2) = K2 := by rw [IntKind.wrap_i64]; omega
  have nJ : (J == K2) = false := beq_eq_false_iff_ne.2 (by omega)
  rw [← hLV, ← hJ]
  have hSd := hst.s
  clear hcl hfe g1 g2 g3 hw h hst hl hJ hLV hL1 h0 h1 hn hj hsq hN hK2
  go_enter Tryz.func85, Tryz.ntmps85
  go_wp2_with fail
  refine hg.mono ?_
  rintro v w1 ⟨rfl, o1, k1, k2⟩
  have hbx : Below w1.heap.size w1 ((w1.alloc (.cells (Sx f) 148)).alloc (.cells #[.int .i64 0, .int .i64 0, .int .i64 0, .int .i64 0, .int .i64 0, .int .i64 0, .int .i64 0, .int .i64 0, .int .i64 0] 152)) := ((Below.refl _ _).alloc (Nat.le_refl _) _).alloc (by simp) _
  have HM0 : Hid (NI o w lb b t rb rl 0 A w1.heap.size (w1.heap.size + 1) f (fun _ => 0) ((w1.alloc (.cells (Sx f) 148)).alloc (.cells #[.int .i64 0, .int .i64 0, .int .i64 0, .int .i64 0, .int .i64 0, .int .i64 0, .int .i64 0, .int .i64 0, .int .i64 0] 152)) (ext o1 w1.heap.size 0)) := ⟨k1.below hbx, k2.trans (Ch.ofBelow hbx 0), heap_alloc2_old w1 _ _, heap_alloc2_new w1 _ _, ext_new (Nat.le_refl _), ext_new (by omega), k2.size, by have := k2.size; omega, by omega⟩
  have HG0 : Hid (NG PR S rb rl t q A A 0 id m j 0 (fun _ => 0)) := NG.zero HS.out HCL.out
  clear k1 k2 hbx hg
  unfold gridV Sx
  unfold Sx at HM0
  generalize hpb : w1.heap.size = pb at *
  go_wp2_with fail
  go_loopg [32] 3 (fun g s32 wr => ∃ y : Nat, y + g = 3 ∧ s32 = .int .i64 y ∧ ∃ e A' n o', NI o w lb b t rb rl e A' pb (pb + 1) f n wr o' ∧ NG PR S rb rl t q A A' e id m j (3 * y) n)
  case atStart => exact ⟨0, by omega, rfl, _, _, _, _, HM0.out, HG0.out⟩
  case round =>
    clear HM0 HG0
    obtain ⟨y, hyg, rfl, e, A1, n, o2, M, G⟩ := hrel
    obtain ⟨GK, hGK⟩ : ∃ a, a = gk := ⟨_, rfl⟩
    subst hGK
    have HI : Hid (y + GK = 3) := hyg
    have HM : Hid (NI o w lb b t rb rl e A1 pb (pb + 1) f n wr o2 ∧ NG PR S rb rl t q A A1 e id m j (3 * y) n) := ⟨M, G⟩
    clear M G
    have hy : y = 0 ∨ y = 1 ∨ y = 2 ∨ y = 3 := by omega
    clear hyg
    rcases hy with rfl | rfl | rfl | rfl
    · go_wp2_with fail
      go_loopg [35] 3 (fun g s35 wr => ∃ x : Nat, x + g = 3 ∧ s35 = .int .i64 x ∧ ∃ e A' n o', NI o w lb b t rb rl e A' pb (pb + 1) f n wr o' ∧ NG PR S rb rl t q A A' e id m j (0 + x) n)
      case atStart => exact ⟨0, by omega, rfl, _, _, _, _, HM.out.1, HM.out.2⟩
      case round =>
        clear HM
        obtain ⟨x, hxg, rfl, e, A1, n, o2, M, G⟩ := hrel
        have HK : Hid (x + gk = 3) := hxg
        have HM : Hid (NI o w lb b t rb rl e A1 pb (pb + 1) f n wr o2 ∧ NG PR S rb rl t q A A1 e id m j (0 + x) n) := ⟨M, G⟩
        clear M G
        have hx : x = 0 ∨ x = 1 ∨ x = 2 ∨ x = 3 := by omega
        clear hxg
        rcases hx with rfl | rfl | rfl | rfl
        · obtain ⟨⟨c0, c1⟩, c2, c3⟩ : (wr.cell? ⟨pb, 0, none⟩ = some (.int .i64 (f 0)) ∧ wr.cell? ⟨pb, 1, none⟩ = some (.int .i64 (f 1))) ∧ (wr.cell? ⟨pb, 4, none⟩ = some (.int .i64 (f 4))) ∧ wr.cell? ⟨pb, 5, none⟩ = some (.int .i64 (f 5)) := ⟨⟨HM.out.1.p.cell 0 (by omega), HM.out.1.p.cell 1 (by omega)⟩, HM.out.1.p.cell 4 (by omega), HM.out.1.p.cell 5 (by omega)⟩
          have hwin := window_any (w := wr.drew) pb 0 4 4 0 (by omega) (by omega) _ _ _ _ HM.out.1.p.lt c0 c1 c2 c3
          clear c0 c1 c2 c3
          unfold quad4 at hwin
          go_wp2_with fail
          go_region_with (first
            | (go_at_call 101; refine hwin.mono ?_; rintro u w3 ⟨rfl, hb3⟩)
            | (go_at_call 100; have M3 := HM.out.1.below (below_dr hb3); have hjn := lpJoin_rel M3.ls HM.out.2.st ht HM.out.2.er (m + 1) (by have := HN.out.2.2.2.2; omega) (f 0) (f 1) (f 4) (f 5) (fun _ => ⟨HM.out.2.go.sees.lev (HP.out.lev 0 (by omega)), HM.out.2.go.sees.lev (HP.out.lev 1 (by omega)), HM.out.2.go.sees.lev (HP.out.lev 4 (by omega)), HM.out.2.go.sees.lev (HP.out.lev 5 (by omega))⟩); unfold quad4 at hjn; refine hjn.mono ?_; rintro u w4 ⟨v1, rfl, e4, A4, k4, s4, g4, d4⟩; obtain ⟨o4, M4⟩ := M3.kp k4)
            | (go_at_call 62; have hnx := lpNext_rel HN.out.1 M4.ls s4 ht HN.out.2.2.1 HN.out.2.2.2.1 (by have := HN.out.2.2.2.2; omega) (by rcases d4 with d4 | d4; exact .inr d4; exact .inl d4.1) v1 j (by have := HJ.out; omega) (fun e0 => by rcases d4 with d4 | d4; (first | exact absurd e0 d4.ne | exact absurd d4 e0.ne); exact ⟨d4.2.2.2, (HM.out.2.cl d4.2.1).more HM.out.2.st ht g4 joinD_sq⟩); rw [← HL1.out, ← HJ1.out] at hnx; refine hnx.mono ?_; rintro u w5 ⟨v2, rfl, e5, A5, k5, s5, g5, d5⟩; obtain ⟨o5, M5⟩ := M4.kp k5; have hz5 := M5.n.fz 0; have hc5 := M5.n.cell 0 (by omega))
            | fail)
          all_goals
            have HM5 : Hid (NI o w lb b t rb rl e5 A5 pb (pb + 1) f n w5 o5) := M5
            have HG5 : Hid (NG PR S rb rl t q A A5 e5 id m j (0 + 1) (putN n 0 v2)) := NG.step HP.out HM.out.2 ht 0 0 (by omega) (by omega) rfl s4 g4 d4 s5 g5 d5
            clear M3 M4 M5 hjn hnx k4 s4 g4 d4 k5 s5 g5 d5 hb3 hwin
            go_wp2_with fail
            go_roundg (gk - 1)
            case measure => have := HK.out; omega
            case rel => exact ⟨1, by have := HK.out; omega, by go_num, _, _, _, _, HM5.out.set (g' := putN n 0 v2) 0 v2 (Go.Joins.block_setCell HM5.out.n _), HG5.out⟩
        · obtain ⟨⟨c0, c1⟩, c2, c3⟩ : (wr.cell? ⟨pb, 1, none⟩ = some (.int .i64 (f 1)) ∧ wr.cell? ⟨pb, 2, none⟩ = some (.int .i64 (f 2))) ∧ (wr.cell? ⟨pb, 5, none⟩ = some (.int .i64 (f 5))) ∧ wr.cell? ⟨pb, 6, none⟩ = some (.int .i64 (f 6)) := ⟨⟨HM.out.1.p.cell 1 (by omega), HM.out.1.p.cell 2 (by omega)⟩, HM.out.1.p.cell 5 (by omega), HM.out.1.p.cell 6 (by omega)⟩
          have hwin := window_any (w := wr.drew) pb 0 4 4 1 (by omega) (by omega) _ _ _ _ HM.out.1.p.lt c0 c1 c2 c3
          clear c0 c1 c2 c3
          unfold quad4 at hwin
          go_wp2_with fail
          go_region_with (first
            | (go_at_call 101; refine hwin.mono ?_; rintro u w3 ⟨rfl, hb3⟩)
            | (go_at_call 100; have M3 := HM.out.1.below (below_dr hb3); have hjn := lpJoin_rel M3.ls HM.out.2.st ht HM.out.2.er (m + 1) (by have := HN.out.2.2.2.2; omega) (f 1) (f 2) (f 5) (f 6) (fun _ => ⟨HM.out.2.go.sees.lev (HP.out.lev 1 (by omega)), HM.out.2.go.sees.lev (HP.out.lev 2 (by omega)), HM.out.2.go.sees.lev (HP.out.lev 5 (by omega)), HM.out.2.go.sees.lev (HP.out.lev 6 (by omega))⟩); unfold quad4 at hjn; refine hjn.mono ?_; rintro u w4 ⟨v1, rfl, e4, A4, k4, s4, g4, d4⟩; obtain ⟨o4, M4⟩ := M3.kp k4)
            | (go_at_call 62; have hnx := lpNext_rel HN.out.1 M4.ls s4 ht HN.out.2.2.1 HN.out.2.2.2.1 (by have := HN.out.2.2.2.2; omega) (by rcases d4 with d4 | d4; exact .inr d4; exact .inl d4.1) v1 j (by have := HJ.out; omega) (fun e0 => by rcases d4 with d4 | d4; (first | exact absurd e0 d4.ne | exact absurd d4 e0.ne); exact ⟨d4.2.2.2, (HM.out.2.cl d4.2.1).more HM.out.2.st ht g4 joinD_sq⟩); rw [← HL1.out, ← HJ1.out] at hnx; refine hnx.mono ?_; rintro u w5 ⟨v2, rfl, e5, A5, k5, s5, g5, d5⟩; obtain ⟨o5, M5⟩ := M4.kp k5; have hz5 := M5.n.fz 1; have hc5 := M5.n.cell 1 (by omega))
            | fail)
          all_goals
            have HM5 : Hid (NI o w lb b t rb rl e5 A5 pb (pb + 1) f n w5 o5) := M5
            have HG5 : Hid (NG PR S rb rl t q A A5 e5 id m j (1 + 1) (putN n 1 v2)) := NG.step HP.out HM.out.2 ht 1 0 (by omega) (by omega) rfl s4 g4 d4 s5 g5 d5
            clear M3 M4 M5 hjn hnx k4 s4 g4 d4 k5 s5 g5 d5 hb3 hwin
            go_wp2_with fail
            go_roundg (gk - 1)
            case measure => have := HK.out; omega
            case rel => exact ⟨2, by have := HK.out; omega, by go_num, _, _, _, _, HM5.out.set (g' := putN n 1 v2) 1 v2 (Go.Joins.block_setCell HM5.out.n _), HG5.out⟩
        · obtain ⟨⟨c0, c1⟩, c2, c3⟩ : (wr.cell? ⟨pb, 2, none⟩ = some (.int .i64 (f 2)) ∧ wr.cell? ⟨pb, 3, none⟩ = some (.int .i64 (f 3))) ∧ (wr.cell? ⟨pb, 6, none⟩ = some (.int .i64 (f 6))) ∧ wr.cell? ⟨pb, 7, none⟩ = some (.int .i64 (f 7)) := ⟨⟨HM.out.1.p.cell 2 (by omega), HM.out.1.p.cell 3 (by omega)⟩, HM.out.1.p.cell 6 (by omega), HM.out.1.p.cell 7 (by omega)⟩
          have hwin := window_any (w := wr.drew) pb 0 4 4 2 (by omega) (by omega) _ _ _ _ HM.out.1.p.lt c0 c1 c2 c3
          clear c0 c1 c2 c3
          unfold quad4 at hwin
          go_wp2_with fail
          go_region_with (first
            | (go_at_call 101; refine hwin.mono ?_; rintro u w3 ⟨rfl, hb3⟩)
            | (go_at_call 100; have M3 := HM.out.1.below (below_dr hb3); have hjn := lpJoin_rel M3.ls HM.out.2.st ht HM.out.2.er (m + 1) (by have := HN.out.2.2.2.2; omega) (f 2) (f 3) (f 6) (f 7) (fun _ => ⟨HM.out.2.go.sees.lev (HP.out.lev 2 (by omega)), HM.out.2.go.sees.lev (HP.out.lev 3 (by omega)), HM.out.2.go.sees.lev (HP.out.lev 6 (by omega)), HM.out.2.go.sees.lev (HP.out.lev 7 (by omega))⟩); unfold quad4 at hjn; refine hjn.mono ?_; rintro u w4 ⟨v1, rfl, e4, A4, k4, s4, g4, d4⟩; obtain ⟨o4, M4⟩ := M3.kp k4)
            | (go_at_call 62; have hnx := lpNext_rel HN.out.1 M4.ls s4 ht HN.out.2.2.1 HN.out.2.2.2.1 (by have := HN.out.2.2.2.2; omega) (by rcases d4 with d4 | d4; exact .inr d4; exact .inl d4.1) v1 j (by have := HJ.out; omega) (fun e0 => by rcases d4 with d4 | d4; (first | exact absurd e0 d4.ne | exact absurd d4 e0.ne); exact ⟨d4.2.2.2, (HM.out.2.cl d4.2.1).more HM.out.2.st ht g4 joinD_sq⟩); rw [← HL1.out, ← HJ1.out] at hnx; refine hnx.mono ?_; rintro u w5 ⟨v2, rfl, e5, A5, k5, s5, g5, d5⟩; obtain ⟨o5, M5⟩ := M4.kp k5; have hz5 := M5.n.fz 2; have hc5 := M5.n.cell 2 (by omega))
            | fail)
          all_goals
            have HM5 : Hid (NI o w lb b t rb rl e5 A5 pb (pb + 1) f n w5 o5) := M5
            have HG5 : Hid (NG PR S rb rl t q A A5 e5 id m j (2 + 1) (putN n 2 v2)) := NG.step HP.out HM.out.2 ht 2 0 (by omega) (by omega) rfl s4 g4 d4 s5 g5 d5
            clear M3 M4 M5 hjn hnx k4 s4 g4 d4 k5 s5 g5 d5 hb3 hwin
            go_wp2_with fail
            go_roundg (gk - 1)
            case measure => have := HK.out; omega
            case rel => exact ⟨3, by have := HK.out; omega, by go_num, _, _, _, _, HM5.out.set (g' := putN n 2 v2) 2 v2 (Go.Joins.block_setCell HM5.out.n _), HG5.out⟩
        · go_wp2_with fail
          go_roundg (GK - 1)
          case measure => have := HI.out; omega
          case rel => exact ⟨1, by have := HI.out; omega, by go_num, _, _, _, _, HM.out.1, HM.out.2⟩
    · go_wp2_with fail
      go_loopg [35] 3 (fun g s35 wr => ∃ x : Nat, x + g = 3 ∧ s35 = .int .i64 x ∧ ∃ e A' n o', NI o w lb b t rb rl e A' pb (pb + 1) f n wr o' ∧ NG PR S rb rl t q A A' e id m j (3 + x) n)
      case atStart => exact ⟨0, by omega, rfl, _, _, _, _, HM.out.1, HM.out.2⟩
      case round =>
        clear HM
        obtain ⟨x, hxg, rfl, e, A1, n, o2, M, G⟩ := hrel
        have HK : Hid (x + gk = 3) := hxg
        have HM : Hid (NI o w lb b t rb rl e A1 pb (pb + 1) f n wr o2 ∧ NG PR S rb rl t q A A1 e id m j (3 + x) n) := ⟨M, G⟩
        clear M G
        have hx : x = 0 ∨ x = 1 ∨ x = 2 ∨ x = 3 := by omega
        clear hxg
        rcases hx with rfl | rfl | rfl | rfl
        · obtain ⟨⟨c0, c1⟩, c2, c3⟩ : (wr.cell? ⟨pb, 4, none⟩ = some (.int .i64 (f 4)) ∧ wr.cell? ⟨pb, 5, none⟩ = some (.int .i64 (f 5))) ∧ (wr.cell? ⟨pb, 8, none⟩ = some (.int .i64 (f 8))) ∧ wr.cell? ⟨pb, 9, none⟩ = some (.int .i64 (f 9)) := ⟨⟨HM.out.1.p.cell 4 (by omega), HM.out.1.p.cell 5 (by omega)⟩, HM.out.1.p.cell 8 (by omega), HM.out.1.p.cell 9 (by omega)⟩
          have hwin := window_any (w := wr.drew) pb 4 8 4 0 (by omega) (by omega) _ _ _ _ HM.out.1.p.lt c0 c1 c2 c3
          clear c0 c1 c2 c3
          unfold quad4 at hwin
          go_wp2_with fail
          go_region_with (first
            | (go_at_call 101; refine hwin.mono ?_; rintro u w3 ⟨rfl, hb3⟩)
            | (go_at_call 100; have M3 := HM.out.1.below (below_dr hb3); have hjn := lpJoin_rel M3.ls HM.out.2.st ht HM.out.2.er (m + 1) (by have := HN.out.2.2.2.2; omega) (f 4) (f 5) (f 8) (f 9) (fun _ => ⟨HM.out.2.go.sees.lev (HP.out.lev 4 (by omega)), HM.out.2.go.sees.lev (HP.out.lev 5 (by omega)), HM.out.2.go.sees.lev (HP.out.lev 8 (by omega)), HM.out.2.go.sees.lev (HP.out.lev 9 (by omega))⟩); unfold quad4 at hjn; refine hjn.mono ?_; rintro u w4 ⟨v1, rfl, e4, A4, k4, s4, g4, d4⟩; obtain ⟨o4, M4⟩ := M3.kp k4)
            | (go_at_call 62; have hnx := lpNext_rel HN.out.1 M4.ls s4 ht HN.out.2.2.1 HN.out.2.2.2.1 (by have := HN.out.2.2.2.2; omega) (by rcases d4 with d4 | d4; exact .inr d4; exact .inl d4.1) v1 j (by have := HJ.out; omega) (fun e0 => by rcases d4 with d4 | d4; (first | exact absurd e0 d4.ne | exact absurd d4 e0.ne); exact ⟨d4.2.2.2, (HM.out.2.cl d4.2.1).more HM.out.2.st ht g4 joinD_sq⟩); rw [← HL1.out, ← HJ1.out] at hnx; refine hnx.mono ?_; rintro u w5 ⟨v2, rfl, e5, A5, k5, s5, g5, d5⟩; obtain ⟨o5, M5⟩ := M4.kp k5; have hz5 := M5.n.fz 3; have hc5 := M5.n.cell 3 (by omega))
            | fail)
          all_goals
            have HM5 : Hid (NI o w lb b t rb rl e5 A5 pb (pb + 1) f n w5 o5) := M5
            have HG5 : Hid (NG PR S rb rl t q A A5 e5 id m j (3 + 1) (putN n 3 v2)) := NG.step HP.out HM.out.2 ht 0 1 (by omega) (by omega) rfl s4 g4 d4 s5 g5 d5
            clear M3 M4 M5 hjn hnx k4 s4 g4 d4 k5 s5 g5 d5 hb3 hwin
            go_wp2_with fail
            go_roundg (gk - 1)
            case measure => have := HK.out; omega
            case rel => exact ⟨1, by have := HK.out; omega, by go_num, _, _, _, _, HM5.out.set (g' := putN n 3 v2) 3 v2 (Go.Joins.block_setCell HM5.out.n _), HG5.out⟩
        · obtain ⟨⟨c0, c1⟩, c2, c3⟩ : (wr.cell? ⟨pb, 5, none⟩ = some (.int .i64 (f 5)) ∧ wr.cell? ⟨pb, 6, none⟩ = some (.int .i64 (f 6))) ∧ (wr.cell? ⟨pb, 9, none⟩ = some (.int .i64 (f 9))) ∧ wr.cell? ⟨pb, 10, none⟩ = some (.int .i64 (f 10)) := ⟨⟨HM.out.1.p.cell 5 (by omega), HM.out.1.p.cell 6 (by omega)⟩, HM.out.1.p.cell 9 (by omega), HM.out.1.p.cell 10 (by omega)⟩
          have hwin := window_any (w := wr.drew) pb 4 8 4 1 (by omega) (by omega) _ _ _ _ HM.out.1.p.lt c0 c1 c2 c3
          clear c0 c1 c2 c3
          unfold quad4 at hwin
          go_wp2_with fail
          go_region_with (first
            | (go_at_call 101; refine hwin.mono ?_; rintro u w3 ⟨rfl, hb3⟩)
            | (go_at_call 100; have M3 := HM.out.1.below (below_dr hb3); have hjn := lpJoin_rel M3.ls HM.out.2.st ht HM.out.2.er (m + 1) (by have := HN.out.2.2.2.2; omega) (f 5) (f 6) (f 9) (f 10) (fun _ => ⟨HM.out.2.go.sees.lev (HP.out.lev 5 (by omega)), HM.out.2.go.sees.lev (HP.out.lev 6 (by omega)), HM.out.2.go.sees.lev (HP.out.lev 9 (by omega)), HM.out.2.go.sees.lev (HP.out.lev 10 (by omega))⟩); unfold quad4 at hjn; refine hjn.mono ?_; rintro u w4 ⟨v1, rfl, e4, A4, k4, s4, g4, d4⟩; obtain ⟨o4, M4⟩ := M3.kp k4)
            | (go_at_call 62; have hnx := lpNext_rel HN.out.1 M4.ls s4 ht HN.out.2.2.1 HN.out.2.2.2.1 (by have := HN.out.2.2.2.2; omega) (by rcases d4 with d4 | d4; exact .inr d4; exact .inl d4.1) v1 j (by have := HJ.out; omega) (fun e0 => by rcases d4 with d4 | d4; (first | exact absurd e0 d4.ne | exact absurd d4 e0.ne); exact ⟨d4.2.2.2, (HM.out.2.cl d4.2.1).more HM.out.2.st ht g4 joinD_sq⟩); rw [← HL1.out, ← HJ1.out] at hnx; refine hnx.mono ?_; rintro u w5 ⟨v2, rfl, e5, A5, k5, s5, g5, d5⟩; obtain ⟨o5, M5⟩ := M4.kp k5; have hz5 := M5.n.fz 4; have hc5 := M5.n.cell 4 (by omega))
            | fail)
          all_goals
            have HM5 : Hid (NI o w lb b t rb rl e5 A5 pb (pb + 1) f n w5 o5) := M5
            have HG5 : Hid (NG PR S rb rl t q A A5 e5 id m j (4 + 1) (putN n 4 v2)) := NG.step HP.out HM.out.2 ht 1 1 (by omega) (by omega) rfl s4 g4 d4 s5 g5 d5
            clear M3 M4 M5 hjn hnx k4 s4 g4 d4 k5 s5 g5 d5 hb3 hwin
            go_wp2_with fail
            go_roundg (gk - 1)
            case measure => have := HK.out; omega
            case rel => exact ⟨2, by have := HK.out; omega, by go_num, _, _, _, _, HM5.out.set (g' := putN n 4 v2) 4 v2 (Go.Joins.block_setCell HM5.out.n _), HG5.out⟩
        · obtain ⟨⟨c0, c1⟩, c2, c3⟩ : (wr.cell? ⟨pb, 6, none⟩ = some (.int .i64 (f 6)) ∧ wr.cell? ⟨pb, 7, none⟩ = some (.int .i64 (f 7))) ∧ (wr.cell? ⟨pb, 10, none⟩ = some (.int .i64 (f 10))) ∧ wr.cell? ⟨pb, 11, none⟩ = some (.int .i64 (f 11)) := ⟨⟨HM.out.1.p.cell 6 (by omega), HM.out.1.p.cell 7 (by omega)⟩, HM.out.1.p.cell 10 (by omega), HM.out.1.p.cell 11 (by omega)⟩
          have hwin := window_any (w := wr.drew) pb 4 8 4 2 (by omega) (by omega) _ _ _ _ HM.out.1.p.lt c0 c1 c2 c3
          clear c0 c1 c2 c3
          unfold quad4 at hwin
          go_wp2_with fail
          go_region_with (first
            | (go_at_call 101; refine hwin.mono ?_; rintro u w3 ⟨rfl, hb3⟩)
            | (go_at_call 100; have M3 := HM.out.1.below (below_dr hb3); have hjn := lpJoin_rel M3.ls HM.out.2.st ht HM.out.2.er (m + 1) (by have := HN.out.2.2.2.2; omega) (f 6) (f 7) (f 10) (f 11) (fun _ => ⟨HM.out.2.go.sees.lev (HP.out.lev 6 (by omega)), HM.out.2.go.sees.lev (HP.out.lev 7 (by omega)), HM.out.2.go.sees.lev (HP.out.lev 10 (by omega)), HM.out.2.go.sees.lev (HP.out.lev 11 (by omega))⟩); unfold quad4 at hjn; refine hjn.mono ?_; rintro u w4 ⟨v1, rfl, e4, A4, k4, s4, g4, d4⟩; obtain ⟨o4, M4⟩ := M3.kp k4)
            | (go_at_call 62; have hnx := lpNext_rel HN.out.1 M4.ls s4 ht HN.out.2.2.1 HN.out.2.2.2.1 (by have := HN.out.2.2.2.2; omega) (by rcases d4 with d4 | d4; exact .inr d4; exact .inl d4.1) v1 j (by have := HJ.out; omega) (fun e0 => by rcases d4 with d4 | d4; (first | exact absurd e0 d4.ne | exact absurd d4 e0.ne); exact ⟨d4.2.2.2, (HM.out.2.cl d4.2.1).more HM.out.2.st ht g4 joinD_sq⟩); rw [← HL1.out, ← HJ1.out] at hnx; refine hnx.mono ?_; rintro u w5 ⟨v2, rfl, e5, A5, k5, s5, g5, d5⟩; obtain ⟨o5, M5⟩ := M4.kp k5; have hz5 := M5.n.fz 5; have hc5 := M5.n.cell 5 (by omega))
            | fail)
          all_goals
            have HM5 : Hid (NI o w lb b t rb rl e5 A5 pb (pb + 1) f n w5 o5) := M5
            have HG5 : Hid (NG PR S rb rl t q A A5 e5 id m j (5 + 1) (putN n 5 v2)) := NG.step HP.out HM.out.2 ht 2 1 (by omega) (by omega) rfl s4 g4 d4 s5 g5 d5
            clear M3 M4 M5 hjn hnx k4 s4 g4 d4 k5 s5 g5 d5 hb3 hwin
            go_wp2_with fail
            go_roundg (gk - 1)
            case measure => have := HK.out; omega
            case rel => exact ⟨3, by have := HK.out; omega, by go_num, _, _, _, _, HM5.out.set (g' := putN n 5 v2) 5 v2 (Go.Joins.block_setCell HM5.out.n _), HG5.out⟩
        · go_wp2_with fail
          go_roundg (GK - 1)
          case measure => have := HI.out; omega
          case rel => exact ⟨2, by have := HI.out; omega, by go_num, _, _, _, _, HM.out.1, HM.out.2⟩
    · go_wp2_with fail
      go_loopg [35] 3 (fun g s35 wr => ∃ x : Nat, x + g = 3 ∧ s35 = .int .i64 x ∧ ∃ e A' n o', NI o w lb b t rb rl e A' pb (pb + 1) f n wr o' ∧ NG PR S rb rl t q A A' e id m j (6 + x) n)
      case atStart => exact ⟨0, by omega, rfl, _, _, _, _, HM.out.1, HM.out.2⟩
      case round =>
        clear HM
        obtain ⟨x, hxg, rfl, e, A1, n, o2, M, G⟩ := hrel
        have HK : Hid (x + gk = 3) := hxg
        have HM : Hid (NI o w lb b t rb rl e A1 pb (pb + 1) f n wr o2 ∧ NG PR S rb rl t q A A1 e id m j (6 + x) n) := ⟨M, G⟩
        clear M G
        have hx : x = 0 ∨ x = 1 ∨ x = 2 ∨ x = 3 := by omega
        clear hxg
        rcases hx with rfl | rfl | rfl | rfl
        · obtain ⟨⟨c0, c1⟩, c2, c3⟩ : (wr.cell? ⟨pb, 8, none⟩ = some (.int .i64 (f 8)) ∧ wr.cell? ⟨pb, 9, none⟩ = some (.int .i64 (f 9))) ∧ (wr.cell? ⟨pb, 12, none⟩ = some (.int .i64 (f 12))) ∧ wr.cell? ⟨pb, 13, none⟩ = some (.int .i64 (f 13)) := ⟨⟨HM.out.1.p.cell 8 (by omega), HM.out.1.p.cell 9 (by omega)⟩, HM.out.1.p.cell 12 (by omega), HM.out.1.p.cell 13 (by omega)⟩
          have hwin := window_any (w := wr.drew) pb 8 12 4 0 (by omega) (by omega) _ _ _ _ HM.out.1.p.lt c0 c1 c2 c3
          clear c0 c1 c2 c3
          unfold quad4 at hwin
          go_wp2_with fail
          go_region_with (first
            | (go_at_call 101; refine hwin.mono ?_; rintro u w3 ⟨rfl, hb3⟩)
            | (go_at_call 100; have M3 := HM.out.1.below (below_dr hb3); have hjn := lpJoin_rel M3.ls HM.out.2.st ht HM.out.2.er (m + 1) (by have := HN.out.2.2.2.2; omega) (f 8) (f 9) (f 12) (f 13) (fun _ => ⟨HM.out.2.go.sees.lev (HP.out.lev 8 (by omega)), HM.out.2.go.sees.lev (HP.out.lev 9 (by omega)), HM.out.2.go.sees.lev (HP.out.lev 12 (by omega)), HM.out.2.go.sees.lev (HP.out.lev 13 (by omega))⟩); unfold quad4 at hjn; refine hjn.mono ?_; rintro u w4 ⟨v1, rfl, e4, A4, k4, s4, g4, d4⟩; obtain ⟨o4, M4⟩ := M3.kp k4)
            | (go_at_call 62; have hnx := lpNext_rel HN.out.1 M4.ls s4 ht HN.out.2.2.1 HN.out.2.2.2.1 (by have := HN.out.2.2.2.2; omega) (by rcases d4 with d4 | d4; exact .inr d4; exact .inl d4.1) v1 j (by have := HJ.out; omega) (fun e0 => by rcases d4 with d4 | d4; (first | exact absurd e0 d4.ne | exact absurd d4 e0.ne); exact ⟨d4.2.2.2, (HM.out.2.cl d4.2.1).more HM.out.2.st ht g4 joinD_sq⟩); rw [← HL1.out, ← HJ1.out] at hnx; refine hnx.mono ?_; rintro u w5 ⟨v2, rfl, e5, A5, k5, s5, g5, d5⟩; obtain ⟨o5, M5⟩ := M4.kp k5; have hz5 := M5.n.fz 6; have hc5 := M5.n.cell 6 (by omega))
            | fail)
          all_goals
            have HM5 : Hid (NI o w lb b t rb rl e5 A5 pb (pb + 1) f n w5 o5) := M5
            have HG5 : Hid (NG PR S rb rl t q A A5 e5 id m j (6 + 1) (putN n 6 v2)) := NG.step HP.out HM.out.2 ht 0 2 (by omega) (by omega) rfl s4 g4 d4 s5 g5 d5
            clear M3 M4 M5 hjn hnx k4 s4 g4 d4 k5 s5 g5 d5 hb3 hwin
            go_wp2_with fail
            go_roundg (gk - 1)
            case measure => have := HK.out; omega
            case rel => exact ⟨1, by have := HK.out; omega, by go_num, _, _, _, _, HM5.out.set (g' := putN n 6 v2) 6 v2 (Go.Joins.block_setCell HM5.out.n _), HG5.out⟩
        · obtain ⟨⟨c0, c1⟩, c2, c3⟩ : (wr.cell? ⟨pb, 9, none⟩ = some (.int .i64 (f 9)) ∧ wr.cell? ⟨pb, 10, none⟩ = some (.int .i64 (f 10))) ∧ (wr.cell? ⟨pb, 13, none⟩ = some (.int .i64 (f 13))) ∧ wr.cell? ⟨pb, 14, none⟩ = some (.int .i64 (f 14)) := ⟨⟨HM.out.1.p.cell 9 (by omega), HM.out.1.p.cell 10 (by omega)⟩, HM.out.1.p.cell 13 (by omega), HM.out.1.p.cell 14 (by omega)⟩
          have hwin := window_any (w := wr.drew) pb 8 12 4 1 (by omega) (by omega) _ _ _ _ HM.out.1.p.lt c0 c1 c2 c3
          clear c0 c1 c2 c3
          unfold quad4 at hwin
          go_wp2_with fail
          go_region_with (first
            | (go_at_call 101; refine hwin.mono ?_; rintro u w3 ⟨rfl, hb3⟩)
            | (go_at_call 100; have M3 := HM.out.1.below (below_dr hb3); have hjn := lpJoin_rel M3.ls HM.out.2.st ht HM.out.2.er (m + 1) (by have := HN.out.2.2.2.2; omega) (f 9) (f 10) (f 13) (f 14) (fun _ => ⟨HM.out.2.go.sees.lev (HP.out.lev 9 (by omega)), HM.out.2.go.sees.lev (HP.out.lev 10 (by omega)), HM.out.2.go.sees.lev (HP.out.lev 13 (by omega)), HM.out.2.go.sees.lev (HP.out.lev 14 (by omega))⟩); unfold quad4 at hjn; refine hjn.mono ?_; rintro u w4 ⟨v1, rfl, e4, A4, k4, s4, g4, d4⟩; obtain ⟨o4, M4⟩ := M3.kp k4)
            | (go_at_call 62; have hnx := lpNext_rel HN.out.1 M4.ls s4 ht HN.out.2.2.1 HN.out.2.2.2.1 (by have := HN.out.2.2.2.2; omega) (by rcases d4 with d4 | d4; exact .inr d4; exact .inl d4.1) v1 j (by have := HJ.out; omega) (fun e0 => by rcases d4 with d4 | d4; (first | exact absurd e0 d4.ne | exact absurd d4 e0.ne); exact ⟨d4.2.2.2, (HM.out.2.cl d4.2.1).more HM.out.2.st ht g4 joinD_sq⟩); rw [← HL1.out, ← HJ1.out] at hnx; refine hnx.mono ?_; rintro u w5 ⟨v2, rfl, e5, A5, k5, s5, g5, d5⟩; obtain ⟨o5, M5⟩ := M4.kp k5; have hz5 := M5.n.fz 7; have hc5 := M5.n.cell 7 (by omega))
            | fail)
          all_goals
            have HM5 : Hid (NI o w lb b t rb rl e5 A5 pb (pb + 1) f n w5 o5) := M5
            have HG5 : Hid (NG PR S rb rl t q A A5 e5 id m j (7 + 1) (putN n 7 v2)) := NG.step HP.out HM.out.2 ht 1 2 (by omega) (by omega) rfl s4 g4 d4 s5 g5 d5
            clear M3 M4 M5 hjn hnx k4 s4 g4 d4 k5 s5 g5 d5 hb3 hwin
            go_wp2_with fail
            go_roundg (gk - 1)
            case measure => have := HK.out; omega
            case rel => exact ⟨2, by have := HK.out; omega, by go_num, _, _, _, _, HM5.out.set (g' := putN n 7 v2) 7 v2 (Go.Joins.block_setCell HM5.out.n _), HG5.out⟩
        · obtain ⟨⟨c0, c1⟩, c2, c3⟩ : (wr.cell? ⟨pb, 10, none⟩ = some (.int .i64 (f 10)) ∧ wr.cell? ⟨pb, 11, none⟩ = some (.int .i64 (f 11))) ∧ (wr.cell? ⟨pb, 14, none⟩ = some (.int .i64 (f 14))) ∧ wr.cell? ⟨pb, 15, none⟩ = some (.int .i64 (f 15)) := ⟨⟨HM.out.1.p.cell 10 (by omega), HM.out.1.p.cell 11 (by omega)⟩, HM.out.1.p.cell 14 (by omega), HM.out.1.p.cell 15 (by omega)⟩
          have hwin := window_any (w := wr.drew) pb 8 12 4 2 (by omega) (by omega) _ _ _ _ HM.out.1.p.lt c0 c1 c2 c3
          clear c0 c1 c2 c3
          unfold quad4 at hwin
          go_wp2_with fail
          go_region_with (first
            | (go_at_call 101; refine hwin.mono ?_; rintro u w3 ⟨rfl, hb3⟩)
            | (go_at_call 100; have M3 := HM.out.1.below (below_dr hb3); have hjn := lpJoin_rel M3.ls HM.out.2.st ht HM.out.2.er (m + 1) (by have := HN.out.2.2.2.2; omega) (f 10) (f 11) (f 14) (f 15) (fun _ => ⟨HM.out.2.go.sees.lev (HP.out.lev 10 (by omega)), HM.out.2.go.sees.lev (HP.out.lev 11 (by omega)), HM.out.2.go.sees.lev (HP.out.lev 14 (by omega)), HM.out.2.go.sees.lev (HP.out.lev 15 (by omega))⟩); unfold quad4 at hjn; refine hjn.mono ?_; rintro u w4 ⟨v1, rfl, e4, A4, k4, s4, g4, d4⟩; obtain ⟨o4, M4⟩ := M3.kp k4)
            | (go_at_call 62; have hnx := lpNext_rel HN.out.1 M4.ls s4 ht HN.out.2.2.1 HN.out.2.2.2.1 (by have := HN.out.2.2.2.2; omega) (by rcases d4 with d4 | d4; exact .inr d4; exact .inl d4.1) v1 j (by have := HJ.out; omega) (fun e0 => by rcases d4 with d4 | d4; (first | exact absurd e0 d4.ne | exact absurd d4 e0.ne); exact ⟨d4.2.2.2, (HM.out.2.cl d4.2.1).more HM.out.2.st ht g4 joinD_sq⟩); rw [← HL1.out, ← HJ1.out] at hnx; refine hnx.mono ?_; rintro u w5 ⟨v2, rfl, e5, A5, k5, s5, g5, d5⟩; obtain ⟨o5, M5⟩ := M4.kp k5; have hz5 := M5.n.fz 8; have hc5 := M5.n.cell 8 (by omega))
            | fail)
          all_goals
            have HM5 : Hid (NI o w lb b t rb rl e5 A5 pb (pb + 1) f n w5 o5) := M5
            have HG5 : Hid (NG PR S rb rl t q A A5 e5 id m j (8 + 1) (putN n 8 v2)) := NG.step HP.out HM.out.2 ht 2 2 (by omega) (by omega) rfl s4 g4 d4 s5 g5 d5
            clear M3 M4 M5 hjn hnx k4 s4 g4 d4 k5 s5 g5 d5 hb3 hwin
            go_wp2_with fail
            go_roundg (gk - 1)
            case measure => have := HK.out; omega
            case rel => exact ⟨3, by have := HK.out; omega, by go_num, _, _, _, _, HM5.out.set (g' := putN n 8 v2) 8 v2 (Go.Joins.block_setCell HM5.out.n _), HG5.out⟩
        · go_wp2_with fail
          go_roundg (GK - 1)
          case measure => have := HI.out; omega
          case rel => exact ⟨3, by have := HI.out; omega, by go_num, _, _, _, _, HM.out.1, HM.out.2⟩
    · have hbq : Below wr.heap.size wr (wr.alloc (.cells #[.int .i64 0, .int .i64 0, .int .i64 0, .int .i64 0] 41)) := (Below.refl _ _).alloc (Nat.le_refl _) _
      have M9 := HM.out.1.below hbq
      have HF0 : Hid (FI o w lb b t rb rl e A1 (pb + 1) wr.heap.size n (fun _ => 0) (wr.alloc (.cells #[.int .i64 0, .int .i64 0, .int .i64 0, .int .i64 0] 41)) (ext o2 wr.heap.size 0)) := ⟨M9.ls, M9.ch, M9.n, heap_alloc_new wr _, M9.ln, ext_new (Nat.le_refl _), M9.nn, HM.out.1.ch.size, by have := HM.out.1.n.lt; omega⟩
      have HG0 : Hid (FG PR S rb rl t q A A1 e id m j (j) 0 n (fun _ => 0)) := FG.ofNG HM.out.2 _
      clear M9 hbq HM
      generalize hqb : wr.heap.size = qb at *
      go_wp2_with fail
      go_loopg [60] 4 (fun g s60 wr => ∃ i : Nat, i + g = 4 ∧ s60 = .int .i64 i ∧ ∃ e A' n h o', FI o w lb b t rb rl e A' (pb + 1) qb n h wr o' ∧ FG PR S rb rl t q A A' e id m j (j) i n h)
      case atStart => exact ⟨0, by omega, rfl, _, _, _, _, _, HF0.out, HG0.out⟩
      case round =>
        clear HF0 HG0
        obtain ⟨i, hig, rfl, e, A1, n, h, o2, M, G⟩ := hrel
        have HK : Hid (i + gk = 4) := hig
        have HM : Hid (FI o w lb b t rb rl e A1 (pb + 1) qb n h wr o2 ∧ FG PR S rb rl t q A A1 e id m j (j) i n h) := ⟨M, G⟩
        clear M G
        have hi : i = 0 ∨ i = 1 ∨ i = 2 ∨ i = 3 ∨ i = 4 := by omega
        clear hig
        rcases hi with rfl | rfl | rfl | rfl | rfl
        · obtain ⟨⟨c0, c1⟩, c2, c3⟩ : (wr.cell? ⟨pb + 1, 0, none⟩ = some (.int .i64 (n 0)) ∧ wr.cell? ⟨pb + 1, 1, none⟩ = some (.int .i64 (n 1))) ∧ (wr.cell? ⟨pb + 1, 3, none⟩ = some (.int .i64 (n 3))) ∧ wr.cell? ⟨pb + 1, 4, none⟩ = some (.int .i64 (n 4)) := ⟨⟨HM.out.1.n.cell 0 (by omega), HM.out.1.n.cell 1 (by omega)⟩, HM.out.1.n.cell 3 (by omega), HM.out.1.n.cell 4 (by omega)⟩
          have hwin : ∀ V, Below wr.heap.size wr V → Calls Tryz.prog 101 #[.slice (some ⟨pb + 1, 0, none⟩) 3 3, .slice (some ⟨pb + 1, 3, none⟩) 3 3, .int .i64 ((0 : Nat) : Int)] V fun r w' => r = .returned (quad4 (n 0) (n 1) (n 3) (n 4)) ∧ Below V.heap.size V w' := fun V hV => window_any (w := V) (pb + 1) 0 3 3 0 (by omega) (by omega) _ _ _ _ (Nat.lt_of_lt_of_le HM.out.1.n.lt hV.size) ((hV.cell (p := ⟨pb + 1, 0, none⟩) HM.out.1.n.lt).trans c0) ((hV.cell (p := ⟨pb + 1, 1, none⟩) HM.out.1.n.lt).trans c1) ((hV.cell (p := ⟨pb + 1, 3, none⟩) HM.out.1.n.lt).trans c2) ((hV.cell (p := ⟨pb + 1, 4, none⟩) HM.out.1.n.lt).trans c3)
          clear c0 c1 c2 c3
          unfold quad4 at hwin
          have hWA : Below wr.heap.size wr (wr.alloc (.cells #[.int .i64 0, .int .i64 0, .int .i64 0, .int .i64 0] 41)) := (Below.refl _ _).alloc (Nat.le_refl _) _
          have HWA : Hid (Below wr.heap.size wr (wr.alloc (.cells #[.int .i64 0, .int .i64 0, .int .i64 0, .int .i64 0] 41))) := hWA
          have HXA : Hid ((wr.alloc (.cells #[.int .i64 0, .int .i64 0, .int .i64 0, .int .i64 0] 41)).heap[wr.heap.size]? = some (.cells #[.int .i64 0, .int .i64 0, .int .i64 0, .int .i64 0] 41 (0, 0))) := heap_alloc_new wr _
          clear hWA
          go_wp2_with fail
          go_region_with (first
            | (go_at_call 101; refine (hwin _ HWA.out.drew).mono ?_; rintro u w3 ⟨rfl, hb3⟩; have hX1 := ((below_dr hb3).block wr.heap.size (by simp)).trans HXA.out; have hc0 := Lib.cell_of_heap hX1 0; have hc1 := Lib.cell_of_heap hX1 1; have hc2 := Lib.cell_of_heap hX1 2; have hc3 := Lib.cell_of_heap hX1 3; have hz0 := Lib.frozen_of_heap hX1 0; have hz1 := Lib.frozen_of_heap hX1 1; have hz2 := Lib.frozen_of_heap hX1 2; have hz3 := Lib.frozen_of_heap hX1 3)
            | (go_at_call 101; refine (hwin _ (Below.refl _ _).drew).mono ?_; rintro u w3 ⟨rfl, hb4⟩)
            | fail)
          all_goals
            go_wp2_with fail
            first
            | (have hX2 := hX1
               have hbW : Below wr.heap.size wr ((((w3.setCell ⟨wr.heap.size, 0, none⟩ (.int .i64 (n 0))).setCell ⟨wr.heap.size, 1, none⟩ (.int .i64 (n 1))).setCell ⟨wr.heap.size, 2, none⟩ (.int .i64 (n 3))).setCell ⟨wr.heap.size, 3, none⟩ (.int .i64 (n 4))) := ((((HWA.out.trans ((below_dr hb3).mono (by simp))).setCell (p := ⟨wr.heap.size, 0, none⟩) (Nat.le_refl _) _).setCell (p := ⟨wr.heap.size, 1, none⟩) (Nat.le_refl _) _).setCell (p := ⟨wr.heap.size, 2, none⟩) (Nat.le_refl _) _).setCell (p := ⟨wr.heap.size, 3, none⟩) (Nat.le_refl _) _
               have M3 := HM.out.1.below hbW
               clear hX1 hX2 hbW hc0 hc1 hc2 hc3 hz0 hz1 hz2 hz3 hb3
               have hdo := lpMiddle_rel M3.ls HM.out.2.st ht HM.out.2.er m (by have := HN.out.2.2.2.2; omega) (n 0) (n 1) (n 3) (n 4) (fun e0 => ⟨(HM.out.2.nine e0 0 (by omega)).2, (HM.out.2.nine e0 1 (by omega)).2, (HM.out.2.nine e0 3 (by omega)).2, (HM.out.2.nine e0 4 (by omega)).2⟩)
               unfold quad4 at hdo
               refine hdo.mono ?_
               clear hdo hwin
               rintro u w5 ⟨v2, rfl, e5, A5, k5, s5, g5, d5⟩
               obtain ⟨o5, M5⟩ := M3.kp k5
               clear M3 k5)
            | (have hb5 := hb4
               have hbW : Below wr.heap.size wr (w3.alloc (.cells #[.int .i64 (n 0), .int .i64 (n 1), .int .i64 (n 3), .int .i64 (n 4)] 41)) := (below_dr hb4).alloc (below_dr hb4).size _
               have M3 := HM.out.1.below hbW
               clear hbW hb4 hb5
               have hdo := lpMiddle_rel M3.ls HM.out.2.st ht HM.out.2.er m (by have := HN.out.2.2.2.2; omega) (n 0) (n 1) (n 3) (n 4) (fun e0 => ⟨(HM.out.2.nine e0 0 (by omega)).2, (HM.out.2.nine e0 1 (by omega)).2, (HM.out.2.nine e0 3 (by omega)).2, (HM.out.2.nine e0 4 (by omega)).2⟩)
               unfold quad4 at hdo
               refine hdo.mono ?_
               clear hdo hwin
               rintro u w5 ⟨v2, rfl, e5, A5, k5, s5, g5, d5⟩
               obtain ⟨o5, M5⟩ := M3.kp k5
               clear M3 k5)
            | fail
          all_goals
            have HM5 : Hid (FI o w lb b t rb rl e5 A5 (pb + 1) qb n h w5 o5) := M5
            have HG5 : Hid (FG PR S rb rl t q A A5 e5 id m j j (0 + 1) n (putN h 0 v2)) := FG.part HP.out.sq HM.out.2 ht 0 0 (by omega) (by omega) rfl s5 g5 d5
            obtain ⟨⟨f0, f1, f2, f3⟩, y0, y1, y2, y3⟩ := M5.q.cells
            clear M5 s5 g5 d5
            go_wp2_with fail
            go_roundg (gk - 1)
            case measure => have := HK.out; omega
            case rel => exact ⟨1, by have := HK.out; omega, by go_num, _, _, _, _, _, HM5.out.set (h' := putN h 0 v2) 0 v2 (Go.Joins.block_setCell HM5.out.q _), HG5.out⟩
        · obtain ⟨⟨c0, c1⟩, c2, c3⟩ : (wr.cell? ⟨pb + 1, 1, none⟩ = some (.int .i64 (n 1)) ∧ wr.cell? ⟨pb + 1, 2, none⟩ = some (.int .i64 (n 2))) ∧ (wr.cell? ⟨pb + 1, 4, none⟩ = some (.int .i64 (n 4))) ∧ wr.cell? ⟨pb + 1, 5, none⟩ = some (.int .i64 (n 5)) := ⟨⟨HM.out.1.n.cell 1 (by omega), HM.out.1.n.cell 2 (by omega)⟩, HM.out.1.n.cell 4 (by omega), HM.out.1.n.cell 5 (by omega)⟩
          have hwin : ∀ V, Below wr.heap.size wr V → Calls Tryz.prog 101 #[.slice (some ⟨pb + 1, 0, none⟩) 3 3, .slice (some ⟨pb + 1, 3, none⟩) 3 3, .int .i64 ((1 : Nat) : Int)] V fun r w' => r = .returned (quad4 (n 1) (n 2) (n 4) (n 5)) ∧ Below V.heap.size V w' := fun V hV => window_any (w := V) (pb + 1) 0 3 3 1 (by omega) (by omega) _ _ _ _ (Nat.lt_of_lt_of_le HM.out.1.n.lt hV.size) ((hV.cell (p := ⟨pb + 1, 1, none⟩) HM.out.1.n.lt).trans c0) ((hV.cell (p := ⟨pb + 1, 2, none⟩) HM.out.1.n.lt).trans c1) ((hV.cell (p := ⟨pb + 1, 4, none⟩) HM.out.1.n.lt).trans c2) ((hV.cell (p := ⟨pb + 1, 5, none⟩) HM.out.1.n.lt).trans c3)
          clear c0 c1 c2 c3
          unfold quad4 at hwin
          have hWA : Below wr.heap.size wr (wr.alloc (.cells #[.int .i64 0, .int .i64 0, .int .i64 0, .int .i64 0] 41)) := (Below.refl _ _).alloc (Nat.le_refl _) _
          have HWA : Hid (Below wr.heap.size wr (wr.alloc (.cells #[.int .i64 0, .int .i64 0, .int .i64 0, .int .i64 0] 41))) := hWA
          have HXA : Hid ((wr.alloc (.cells #[.int .i64 0, .int .i64 0, .int .i64 0, .int .i64 0] 41)).heap[wr.heap.size]? = some (.cells #[.int .i64 0, .int .i64 0, .int .i64 0, .int .i64 0] 41 (0, 0))) := heap_alloc_new wr _
          clear hWA
          go_wp2_with fail
          go_region_with (first
            | (go_at_call 101; refine (hwin _ HWA.out.drew).mono ?_; rintro u w3 ⟨rfl, hb3⟩; have hX1 := ((below_dr hb3).block wr.heap.size (by simp)).trans HXA.out; have hc0 := Lib.cell_of_heap hX1 0; have hc1 := Lib.cell_of_heap hX1 1; have hc2 := Lib.cell_of_heap hX1 2; have hc3 := Lib.cell_of_heap hX1 3; have hz0 := Lib.frozen_of_heap hX1 0; have hz1 := Lib.frozen_of_heap hX1 1; have hz2 := Lib.frozen_of_heap hX1 2; have hz3 := Lib.frozen_of_heap hX1 3)
            | (go_at_call 101; refine (hwin _ (Below.refl _ _).drew).mono ?_; rintro u w3 ⟨rfl, hb4⟩)
            | fail)
          all_goals
            go_wp2_with fail
            first
            | (have hX2 := hX1
               have hbW : Below wr.heap.size wr ((((w3.setCell ⟨wr.heap.size, 0, none⟩ (.int .i64 (n 1))).setCell ⟨wr.heap.size, 1, none⟩ (.int .i64 (n 2))).setCell ⟨wr.heap.size, 2, none⟩ (.int .i64 (n 4))).setCell ⟨wr.heap.size, 3, none⟩ (.int .i64 (n 5))) := ((((HWA.out.trans ((below_dr hb3).mono (by simp))).setCell (p := ⟨wr.heap.size, 0, none⟩) (Nat.le_refl _) _).setCell (p := ⟨wr.heap.size, 1, none⟩) (Nat.le_refl _) _).setCell (p := ⟨wr.heap.size, 2, none⟩) (Nat.le_refl _) _).setCell (p := ⟨wr.heap.size, 3, none⟩) (Nat.le_refl _) _
               have M3 := HM.out.1.below hbW
               clear hX1 hX2 hbW hc0 hc1 hc2 hc3 hz0 hz1 hz2 hz3 hb3
               have hdo := lpMiddle_rel M3.ls HM.out.2.st ht HM.out.2.er m (by have := HN.out.2.2.2.2; omega) (n 1) (n 2) (n 4) (n 5) (fun e0 => ⟨(HM.out.2.nine e0 1 (by omega)).2, (HM.out.2.nine e0 2 (by omega)).2, (HM.out.2.nine e0 4 (by omega)).2, (HM.out.2.nine e0 5 (by omega)).2⟩)
               unfold quad4 at hdo
               refine hdo.mono ?_
               clear hdo hwin
               rintro u w5 ⟨v2, rfl, e5, A5, k5, s5, g5, d5⟩
               obtain ⟨o5, M5⟩ := M3.kp k5
               clear M3 k5)
            | (have hb5 := hb4
               have hbW : Below wr.heap.size wr (w3.alloc (.cells #[.int .i64 (n 1), .int .i64 (n 2), .int .i64 (n 4), .int .i64 (n 5)] 41)) := (below_dr hb4).alloc (below_dr hb4).size _
               have M3 := HM.out.1.below hbW
               clear hbW hb4 hb5
               have hdo := lpMiddle_rel M3.ls HM.out.2.st ht HM.out.2.er m (by have := HN.out.2.2.2.2; omega) (n 1) (n 2) (n 4) (n 5) (fun e0 => ⟨(HM.out.2.nine e0 1 (by omega)).2, (HM.out.2.nine e0 2 (by omega)).2, (HM.out.2.nine e0 4 (by omega)).2, (HM.out.2.nine e0 5 (by omega)).2⟩)
               unfold quad4 at hdo
               refine hdo.mono ?_
               clear hdo hwin
               rintro u w5 ⟨v2, rfl, e5, A5, k5, s5, g5, d5⟩
               obtain ⟨o5, M5⟩ := M3.kp k5
               clear M3 k5)
            | fail
          all_goals
            have HM5 : Hid (FI o w lb b t rb rl e5 A5 (pb + 1) qb n h w5 o5) := M5
            have HG5 : Hid (FG PR S rb rl t q A A5 e5 id m j j (1 + 1) n (putN h 1 v2)) := FG.part HP.out.sq HM.out.2 ht 1 0 (by omega) (by omega) rfl s5 g5 d5
            obtain ⟨⟨f0, f1, f2, f3⟩, y0, y1, y2, y3⟩ := M5.q.cells
            clear M5 s5 g5 d5
            go_wp2_with fail
            go_roundg (gk - 1)
            case measure => have := HK.out; omega
            case rel => exact ⟨2, by have := HK.out; omega, by go_num, _, _, _, _, _, HM5.out.set (h' := putN h 1 v2) 1 v2 (Go.Joins.block_setCell HM5.out.q _), HG5.out⟩
        · obtain ⟨⟨c0, c1⟩, c2, c3⟩ : (wr.cell? ⟨pb + 1, 3, none⟩ = some (.int .i64 (n 3)) ∧ wr.cell? ⟨pb + 1, 4, none⟩ = some (.int .i64 (n 4))) ∧ (wr.cell? ⟨pb + 1, 6, none⟩ = some (.int .i64 (n 6))) ∧ wr.cell? ⟨pb + 1, 7, none⟩ = some (.int .i64 (n 7)) := ⟨⟨HM.out.1.n.cell 3 (by omega), HM.out.1.n.cell 4 (by omega)⟩, HM.out.1.n.cell 6 (by omega), HM.out.1.n.cell 7 (by omega)⟩
          have hwin : ∀ V, Below wr.heap.size wr V → Calls Tryz.prog 101 #[.slice (some ⟨pb + 1, 3, none⟩) 3 3, .slice (some ⟨pb + 1, 6, none⟩) 3 3, .int .i64 ((0 : Nat) : Int)] V fun r w' => r = .returned (quad4 (n 3) (n 4) (n 6) (n 7)) ∧ Below V.heap.size V w' := fun V hV => window_any (w := V) (pb + 1) 3 6 3 0 (by omega) (by omega) _ _ _ _ (Nat.lt_of_lt_of_le HM.out.1.n.lt hV.size) ((hV.cell (p := ⟨pb + 1, 3, none⟩) HM.out.1.n.lt).trans c0) ((hV.cell (p := ⟨pb + 1, 4, none⟩) HM.out.1.n.lt).trans c1) ((hV.cell (p := ⟨pb + 1, 6, none⟩) HM.out.1.n.lt).trans c2) ((hV.cell (p := ⟨pb + 1, 7, none⟩) HM.out.1.n.lt).trans c3)
          clear c0 c1 c2 c3
          unfold quad4 at hwin
          have hWA : Below wr.heap.size wr (wr.alloc (.cells #[.int .i64 0, .int .i64 0, .int .i64 0, .int .i64 0] 41)) := (Below.refl _ _).alloc (Nat.le_refl _) _
          have HWA : Hid (Below wr.heap.size wr (wr.alloc (.cells #[.int .i64 0, .int .i64 0, .int .i64 0, .int .i64 0] 41))) := hWA
          have HXA : Hid ((wr.alloc (.cells #[.int .i64 0, .int .i64 0, .int .i64 0, .int .i64 0] 41)).heap[wr.heap.size]? = some (.cells #[.int .i64 0, .int .i64 0, .int .i64 0, .int .i64 0] 41 (0, 0))) := heap_alloc_new wr _
          clear hWA
          go_wp2_with fail
          go_region_with (first
            | (go_at_call 101; refine (hwin _ HWA.out.drew).mono ?_; rintro u w3 ⟨rfl, hb3⟩; have hX1 := ((below_dr hb3).block wr.heap.size (by simp)).trans HXA.out; have hc0 := Lib.cell_of_heap hX1 0; have hc1 := Lib.cell_of_heap hX1 1; have hc2 := Lib.cell_of_heap hX1 2; have hc3 := Lib.cell_of_heap hX1 3; have hz0 := Lib.frozen_of_heap hX1 0; have hz1 := Lib.frozen_of_heap hX1 1; have hz2 := Lib.frozen_of_heap hX1 2; have hz3 := Lib.frozen_of_heap hX1 3)
            | (go_at_call 101; refine (hwin _ (Below.refl _ _).drew).mono ?_; rintro u w3 ⟨rfl, hb4⟩)
            | fail)
          all_goals
            go_wp2_with fail
            first
            | (have hX2 := hX1
               have hbW : Below wr.heap.size wr ((((w3.setCell ⟨wr.heap.size, 0, none⟩ (.int .i64 (n 3))).setCell ⟨wr.heap.size, 1, none⟩ (.int .i64 (n 4))).setCell ⟨wr.heap.size, 2, none⟩ (.int .i64 (n 6))).setCell ⟨wr.heap.size, 3, none⟩ (.int .i64 (n 7))) := ((((HWA.out.trans ((below_dr hb3).mono (by simp))).setCell (p := ⟨wr.heap.size, 0, none⟩) (Nat.le_refl _) _).setCell (p := ⟨wr.heap.size, 1, none⟩) (Nat.le_refl _) _).setCell (p := ⟨wr.heap.size, 2, none⟩) (Nat.le_refl _) _).setCell (p := ⟨wr.heap.size, 3, none⟩) (Nat.le_refl _) _
               have M3 := HM.out.1.below hbW
               clear hX1 hX2 hbW hc0 hc1 hc2 hc3 hz0 hz1 hz2 hz3 hb3
               have hdo := lpMiddle_rel M3.ls HM.out.2.st ht HM.out.2.er m (by have := HN.out.2.2.2.2; omega) (n 3) (n 4) (n 6) (n 7) (fun e0 => ⟨(HM.out.2.nine e0 3 (by omega)).2, (HM.out.2.nine e0 4 (by omega)).2, (HM.out.2.nine e0 6 (by omega)).2, (HM.out.2.nine e0 7 (by omega)).2⟩)
               unfold quad4 at hdo
               refine hdo.mono ?_
               clear hdo hwin
               rintro u w5 ⟨v2, rfl, e5, A5, k5, s5, g5, d5⟩
               obtain ⟨o5, M5⟩ := M3.kp k5
               clear M3 k5)
            | (have hb5 := hb4
               have hbW : Below wr.heap.size wr (w3.alloc (.cells #[.int .i64 (n 3), .int .i64 (n 4), .int .i64 (n 6), .int .i64 (n 7)] 41)) := (below_dr hb4).alloc (below_dr hb4).size _
               have M3 := HM.out.1.below hbW
               clear hbW hb4 hb5
               have hdo := lpMiddle_rel M3.ls HM.out.2.st ht HM.out.2.er m (by have := HN.out.2.2.2.2; omega) (n 3) (n 4) (n 6) (n 7) (fun e0 => ⟨(HM.out.2.nine e0 3 (by omega)).2, (HM.out.2.nine e0 4 (by omega)).2, (HM.out.2.nine e0 6 (by omega)).2, (HM.out.2.nine e0 7 (by omega)).2⟩)
               unfold quad4 at hdo
               refine hdo.mono ?_
               clear hdo hwin
               rintro u w5 ⟨v2, rfl, e5, A5, k5, s5, g5, d5⟩
               obtain ⟨o5, M5⟩ := M3.kp k5
               clear M3 k5)
            | fail
          all_goals
            have HM5 : Hid (FI o w lb b t rb rl e5 A5 (pb + 1) qb n h w5 o5) := M5
            have HG5 : Hid (FG PR S rb rl t q A A5 e5 id m j j (2 + 1) n (putN h 2 v2)) := FG.part HP.out.sq HM.out.2 ht 0 1 (by omega) (by omega) rfl s5 g5 d5
            obtain ⟨⟨f0, f1, f2, f3⟩, y0, y1, y2, y3⟩ := M5.q.cells
            clear M5 s5 g5 d5
            go_wp2_with fail
            go_roundg (gk - 1)
            case measure => have := HK.out; omega
            case rel => exact ⟨3, by have := HK.out; omega, by go_num, _, _, _, _, _, HM5.out.set (h' := putN h 2 v2) 2 v2 (Go.Joins.block_setCell HM5.out.q _), HG5.out⟩
        · obtain ⟨⟨c0, c1⟩, c2, c3⟩ : (wr.cell? ⟨pb + 1, 4, none⟩ = some (.int .i64 (n 4)) ∧ wr.cell? ⟨pb + 1, 5, none⟩ = some (.int .i64 (n 5))) ∧ (wr.cell? ⟨pb + 1, 7, none⟩ = some (.int .i64 (n 7))) ∧ wr.cell? ⟨pb + 1, 8, none⟩ = some (.int .i64 (n 8)) := ⟨⟨HM.out.1.n.cell 4 (by omega), HM.out.1.n.cell 5 (by omega)⟩, HM.out.1.n.cell 7 (by omega), HM.out.1.n.cell 8 (by omega)⟩
          have hwin : ∀ V, Below wr.heap.size wr V → Calls Tryz.prog 101 #[.slice (some ⟨pb + 1, 3, none⟩) 3 3, .slice (some ⟨pb + 1, 6, none⟩) 3 3, .int .i64 ((1 : Nat) : Int)] V fun r w' => r = .returned (quad4 (n 4) (n 5) (n 7) (n 8)) ∧ Below V.heap.size V w' := fun V hV => window_any (w := V) (pb + 1) 3 6 3 1 (by omega) (by omega) _ _ _ _ (Nat.lt_of_lt_of_le HM.out.1.n.lt hV.size) ((hV.cell (p := ⟨pb + 1, 4, none⟩) HM.out.1.n.lt).trans c0) ((hV.cell (p := ⟨pb + 1, 5, none⟩) HM.out.1.n.lt).trans c1) ((hV.cell (p := ⟨pb + 1, 7, none⟩) HM.out.1.n.lt).trans c2) ((hV.cell (p := ⟨pb + 1, 8, none⟩) HM.out.1.n.lt).trans c3)
          clear c0 c1 c2 c3
          unfold quad4 at hwin
          have hWA : Below wr.heap.size wr (wr.alloc (.cells #[.int .i64 0, .int .i64 0, .int .i64 0, .int .i64 0] 41)) := (Below.refl _ _).alloc (Nat.le_refl _) _
          have HWA : Hid (Below wr.heap.size wr (wr.alloc (.cells #[.int .i64 0, .int .i64 0, .int .i64 0, .int .i64 0] 41))) := hWA
          have HXA : Hid ((wr.alloc (.cells #[.int .i64 0, .int .i64 0, .int .i64 0, .int .i64 0] 41)).heap[wr.heap.size]? = some (.cells #[.int .i64 0, .int .i64 0, .int .i64 0, .int .i64 0] 41 (0, 0))) := heap_alloc_new wr _
          clear hWA
          go_wp2_with fail
          go_region_with (first
            | (go_at_call 101; refine (hwin _ HWA.out.drew).mono ?_; rintro u w3 ⟨rfl, hb3⟩; have hX1 := ((below_dr hb3).block wr.heap.size (by simp)).trans HXA.out; have hc0 := Lib.cell_of_heap hX1 0; have hc1 := Lib.cell_of_heap hX1 1; have hc2 := Lib.cell_of_heap hX1 2; have hc3 := Lib.cell_of_heap hX1 3; have hz0 := Lib.frozen_of_heap hX1 0; have hz1 := Lib.frozen_of_heap hX1 1; have hz2 := Lib.frozen_of_heap hX1 2; have hz3 := Lib.frozen_of_heap hX1 3)
            | (go_at_call 101; refine (hwin _ (Below.refl _ _).drew).mono ?_; rintro u w3 ⟨rfl, hb4⟩)
            | fail)
          all_goals
            go_wp2_with fail
            first
            | (have hX2 := hX1
               have hbW : Below wr.heap.size wr ((((w3.setCell ⟨wr.heap.size, 0, none⟩ (.int .i64 (n 4))).setCell ⟨wr.heap.size, 1, none⟩ (.int .i64 (n 5))).setCell ⟨wr.heap.size, 2, none⟩ (.int .i64 (n 7))).setCell ⟨wr.heap.size, 3, none⟩ (.int .i64 (n 8))) := ((((HWA.out.trans ((below_dr hb3).mono (by simp))).setCell (p := ⟨wr.heap.size, 0, none⟩) (Nat.le_refl _) _).setCell (p := ⟨wr.heap.size, 1, none⟩) (Nat.le_refl _) _).setCell (p := ⟨wr.heap.size, 2, none⟩) (Nat.le_refl _) _).setCell (p := ⟨wr.heap.size, 3, none⟩) (Nat.le_refl _) _
               have M3 := HM.out.1.below hbW
               clear hX1 hX2 hbW hc0 hc1 hc2 hc3 hz0 hz1 hz2 hz3 hb3
               have hdo := lpMiddle_rel M3.ls HM.out.2.st ht HM.out.2.er m (by have := HN.out.2.2.2.2; omega) (n 4) (n 5) (n 7) (n 8) (fun e0 => ⟨(HM.out.2.nine e0 4 (by omega)).2, (HM.out.2.nine e0 5 (by omega)).2, (HM.out.2.nine e0 7 (by omega)).2, (HM.out.2.nine e0 8 (by omega)).2⟩)
               unfold quad4 at hdo
               refine hdo.mono ?_
               clear hdo hwin
               rintro u w5 ⟨v2, rfl, e5, A5, k5, s5, g5, d5⟩
               obtain ⟨o5, M5⟩ := M3.kp k5
               clear M3 k5)
            | (have hb5 := hb4
               have hbW : Below wr.heap.size wr (w3.alloc (.cells #[.int .i64 (n 4), .int .i64 (n 5), .int .i64 (n 7), .int .i64 (n 8)] 41)) := (below_dr hb4).alloc (below_dr hb4).size _
               have M3 := HM.out.1.below hbW
               clear hbW hb4 hb5
               have hdo := lpMiddle_rel M3.ls HM.out.2.st ht HM.out.2.er m (by have := HN.out.2.2.2.2; omega) (n 4) (n 5) (n 7) (n 8) (fun e0 => ⟨(HM.out.2.nine e0 4 (by omega)).2, (HM.out.2.nine e0 5 (by omega)).2, (HM.out.2.nine e0 7 (by omega)).2, (HM.out.2.nine e0 8 (by omega)).2⟩)
               unfold quad4 at hdo
               refine hdo.mono ?_
               clear hdo hwin
               rintro u w5 ⟨v2, rfl, e5, A5, k5, s5, g5, d5⟩
               obtain ⟨o5, M5⟩ := M3.kp k5
               clear M3 k5)
            | fail
          all_goals
            have HM5 : Hid (FI o w lb b t rb rl e5 A5 (pb + 1) qb n h w5 o5) := M5
            have HG5 : Hid (FG PR S rb rl t q A A5 e5 id m j j (3 + 1) n (putN h 3 v2)) := FG.part HP.out.sq HM.out.2 ht 1 1 (by omega) (by omega) rfl s5 g5 d5
            obtain ⟨⟨f0, f1, f2, f3⟩, y0, y1, y2, y3⟩ := M5.q.cells
            clear M5 s5 g5 d5
            go_wp2_with fail
            go_roundg (gk - 1)
            case measure => have := HK.out; omega
            case rel => exact ⟨4, by have := HK.out; omega, by go_num, _, _, _, _, _, HM5.out.set (h' := putN h 3 v2) 3 v2 (Go.Joins.block_setCell HM5.out.q _), HG5.out⟩
        · have hjn := lpJoin_rel HM.out.1.ls HM.out.2.st ht HM.out.2.er (m + 1) (by have := HN.out.2.2.2.2; omega) (h 0) (h 1) (h 2) (h 3) (fun e0 => ⟨(HM.out.2.four e0 0 (by omega)).2, (HM.out.2.four e0 1 (by omega)).2, (HM.out.2.four e0 2 (by omega)).2, (HM.out.2.four e0 3 (by omega)).2⟩)
          unfold quad4 at hjn
          obtain ⟨⟨g0, g1, g2, g3⟩, _⟩ := HM.out.1.q.cells
          go_wp2_with fail
          refine hjn.mono ?_
          rintro u w4 ⟨v1, rfl, e4, A4, k4, s4, g4, d4⟩
          have HO : Hid (Out PR rb rl t q A o w lb b 0 (FindD (lifeR rb rl) (rnum rb rl) S (m + 1) (picQ (QV (view A t)) (m + 3) id) j) (fun A' => Nx (lifeR rb rl) (QV (view A' t)) (m + 1) id j v1 ∧ levV (view A' t).V v1 = some ((m + 1 + 1 : Nat) : Int) ∧ Cl (lifeR rb rl) (rnum rb rl) S (view A' t)) w4) := by
            refine ⟨e4, A4, Kp.trans HM.out.1.ch k4, s4, HM.out.2.fin HP.out.sq ht (by unfold jf; rw [if_neg (by have := HJ.out; omega)]) g4, ?_⟩
            rcases d4 with d4 | ⟨d4, d5, d6, d7⟩
            · exact .inl d4
            · exact .inr ⟨d4, HM.out.2.done HP.out.sq g4.toGoes1 d5 d6, d7, (HM.out.2.cl d5).more HM.out.2.st ht g4 joinD_sq⟩
          clear k4 s4 g4 d4 hjn
          go_wp2_with fail
          go_ret
          exact ⟨_, rfl, HO.out⟩
end Go.Proofs.YtofbcngcblleaabGreat.A
