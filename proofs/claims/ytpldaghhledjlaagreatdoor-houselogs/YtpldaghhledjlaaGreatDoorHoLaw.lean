/- HouseLogs: the law. -/
import Derived.Test.YtpldaghhledjlaaGreatDoorHoLw
namespace Go.Proofs.YtpldaghhledjlaaGreatDoor.H
open Go.RowKit

theorem step_append_qs (w : World) {v : Value} {d : Nat} {ops : Array Oper} {op : Oper} {a : Act} {K : Act → World → Prop} {Q : Exit → Act → World → Prop} {E : Prop} (hgd : op.guard = none) (s x : Operand)
    (ho : op.op = .call { callee := .builtin .append, args := #[s, x], argTypes := #[34, 34] })
    (hs : a.eval s = v) (h : Qs w v d) (ad : Addr) (c2 : Nat) (hx : a.eval x = .slice (some ad) 1 c2) (hxc : w.cell? ad = some (.string qm)) (hd : d ≤ 1000)
    (hK : ∀ v' w', Qs w' v' (d + 1) → OnlyF (QsOwn v) w w' → (∀ k, QsOwn v' k → QsOwn v k ∨ w.heap.size ≤ k) → K (a.put op.dst v') w') :
    if Region.wanted op (yielded ops a.tmps) = true then Oper.wp Tryz.prog op a w K Q else E := by
  have hw : Region.wanted op (yielded ops a.tmps) = true := by simp [Region.wanted, hgd]
  rw [if_pos hw]
  obtain ⟨v', w', hrun, r1, r2, r3⟩ := run_append_qs h ad c2 op.type hxc hd
  unfold Oper.wp
  simp [execOp, ho, resolve, invoke, builtin, hs, hx, hrun, Result.andThen]
  exact hK _ _ r1 r2 r3
/-- deeds that can be read -/
def HD (w : World) (v : Value) (ps : List (Int × Int)) : Prop :=
  ∃ p cap, v = .slice p ps.length cap ∧ ps.length ≤ cap ∧ cap ≤ 9223372036854775807 ∧ (ps.length = 0 ∨ ∃ b off, p = some ⟨b, off, none⟩ ∧ b < w.heap.size ∧ ∀ (k : Nat) x, ps[k]? = some x → w.cell? ⟨b, off + k * 4, none⟩ = some (.int .i64 x.1) ∧ w.cell? ⟨b, off + k * 4 + 1, none⟩ = some (.int .i64 x.2))
theorem number_any (n : Nat) (w : World) (hn : n < 1000) : Calls Tryz.prog 12 #[.int .i64 n] w fun e w' => e = .returned (.string ⟨(numL n).toArray⟩) ∧ Below w.heap.size w w' := by
  have hd := W.decimal_any n w (by omega)
  rw [Lib.itoa_nonneg] at hd
  unfold numL
  generalize (⟨(Lib.decDigits n).toArray⟩ : ByteArray) = X at *
  go_enter Tryz.func12, Tryz.ntmps12
  go_wp2_with fail
  refine hd.mono ?_
  rintro e w1 ⟨rfl, hb⟩
  go_wp2_with fail
  go_ret
  exact ⟨rfl, hb⟩
theorem mod_in (x : Int) (N : Nat) (hN : 1 ≤ N) (hN5 : N ≤ 5) : ∃ t : Nat, t < N ∧ -(N : Int) < x.tmod N ∧ x.tmod N < N ∧ (x.tmod N + N).tmod N = (t : Int) := by
  have h1 := Int.lt_tmod_of_pos x (show (0 : Int) < (N : Int) by omega)
  have h2 := Int.tmod_lt_of_pos x (show (0 : Int) < (N : Int) by omega)
  have h3 := Int.lt_tmod_of_pos (x.tmod N + N) (show (0 : Int) < (N : Int) by omega)
  have h4 := Int.tmod_lt_of_pos (x.tmod N + N) (show (0 : Int) < (N : Int) by omega)
  have h5 := Int.tmod_nonneg (a := x.tmod N + N) (N : Int) (by omega)
  exact ⟨((x.tmod N + N).tmod N).toNat, by omega, by omega, by omega, by omega⟩
theorem made_cell (X : World) (v : Value) (N k : Nat) (t : TypeId) (hk : k < N) : (X.alloc (.cells (madeCells #[v] N) t)).cell? ⟨X.heap.size, k, none⟩ = some v := by
  rw [World.cell?_alloc_new, ← Array.getElem?_toList, toList_madeCells_one, List.getElem?_replicate, if_pos hk]
/-- Boot as the law calls it -/
theorem boot_law (w : World) (N : Nat) (h1 : 1 ≤ N) (h2 : N ≤ 5) (t1 t2 t3 : TypeId) (x : Array Value) :
    Calls Tryz.prog 4 #[.agg #[.int .i64 1000, .slice (some ⟨w.heap.size, 0, none⟩) N N], .slice (some ⟨w.heap.size + 1 + 1, 0, none⟩) N N] (((w.alloc (.cells (madeCells #[.int .i64 0] N) t1)).alloc (.cells x t2)).drew.alloc (.cells (madeCells #[.int .i64 0] N) t3)) fun e w' => ∃ hb o c, e = .returned (.tuple #[.pointer (some ⟨hb, 0, none⟩), .int .i64 0]) ∧ HoAt w' o hb c ⟨⟨N, 0, List.replicate N []⟩, List.replicate N 0, 0, []⟩ 0 ∧ (∀ k, k < w.heap.size → o k = 0) ∧ Below w.heap.size w w' := by
  have hz : ((w.alloc (.cells (madeCells #[.int .i64 0] N) t1)).alloc (.cells x t2)).drew.heap.size = w.heap.size + 1 + 1 := by simp
  have hb : Below w.heap.size w (((w.alloc (.cells (madeCells #[.int .i64 0] N) t1)).alloc (.cells x t2)).drew.alloc (.cells (madeCells #[.int .i64 0] N) t3)) := ((((Below.refl _ _).alloc (Nat.le_refl _) _).alloc (by simp) _).drew).alloc (by simp; omega) _
  refine (boot_any N w.heap.size (w.heap.size + 1 + 1) _ h1 h2 (by simp; omega) (by simp) (fun k hk => ?_) (fun k hk => ?_)).mono ?_
  · rw [World.cell?_alloc_past _ _ _ (by show w.heap.size < _; rw [hz]; omega)]
    show ((w.alloc (.cells (madeCells #[.int .i64 0] N) t1)).alloc (.cells x t2)).cell? ⟨w.heap.size, k, none⟩ = _
    rw [World.cell?_alloc_past _ _ _ (by show w.heap.size < (w.alloc _).heap.size; simp)]
    exact made_cell w _ N k t1 hk
  · have := made_cell (((w.alloc (.cells (madeCells #[.int .i64 0] N) t1)).alloc (.cells x t2)).drew) (.int .i64 0) N k t3 hk
    rw [hz] at this
    exact this
  · rintro e w' ⟨hb', o, c, rfl, a1, a2, a3⟩
    exact ⟨hb', o, c, rfl, a1, fun k hk => a2 k (by have := hb.size; omega), hb.trans (a3.mono (by have := hb.size; omega))⟩
set_option maxRecDepth 20000 in
set_option maxHeartbeats 4000000 in
theorem logs_law (n0 : Int) (v : Value) (ps : List (Int × Int)) (w : World) (h : HD w v ps) (hvr : Vars w) :
    Calls Tryz.prog 3 #[.int .i64 n0, v] w fun e w' => e = .returned (.bool true) ∧ Below w.heap.size w w' := by
  obtain ⟨p, cap, rfl, hcap, hcm, hrow⟩ := h
  obtain ⟨m, hm⟩ : ∃ m, m = ps.length := ⟨_, rfl⟩
  rw [← hm] at hcap hrow ⊢
  have HM : Hid (m = ps.length) := hm
  have HVR : Hid (Vars w) := hvr
  have HROW : Hid (m = 0 ∨ ∃ b off, p = some ⟨b, off, none⟩ ∧ b < w.heap.size ∧ ∀ (k : Nat) x, ps[k]? = some x → w.cell? ⟨b, off + k * 4, none⟩ = some (.int .i64 x.1) ∧ w.cell? ⟨b, off + k * 4 + 1, none⟩ = some (.int .i64 x.2)) := hrow
  obtain ⟨N0, hN0, ha1, ha2, ha3⟩ := mod_in n0 5 (by omega) (by omega)
  rw [show ((5 : Nat) : Int) = 5 from rfl] at ha1 ha2 ha3
  obtain ⟨N, hN⟩ : ∃ N, N = 1 + N0 := ⟨_, rfl⟩
  have hw1 : IntKind.i64.wrap (n0.tmod 5) = n0.tmod 5 := by rw [IntKind.wrap_i64]; omega
  have hw2 : IntKind.i64.wrap (n0.tmod 5 + 5) = n0.tmod 5 + 5 := by rw [IntKind.wrap_i64]; omega
  have hw3 : IntKind.i64.wrap (N0 : Int) = (N0 : Int) := by rw [IntKind.wrap_i64]; omega
  have hw4 : IntKind.i64.wrap (1 + (N0 : Int)) = 1 + (N0 : Int) := by rw [IntKind.wrap_i64]; omega
  have hNe : 1 + (N0 : Int) = (N : Int) := by omega
  have HN : Hid (1 ≤ N ∧ N ≤ 5) := ⟨by omega, by omega⟩
  have hN1 : 1 ≤ N := HN.out.1
  have hN5 : N ≤ 5 := HN.out.2
  have hmi := make_ints N (by omega)
  have hmr := make_rows N (by omega)
  have hmf : ∀ (fn : Fn) (first cap : Array Value) (w : World), (Instr.makeFunc fn first cap).run Tryz.prog w = .ok (.func fn first cap) w := fun _ _ _ _ => rfl
  clear hm hrow hvr hN0 hN
  go_enter Tryz.func3, Tryz.ntmps3
  go_upto_region 2 with fail
  (try rw [hNe])
  clear hw1 hw2 hw3 hw4 hNe ha1 ha2 ha3
  go_wp2_with fail
  go_cut [6, 7] from 28 to 34 (fun s6 s7 wc => ∃ hb, s6 = .pointer (some ⟨hb, 0, none⟩) ∧ s7 = .int .i64 0 ∧ ∃ o c, HoAt wc o hb c ⟨⟨N, 0, List.replicate N []⟩, List.replicate N 0, 0, []⟩ 0 ∧ (∀ k, k < w.heap.size → o k = 0) ∧ Below w.heap.size w wc)
  case first =>
    have hbt := fun x => boot_law w N hN1 hN5 3 25 3 x
    go_region_with (go_at_call 4; refine (hbt _).mono ?_; rintro e w1 ⟨hb, o, c, rfl, h1, h2, h3⟩; have HE : Hid (HoAt w1 o hb c ⟨⟨N, 0, List.replicate N []⟩, List.replicate N 0, 0, []⟩ 0 ∧ (∀ k, k < w.heap.size → o k = 0) ∧ Below w.heap.size w w1) := ⟨h1, h2, h3⟩; clear h1 h2 h3)
    all_goals
      go_wp2_with fail
      go_meet
      case rel => exact ⟨hb, rfl, rfl, o, c, HE.out⟩
  case rest =>
  obtain ⟨hb, rfl, rfl, o, c, hho, ho0, hbl⟩ := hcut
  have HB : Hid (HoAt wc o hb c ⟨⟨N, 0, List.replicate N []⟩, List.replicate N 0, 0, []⟩ 0 ∧ (∀ k, k < w.heap.size → o k = 0) ∧ Below w.heap.size w wc) := ⟨hho, ho0, hbl⟩
  have hnq := NewQueue_any N 0 wc hN1 (by omega) (Nat.zero_le _)
  clear hho ho0 hbl hmi
  go_wp2_with fail
  refine hnq.mono ?_
  rintro e w1 ⟨rfl, hq1, hb1⟩
  have HQ1 : Hid (QuAt w1 0 wc.heap.size (.slice none 0 0) ⟨N, 0, []⟩ ∧ Below wc.heap.size wc w1) := ⟨hq1, hb1⟩
  clear hq1 hb1 hnq
  obtain ⟨qb, hqb⟩ : ∃ x, x = wc.heap.size := ⟨_, rfl⟩
  have HQB : Hid (qb = wc.heap.size) := hqb
  rw [← hqb]
  clear hqb
  go_wp2_with fail
  obtain ⟨o2, hlw⟩ := law_start hN1 HB.out.1 HB.out.2.1 HB.out.2.2 HQB.out (by rw [HQB.out]; exact HQ1.out.1) HQ1.out.2
  obtain ⟨L, hL⟩ : ∃ L : Lm, L = ⟨hb, c, w1.heap.size + 1 + 1, w1.heap.size, w1.heap.size + 1, qb, N⟩ := ⟨_, rfl⟩
  rw [← hL] at hlw
  have HLW : Hid (Lw w (((w1.alloc (.cells #[.pointer (some ⟨qb, 0, none⟩)] 30)).alloc (.cells (madeCells #[.slice none 0 0] N) 34)).alloc (.cells #[.slice (some ⟨w1.heap.size + 1, 0, none⟩) N N] 33)) o2 L ⟨⟨N, 0, List.replicate N []⟩, List.replicate N 0, 0, []⟩ ⟨N, 0, []⟩ 0 0) := hlw
  obtain ⟨cbx, hcbx⟩ : ∃ x, x = w1.heap.size + 1 + 1 := ⟨_, rfl⟩
  obtain ⟨qbx, hqbx⟩ : ∃ x, x = w1.heap.size := ⟨_, rfl⟩
  obtain ⟨C, hC⟩ : ∃ x, x = w1.heap.size + 1 := ⟨_, rfl⟩
  rw [← hcbx, ← hC, ← hqbx] at hL
  rw [← hcbx]
  rw [← hC] at HLW ⊢
  rw [← hqbx]
  have HL : Hid (L = ⟨hb, c, cbx, qbx, C, qb, N⟩) := hL
  clear hlw HB HQ1 HQB hmr hmf hcbx hqbx hC hL
  generalize hW0 : ((w1.alloc (.cells #[.pointer (some ⟨qb, 0, none⟩)] 30)).alloc (.cells (madeCells #[.slice none 0 0] N) 34)).alloc (.cells #[.slice (some ⟨C, 0, none⟩) N N] 33) = W0 at *
  clear hW0
  go_loopg [10, 11, 14] 60 (fun gk s10 s11 s14 wr => ∃ (i : Nat) (o : Nat → Nat) (S : Hs) (Q : Qu) (M : Nat), i + gk = 60 ∧ i ≤ m ∧ s14 = .int .i64 i ∧ s10 = .string ⟨S.log.toArray⟩ ∧ s11 = .int .i64 S.ticks ∧ Lw w wr o L S Q M i)
  case atStart => exact ⟨0, o2, _, _, 0, rfl, Nat.zero_le _, rfl, rfl, rfl, HLW.out⟩
  case round =>
    obtain ⟨i, o, S, Q, M, hi, him, rfl, rfl, rfl, hlw⟩ := hrel
    have HI : Hid (i + gk = 60) := hi
    have HW : Hid (Lw w wr o L S Q M i) := hlw
    have hi60 : i ≤ 60 := by omega
    have hLe := HL.out
    subst hLe
    clear hi hlw HLW HL
    by_cases hlt : i < m
    · by_cases hlt6 : i < 60
      · obtain ⟨B, off, rfl, hBl, hc⟩ : ∃ b off, p = some ⟨b, off, none⟩ ∧ b < w.heap.size ∧ ∀ (k : Nat) x, ps[k]? = some x → w.cell? ⟨b, off + k * 4, none⟩ = some (.int .i64 x.1) ∧ w.cell? ⟨b, off + k * 4 + 1, none⟩ = some (.int .i64 x.2) := by
          rcases HROW.out with h | h
          · omega
          · exact h
        have hjk : i < ps.length := by have := HM.out; omega
        obtain ⟨x, hx⟩ : ∃ x, x = ps[i] := ⟨_, rfl⟩
        have hxg : ps[i]? = some x := by rw [hx]; exact List.getElem?_eq_getElem hjk
        have d0 := (HW.out.bel.cell (p := ⟨B, off + i * 4, none⟩) hBl).trans (hc i x hxg).1
        have d1 := (HW.out.bel.cell (p := ⟨B, off + i * 4 + 1, none⟩) hBl).trans (hc i x hxg).2
        obtain ⟨kd, tx⟩ := x
        simp only at d0 d1
        clear hc hxg hx hjk
        obtain ⟨t, htN, ha1, ha2, ha3⟩ := mod_in tx N hN1 hN5
        have hw1 : IntKind.i64.wrap (tx.tmod N) = tx.tmod N := by rw [IntKind.wrap_i64]; omega
        have hw2 : IntKind.i64.wrap (tx.tmod N + N) = tx.tmod N + N := by rw [IntKind.wrap_i64]; omega
        have hw3 : IntKind.i64.wrap (t : Int) = (t : Int) := by rw [IntKind.wrap_i64]; omega
        have hN0 : ¬ (N : Int) = 0 := by omega
        have hi0 : (0 : Int) ≤ (i : Int) := by omega
        have hi1 : (i : Int) < (m : Int) := by omega
        have hi2 : (i : Int) < (60 : Int) := by omega
        by_cases hk1 : kd = 1
        · subst hk1
          obtain ⟨d, hd⟩ : ∃ d, S.ds[t]? = some d := ⟨S.ds[t]'(by have := HW.out.dc.len; simp only at this; omega), List.getElem?_eq_getElem _⟩
          have hdl := le_sum _ _ _ hd
          have htot := HW.out.tot
          obtain ⟨mm, hmm⟩ := (HW.out.vars HVR.out).max
          have hfd := feed_any HW.out.ho mm hmm t d (by rw [HW.out.tn]; exact htN) hd (by omega)
          simp only at hfd
          have HD : Hid (S.ds[t]? = some d ∧ Q.wait.length + d ≤ i) := ⟨hd, by omega⟩
          clear hd hdl htot hmm
          go_wp2_with fail
          refine hfd.mono ?_
          rintro e w2 ⟨rfl, o2, hh2, k2⟩
          obtain ⟨b1, b2⟩ := below_ch HW.out.bel HW.out.o0 k2 HL0
          have hdc2 := HW.out.dc.ch k2 HL_DL
          have H2 : Hid (HoAt w2 o2 hb c ⟨(moveF t (d + 1) S.T).1, S.ds.set t (moveF t (d + 1) S.T).2, S.ticks, S.log⟩ M ∧ DoAt w2 o2 cbx qbx C qb N Q S.ds ∧ Below w.heap.size w w2 ∧ ∀ k, k < w.heap.size → o2 k = 0) := ⟨hh2, hdc2, b1, b2⟩
          clear hh2 hdc2 b1 b2 k2 hfd d0 d1
          go_wp2_with fail
          go_cut [] from 103 to 111 (fun wx => ∃ o3, HoAt wx o3 hb c ⟨(moveF t (d + 1) S.T).1, S.ds.set t (moveF t (d + 1) S.T).2, S.ticks, S.log⟩ M ∧ DoAt wx o3 cbx qbx C qb N Q (S.ds.set t (d + 1)) ∧ Below w.heap.size w wx ∧ ∀ k, k < w.heap.size → o3 k = 0)
          case first =>
            have kA : Ch (fun _ => False) o2 w2 (ext o2 w2.heap.size 0) (w2.drew.alloc (.cells #[.string ⟨#[63]⟩] 9)) := Ch.ofBelow ((Below.refl w2.heap.size w2).drew.alloc (by simp) _) 0
            have hA := H2.out.2.1.ch kA (fun _ h => h.elim)
            obtain ⟨vs, c1, c2, c3⟩ := hA.com
            obtain ⟨y, hy⟩ : ∃ y, vs[t]? = some y := ⟨vs[t]'(by omega), List.getElem?_eq_getElem _⟩
            obtain ⟨hq, hql⟩ := c3 t y d hy HD.out.1
            obtain ⟨ya, yn, yc, hyy⟩ : ∃ a n c, y = .slice a n c := by obtain ⟨a, b, off, c, e, _⟩ := hq; exact ⟨_, _, _, e⟩
            subst hyy
            have q1 : w2.cell? ⟨cbx, 0, none⟩ = some (.slice (some ⟨C, 0, none⟩) N N) := Lib.cell_of_heap H2.out.2.1.cb 0
            have hCl : C < w2.heap.size := by obtain ⟨_, c1', _⟩ := H2.out.2.1.com; exact lt_of_heap c1'
            have hcl2 : cbx < w2.heap.size := lt_of_heap H2.out.2.1.cb
            have q2 : w2.cell? ⟨C, t, none⟩ = some (.slice ya yn yc) := by
              have h3 : (w2.drew.alloc (.cells #[.string ⟨#[63]⟩] 9)).cell? ⟨C, t, none⟩ = some (.slice ya yn yc) := by rw [Lib.cell_of_heap c1, List.getElem?_toArray]; exact hy
              rw [World.cell?_alloc_past _ _ _ (by exact hCl)] at h3
              exact h3
            have HQA : Hid (Qs (w2.drew.alloc (.cells #[.string ⟨#[63]⟩] 9)) (.slice ya yn yc) d) := hq
            have HXA : Hid ((w2.drew.alloc (.cells #[.string ⟨#[63]⟩] 9)).cell? ⟨w2.heap.size, 0, none⟩ = some (.string qm)) := by
              show World.cell? _ _ = _
              have := World.cell?_alloc_new w2.drew #[.string ⟨#[63]⟩] 9 0
              exact this
            have HKE : Hid (∀ w3, OnlyF (QsOwn (.slice ya yn yc)) (w2.drew.alloc (.cells #[.string ⟨#[63]⟩] 9)) w3 → w3.cell? ⟨C, t, none⟩ = some (.slice ya yn yc) ∧ w3.frozen? ⟨C, t, none⟩ = false ∧ w3.cell? ⟨cbx, 0, none⟩ = some (.slice (some ⟨C, 0, none⟩) N N)) := fun w3 ho => by
              have hlt3 : C < (w2.drew.alloc (.cells #[.string ⟨#[63]⟩] 9)).heap.size := lt_of_heap c1
              have hltc : cbx < (w2.drew.alloc (.cells #[.string ⟨#[63]⟩] 9)).heap.size := lt_of_heap hA.cb
              have e := ho.block C hlt3 fun f => by have h1 := hql C f; have h2 := hA.cl; omega
              have e' := ho.block cbx hltc fun f => by have h1 := hql cbx f; have h2 := hA.cbl; omega
              exact ⟨by rw [Lib.cell_of_heap (e.trans c1), List.getElem?_toArray]; exact hy, Lib.frozen_of_heap (e.trans c1) t, by rw [Lib.cell_of_heap (e'.trans hA.cb)]; rfl⟩
            have HFIN : Hid (∀ v' w3, Qs w3 v' (d + 1) → OnlyF (QsOwn (.slice ya yn yc)) (w2.drew.alloc (.cells #[.string ⟨#[63]⟩] 9)) w3 → (∀ k, QsOwn v' k → QsOwn (.slice ya yn yc) k ∨ (w2.drew.alloc (.cells #[.string ⟨#[63]⟩] 9)).heap.size ≤ k) → ∃ o3, HoAt (w3.setCell ⟨C, t, none⟩ v') o3 hb c ⟨(moveF t (d + 1) S.T).1, S.ds.set t (moveF t (d + 1) S.T).2, S.ticks, S.log⟩ M ∧ DoAt (w3.setCell ⟨C, t, none⟩ v') o3 cbx qbx C qb N Q (S.ds.set t (d + 1)) ∧ Below w.heap.size w (w3.setCell ⟨C, t, none⟩ v') ∧ ∀ k, k < w.heap.size → o3 k = 0) := fun v' w3 h1 h2 h3 => by
              obtain ⟨a1, a2⟩ := hA.setRow c1 c2 c3 hy htN h1 h2 h3
              have hhA := H2.out.1.ch kA (fun _ h => h.elim)
              obtain ⟨b1, b2⟩ := below_ch H2.out.2.2.1 H2.out.2.2.2 kA (fun h => h)
              obtain ⟨b3, b4⟩ := below_ch b1 b2 a2 DL0
              exact ⟨_, hhA.ch a2 DL_HL, a1, b3, b4⟩
            have hi0 : (0 : Int) ≤ (t : Int) := by omega
            have hi1 : (t : Int) < (N : Int) := by omega
            have hd1000 : d ≤ 1000 := by have := HD.out.2; omega
            clear hA kA c1 c2 c3 hy hq hql
            go_region_law (refine step_append_qs _ (by rfl) _ _ (by rfl) (by rfl) (by exact HQA.out) ⟨w2.heap.size, 0, none⟩ 1 (by rfl) (by exact HXA.out) hd1000 ?_; intro v' w3 hq3 ho3 hat3; obtain ⟨r1, r2, r3⟩ := HKE.out w3 ho3; obtain ⟨va, vb, vo, vc, hv', vr⟩ := id hq3; subst hv'; clear vr)
            all_goals
              have HE := HFIN.out _ w3 hq3 ho3 hat3
              go_wp2_with fail
              go_meet
              case rel => exact HE
          case rest =>
          obtain ⟨o3, hh3, hd3, b3, c3⟩ := hcut
          have hsf := shift_any hd3 t (d + 1) htN (by rw [List.getElem?_set, if_pos rfl, if_pos (by have := HW.out.dc.len; simp only at this; omega)]) (by have := HD.out.2; omega)
          have H3 : Hid (HoAt wc o3 hb c ⟨(moveF t (d + 1) S.T).1, S.ds.set t (moveF t (d + 1) S.T).2, S.ticks, S.log⟩ M ∧ Below w.heap.size w wc ∧ ∀ k, k < w.heap.size → o3 k = 0) := ⟨hh3, b3, c3⟩
          clear hh3 hd3 b3 c3 H2
          go_wp2_with fail
          refine hsf.mono ?_
          rintro e w5 ⟨rfl, o5, hd5, k5⟩
          have HE : Hid (Lw w w5 o5 ⟨hb, c, cbx, qbx, C, qb, N⟩ ⟨(moveF t (d + 1) S.T).1, S.ds.set t (moveF t (d + 1) S.T).2, S.ticks, S.log⟩ (moveQ t (d + 1) Q).1 M (i + 1)) := by
            obtain ⟨b5, c5⟩ := below_ch H3.out.2.1 H3.out.2.2 k5 DL0
            rw [List.set_set] at hd5
            exact HW.out.fed HD.out.1 (H3.out.1.ch k5 DL_HL) hd5 b5 c5
          clear hd5 k5 hsf H3
          go_wp2_with fail
          go_roundg (gk - 1)
          case measure => have := HI.out; omega
          case rel => exact ⟨i + 1, o5, ⟨(moveF t (d + 1) S.T).1, S.ds.set t (moveF t (d + 1) S.T).2, S.ticks, S.log⟩, _, M, by have := HI.out; omega, by omega, by go_num, rfl, rfl, HE.out⟩
        · have hk1b : (kd == 1) = false := by simpa using hk1
          by_cases hk2 : kd = 2
          · subst hk2
            obtain ⟨vq, q1, q2⟩ := HW.out.dc.qu
            have hpop := RefPop_any 0 qb vq Q wr q1 (by have := HW.out.tot; omega) (Nat.zero_le _)
            have q0 : wr.cell? ⟨qbx, 0, none⟩ = some (.pointer (some ⟨qb, 0, none⟩)) := Lib.cell_of_heap HW.out.dc.qk 0
            have HQ2 : Hid (∀ k, QuOwn qb vq k → o k = 5) := q2
            clear q1 q2
            go_wp2_with fail
            refine hpop.mono ?_
            rintro e w2 (⟨he, rfl, hb2⟩ | ⟨k, x, hbest, rfl, v', hq', ho', hw'⟩)
            · have HW2 : Hid (Lw w w2 (ext o wr.heap.size 0) ⟨hb, c, cbx, qbx, C, qb, N⟩ S Q M i) := HW.out.more hb2
              have htn := turn_any HW2.out.ho (HW2.out.vars HVR.out) (HW2.out.h0 HVR.out) HW2.out.qms (by have := HW2.out.told; omega)
              simp only at htn
              have HEM : Hid (∀ u, u < S.T.n → S.T.rows[u]? = some []) := fun u hu => by rw [HW.out.rel.rows u hu, he]; rfl
              clear hb2 he hpop d0 d1 q0
              go_wp2_with fail
              refine htn.mono ?_
              rintro e w3 (⟨h1, rfl, o3, h2, h3⟩ | ⟨j, r, u, d, hj, hu, hun, _, h2, _⟩)
              · have HE : Hid (Lw w w3 o3 ⟨hb, c, cbx, qbx, C, qb, N⟩ S Q M (i + 1)) := by
                  obtain ⟨b1, b2⟩ := below_ch HW2.out.bel HW2.out.o0 h3 HL0
                  have hw := HW2.out
                  exact Lw.next ⟨h2, hw.dc.ch h3 HL_DL, hw.rel, hw.qm, hw.tn, hw.tot, hw.tick, hw.log, hw.told, b2, b1⟩
                clear h1 h2 h3 htn
                go_wp2_with fail
                go_roundg (gk - 1)
                case measure => have := HI.out; omega
                case rel => exact ⟨i + 1, o3, S, Q, M, by have := HI.out; omega, by omega, by go_num, rfl, rfl, HE.out⟩
              · rw [HEM.out u hun] at h2
                cases h2
            · have hx1 : x.1 < N := by
                have := HW.out.rel.ten x (List.mem_of_getElem? hbest.1)
                rw [← HW.out.rel.n, HW.out.tn] at this
                exact this
              obtain ⟨d, hd⟩ : ∃ d, S.ds[x.1]? = some d := ⟨S.ds[x.1]'(by have := HW.out.dc.len; simp only at this; omega), List.getElem?_eq_getElem _⟩
              have k2 : Ch (fun l => l = 5) o wr (ext o wr.heap.size 5) w2 := Ch.of ho' 5 fun k hk _ => HQ2.out k hk
              have hdc2 := HW.out.dc.setQ k2 hq' (fun i hi => by
                rcases hw' i hi with h | h
                · exact ext_is (HQ2.out i h)
                · exact ext_new h)
              have hho2 := HW.out.ho.ch (k2.mono five_DL) DL_HL
              obtain ⟨b2, c2⟩ := below_ch HW.out.bel HW.out.o0 (k2.mono five_DL) DL0
              have hsf := shift_any hdc2 x.1 d hx1 hd (by
                have := HW.out.tot
                have := le_sum _ _ _ hd
                simp only [List.length_append, List.length_take, List.length_drop]
                omega)
              have HD : Hid (S.ds[x.1]? = some d ∧ Q.Best Q.wait.length k x) := ⟨hd, hbest⟩
              have H2 : Hid (HoAt w2 (ext o wr.heap.size 5) hb c S M ∧ Below w.heap.size w w2 ∧ ∀ k, k < w.heap.size → ext o wr.heap.size 5 k = 0) := ⟨hho2, b2, c2⟩
              clear hdc2 hho2 b2 c2 k2 hq' ho' hw' hd hbest hpop d0 d1 q0
              go_wp2_with fail
              refine hsf.mono ?_
              rintro e w3 ⟨rfl, o3, hd3, k3⟩
              obtain ⟨b3, c3⟩ := below_ch H2.out.2.1 H2.out.2.2 k3 DL0
              have hho3 := H2.out.1.ch k3 DL_HL
              have htn := turn_any hho3 (HVR.out.below b3) (fun k hk => c3 k (by have := HVR.out.room; omega)) HW.out.qms (by have := HW.out.told; omega)
              have H3 : Hid (DoAt w3 o3 cbx qbx C qb N (moveQ x.1 d ⟨Q.n, (x.1 + 1) % Q.n, Q.wait.take k ++ Q.wait.drop (k + 1)⟩).1 (S.ds.set x.1 (moveQ x.1 d ⟨Q.n, (x.1 + 1) % Q.n, Q.wait.take k ++ Q.wait.drop (k + 1)⟩).2) ∧ Below w.heap.size w w3 ∧ ∀ k, k < w.heap.size → o3 k = 0) := ⟨hd3, b3, c3⟩
              clear hd3 b3 c3 k3 hho3 hsf H2
              go_wp2_with fail
              refine htn.mono ?_
              rintro e w4 (⟨h1, rfl, _⟩ | ⟨j, r, u, d2, hj, hu, hun, hl, hr, hd2, rfl, o4, h4, k4⟩)
              · exfalso
                obtain ⟨hx, hdd, he, hne⟩ := HW.out.rel.full HD.out.2.1
                have h5 := h1 _ hdd
                rw [he, HW.out.rel.rows _ hx] at h5
                exact hne (by simpa using h5)
              · have hux : u = x.1 := by
                  rw [hu] at hr ⊢
                  exact (HW.out.rel.best HD.out.2 hj hl hr).1
                have hdd : d2 = d := by rw [hux, HD.out.1] at hd2; exact (Option.some.inj hd2).symm
                have HE : Hid (Lw w w4 o4 ⟨hb, c, cbx, qbx, C, qb, N⟩ ⟨(moveF u d2 ⟨S.T.n, (u + 1) % S.T.n, S.T.rows.set u r⟩).1, S.ds.set u (moveF u d2 ⟨S.T.n, (u + 1) % S.T.n, S.T.rows.set u r⟩).2, S.ticks, S.log⟩ (moveQ u d2 ⟨Q.n, (x.1 + 1) % Q.n, Q.wait.take k ++ Q.wait.drop (k + 1)⟩).1 (M + 128) (i + 1)) := by
                  obtain ⟨b4, c4⟩ := below_ch H3.out.2.1 H3.out.2.2 k4 HL0
                  refine HW.out.turned hj hu hl hr hd2 HD.out.2 h4 ?_ b4 c4
                  rw [hux, hdd]
                  exact H3.out.1.ch k4 HL_DL
                clear h4 k4 hl hr hd2 hux hdd htn hj hu hun
                go_wp2_with fail
                go_roundg (gk - 1)
                case measure => have := HI.out; omega
                case rel => exact ⟨i + 1, o4, ⟨(moveF u d2 ⟨S.T.n, (u + 1) % S.T.n, S.T.rows.set u r⟩).1, S.ds.set u (moveF u d2 ⟨S.T.n, (u + 1) % S.T.n, S.T.rows.set u r⟩).2, S.ticks, S.log⟩, _, M + 128, by have := HI.out; omega, by omega, by go_num, rfl, rfl, HE.out⟩
          · have hk2b : (kd == 2) = false := by simpa using hk2
            have htk := HW.out.tick
            have hlg := HW.out.log
            have htc := tick_any HW.out.ho (by omega) (by omega)
            simp only at htc
            have hadd : IntKind.i64.wrap ((S.ticks : Int) + 1) = (S.ticks : Int) + 1 := by rw [IntKind.wrap_i64]; omega
            obtain ⟨SB, hSB⟩ : ∃ x, x = (⟨S.log.toArray⟩ : ByteArray) := ⟨_, rfl⟩
            rw [← hSB]
            have hsb : SB.size ≤ 12000 := by rw [hSB]; show S.log.toArray.size ≤ 12000; rw [List.size_toArray]; omega
            have HSB : Hid (SB = ⟨S.log.toArray⟩) := hSB
            obtain ⟨X, hX⟩ : ∃ x, x = (⟨(numL (S.ticks + 1)).toArray⟩ : ByteArray) := ⟨_, rfl⟩
            have hxs : X.size ≤ 21 := by rw [hX, numL_size]; exact numL_len _ (by omega)
            have hnm := fun W => number_any (S.ticks + 1) W (by omega)
            rw [← hX, show ((S.ticks + 1 : Nat) : Int) = (S.ticks : Int) + 1 by omega] at hnm
            have HX : Hid (X = ⟨(numL (S.ticks + 1)).toArray⟩) := hX
            clear hSB hX
            go_wp2_with fail
            refine htc.mono ?_
            rintro e w2 ⟨rfl, o2, h2, k2⟩
            have HL2 : Hid (Lw w w2 o2 ⟨hb, c, cbx, qbx, C, qb, N⟩ ⟨S.T, S.ds, S.ticks + 1, S.log ++ numL (S.ticks + 1) ++ wL S.T S.T.n ++ [10]⟩ Q M (i + 1)) := HW.out.ticked hN5 hlt6 h2 k2
            clear h2 k2 htc d0 d1 hw1 hw2 hw3 ha1 ha2 ha3 hN0
            go_wp2_with fail
            refine (hnm _).mono ?_
            rintro e w3 ⟨rfl, hb3⟩
            have HB3 : Hid (Below w2.heap.size w2 w3) := hb3
            clear hb3 hnm
            obtain ⟨gK, hgK⟩ : ∃ a, a = gk := ⟨_, rfl⟩
            subst hgK
            obtain ⟨wR, hwR⟩ : ∃ a, a = wr := ⟨_, rfl⟩
            subst hwR
            have HTN : Hid (∀ k : Nat, k < N → S.T.waits k ≤ 8 ∧ S.T.waits k = cntL (k : Int) Q.wait) := fun k hk => ⟨waits_small HW.out.ho k (by rw [HW.out.tn]; exact hk), HW.out.rel.waits k⟩
            go_wp2_with fail
            go_loopg [10, 19] N (fun gh s10 s19 wq => ∃ (k : Nat) (sb : ByteArray), k + gh = N ∧ s19 = .int .i64 k ∧ s10 = .string sb ∧ sb = ⟨(S.log ++ numL (S.ticks + 1) ++ wL S.T k).toArray⟩ ∧ Below w2.heap.size w2 wq)
            case atStart => exact ⟨0, _, by omega, rfl, rfl, by rw [HSB.out, HX.out, ByteArray.mk_append_mk, wL, List.append_nil], HB3.out⟩
            case round =>
              obtain ⟨k, sb, hk, rfl, rfl, hsb2, hbq⟩ := hrel
              have HK : Hid (k + gk = N) := hk
              have hkN : k ≤ N := by omega
              have HS2 : Hid (sb = ⟨(S.log ++ numL (S.ticks + 1) ++ wL S.T k).toArray⟩) := hsb2
              have hsz : sb.size ≤ 13000 := by
                have h1 := wL_len S.T N (fun t ht => (HTN.out t ht).1) k hkN
                have h2 := numL_len (S.ticks + 1) (by omega)
                have h3 := HW.out.log
                rw [hsb2]
                show (List.toArray _).size ≤ 13000
                rw [List.size_toArray, List.length_append, List.length_append]
                omega
              have HBQ : Hid (Below w2.heap.size w2 wr) := hbq
              clear hk hsb2
              by_cases hkl : k < N
              · have hik : (k : Int) < (N : Int) := by omega
                obtain ⟨vq, q1, _⟩ := HL2.out.dc.qu
                have q0 : wr.cell? ⟨qbx, 0, none⟩ = some (.pointer (some ⟨qb, 0, none⟩)) := (hbq.cell (p := ⟨qbx, 0, none⟩) (lt_of_heap HL2.out.dc.qk)).trans (Lib.cell_of_heap HL2.out.dc.qk 0)
                have hwt := RefWaits_any 0 qb vq Q k wr (q1.below hbq) (by have := HW.out.tot; omega)
                obtain ⟨c8, hcn⟩ := HTN.out k hkl
                rw [← hcn] at hwt
                have hnm2 := fun W => number_any (S.T.waits k) W (by omega)
                obtain ⟨Y, hY⟩ : ∃ x, x = (⟨(numL (S.T.waits k)).toArray⟩ : ByteArray) := ⟨_, rfl⟩
                have hys : Y.size ≤ 21 := by rw [hY, numL_size]; exact numL_len _ (by omega)
                rw [← hY] at hnm2
                have HY : Hid (Y = ⟨(numL (S.T.waits k)).toArray⟩) := hY
                have hadd2 : IntKind.i64.wrap ((k : Int) + 1) = (k : Int) + 1 := by rw [IntKind.wrap_i64]; omega
                have h32 : (⟨#[32]⟩ : ByteArray).size = 1 := rfl
                generalize hwk : S.T.waits (k : Int) = wk at hwt hnm2 c8
                clear hY hcn hwk hbq q1
                go_wp2_with fail
                refine hwt.mono ?_
                rintro e w4 ⟨rfl, hb4⟩
                have HB4 : Hid (Below w2.heap.size w2 w4) := HBQ.out.trans (hb4.mono HBQ.out.size)
                clear hb4 hwt
                go_wp2_with fail
                refine (hnm2 _).mono ?_
                rintro e w5 ⟨rfl, hb5⟩
                have HB5 : Hid (Below w2.heap.size w2 w5) := HB4.out.trans (hb5.mono HB4.out.size)
                clear hb5 hnm2
                go_wp2_with fail
                go_roundg (gk - 1)
                case measure => have := HK.out; omega
                case rel =>
                  have h1 := HK.out
                  refine ⟨k + 1, _, by omega, by go_num, rfl, ?_, HB5.out⟩
                  rw [HS2.out, HY.out, show (⟨#[32]⟩ : ByteArray) = ⟨[32].toArray⟩ from rfl, ByteArray.mk_append_mk, ByteArray.mk_append_mk, wL, List.append_assoc, List.append_assoc]
                  simp only [List.append_assoc, List.cons_append, List.nil_append]
              · have hik : ¬ (k : Int) < (N : Int) := by omega
                have HKE : Hid (k = N) := by show k = N; omega
                have h10 : (⟨#[10]⟩ : ByteArray).size = 1 := rfl
                have hadd3 : IntKind.i64.wrap ((i : Int) + 1) = (i : Int) + 1 := by rw [IntKind.wrap_i64]; omega
                clear hbq
                go_wp2_with fail
                go_roundg (gK - 1)
                case measure => have := HI.out; omega
                case rel =>
                  have h1 := HI.out
                  refine ⟨i + 1, _, ⟨S.T, S.ds, S.ticks + 1, S.log ++ numL (S.ticks + 1) ++ wL S.T S.T.n ++ [10]⟩, Q, M, by omega, by omega, by go_num, ?_, by go_num, HL2.out.more HBQ.out⟩
                  rw [HS2.out, HKE.out, show (⟨#[10]⟩ : ByteArray) = ⟨[10].toArray⟩ from rfl, ByteArray.mk_append_mk, HW.out.tn]
      · have hi2 : ¬ (i : Int) < (60 : Int) := by omega
        have hi1 : (i : Int) < (m : Int) := by omega
        obtain ⟨lv, l1, l2, l3⟩ := HW.out.ho.log
        have hlog := log_any hb 0 c.av _ _ lv S.ticks S.log wr l1 l2
        have HE : Hid (Below w.heap.size w wr) := HW.out.bel
        generalize (⟨S.log.toArray⟩ : ByteArray) = SB at *
        have hbq : (SB.toList == SB.toList) = true := by simp
        clear l1 l2 l3
        go_wp2_with fail
        refine hlog.mono ?_
        rintro e w2 ⟨rfl, hw2⟩
        subst hw2
        go_wp2_with fail
        go_ret
        exact ⟨rfl, HE.out⟩
    · have hi1 : ¬ (i : Int) < (m : Int) := by omega
      obtain ⟨lv, l1, l2, l3⟩ := HW.out.ho.log
      have hlog := log_any hb 0 c.av _ _ lv S.ticks S.log wr l1 l2
      have HE : Hid (Below w.heap.size w wr) := HW.out.bel
      generalize (⟨S.log.toArray⟩ : ByteArray) = SB at *
      have hbq : (SB.toList == SB.toList) = true := by simp
      clear l1 l2 l3
      go_wp2_with fail
      refine hlog.mono ?_
      rintro e w2 ⟨rfl, hw2⟩
      subst hw2
      go_wp2_with fail
      go_ret
      exact ⟨rfl, HE.out⟩
end Go.Proofs.YtpldaghhledjlaaGreatDoor.H
