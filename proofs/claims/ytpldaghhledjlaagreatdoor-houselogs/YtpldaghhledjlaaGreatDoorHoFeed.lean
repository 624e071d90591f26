/- Feed of one line. -/
import Derived.Test.YtpldaghhledjlaaGreatDoorHoMove
import Derived.Test.YtpldaghhledjlaaGreatDoorFrCut
namespace Go.Proofs.YtpldaghhledjlaaGreatDoor.H
open Go.RowKit

theorem cut_q : cutA [] [63, 10] = ([[63]], []) := by decide
/-- another row of lines is put behind a port -/
theorem PoAt.setB {w w1 : World} {o : Nat → Nat} {t pb d d' M : Nat} (h : PoAt w o t pb d M) {hv bv tv bv' : Value} {l : List UInt8} (k1 : PoB w pb hv ⟨#[]⟩ bv tv) (k3 : ∀ k, QsOwn bv k → o k = 11 + 3 * t) (k4 : w.ownsRow 0 5 1 tv l.length (Lib.byteCells l)) (k5 : ∀ k, tv.ownBlock = some k → o k = 12 + 3 * t) (k6 : l.length ≤ M)
    (hq : Qs w1 bv' d') (ho : OnlyF (QsOwn bv) w w1) (hat : ∀ k, QsOwn bv' k → QsOwn bv k ∨ w.heap.size ≤ k) :
    PoAt (w1.setCell ⟨pb, 2, none⟩ bv') (ext o w.heap.size (11 + 3 * t)) t pb d' M ∧ Ch (portL t) o w (ext o w.heap.size (11 + 3 * t)) (w1.setCell ⟨pb, 2, none⟩ bv') := by
  have hlt := h.lt
  have hlab := h.lab
  have hne : ∀ k, QsOwn bv k → k ≠ pb := fun k hk e => by have := k3 k hk; rw [e, hlab] at this; omega
  have hl : ∀ k, QsOwn bv' k → ext o w.heap.size (11 + 3 * t) k = 11 + 3 * t := fun k hk => by
    rcases hat k hk with h2 | h2
    · exact ext_is (k3 k h2)
    · exact ext_new h2
  have e1 : w1.heap[pb]? = w.heap[pb]? := ho.block pb hlt fun f => hne pb f rfl
  refine ⟨⟨by rw [ext_old hlt]; exact hlab, hv, bv', tv, l, block_set (e1.trans k1) 2 bv', hq.keep fun k hk => Below.heap_setCell _ _ _ _ fun e => ?_, hl, ownsRow_keepB k4 fun k hk => ?_, fun k hk => ?_, k6⟩, ?_⟩
  · change k = pb at e
    have := hl k hk
    rw [e, ext_old hlt, hlab] at this
    omega
  · have h5 := k5 k hk
    have hk2 := (k4.lt k hk).2
    rw [Below.heap_setCell _ _ _ _ (by intro e; change k = pb at e; rw [e, hlab] at h5; omega)]
    exact ho.block k hk2 fun f => by have := k3 k f; omega
  · rw [ext_old (k4.lt k hk).2]; exact k5 k hk
  · have h3 : OnlyF (fun k => QsOwn bv k ∨ k = pb) w (w1.setCell ⟨pb, 2, none⟩ bv') := OnlyF.trans (F := fun k => QsOwn bv k ∨ k = pb) ⟨ho.os, ho.tape, ho.output, ho.size, fun k hk hn => ho.block k hk fun f => hn (.inl f)⟩ (OnlyF.set (F := fun k => QsOwn bv k ∨ k = pb) w1 ⟨pb, 2, none⟩ bv' (.inr rfl)) fun k hk => .inl hk
    exact Ch.of h3 _ fun k hk _ => by
      rcases hk with h4 | h4
      · rw [k3 k h4]; unfold portL; omega
      · rw [h4, hlab]; unfold portL; omega
theorem PoAt.setKept {w : World} {o : Nat → Nat} {t pb d M : Nat} (h : PoAt w o t pb d M) : PoAt (w.setCell ⟨pb, 1, none⟩ (.string ⟨#[]⟩)) o t pb d M ∧ Ch (portL t) o w o (w.setCell ⟨pb, 1, none⟩ (.string ⟨#[]⟩)) := by
  have hlab := h.lab
  obtain ⟨hv, bv, tv, l, k1, k2, k3, k4, k5, k6⟩ := h.ex
  refine ⟨⟨hlab, hv, bv, tv, l, block_set k1 1 _, k2.keep fun k hk => Below.heap_setCell _ _ _ _ fun e => ?_, k3, ownsRow_keepB k4 fun k hk => Below.heap_setCell _ _ _ _ fun e => ?_, k5, k6⟩, Ch.set o w ⟨pb, 1, none⟩ _ (by show portL t (o pb); rw [hlab]; unfold portL; omega)⟩
  · change k = pb at e; have := k3 k hk; rw [e, hlab] at this; omega
  · change k = pb at e; have := k5 k hk; rw [e, hlab] at this; omega
set_option maxRecDepth 20000 in
set_option maxHeartbeats 1000000 in
theorem feed_any {w : World} {o : Nat → Nat} {hb : Nat} {c : Hm} {S : Hs} {M : Nat} (h : HoAt w o hb c S M) (m : Int) (hm : w.cell? ⟨1, 0, none⟩ = some (.int .i64 m)) (t d : Nat) (ht : t < S.T.n) (hd : S.ds[t]? = some d) (hd2 : d ≤ 1000) :
    Calls Tryz.prog 8 #[.pointer (some ⟨hb, 0, none⟩), .int .i64 t, .string ⟨#[63, 10]⟩] w fun e w' => e = .returned (.int .i64 0) ∧ ∃ o', HoAt w' o' hb c ⟨(moveF t (d + 1) S.T).1, S.ds.set t (moveF t (d + 1) S.T).2, S.ticks, S.log⟩ M ∧ Ch HL o w o' w' := by
  obtain ⟨lv, l1, _, _⟩ := h.log
  have c2 : w.cell? ⟨hb, 2, none⟩ = some (.slice (some ⟨c.pr, 0, none⟩) S.T.n c.cp) := Lib.cell_of_heap l1 2
  have htp : t < c.pbs.length := by rw [h.plen]; exact ht
  obtain ⟨pb, hpb⟩ : ∃ pb, pb = c.pbs[t] := ⟨_, rfl⟩
  have hpbs : c.pbs[t]? = some pb := by rw [hpb]; exact List.getElem?_eq_getElem htp
  have cp := h.ports t pb hpbs
  have hpo := h.port t pb d hpbs hd
  have h64 := h.n64
  have HPB : Hid (c.pbs[t]? = some pb ∧ t < 64 ∧ t < S.ds.length) := ⟨hpbs, by omega, by rw [h.dlen]; exact ht⟩
  have h0 : (0 : Int) ≤ (t : Int) := by omega
  have h1 : (t : Int) < (S.T.n : Int) := by omega
  have HH : Hid (HoAt w o hb c S M) := h
  have HT : Hid (t < S.T.n ∧ d ≤ 1000) := ⟨ht, hd2⟩
  have hcut := cut_any [] [63, 10] m w (by decide) hm
  have hhas := has_any hb S.T.n c.cp (some ⟨c.pr, 0, none⟩) c.av _ lv S.ticks t w l1
  rw [decide_eq_true ⟨h0, h1⟩] at hhas
  obtain ⟨hv, bv, tv, l, k1, k2, k3, k4, k5, k6⟩ := hpo.ex
  have e1 : w.cell? ⟨pb, 1, none⟩ = some (.string ⟨#[]⟩) := Lib.cell_of_heap k1 1
  have HPO : Hid (PoAt w o t pb d M) := hpo
  have hbw : hb < w.heap.size := h.hlt
  have hpw : pb < w.heap.size := hpo.lt
  have HDD : Hid (S.ds[t]? = some d) := hd
  have HDS : Hid (S.ds.set t d = S.ds) := by
    have h3 := (List.getElem?_eq_some_iff.1 hd).2
    show _ = _
    rw [← h3, List.set_getElem_self]
  clear h l1 hpb hpbs hd htp ht hm hd2 k1 k2 k3 k4 k5 k6 hpo
  unfold CutOut at hcut
  simp only [List.nil_append, cut_q] at hcut
  go_enter Tryz.func8, Tryz.ntmps8
  go_wp2_with (go_at_call 20; refine hhas.mono ?_; rintro e wz ⟨rfl, rfl⟩)
  refine hcut.mono ?_
  rintro e w1 ⟨hb1, g, rest, hg, rfl, hpk⟩
  have hx1 : w1.cell? ⟨g, 0, none⟩ = some (.string qm) := hpk.cell (i := 0) (l := [63]) rfl
  have hc1 : Ch (fun _ => False) o wz (ext o wz.heap.size 0) w1 := Ch.ofBelow hb1 0
  have hA := HH.out.ch hc1 fun _ h => h.elim
  have hpA := hA.port t pb d HPB.out.1 HDD.out
  obtain ⟨hpB, hcB⟩ := hpA.setKept
  have HBo : Hid (HoAt (w1.setCell ⟨pb, 1, none⟩ (.string ⟨#[]⟩)) (ext o wz.heap.size 0) hb c ⟨S.T, S.ds, S.ticks, S.log⟩ M ∧ Ch HL o wz (ext o wz.heap.size 0) (w1.setCell ⟨pb, 1, none⟩ (.string ⟨#[]⟩))) := by
    refine ⟨?_, (hc1.mono fun _ h => h.elim).trans (hcB.mono (portL_HL HPB.out.2.1))⟩
    have h5 := hA.setP hcB (Nat.le_refl _) (fun pb' hpb' => by
      have := HPB.out.1
      rw [hpb'] at this
      cases this
      exact hpB)
    rw [HDS.out] at h5
    exact h5
  have f1 : w1.cell? ⟨pb, 1, none⟩ = some (.string ⟨#[]⟩) := (hb1.cell (p := ⟨pb, 1, none⟩) hpw).trans e1
  obtain ⟨hv2, bv2, tv2, l2, k1, k2, k3, k4, k5, k6⟩ := hpA.ex
  have z1 := Lib.frozen_of_heap k1 1
  have hgp : g ≠ pb := by omega
  have hx2 : (w1.setCell ⟨pb, 1, none⟩ (.string ⟨#[]⟩)).cell? ⟨g, 0, none⟩ = some (.string qm) := by rw [World.cell?_setCell_far _ _ _ _ (by exact hgp.symm)]; exact hx1
  generalize ext o wz.heap.size 0 = o2 at *
  have HPB2 : Hid (PoAt (w1.setCell ⟨pb, 1, none⟩ (.string ⟨#[]⟩)) o2 t pb d M) := hpB
  clear hA hpA hpB hcB hc1 k1 k2 k3 k4 k5 k6 hpk hb1 hx1 hcut hhas c2 cp e1 HH HPO
  simp only [List.length_cons, List.length_nil, Nat.zero_add]
  go_upto_region 10 with fail
  generalize hw2 : w1.setCell ⟨pb, 1, none⟩ (.string ⟨#[]⟩) = w2 at *
  clear hw2 f1 z1
  obtain ⟨hv3, bv3, tv3, l3, k1, k2, k3, k4, k5, k6⟩ := HPB2.out.ex
  have e2 : w2.cell? ⟨pb, 2, none⟩ = some bv3 := Lib.cell_of_heap k1 2
  have z2 := Lib.frozen_of_heap k1 2
  have HK : Hid (PoB w2 pb hv3 ⟨#[]⟩ bv3 tv3 ∧ (∀ k, QsOwn bv3 k → o2 k = 11 + 3 * t) ∧ w2.ownsRow 0 5 1 tv3 l3.length (Lib.byteCells l3) ∧ (∀ k, tv3.ownBlock = some k → o2 k = 12 + 3 * t) ∧ l3.length ≤ M) := ⟨k1, k3, k4, k5, k6⟩
  have HQ : Hid (Qs w2 bv3 d) := k2
  have HKE : Hid (∀ w3, OnlyF (QsOwn bv3) w2 w3 → w3.cell? ⟨pb, 2, none⟩ = some bv3 ∧ w3.frozen? ⟨pb, 2, none⟩ = false) := fun w3 ho => by
    have e : w3.heap[pb]? = w2.heap[pb]? := ho.block pb HPB2.out.lt fun f => by
      have h1 := HK.out.2.1 pb f
      have h2 := HPB2.out.lab
      omega
    exact ⟨(World.cell?_of_block (a := ⟨pb, 2, none⟩) e).trans (Lib.cell_of_heap HK.out.1 2), (World.frozen?_of_block (a := ⟨pb, 2, none⟩) e).trans (Lib.frozen_of_heap HK.out.1 2)⟩
  obtain ⟨ba, bn, bc, hbv⟩ : ∃ a n c, bv3 = .slice a n c := by obtain ⟨a, b, off, c, e, _⟩ := k2; exact ⟨_, _, _, e⟩
  subst hbv
  clear k1 k2 k3 k4 k5 k6
  go_upto_region 11 with (at_builtin; refine wpList_append_qs rfl _ _ rfl rfl HQ.out ⟨g, 0, none⟩ 1 rfl hx2 HT.out.2 ?_; intro v' w3 hq3 ho3 hat3; obtain ⟨q4, q5⟩ := HKE.out w3 ho3; obtain ⟨va, vb, vo, vc, hv', vr⟩ := id hq3; subst hv'; clear vr)
  obtain ⟨hp4, hc4⟩ := HPB2.out.setB HK.out.1 HK.out.2.1 HK.out.2.2.1 HK.out.2.2.2.1 HK.out.2.2.2.2 hq3 ho3 hat3
  have h4 := HBo.out.1.setP hc4 (Nat.le_refl _) (fun pb' hpb' => by
    have := HPB.out.1
    rw [hpb'] at this
    cases this
    exact hp4)
  simp only at h4
  have hmv := moveUp_any h4 t (d + 1) HT.out.1 (by show (S.ds.set t (d + 1))[t]? = _; rw [List.getElem?_set, if_pos rfl, if_pos HPB.out.2.2])
  have HC4 : Hid (Ch HL o wz (ext o2 w2.heap.size (11 + 3 * t)) (w3.setCell ⟨pb, 2, none⟩ (.slice va (d + 1) vc))) := HBo.out.2.trans (hc4.mono (portL_HL HPB.out.2.1))
  simp only [List.set_set] at hmv
  generalize hw4 : w3.setCell ⟨pb, 2, none⟩ (.slice va (d + 1) vc) = w4 at *
  clear hw4 h4 hp4 hc4 hq3 ho3 hat3 q4 q5 e2 z2 hx2 HKE
  go_wp2_with fail
  refine hmv.mono ?_
  rintro e w5 ⟨rfl, o5, h5, hc5⟩
  have HE : Hid _ := And.intro h5 (HC4.out.trans hc5)
  clear h5 hc5 hmv
  go_wp2_with fail
  go_ret
  exact ⟨rfl, o5, HE.out⟩
end Go.Proofs.YtpldaghhledjlaaGreatDoor.H
