/- moveUp. -/
import Derived.Test.YtpldaghhledjlaaGreatDoorHoSt
import Derived.Test.YtpldaghhledjlaaGreatDoorTuPush2
import Derived.BigQuiet
import Derived.StillTailTactics
import Derived.Deep.RegionHeld
namespace Go.Proofs.YtpldaghhledjlaaGreatDoor.H
open Go.RowKit

/-- a tenant's lines go where they wait, as many as may -/
def moveF (t : Nat) : Nat → Tu → Tu × Nat
  | 0, T => (T, 0)
  | d + 1, T => if (T.push t qm).1 = 0 then moveF t d (T.push t qm).2 else (T, d + 1)
theorem push_n (T : Tu) (t : Int) (s : ByteArray) : (T.push t s).2.n = T.n := by
  unfold Tu.push
  split
  · split <;> rfl
  · rfl
theorem Ch.drewN {L : Nat → Prop} {o o1 : Nat → Nat} {w w1 : World} (h : Ch L o w o1 w1) (n : Nat) : Ch L o w o1 (w1.drewN n) := ⟨h.os, h.tape, h.output, h.size, h.lab, h.block⟩
theorem HoAt.drewN {w : World} {o : Nat → Nat} {hb : Nat} {c : Hm} {S : Hs} {M : Nat} (h : HoAt w o hb c S M) (n : Nat) : HoAt (w.drewN n) o hb c S M := h.ch ((Ch.refl (fun _ => False) o w).drewN n) fun _ h => h.elim
theorem Ch.drew {L : Nat → Prop} {o o1 : Nat → Nat} {w w1 : World} (h : Ch L o w o1 w1) : Ch L o w o1 w1.drew := ⟨h.os, h.tape, h.output, h.size, h.lab, h.block⟩
theorem HoAt.drew {w : World} {o : Nat → Nat} {hb : Nat} {c : Hm} {S : Hs} {M : Nat} (h : HoAt w o hb c S M) : HoAt w.drew o hb c S M := h.ch ((Ch.refl (fun _ => False) o w).drew) fun _ h => h.elim
theorem moveF_n (t : Nat) : ∀ (d : Nat) (T : Tu), (moveF t d T).1.n = T.n
  | 0, _ => rfl
  | d + 1, T => by
    unfold moveF
    split
    · rw [moveF_n t d, push_n]
    · rfl
def portL (t l : Nat) : Prop := 10 + 3 * t ≤ l ∧ l ≤ 12 + 3 * t
theorem block_set {w : World} {b : Nat} {cs : Array Value} {ty : TypeId} {x : Nat × Nat} (h : w.heap[b]? = some (.cells cs ty x)) (i : Nat) (v : Value) : (w.setCell ⟨b, i, none⟩ v).heap[b]? = some (.cells (cs.setIfInBounds i v) ty x) := Go.Joins.block_setCell h v
/-- the oldest line is dropped -/
theorem drop_any {w : World} {o : Nat → Nat} {t pb d M : Nat} (h : PoAt w o t pb (d + 1) M) :
    Calls Tryz.prog 35 #[.pointer (some ⟨pb, 0, none⟩)] w fun e w' => e = .returned (.tuple #[]) ∧ PoAt w' o t pb d M ∧ Ch (portL t) o w o w' := by
  have hlab := h.lab
  obtain ⟨hv, bv, tv, l, k1, k2, k3, k4, k5, k6⟩ := h.ex
  obtain ⟨ao, g, off, c, rfl, q⟩ := k2
  have hc : 0 < c := by have := q.le; omega
  obtain rfl := q.addr hc
  have hgl : o g = 11 + 3 * t := k3 g ⟨off, d + 1, c, rfl, hc⟩
  have hgp : g ≠ pb := fun e => by rw [e, hlab] at hgl; omega
  have hx : w.cell? ⟨g, off, none⟩ = some (.string qm) := by have := q.old 0 (by omega); simpa using this
  have hf : w.frozen? ⟨g, off, none⟩ = false := by have := (q.there 0 hc).2; simpa using this
  have htold : ∀ k, tv.ownBlock = some k → k ≠ pb ∧ k ≠ g := fun k hk => by
    have := k5 k hk
    constructor
    · intro e; rw [e, hlab] at this; omega
    · intro e; rw [e, hgl] at this; omega
  by_cases hd : d = 0
  · subst hd
    refine (drop_last pb g off c hv tv ⟨#[]⟩ qm w k1 hgp hx hf hc).mono ?_
    rintro e w' ⟨rfl, h1, h2, h3, h4, h5, h6⟩
    refine ⟨rfl, ⟨hlab, hv, _, tv, l, h2, Qs.nil w', fun k hk => ?_, ownsRow_keepB k4 fun k hk => h1 k (htold k hk).1 (htold k hk).2, k5, k6⟩, h3, h4, h5, Nat.le_of_eq h6.symm, fun _ _ => rfl, fun k _ hn => ?_⟩
    · obtain ⟨_, _, _, e, _⟩ := hk
      cases e
    · refine h1 k (fun e => hn ?_) (fun e => hn ?_)
      · rw [e, hlab]; unfold portL; omega
      · rw [e, hgl]; unfold portL; omega
  · refine (drop_more pb g off d c hv tv ⟨#[]⟩ qm w k1 hgp hx hf (by omega) q.le).mono ?_
    rintro e w' ⟨rfl, rfl⟩
    have hle := q.le
    have hP : PoB ((w.setCell ⟨g, off, none⟩ (.string ⟨#[]⟩)).setCell ⟨pb, 2, none⟩ (.slice (some ⟨g, off + 1, none⟩) d (c - 1))) pb hv ⟨#[]⟩ (.slice (some ⟨g, off + 1, none⟩) d (c - 1)) tv := block_set ((Below.heap_setCell _ _ _ _ (by exact hgp.symm)).trans k1) 2 _
    have hcell : ∀ j, ((w.setCell ⟨g, off, none⟩ (.string ⟨#[]⟩)).setCell ⟨pb, 2, none⟩ (.slice (some ⟨g, off + 1, none⟩) d (c - 1))).cell? ⟨g, off + 1 + j, none⟩ = w.cell? ⟨g, off + (j + 1), none⟩ := fun j => by
      rw [World.cell?_setCell_far _ _ _ _ (by exact hgp.symm), World.cell?_setCell_other _ _ _ _ (by intro e; simp at e), show off + 1 + j = off + (j + 1) by omega]
    refine ⟨rfl, ⟨hlab, hv, _, tv, l, hP, ⟨_, g, off + 1, c - 1, rfl, by omega, by have := q.max; omega, fun _ => rfl, fun _ => ?_, fun j hj => ?_, fun j hj => ?_⟩, fun k hk => ?_, ownsRow_keepB k4 fun k hk => ?_, k5, k6⟩, ?_⟩
    · exact Nat.lt_of_lt_of_le (q.lt hc) (by simp [World.setCell])
    · rw [hcell j]; exact q.old (j + 1) (by omega)
    · rw [hcell j]
      refine ⟨(q.there (j + 1) (by omega)).1, ?_⟩
      rw [World.frozen?_setCell, World.frozen?_setCell, show off + 1 + j = off + (j + 1) by omega]
      exact (q.there (j + 1) (by omega)).2
    · obtain ⟨_, _, _, e, _⟩ := hk
      cases e
      exact hgl
    · rw [Below.heap_setCell _ _ _ _ (by exact (htold k hk).1), Below.heap_setCell _ _ _ _ (by exact (htold k hk).2)]
    · exact (Ch.set o w ⟨g, off, none⟩ _ (by show portL t (o g); rw [hgl]; unfold portL; omega)).trans (Ch.set o _ ⟨pb, 2, none⟩ _ (by show portL t (o pb); rw [hlab]; unfold portL; omega))
theorem portL_HL {t : Nat} (ht : t < 64) : ∀ l, portL t l → HL l := fun l h => by unfold portL at h; unfold HL; omega
theorem two_HL : ∀ l, l = 2 → HL l := fun l h => by unfold HL; omega
/-- a push -/
theorem HoAt.push {w : World} {o : Nat → Nat} {hb : Nat} {c : Hm} {S : Hs} {M : Nat} (h : HoAt w o hb c S M) (t : Nat) :
    Calls Tryz.prog 34 #[.pointer (some ⟨c.tb, 0, none⟩), .int .i64 t, .string qm] w fun e w' => e = .returned (.int .i64 (S.T.push t qm).1) ∧ ∃ o', HoAt w' o' hb c ⟨(S.T.push t qm).2, S.ds, S.ticks, S.log⟩ M ∧ Ch (fun l => l = 2) o w o' w' := by
  obtain ⟨vs, t1, t2⟩ := h.turns
  refine (Push_any 0 c.tb c.R vs S.T t qm w t1 (by decide) (Nat.zero_le _)).mono ?_
  rintro e w' ⟨rfl, vs', h1, h2, h3⟩
  have hc : Ch (fun l => l = 2) o w (ext o w.heap.size 2) w' := Ch.of h2 2 fun k hk _ => t2 k hk
  refine ⟨rfl, _, h.setT hc h1 (fun i hi => ?_) (push_n _ _ _), hc⟩
  rcases h3 i hi with h4 | h4
  · exact ext_is (t2 i h4)
  · exact ext_new h4
set_option maxRecDepth 20000 in
set_option maxHeartbeats 1000000 in
theorem moveUp_any {w : World} {o : Nat → Nat} {hb : Nat} {c : Hm} {S : Hs} {M : Nat} (h : HoAt w o hb c S M) (t d : Nat) (ht : t < S.T.n) (hd : S.ds[t]? = some d) :
    Calls Tryz.prog 22 #[.pointer (some ⟨hb, 0, none⟩), .int .i64 t] w fun e w' => e = .returned (.tuple #[]) ∧ ∃ o', HoAt w' o' hb c ⟨(moveF t d S.T).1, S.ds.set t (moveF t d S.T).2, S.ticks, S.log⟩ M ∧ Ch HL o w o' w' := by
  obtain ⟨lv, l1, _, _⟩ := h.log
  have c2 : w.cell? ⟨hb, 2, none⟩ = some (.slice (some ⟨c.pr, 0, none⟩) S.T.n c.cp) := Lib.cell_of_heap l1 2
  have htp : t < c.pbs.length := by rw [h.plen]; exact ht
  obtain ⟨pb, hpb⟩ : ∃ pb, pb = c.pbs[t] := ⟨_, rfl⟩
  have hpbs : c.pbs[t]? = some pb := by rw [hpb]; exact List.getElem?_eq_getElem htp
  have cp := h.ports t pb hpbs
  have HPB : Hid (c.pbs[t]? = some pb ∧ t < 64 ∧ t < S.ds.length) := ⟨hpbs, by have := h.n64; omega, by rw [h.dlen]; exact ht⟩
  have h0 : (0 : Int) ≤ (t : Int) := by omega
  have h1 : (t : Int) < (S.T.n : Int) := by omega
  have HH : Hid (HoAt w o hb c S M) := h
  have hds : S.ds.set t d = S.ds := by
    have h3 := (List.getElem?_eq_some_iff.1 hd).2
    rw [← h3, List.set_getElem_self]
  have HS : Hid (S.ds.set t d = S.ds ∧ t < S.T.n) := ⟨hds, ht⟩
  clear h l1 hpb hpbs hd hds htp ht
  go_enter Tryz.func22, Tryz.ntmps22
  go_wp2_with fail
  go_loopg [] d (fun gk wr => ∃ o1 T1, HoAt wr o1 hb c ⟨T1, S.ds.set t gk, S.ticks, S.log⟩ M ∧ Ch HL o w o1 wr ∧ moveF t gk T1 = moveF t d S.T)
  case atStart => exact ⟨o, S.T, by rw [HS.out.1]; exact HH.out, Ch.refl _ _ _, rfl⟩
  case round =>
    obtain ⟨o1, T1, hr, hch, hmv⟩ := hrel
    have HR : Hid (HoAt wr o1 hb c ⟨T1, S.ds.set t gk, S.ticks, S.log⟩ M) := hr
    have HCH : Hid (Ch HL o w o1 wr) := hch
    have HMV : Hid (moveF t gk T1 = moveF t d S.T) := hmv
    have hpo := hr.port t pb gk HPB.out.1 (by show (S.ds.set t gk)[t]? = some gk; rw [List.getElem?_set, if_pos rfl, if_pos HPB.out.2.2])
    obtain ⟨lv, l1, _, _⟩ := hr.log
    have d1 : wr.cell? ⟨hb, 1, none⟩ = some (.pointer (some ⟨c.tb, 0, none⟩)) := Lib.cell_of_heap l1 1
    have HPO : Hid (PoAt wr o1 t pb gk M) := hpo
    obtain ⟨hv, bv, tv, l, k1, ⟨ao, g, off, cc, rfl, q⟩, k3, k4, k5, k6⟩ := hpo.ex
    have e2 : wr.cell? ⟨pb, 2, none⟩ = some (.slice ao gk cc) := Lib.cell_of_heap k1 2
    have HQ : Hid (QsR wr ao g off gk cc) := q
    clear hr hch hmv l1 k1 k3 k4 k5 k6 hpo q c2 cp
    obtain ⟨m, hm⟩ : ∃ m, m = gk := ⟨_, rfl⟩
    rw [← hm] at e2
    have HM : Hid (m = gk) := hm
    clear hm
    match gk, HR, HMV, HPO, HQ, HM with
    | 0, HR, HMV, HPO, HQ, HM =>
      go_wp2_with fail
      have hdz : decide (0 < m) = false := by rw [HM.out]; decide
      go_quiet (fail)
      go_wp2_with fail
      go_end0
      refine ⟨rfl, o1, ?_, HCH.out.drewN _⟩
      rw [← HMV.out]
      exact HR.out.drewN _
    | gk + 1, HR, HMV, HPO, HQ, HM =>
      have hcc : 0 < cc := by have := HQ.out.le; omega
      have hao := HQ.out.addr hcc
      subst hao
      have e3 : wr.cell? ⟨g, off, none⟩ = some (.string qm) := by have := HQ.out.old 0 (by omega); simpa using this
      have hps := HR.out.drew.push t
      have HW : Hid (moveF t (gk + 1) T1 = if (T1.push t qm).1 = 0 then moveF t gk (T1.push t qm).2 else (T1, gk + 1)) := rfl
      have HPN : Hid ((T1.push t qm).1 = 0 ∨ (T1.push t qm).2 = T1) := by
        show _ ∨ _
        unfold Tu.push
        split
        · split
          · exact .inr rfl
          · exact .inl rfl
        · exact .inr rfl
      simp only at hps
      generalize T1.push t qm = P at *
      obtain ⟨pc, T2⟩ := P
      simp only at hps HW HPN
      generalize qm = qq at *
      have hm := HM.out
      subst hm
      clear HM
      go_wp2_with fail
      go_still_tail 18, (by kernel_rfl)
      change wpList _ _ _ _ _ wr.drew
      have HMV2 : Hid (moveF t d S.T = if pc = 0 then moveF t gk T2 else (T1, gk + 1)) := HMV.out.symm.trans HW.out
      clear HMV HW e2 e3 d1 HQ hcc
      go_wp2_with fail
      refine hps.mono ?_
      rintro e w1 ⟨rfl, o2, hr2, hc2⟩
      have HR2 : Hid (HoAt w1 o2 hb c ⟨T2, S.ds.set t (gk + 1), S.ticks, S.log⟩ M) := hr2
      have HC2 : Hid (Ch HL o w o2 w1) := (HCH.out.drew).trans (hc2.mono two_HL)
      have hpo := hr2.port t pb (gk + 1) HPB.out.1 (by show (S.ds.set t (gk + 1))[t]? = _; rw [List.getElem?_set, if_pos rfl, if_pos HPB.out.2.2])
      have hdr := drop_any hpo
      clear hr2 hc2 hpo hps HR HPO
      by_cases hpc : pc = 0
      · have HE : Hid (moveF t d S.T = moveF t gk T2) := by show _ = _; rw [HMV2.out, if_pos hpc]
        subst hpc
        go_wp2_with fail
        refine hdr.mono ?_
        rintro e w2 ⟨rfl, hp2, hc3⟩
        have HR3 : Hid (HoAt w2 o2 hb c ⟨T2, S.ds.set t gk, S.ticks, S.log⟩ M) := by
          have h5 := HR2.out.setP hc3 (Nat.le_refl _) (fun pb' hpb' => by
            have := HPB.out.1
            rw [hpb'] at this
            cases this
            exact hp2)
          simp only [List.set_set] at h5
          exact h5
        have HC3 : Hid (Ch HL o w o2 w2) := HC2.out.trans (hc3.mono (portL_HL HPB.out.2.1))
        clear hdr hp2 hc3 HC2 HR2
        go_wp2_with fail
        go_roundg gk
        case measure => omega
        case rel => exact ⟨o2, T2, HR3.out, HC3.out, HE.out.symm⟩
      · have HE : Hid (moveF t d S.T = (T1, gk + 1) ∧ T2 = T1) := by
          refine ⟨?_, ?_⟩
          · rw [HMV2.out, if_neg hpc]
          · rcases HPN.out with h | h
            · exact absurd h hpc
            · exact h
        have hpb : (pc == 0) = false := by simpa using hpc
        go_wp2_with fail
        go_end0
        refine ⟨rfl, o2, ?_, HC2.out⟩
        have h6 := HR2.out
        rw [HE.out.2] at h6
        rw [HE.out.1]
        exact h6
end Go.Proofs.YtpldaghhledjlaaGreatDoor.H
