/- The closure that moves lines up. -/
import Derived.Test.YtpldaghhledjlaaGreatDoorHoDoc
namespace Go.Proofs.YtpldaghhledjlaaGreatDoor.H
open Go.RowKit

theorem own_zero {a : Option Addr} {k : Nat} (h : QsOwn (.slice a 0 0) k) : False := by
  obtain ⟨_, _, _, e, hpos⟩ := h
  cases e
  omega
set_option maxRecDepth 20000 in
set_option maxHeartbeats 1000000 in
theorem shift_any {w : World} {o : Nat → Nat} {cbx qbx C qb n : Nat} {Q : Qu} {cs : List Nat} (h : DoAt w o cbx qbx C qb n Q cs) (t d : Nat) (ht : t < n) (hd : cs[t]? = some d) (hlen : Q.wait.length + d < 300) :
    Calls Tryz.prog 6 #[.int .i64 t, .pointer (some ⟨cbx, 0, none⟩), .pointer (some ⟨qbx, 0, none⟩)] w fun e w' => e = .returned (.tuple #[]) ∧ ∃ o', DoAt w' o' cbx qbx C qb n (moveQ t d Q).1 (cs.set t (moveQ t d Q).2) ∧ Ch DL o w o' w' := by
  have h0 : (0 : Int) ≤ (t : Int) := by omega
  have h1 : (t : Int) < (n : Int) := by omega
  have HH : Hid (DoAt w o cbx qbx C qb n Q cs) := h
  have hds : cs.set t d = cs := by
    have h3 := (List.getElem?_eq_some_iff.1 hd).2
    rw [← h3, List.set_getElem_self]
  have HS : Hid (cs.set t d = cs ∧ t < n ∧ t < cs.length ∧ Q.wait.length + d < 300) := ⟨hds, ht, by rw [h.len]; exact ht, hlen⟩
  clear h hd hds ht hlen
  go_enter Tryz.func6, Tryz.ntmps6
  go_wp2_with fail
  go_loopg [] d (fun gk wr => ∃ o1 Q1, DoAt wr o1 cbx qbx C qb n Q1 (cs.set t gk) ∧ Ch DL o w o1 wr ∧ moveQ t gk Q1 = moveQ t d Q ∧ Q1.wait.length + gk = Q.wait.length + d)
  case atStart => exact ⟨o, Q, by rw [HS.out.1]; exact HH.out, Ch.refl _ _ _, rfl, rfl⟩
  case round =>
    obtain ⟨o1, Q1, hr, hch, hmv, hln⟩ := hrel
    have HR : Hid (DoAt wr o1 cbx qbx C qb n Q1 (cs.set t gk)) := hr
    have HCH : Hid (Ch DL o w o1 wr) := hch
    have HMV : Hid (moveQ t gk Q1 = moveQ t d Q ∧ Q1.wait.length + gk = Q.wait.length + d) := ⟨hmv, hln⟩
    obtain ⟨vs, c1, c2, c3⟩ := hr.com
    have HC : Hid (wr.heap[C]? = some (.cells vs.toArray 34 (0, 0)) ∧ vs.length = n ∧ ∀ (u : Nat) v d, vs[u]? = some v → (cs.set t gk)[u]? = some d → Qs wr v d ∧ ∀ k, QsOwn v k → o1 k = 1000 + u) := ⟨c1, c2, c3⟩
    obtain ⟨v, hv⟩ : ∃ v, vs[t]? = some v := ⟨vs[t]'(by have := HS.out.2.1; omega), List.getElem?_eq_getElem _⟩
    have HV : Hid (vs[t]? = some v) := hv
    have hq := (c3 t v gk hv (by rw [List.getElem?_set, if_pos rfl, if_pos HS.out.2.2.1])).1
    obtain ⟨ao, g, off, cc, hvv, q⟩ := hq
    subst hvv
    have e1 : wr.cell? ⟨cbx, 0, none⟩ = some (.slice (some ⟨C, 0, none⟩) n n) := Lib.cell_of_heap hr.cb 0
    have e4 : wr.cell? ⟨qbx, 0, none⟩ = some (.pointer (some ⟨qb, 0, none⟩)) := Lib.cell_of_heap hr.qk 0
    have e2 : wr.cell? ⟨C, t, none⟩ = some (.slice ao gk cc) := by rw [Lib.cell_of_heap c1, List.getElem?_toArray]; exact hv
    have HQ : Hid (QsR wr ao g off gk cc) := q
    clear hr hch hmv hln c1 c2 c3 hv q
    obtain ⟨m, hm⟩ : ∃ m, m = gk := ⟨_, rfl⟩
    rw [← hm] at e2
    have HM : Hid (m = gk) := hm
    clear hm
    match gk, HR, HMV, HC, HV, HQ, HM with
    | 0, HR, HMV, HC, HV, HQ, HM =>
      go_wp2_with fail
      have hdz : decide (0 < m) = false := by rw [HM.out]; decide
      go_quiet (fail)
      go_wp2_with fail
      go_end0
      refine ⟨rfl, o1, ?_, HCH.out.drewN _⟩
      rw [← HMV.out.1]
      exact HR.out.drewN _
    | gk + 1, HR, HMV, HC, HV, HQ, HM =>
      have hcc : 0 < cc := by have := HQ.out.le; omega
      have hao := HQ.out.addr hcc
      subst hao
      have e3 : wr.cell? ⟨g, off, none⟩ = some (.string qm) := by have := HQ.out.old 0 (by omega); simpa using this
      have hps := HR.out.drew.push t (by have := HMV.out.2; have := HS.out.2.2.2; omega)
      have HW : Hid (moveQ t (gk + 1) Q1 = if (Q1.push t qm).1 = 0 then moveQ t gk (Q1.push t qm).2 else (Q1, gk + 1)) := rfl
      have HPN : Hid (((Q1.push t qm).1 = 0 → (Q1.push t qm).2.wait.length = Q1.wait.length + 1) ∧ ((Q1.push t qm).1 ≠ 0 → (Q1.push t qm).2 = Q1)) := push_len Q1 t
      generalize Q1.push t qm = P at *
      obtain ⟨pc, Q2⟩ := P
      simp only at hps HW HPN
      generalize qm = qq at *
      have hm := HM.out
      subst hm
      clear HM
      go_wp2_with fail
      go_still_tail 15, (by kernel_rfl)
      change wpList _ _ _ _ _ wr.drew
      have HMV2 : Hid (moveQ t d Q = (if pc = 0 then moveQ t gk Q2 else (Q1, gk + 1)) ∧ Q1.wait.length + (gk + 1) = Q.wait.length + d) := ⟨HMV.out.1.symm.trans HW.out, HMV.out.2⟩
      clear HMV HW e2 e3 e1 e4
      go_wp2_with fail
      refine hps.mono ?_
      rintro e w1 ⟨rfl, o2, hr2, hc2⟩
      have HC2 : Hid (Ch DL o w o2 w1) := (HCH.out.drew).trans (hc2.mono five_DL)
      have HR2 : Hid (DoAt w1 o2 cbx qbx C qb n Q2 (cs.set t (gk + 1))) := hr2
      by_cases hpc : pc = 0
      · have HE : Hid (moveQ t d Q = moveQ t gk Q2 ∧ Q2.wait.length + gk = Q.wait.length + d) := by
          refine ⟨?_, ?_⟩
          · rw [HMV2.out.1, if_pos hpc]
          · have h3 := HPN.out.1 hpc
            have h4 := HMV2.out.2
            omega
        subst hpc
        obtain ⟨us, c1, c2, c3⟩ := hr2.com
        obtain ⟨y, hy⟩ : ∃ y, us[t]? = some y := ⟨us[t]'(by have := HS.out.2.1; omega), List.getElem?_eq_getElem _⟩
        have hq2 := (c3 t y (gk + 1) hy (by rw [List.getElem?_set, if_pos rfl, if_pos HS.out.2.2.1])).1
        obtain ⟨ao2, g2, off2, cc2, hyy, q2⟩ := hq2
        subst hyy
        have hcc2 : 0 < cc2 := by have := q2.le; omega
        have hao2 := q2.addr hcc2
        subst hao2
        have e1 : w1.cell? ⟨cbx, 0, none⟩ = some (.slice (some ⟨C, 0, none⟩) n n) := Lib.cell_of_heap hr2.cb 0
        have e2 : w1.cell? ⟨C, t, none⟩ = some (.slice (some ⟨g2, off2, none⟩) (gk + 1) cc2) := by rw [Lib.cell_of_heap c1, List.getElem?_toArray]; exact hy
        have z2 := Lib.frozen_of_heap c1 t
        have HFIN : Hid (∀ (v' : Value) (m : Nat), Qs w1 v' gk → (∀ k, QsOwn v' k → QsOwn (.slice (some ⟨g2, off2, none⟩) (gk + 1) cc2) k) → ∃ o3, DoAt ((w1.setCell ⟨C, t, none⟩ v').drewN m) o3 cbx qbx C qb n Q2 (cs.set t gk) ∧ Ch DL o w o3 ((w1.setCell ⟨C, t, none⟩ v').drewN m)) := fun v' m hv' hsub => by
          obtain ⟨a1, a2⟩ := HR2.out.setRow (w1 := w1) (v' := v') (d' := gk) c1 c2 c3 hy HS.out.2.1 hv' (OnlyF.refl _ _) (fun k hk => .inl (hsub k hk))
          rw [List.set_set] at a1
          exact ⟨_, a1.drewN m, (HC2.out.trans a2).drewN m⟩
        have HT : Hid (QsR w1 (some ⟨g2, off2, none⟩) g2 off2 (gk + 1) cc2) := q2
        have hle : gk + 1 ≤ cc2 := q2.le
        have k1 : (1 : Int) ≤ ((gk + 1 : Nat) : Int) := by omega
        clear hr2 hc2 hps c1 c2 c3 hy q2
        by_cases hc1 : cc2 = 1
        · have hgk : gk = 0 := by omega
          subst hc1 hgk
          go_wp2_with fail
          go_region
          all_goals
            go_wp2_with fail
            go_roundg 0
            case measure => omega
            case rel =>
              obtain ⟨o3, b1, b2⟩ := HFIN.out _ 1 (Qs.zero w1 _) (fun _ hk => (own_zero hk).elim)
              exact ⟨o3, Q2, b1, b2, HE.out.1.symm, HE.out.2⟩
        · have k2 : ¬ cc2 = 1 := hc1
          go_wp2_with fail
          go_region
          all_goals
            go_wp2_with fail
            go_roundg gk
            case measure => omega
            case rel =>
              obtain ⟨o3, b1, b2⟩ := HFIN.out _ 1 (Qs.tail HT.out (by omega)) (fun k hk => by obtain ⟨_, _, _, e, hpos⟩ := hk; cases e; exact ⟨_, _, _, rfl, hcc2⟩)
              exact ⟨o3, Q2, b1, b2, HE.out.1.symm, HE.out.2⟩
      · have HE : Hid (moveQ t d Q = (Q1, gk + 1) ∧ Q2 = Q1) := ⟨by rw [HMV2.out.1, if_neg hpc], HPN.out.2 hpc⟩
        have hpb : (pc == 0) = false := by simpa using hpc
        clear hr2 hc2 hps
        go_wp2_with fail
        go_end0
        refine ⟨rfl, o2, ?_, HC2.out⟩
        have h6 := HR2.out
        rw [HE.out.2] at h6
        rw [HE.out.1]
        exact h6
end Go.Proofs.YtpldaghhledjlaaGreatDoor.H
