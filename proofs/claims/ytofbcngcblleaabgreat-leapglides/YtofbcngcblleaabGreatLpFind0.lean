/- find at the least level: one step of sixteen cells. -/
import Derived.Test.YtofbcngcblleaabGreatLpStp
import Derived.Test.YtofbcngcblleaabGreatLpGood
import Derived.Test.YtofbcngcblleaabGreatLpStep
namespace Go.Proofs.YtofbcngcblleaabGreat.A
open Go.RowKit Go.Proofs.YtofbcngcblleaabGreat.L
variable {w w1 W : World} {o o1 : Nat → Nat} {lb b t : Nat} {rb rl e : Int} {A : Ar} {q : Nat → Int} {PR : (Bool → Nat → Bool) → Int → Prop} {S : Item → Prop}
def lifeR (rb rl : Int) : Bool → Nat → Bool := fun now n => livesB rb rl now n
def PB (PR : (Bool → Nat → Bool) → Int → Prop) (rb rl : Int) : Prop := 0 ≤ rb ∧ PR (lifeR rb rl) (rnum rb rl)
def Out (PR : (Bool → Nat → Bool) → Int → Prop) (rb rl : Int) (t : Nat) (q : Nat → Int) (A : Ar) (o : Nat → Nat) (w : World) (lb b : Nat) (e : Int) (D : Item → Prop) (G : Ar → Prop) (w' : World) : Prop :=
  ∃ e' A', Kp o w lb b t rb rl e' A' w' ∧ NxSt PR t q A' ∧ Gx t A A' e e' D ∧ (Er e' ∨ (e' = 0 ∧ G A'))
theorem lpJoin_rel (h : LS w o lb b t rb rl e A) (hst : NxSt PR t q A) (ht : t < 64) (he : e = 0 ∨ Er e) (n : Nat) (hn : n < 44) (q0 q1 q2 q3 : Int) (hl : e = 0 → levV (view A t).V q0 = some (n : Int) ∧ levV (view A t).V q1 = some (n : Int) ∧ levV (view A t).V q2 = some (n : Int) ∧ levV (view A t).V q3 = some (n : Int)) :
    Calls Tryz.prog 100 #[.pointer (some ⟨lb, 0, none⟩), quad4 q0 q1 q2 q3] w fun r w' => ∃ v, r = .returned (.int .i64 v) ∧ Out PR rb rl t q A o w lb b e (joinD (QV (view A t)) n q0 q1 q2 q3) (fun A' => e = 0 ∧ QV (view A' t) v = some (q0, q1, q2, q3) ∧ levV (view A' t).V v = some ((n + 1 : Nat) : Int)) w' := by
  rcases he with rfl | he
  · obtain ⟨l0, l1, l2, l3⟩ := hl rfl
    have f0 := lev_fits hst.s l0
    have f1 := lev_fits hst.s l1
    have f2 := lev_fits hst.s l2
    have f3 := lev_fits hst.s l3
    refine (lpJoin_ok h hst.s ht q0 q1 q2 q3 f0 f1 f2 f3).mono ?_
    rintro r w' ⟨rfl, o', h1, h2⟩
    obtain ⟨a1, a2, a3⟩ := join_sem hst ht hn l0 l1 l2 l3 f0 f1 f2 f3
    refine ⟨_, rfl, _, _, ⟨o', h1, h2⟩, a1, a2, ?_⟩
    rcases a3 with a3 | ⟨a3, a4, a5⟩
    · exact .inl a3
    · exact .inr ⟨a3, rfl, a4, a5⟩
  · refine (lpJoin_dead h he.ne q0 q1 q2 q3).mono ?_
    rintro r w' ⟨rfl, hk⟩
    exact ⟨_, rfl, _, _, hk, hst, Gx.no he t A _, .inl he⟩
def NfC (fn : Nat) (DF : (Bool → Nat → Bool) → Int → (Item → Prop) → Nat → Gr → Nat → Item → Prop) (n : Nat) : Prop := ∀ (PR : (Bool → Nat → Bool) → Int → Prop) (S : Item → Prop) (w : World) (o : Nat → Nat) (lb b t : Nat) (rb rl : Int) (q : Nat → Int) (A : Ar) (id : Int) (j : Nat), LS w o lb b t rb rl 0 A → NxSt PR t q A → t < 64 → PB PR rb rl → rb ≤ 511 → n ≤ 42 → levV (view A t).V id = some ((n + 2 : Nat) : Int) → j ≤ n → Cl (lifeR rb rl) (rnum rb rl) S (view A t) →
  Calls Tryz.prog fn #[.pointer (some ⟨lb, 0, none⟩), .int .i64 id, .int .i64 ((n + 2 : Nat) : Int), .int .i64 (j : Int)] w fun r w' => ∃ v, r = .returned (.int .i64 v) ∧ Out PR rb rl t q A o w lb b 0 (DF (lifeR rb rl) (rnum rb rl) S n (picQ (QV (view A t)) (n + 2) id) j) (fun A' => Nx (lifeR rb rl) (QV (view A' t)) n id j v ∧ levV (view A' t).V v = some ((n + 1 : Nat) : Int) ∧ Cl (lifeR rb rl) (rnum rb rl) S (view A' t)) w'
def NxC (n : Nat) : Prop := NfC 62 Dem n
def FdC (n : Nat) : Prop := NfC 85 FindD n
theorem lpNext_rel {n : Nat} (hN : NxC n) (h : LS w o lb b t rb rl e A) (hst : NxSt PR t q A) (ht : t < 64) (h0 : PB PR rb rl) (h1 : rb ≤ 511) (hn : n ≤ 42) (he : e = 0 ∨ Er e) (id : Int) (j : Nat) (hj : j ≤ n) (hl : e = 0 → levV (view A t).V id = some ((n + 2 : Nat) : Int) ∧ Cl (lifeR rb rl) (rnum rb rl) S (view A t)) :
    Calls Tryz.prog 62 #[.pointer (some ⟨lb, 0, none⟩), .int .i64 id, .int .i64 ((n + 2 : Nat) : Int), .int .i64 (j : Int)] w fun r w' => ∃ v, r = .returned (.int .i64 v) ∧ Out PR rb rl t q A o w lb b e (Dem (lifeR rb rl) (rnum rb rl) S n (picQ (QV (view A t)) (n + 2) id) j) (fun A' => e = 0 ∧ Nx (lifeR rb rl) (QV (view A' t)) n id j v ∧ levV (view A' t).V v = some ((n + 1 : Nat) : Int) ∧ Cl (lifeR rb rl) (rnum rb rl) S (view A' t)) w' := by
  rcases he with rfl | he
  · refine (hN PR S w o lb b t rb rl q A id j h hst ht h0 h1 hn (hl rfl).1 hj (hl rfl).2).mono ?_
    rintro r w' ⟨v, rfl, e', A', k1, k2, k3, k4⟩
    refine ⟨v, rfl, e', A', k1, k2, k3, ?_⟩
    rcases k4 with k4 | ⟨k4, k5⟩
    · exact .inl k4
    · exact .inr ⟨k4, rfl, k5⟩
  · refine (lpNext_dead h he.ne id _ _).mono ?_
    rintro r w' ⟨rfl, hk⟩
    exact ⟨_, rfl, _, _, hk, hst, Gx.no he t A _, .inl he⟩
def midD (Q : Qs4) (n : Nat) (q0 q1 q2 q3 : Int) : Item → Prop := fun i => ∃ k0 k1 k2 k3, Q q0 = some k0 ∧ Q q1 = some k1 ∧ Q q2 = some k2 ∧ Q q3 = some k3 ∧ joinD Q n k0.2.2.2 k1.2.2.1 k2.2.1 k3.1 i
theorem lpMiddle_rel (h : LS w o lb b t rb rl e A) (hst : NxSt PR t q A) (ht : t < 64) (he : e = 0 ∨ Er e) (n : Nat) (hn : n < 44) (q0 q1 q2 q3 : Int) (hl : e = 0 → levV (view A t).V q0 = some ((n + 1 : Nat) : Int) ∧ levV (view A t).V q1 = some ((n + 1 : Nat) : Int) ∧ levV (view A t).V q2 = some ((n + 1 : Nat) : Int) ∧ levV (view A t).V q3 = some ((n + 1 : Nat) : Int)) :
    Calls Tryz.prog 102 #[.pointer (some ⟨lb, 0, none⟩), quad4 q0 q1 q2 q3] w fun r w' => ∃ v, r = .returned (.int .i64 v) ∧ Out PR rb rl t q A o w lb b e (midD (QV (view A t)) n q0 q1 q2 q3) (fun A' => e = 0 ∧ (∃ k0 k1 k2 k3, QV (view A' t) q0 = some k0 ∧ QV (view A' t) q1 = some k1 ∧ QV (view A' t) q2 = some k2 ∧ QV (view A' t) q3 = some k3 ∧ QV (view A' t) v = some (k0.2.2.2, k1.2.2.1, k2.2.1, k3.1)) ∧ levV (view A' t).V v = some ((n + 1 : Nat) : Int)) w' := by
  have hw := hst.g.wel t ht
  rcases he with rfl | he
  · obtain ⟨l0, l1, l2, l3⟩ := hl rfl
    obtain ⟨r0, s0, m0⟩ := kids_lev hw l0
    obtain ⟨r1, s1, m1⟩ := kids_lev hw l1
    obtain ⟨r2, s2, m2⟩ := kids_lev hw l2
    obtain ⟨r3, s3, m3⟩ := kids_lev hw l3
    have f0 := lev_fits hst.s (m0 3 (by omega))
    have f1 := lev_fits hst.s (m1 2 (by omega))
    have f2 := lev_fits hst.s (m2 1 (by omega))
    have f3 := lev_fits hst.s (m3 0 (by omega))
    refine (lpMiddle_any h hst.s ht q0 q1 q2 q3 _ _ _ _ _ _ _ _ _ _ _ _ _ _ _ _ (.inl ⟨rfl, lev_fits hst.s l0, s0⟩) (.inl ⟨rfl, lev_fits hst.s l1, s1⟩) (.inl ⟨rfl, lev_fits hst.s l2, s2⟩) (.inl ⟨rfl, lev_fits hst.s l3, s3⟩) fun _ => ⟨f0, f1, f2, f3⟩).mono ?_
    rintro r w' ⟨rfl, hk⟩
    unfold jn at hk ⊢
    rw [if_pos rfl] at hk ⊢
    obtain ⟨a1, a2, a3⟩ := join_sem hst ht hn (m0 3 (by omega)) (m1 2 (by omega)) (m2 1 (by omega)) (m3 0 (by omega)) f0 f1 f2 f3
    refine ⟨_, rfl, _, _, hk, a1, a2.eqv (fun _ i => ⟨fun x => ⟨_, _, _, _, s0, s1, s2, s3, x⟩, fun x => ?_⟩) (.inl rfl), ?_⟩
    · obtain ⟨k0, k1, k2, k3, c0, c1, c2, c3, c4⟩ := x
      rw [s0] at c0
      rw [s1] at c1
      rw [s2] at c2
      rw [s3] at c3
      cases c0
      cases c1
      cases c2
      cases c3
      exact c4
    rcases a3 with a3 | ⟨a3, a4, a5⟩
    · exact .inl a3
    · have hx := a2.sees.ext
      exact .inr ⟨a3, rfl, ⟨_, _, _, _, hx _ _ s0, hx _ _ s1, hx _ _ s2, hx _ _ s3, a4⟩, a5⟩
  · refine (lpMiddle_any h hst.s ht q0 q1 q2 q3 _ _ _ _ _ _ _ _ _ _ _ _ _ _ _ _ (.inr ⟨he.ne, rfl⟩) (.inr ⟨he.ne, rfl⟩) (.inr ⟨he.ne, rfl⟩) (.inr ⟨he.ne, rfl⟩) fun h => absurd h he.ne).mono ?_
    rintro r w' ⟨rfl, hk⟩
    unfold jn at hk ⊢
    rw [if_neg he.ne] at hk ⊢
    exact ⟨_, rfl, _, _, hk, hst, Gx.no he t A _, .inl he⟩
theorem cl_note {A' : Ar} {R : Bool → Nat → Bool} {rn : Int} {n j : Nat} {p : Gr} (h : Cl R rn S (view A t)) (hst : NxSt PR t q A) (ht : t < 64) (g : Gx t A A' 0 0 (fun i => i = .nt rn (n + 2) p j)) (hall : ∀ i, Dem R rn S n p j i → Has (view A' t) i) : Cl R rn S (view A' t) := by
  have hw := hst.g.wel t ht
  refine ⟨fun i hi => (h.sub i hi).sees hw hst.p g.sees, fun n' p' j' hj hn hS i hi => ?_⟩
  obtain ⟨id, f, f1, f2, f3, f4, f5, f6, f7⟩ := hn
  rcases g.new id f f1 with h1 | ⟨k, h1, h2⟩
  · refine (h.clo n' p' j' hj ?_ hS i hi).sees hw hst.p g.sees
    have hc := hw.clo id f h1 f.1.p0 (by unfold refsV; rw [if_neg (by omega)]; simp)
    obtain ⟨a, ha⟩ := some_of hc
    have h6 := g.sees.lev ha
    rw [f6] at h6
    rw [← Option.some.inj h6] at ha
    exact ⟨id, f, h1, f2, f3, f4, f5, ha, (picQ_ext g.sees.ext (isSq_of_lev hw hst.p _ _ ha)).symm.trans f7⟩
  · have e := is_one h1 (i' := .nt rn (n' + 2) p' j') ⟨f, f1, f2, f3, f4, f5, f6, f7⟩
    rw [h2] at e
    simp only [Item.nt.injEq] at e
    obtain ⟨_, e1, e2, e3⟩ := e
    have en : n = n' := by omega
    have ej : j = j' := by omega
    subst en ej e2
    exact hall i hi
set_option maxRecDepth 20000 in
set_option maxHeartbeats 2000000 in
theorem next_of_find {n : Nat} (hF : FdC n) : NxC n := by
  intro PR S w o lb b t rb rl q A id j h hst ht h0 h1 hn hl hj hcl
  obtain ⟨c0, c1, _, _, c4, z4⟩ := h.cells
  have fi := lev_fits hst.s hl
  have fj : Fits (j : Int) := by unfold Fits; omega
  have hnum := number_any h.drew h0.1 h1
  obtain ⟨F, ha, _⟩ := h.ar
  have hrec := fun n => recallP_any b t F id (rnum rb rl) j A (w.drewN n) (ha.other (Nat.le_refl _) fun _ _ => rfl) hst.s ht fi (rnum_fits rb rl) fj
  have HX : Hid (LS w o lb b t rb rl 0 A ∧ NxSt PR t q A ∧ levV (view A t).V id = some ((n + 2 : Nat) : Int)) := ⟨h, hst, hl⟩
  have HCL : Hid (Cl (lifeR rb rl) (rnum rb rl) S (view A t)) := hcl
  have HR : Hid (∀ v, recallF A.ths t id (rnum rb rl) j = some v → Nx (lifeR rb rl) (QV (view A t)) n id j v ∧ levV (view A t).V v = some ((n + 1 : Nat) : Int)) := fun v hv => recall_sem hst h0.2 ht hv hl hj
  have HF : Hid (FdC n) := hF
  have HP : Hid (PB PR rb rl ∧ rb ≤ 511 ∧ n ≤ 42 ∧ j ≤ n) := ⟨h0, h1, hn, hj⟩
  obtain ⟨lv, hlv⟩ : ∃ lv, lv = ((n + 2 : Nat) : Int) := ⟨_, rfl⟩
  have HL : Hid (lv = ((n + 2 : Nat) : Int)) := hlv
  obtain ⟨rn, hrn⟩ : ∃ rn, rn = rnum rb rl := ⟨_, rfl⟩
  have HN : Hid (rn = rnum rb rl) := hrn
  rw [← hrn] at hnum hrec
  rw [← hlv]
  obtain ⟨J, hJ⟩ : ∃ J : Int, J = (j : Int) := ⟨_, rfl⟩
  have HJ : Hid (J = (j : Int)) := hJ
  rw [← hJ] at hrec ⊢
  obtain ⟨rc, hrc⟩ : ∃ rc, rc = recallF A.ths t id rn J := ⟨_, rfl⟩
  have HC : Hid (rc = recallF A.ths t id rn J) := hrc
  rw [← hrc] at hrec
  clear hrc hJ hrn hlv hF h hst hl h0 h1 hn hj ha fj hcl
  cases rc with
  | some v =>
    simp only [Option.getD_some, Option.isSome_some] at hrec
    go_enter Tryz.func62, Tryz.ntmps62
    go_wp2_with fail
    go_region_with (first
      | (go_at_call 84; refine hnum.mono ?_; rintro e w1 ⟨rfl, nd, rfl⟩)
      | (go_at_call 83; refine (hrec _).mono ?_; rintro e w2 ⟨rfl, hb2⟩))
    all_goals
      go_wp2_with fail
      go_ret
      have hb3 : Below w.heap.size w w2 := ⟨hb2.os, hb2.tape, hb2.output, hb2.size, hb2.block⟩
      have hrv : recallF A.ths t id (rnum rb rl) (j : Int) = some v := by rw [← HN.out, ← HJ.out]; exact HC.out.symm
      refine ⟨_, rfl, 0, A, Kp.of HX.out.1 hb3, HX.out.2.1, ⟨Goes1.refl t A, fun _ _ h => .inl h, fun _ => ⟨rfl, fun i hi => ?_⟩, fun e => absurd rfl e.ne, fun e => absurd rfl e.ne⟩, .inr ⟨rfl, (HR.out v hrv).1, (HR.out v hrv).2, HCL.out⟩⟩
      exact HCL.out.clo n _ j HP.out.2.2.2 (recall_has hrv HX.out.2.2) ((Dem_eq _ _ _ _ _ _ i).1 hi).1 i hi
  | none =>
    simp only [Option.getD_none, Option.isSome_none] at hrec
    go_enter Tryz.func62, Tryz.ntmps62
    go_wp2_with fail
    go_region_with (first
      | (go_at_call 84; refine hnum.mono ?_; rintro e w1 ⟨rfl, nd, rfl⟩)
      | (go_at_call 83; refine (hrec _).mono ?_; rintro e w2 ⟨rfl, hb2⟩))
    all_goals
      have hb3 : Below w.heap.size w w2 := ⟨hb2.os, hb2.tape, hb2.output, hb2.size, hb2.block⟩
      have hl2 := HX.out.1.below hb3
      have hfd := HF.out PR S w2 (ext o w.heap.size 0) lb b t rb rl q A id j hl2 HX.out.2.1 ht HP.out.1 HP.out.2.1 HP.out.2.2.1 HX.out.2.2 HP.out.2.2.2 HCL.out
      have HNS : Hid (¬ S (.nt (rnum rb rl) (n + 2) (picQ (QV (view A t)) (n + 2) id) j)) := fun hs => by
        obtain ⟨v, hv⟩ := has_recall HX.out.2.1 ht HX.out.2.2 (HCL.out.sub _ hs)
        rw [← HN.out, ← HJ.out, ← HC.out] at hv
        cases hv
      rw [← HL.out, ← HJ.out] at hfd
      have HB : Hid (Below w.heap.size w w2) := hb3
      clear hl2 hb3
      go_wp2_with fail
      refine hfd.mono ?_
      rintro r w3 ⟨v, rfl, e', A', ⟨o3, k1, k1'⟩, k2, k3, k4⟩
      have HK : Hid (Ch AL o w o3 w3) := (Ch.ofBelow (L := AL) (o := o) HB.out 0).trans k1'
      have HS : Hid (NxSt PR t q A' ∧ Gx t A A' 0 e' (FindD (lifeR rb rl) (rnum rb rl) S n (picQ (QV (view A t)) (n + 2) id) j)) := ⟨k2, k3⟩
      rcases k4 with k4 | ⟨k4, k5, k6, k7⟩
      · have hno := lpNote_dead k1 k4.ne id J v
        have H4 : Hid (Er e') := k4
        clear k1 k1' k2 k3 k4
        go_wp2_with fail
        refine hno.mono ?_
        rintro r w4 ⟨rfl, hk4⟩
        go_wp2_with fail
        go_ret
        exact ⟨_, rfl, _, _, Kp.trans HK.out hk4, HS.out.1, Gx.seq (D2 := fun _ => False) HS.out.1 ht (.inr H4.out) HS.out.2 (Gx.nil t A') (fun i hi => (Dem_eq _ _ _ _ _ _ i).2 ⟨HNS.out, .inr hi⟩) (fun _ _ _ h => h.elim) (fun e0 => by exact absurd e0 H4.out.ne), .inl H4.out⟩
      · subst k4
        have fv := lev_fits k2.s k6
        have hno := lpNote_ok k1 k2.s ht HP.out.1.1 HP.out.2.1 id J v fi (by rw [HJ.out]; unfold Fits; have := HP.out.2.2; omega) fv
        have hl' : levV (view A' t).V id = some ((n + 2 : Nat) : Int) := k3.sees.lev HX.out.2.2
        have hsem := note_sem (v := v) (j := j) k2 HP.out.1.2 ht hl' k6 HP.out.2.2.2 k5 fi (rnum_fits rb rl) (by unfold Fits; have := HP.out.2.2; omega) fv
        rw [← HJ.out] at hsem
        rw [picQ_ext k3.sees.ext (isSq_of_lev (HX.out.2.1.g.wel t ht) HX.out.2.1.p _ _ HX.out.2.2)] at hsem
        have HV : Hid (Nx (lifeR rb rl) (QV (view A' t)) n id j v ∧ levV (view A' t).V v = some ((n + 1 : Nat) : Int) ∧ IsSq (QV (view A' t)) (n + 2) id ∧ Cl (lifeR rb rl) (rnum rb rl) S (view A' t)) := ⟨k5, k6, isSq_of_lev (k2.g.wel t ht) k2.p _ _ hl', k7⟩
        obtain ⟨PN, hPN⟩ : ∃ P, P = A'.noteP t id (rnum rb rl) J v := ⟨_, rfl⟩
        rw [← hPN] at hno hsem
        have HM : Hid (NxSt PR t q PN.1 ∧ Gx t A' PN.1 0 PN.2 (fun i => i = .nt (rnum rb rl) (n + 2) (picQ (QV (view A t)) (n + 2) id) J) ∧ (Er PN.2 ∨ PN.2 = 0)) := hsem
        clear k1 k1' k2 k3 k5 k6 k7 hl' hsem fv hPN
        go_wp2_with fail
        refine hno.mono ?_
        rintro r w4 ⟨rfl, hk4⟩
        go_wp2_with fail
        go_ret
        obtain ⟨s1, s2, s3⟩ := HM.out
        rw [HJ.out] at s2
        have hgx : Gx t A PN.1 0 PN.2 (Dem (lifeR rb rl) (rnum rb rl) S n (picQ (QV (view A t)) (n + 2) id) j) := Gx.seq HS.out.1 ht (.inl rfl) HS.out.2 s2 (fun i hi => (Dem_eq _ _ _ _ _ _ i).2 ⟨HNS.out, .inr hi⟩) (fun _ _ i hi => (Dem_eq _ _ _ _ _ _ i).2 ⟨HNS.out, .inl hi⟩) (fun _ _ _ i hi => by
          rcases ((Dem_eq _ _ _ _ _ _ i).1 hi).2 with h | h
          · exact .inr h
          · exact .inl h)
        refine ⟨_, rfl, _, _, Kp.trans HK.out hk4, s1, hgx, ?_⟩
        rcases s3 with s3 | s3
        · exact .inl s3
        · refine .inr ⟨s3, HV.out.1.ext HV.out.2.2.1 s2.sees.ext, s2.sees.lev HV.out.2.1, ?_⟩
          rw [s3] at s2
          exact cl_note HV.out.2.2.2 HS.out.1 ht s2 (hgx.all s3).2
end Go.Proofs.YtofbcngcblleaabGreat.A

namespace Go.Proofs.YtofbcngcblleaabGreat.A
open Go.RowKit Go.Proofs.YtofbcngcblleaabGreat.L
variable {w w1 W : World} {o o1 : Nat → Nat} {lb b t : Nat} {rb rl e : Int} {A : Ar} {q : Nat → Int}
theorem grid_of (hw : Wel (view A t)) {n : Nat} {id : Int} (h : levV (view A t).V id = some ((n + 2 : Nat) : Int)) : ∃ (r : Nat → Int) (P : Nat → Nat → Int), QV (view A t) id = some (r 0, r 1, r 2, r 3) ∧ (∀ i, i < 4 → levV (view A t).V (r i) = some ((n + 1 : Nat) : Int) ∧ QV (view A t) (r i) = some (P i 0, P i 1, P i 2, P i 3)) ∧ ∀ i k, i < 4 → k < 4 → levV (view A t).V (P i k) = some (n : Int) := by
  obtain ⟨r, h1, h2⟩ := kids_lev (n := n + 1) hw h
  have hk : ∀ i, ∃ p : Nat → Int, i < 4 → QV (view A t) (r i) = some (p 0, p 1, p 2, p 3) ∧ ∀ k, k < 4 → levV (view A t).V (p k) = some (n : Int) := fun i => by
    by_cases hi : i < 4
    · obtain ⟨p, h3, h4⟩ := kids_lev hw (h2 i hi)
      exact ⟨p, fun _ => ⟨h3, h4⟩⟩
    · exact ⟨fun _ => 0, fun h => absurd h hi⟩
  obtain ⟨P, hP⟩ := Classical.skolem.1 hk
  exact ⟨r, P, h1, fun i hi => ⟨h2 i hi, (hP i hi).1⟩, fun i k hi hk => (hP i hi).2 k hk⟩
theorem gvf_get {C : Int → Prop} {P : Nat → Nat → Int} (h : ∀ i k, i < 4 → k < 4 → C (P i k)) {p : Nat} (hp : p < 16) : C (gvf P 16 p) := by
  unfold gvf
  rw [if_pos (by omega)]
  exact h _ _ (by omega) (by omega)
theorem gvf_bits {P : Nat → Nat → Int} (h : ∀ i k, i < 4 → k < 4 → P i k = 0 ∨ P i k = 1) (p : Nat) : 0 ≤ gvf P 16 p ∧ gvf P 16 p ≤ 1 := by
  by_cases hp : p < 16
  · have : gvf P 16 p = 0 ∨ gvf P 16 p = 1 := gvf_get (C := fun v => v = 0 ∨ v = 1) h hp
    omega
  · unfold gvf
    rw [if_neg (by omega)]
    omega
theorem lev_zero (hp : PosL (view A t)) (hw : Wel (view A t)) {id : Int} (h : levV (view A t).V id = some ((0 : Nat) : Int)) : id = 0 ∨ id = 1 := isSq_of_lev hw hp 0 id h
theorem parts_at {R : Bool → Nat → Bool} {Q : Qs4} {n0 k T : Nat} {id0 id dx dy : Int} {r : Nat → Int} {P : Nat → Nat → Int} (h : At R Q n0 id0 (k + 2) id T dx dy) (hq : Q id = some (r 0, r 1, r 2, r 3)) (hP : ∀ i, i < 4 → Q (r i) = some (P i 0, P i 1, P i 2, P i 3)) (x y : Nat) (hx : x < 4) (hy : y < 4) : At R Q n0 id0 k (gvf P 16 (4 * y + x)) T (dx + x * 2 ^ k) (dy + y * 2 ^ k) := by
  have hn : ∀ i, i < 4 → nth4 (r 0, r 1, r 2, r 3) i = r i := fun i hi => by
    have : i = 0 ∨ i = 1 ∨ i = 2 ∨ i = 3 := by omega
    rcases this with rfl | rfl | rfl | rfl <;> rfl
  have hm : ∀ i j, j < 4 → nth4 (P i 0, P i 1, P i 2, P i 3) j = P i j := fun i j hj => by
    have : j = 0 ∨ j = 1 ∨ j = 2 ∨ j = 3 := by omega
    rcases this with rfl | rfl | rfl | rfl <;> rfl
  have h1 := h.part hq (y / 2 * 2 + x / 2) (y % 2 * 2 + x % 2) (by omega) (by omega) (by rw [hn _ (by omega)]; exact hP _ (by omega))
  rw [hm _ _ (by omega)] at h1
  have e : gvf P 16 (4 * y + x) = P (y / 2 * 2 + x / 2) (y % 2 * 2 + x % 2) := by
    unfold gvf
    rw [if_pos (by omega), show (4 * y + x) / 4 = y by omega, show (4 * y + x) % 4 = x by omega]
  rw [e]
  refine h1.to ?_ ?_ rfl
  · rw [show (y / 2 * 2 + x / 2) % 2 * 2 + (y % 2 * 2 + x % 2) % 2 = x by omega]
  · rw [show (y / 2 * 2 + x / 2) / 2 * 2 + (y % 2 * 2 + x % 2) / 2 = y by omega]
theorem b2n_of {v : Int} (h : 0 ≤ v ∧ v ≤ 1) : ((b2n (decide (v = 1)) : Nat) : Int) = v := by
  have : v = 0 ∨ v = 1 := by omega
  rcases this with rfl | rfl <;> rfl
theorem step_at {Q : Qs4} {id : Int} {f : Nat → Int} (hf : ∀ p, 0 ≤ f p ∧ f p ≤ 1) (hP : ∀ x y, x < 4 → y < 4 → At (lifeR rb rl) Q 2 id 0 (f (4 * y + x)) 0 (0 + x * 2 ^ 0) (0 + y * 2 ^ 0)) (x y : Nat) (h1 : 1 ≤ x) (h2 : x ≤ 2) (h3 : 1 ≤ y) (h4 : y ≤ 2) : At (lifeR rb rl) Q 2 id 0 (stq rb rl f (4 * y + x)) 1 x y := by
  have := At.cell (R := lifeR rb rl) (Q := Q) (n0 := 2) (id0 := id) (T := 0) (dx := 0) (dy := 0) (P := fun u v => f (4 * v + u)) (x := x) (y := y) (z := stq rb rl f (4 * y + x)) h1 h3 (fun u v a1 a2 a3 a4 => (hP u v (by omega) (by omega)).to (by simp) (by simp) rfl) ?_
  · exact this.to (by simp) (by simp) rfl
  · have key : ∀ n : Nat, nsm f (4 * y + x) 3 = (n : Int) → stq rb rl f (4 * y + x) = if lifeR rb rl (decide (f (4 * y + x) = 1)) n then 1 else 0 := fun n hn => by
      unfold stq lifeR
      rw [hn]
      rfl
    refine key _ ?_
    simp only [nsm, nrow, Int.natCast_add]
    have hx : x = 1 ∨ x = 2 := by omega
    have hy : y = 1 ∨ y = 2 := by omega
    rcases hx with rfl | rfl <;> rcases hy with rfl | rfl <;> simp only [b2n_of (hf _)] <;> simp <;> omega
theorem step_pic {Q : Qs4} {id : Int} {f : Nat → Int} (hf : ∀ p, 0 ≤ f p ∧ f p ≤ 1) (hP : ∀ x y, x < 4 → y < 4 → At (lifeR rb rl) Q 2 id 0 (f (4 * y + x)) 0 (0 + x * 2 ^ 0) (0 + y * 2 ^ 0)) : joinPic 0 (picQ Q 0 (stq rb rl f 5)) (picQ Q 0 (stq rb rl f 6)) (picQ Q 0 (stq rb rl f 9)) (picQ Q 0 (stq rb rl f 10)) = pic (iter (lifeR rb rl) 1 (picQ Q 2 id)) 1 1 1 := by
  have h := fun x y h1 h2 h3 h4 => (step_at hf hP x y h1 h2 h3 h4).2 _ _ _ (shows_pic (Q := Q) (n := 2) (id := id))
  have h5 := h 1 1 (by omega) (by omega) (by omega) (by omega)
  have h6 := h 2 1 (by omega) (by omega) (by omega) (by omega)
  have h9 := h 1 2 (by omega) (by omega) (by omega) (by omega)
  have h10 := h 2 2 (by omega) (by omega) (by omega) (by omega)
  exact join_pic (shows_mv h5 (by decide) (by decide)) (shows_mv h6 (by decide) (by decide)) (shows_mv h9 (by decide) (by decide)) (shows_mv h10 (by decide) (by decide))
theorem stq_bit (rb rl : Int) (f : Nat → Int) (p : Nat) : stq rb rl f p = 0 ∨ stq rb rl f p = 1 := by
  unfold stq
  split
  · exact .inr rfl
  · exact .inl rfl
theorem lev_bit (v : Vw) {x : Int} (h : x = 0 ∨ x = 1) : levV v.V x = some ((0 : Nat) : Int) := by
  unfold levV
  rw [if_pos h]
  rfl
set_option maxRecDepth 20000 in
set_option maxHeartbeats 4000000 in
theorem find_zero : FdC 0 := by
  intro PR S w o lb b t rb rl q A id j h hst ht h0 h1 hn hl hj hcl
  have hw := hst.g.wel t ht
  obtain ⟨r, P, g1, g2, g3⟩ := grid_of (n := 0) hw hl
  have hbits := gvf_bits fun i k hi hk => lev_zero hst.p hw (g3 i k hi hk)
  have hg := lpGrid_any h hst.s ht id r P (.inl ⟨rfl, lev_fits hst.s hl, g1⟩) fun i hi => .inl ⟨rfl, lev_fits hst.s (g2 i hi).1, (g2 i hi).2⟩
  have HA : Hid (∀ x y, x < 4 → y < 4 → At (lifeR rb rl) (QV (view A t)) 2 id 0 (gvf P 16 (4 * y + x)) 0 (0 + x * 2 ^ 0) (0 + y * 2 ^ 0)) := parts_at (At.root (isSq_of_lev hw hst.p 2 id hl)) g1 fun i hi => (g2 i hi).2
  have HS : Hid (NxSt PR t q A ∧ IsSq (QV (view A t)) 2 id) := ⟨hst, isSq_of_lev hw hst.p 2 id hl⟩
  have HCL : Hid (Cl (lifeR rb rl) (rnum rb rl) S (view A t)) := hcl
  have HT : Hid (j ≤ 0) := hj
  obtain ⟨f, hfe⟩ : ∃ f, f = gvf P 16 := ⟨_, rfl⟩
  rw [← hfe] at hg hbits HA
  obtain ⟨J, hJ⟩ : ∃ J : Int, J = (j : Int) := ⟨_, rfl⟩
  rw [← hJ]
  have HB : Hid (∀ p, 0 ≤ f p ∧ f p ≤ 1) := hbits
  have hSd := hst.s
  clear hfe g1 g2 g3 hw h hst hl hJ h0 h1 hn hbits hj hcl
  show Calls Tryz.prog _ #[.pointer (some ⟨lb, 0, none⟩), .int .i64 id, .int .i64 2, .int .i64 J] w _
  go_enter Tryz.func85, Tryz.ntmps85
  go_wp2_with fail
  refine hg.mono ?_
  rintro v w1 ⟨rfl, o1, k1, k2⟩
  have HK : Hid (LS w1 o1 lb b t rb rl 0 A ∧ Ch AL o w o1 w1) := ⟨k1, k2⟩
  clear k1 k2
  unfold gridV Sx
  go_wp2_with fail
  have hb1 : Below w1.heap.size w1 (w1.alloc (.cells (Sx f) 148)) := (Below.refl _ _).alloc (Nat.le_refl _) _
  have HB1 : Hid (Ch AL o w (ext o1 w1.heap.size 0) (w1.alloc (.cells (Sx f) 148))) := HK.out.2.trans (Ch.ofBelow hb1 0)
  have hs1 := lpStep_any (HK.out.1.below hb1) hSd ht f HB.out
  unfold gridV Sx at hs1
  clear hb1
  refine hs1.mono ?_
  rintro r w2 ⟨rfl, hkp⟩
  have HKP : Hid (Kp (ext o1 w1.heap.size 0) (w1.alloc (.cells (Sx f) 148)) lb b t rb rl (jn 0 A t (stq rb rl f 5) (stq rb rl f 6) (stq rb rl f 9) (stq rb rl f 10)).2.2 (jn 0 A t (stq rb rl f 5) (stq rb rl f 6) (stq rb rl f 9) (stq rb rl f 10)).1 w2) := hkp
  clear hkp hs1
  go_wp2_with fail
  go_ret
  have hkp := HKP.out
  unfold jn at hkp ⊢
  rw [if_pos rfl] at hkp ⊢
  have l := fun p => lev_bit (view A t) (stq_bit rb rl f p)
  have fs := fun p => lev_fits (t := t) hSd (l p)
  obtain ⟨a1, a2, a3⟩ := join_sem HS.out.1 ht (n := 0) (by omega) (l 5) (l 6) (l 9) (l 10) (fs 5) (fs 6) (fs 9) (fs 10)
  have hj0 : j = 0 := by have := HT.out; omega
  subst hj0
  have hgx : Gx t A (A.joinP t (stq rb rl f 5) (stq rb rl f 6) (stq rb rl f 9) (stq rb rl f 10)).1 0 (A.joinP t (stq rb rl f 5) (stq rb rl f 6) (stq rb rl f 9) (stq rb rl f 10)).2.2 (FindD (lifeR rb rl) (rnum rb rl) S 0 (picQ (QV (view A t)) 2 id) 0) := by
    refine a2.eqv (fun _ i => ?_) (.inl rfl)
    unfold joinD
    rw [step_pic HB.out HA.out]
    exact Iff.rfl
  refine ⟨_, rfl, _, _, Kp.trans HB1.out hkp, a1, hgx, ?_⟩
  rcases a3 with a3 | ⟨a3, a4, a5⟩
  · exact .inl a3
  · refine .inr ⟨a3, ?_, a5, HCL.out.more HS.out.1 ht a2 joinD_sq⟩
    have hx := a2.sees.ext
    have k5 := (step_at HB.out HA.out 1 1 (by omega) (by omega) (by omega) (by omega)).ext HS.out.2 hx
    have k6 := (step_at HB.out HA.out 2 1 (by omega) (by omega) (by omega) (by omega)).ext HS.out.2 hx
    have k9 := (step_at HB.out HA.out 1 2 (by omega) (by omega) (by omega) (by omega)).ext HS.out.2 hx
    have k10 := (step_at HB.out HA.out 2 2 (by omega) (by omega) (by omega) (by omega)).ext HS.out.2 hx
    exact Nx.of (At.join (dx := 1) (dy := 1) (k := 0) (T := 1) a4 (k5.to rfl rfl rfl) (k6.to rfl rfl rfl) (k9.to rfl rfl rfl) (k10.to rfl rfl rfl))
end Go.Proofs.YtofbcngcblleaabGreat.A
