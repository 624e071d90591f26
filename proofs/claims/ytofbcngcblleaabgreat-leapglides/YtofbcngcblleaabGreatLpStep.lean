/- What Join, Note and Recall mean for a tenant's view. -/
import Derived.Test.YtofbcngcblleaabGreatLpOps
import Derived.Test.YtofbcngcblleaabGreatLpNotes
import Derived.Test.YtofbcngcblleaabGreatLpNode
namespace Go.Proofs.YtofbcngcblleaabGreat.A
open Go.RowKit Go.Proofs.YtofbcngcblleaabGreat.L
def Er (e : Int) : Prop := e = 9 ∨ e = 5
theorem Er.ne {e : Int} (h : Er e) : e ≠ 0 := by rcases h with rfl | rfl <;> decide
def RoomT (t : Nat) (c : Int) (A : Ar) : Prop := lsum tens (fun u => if u = t then c else A.cnt u) ≤ A.room
theorem RoomT.same {t : Nat} {c : Int} {A A' : Ar} (h : RoomT t c A) (hr : A'.room = A.room) (hc : ∀ u, u ≠ t → A'.cnt u = A.cnt u) : RoomT t c A' := by
  unfold RoomT at *
  rw [hr]
  have : (fun u => if u = t then c else A'.cnt u) = fun u => if u = t then c else A.cnt u := funext fun u => by
    by_cases e : u = t
    · rw [if_pos e, if_pos e]
    · rw [if_neg e, if_neg e, hc u e]
  rw [this]
  exact h
theorem RoomT.not {t : Nat} {c : Int} {A : Ar} (h : RoomT t c A) (hS : Sound A) (ht : t < 64) (hlt : A.cnt t < c) : ¬ A.made.room ≤ (liveN A.made.ths : Int) :=
  roomy_not (q := fun u => if u = t then c else A.cnt u) hS ⟨fun u _ => by
    by_cases e : u = t
    · simp only [e, if_true]; omega
    · simp only [e, if_false]; exact Int.le_refl _, h⟩ ht (by simp only [if_true]; exact hlt)
def Stop (t : Nat) (A : Ar) (e : Int) : Prop := (e = 9 ∧ A.lim t ≤ A.cnt t) ∨ (e = 5 ∧ A.cnt t < A.lim t ∧ ∀ c, RoomT t c A → c ≤ A.cnt t)
structure NxSt (PR : (Bool → Nat → Bool) → Int → Prop) (t : Nat) (q : Nat → Int) (A : Ar) : Prop where
  s : Sound A
  g : Glob A
  p : PosL (view A t)
  n : ∀ R rn, PR R rn → NotesG R rn A.ths
  u : ∀ R R' rn, PR R rn → PR R' rn → R = R'
  r : RoomT t (q t) A
structure Goes1 (t : Nat) (A A' : Ar) : Prop where
  sees : Sees (view A t) (view A' t)
  lim : A'.lim t = A.lim t
  oth : ∀ u, u ≠ t → view A' u = view A u
  cap : A.cnt t ≤ A.lim t → A'.cnt t ≤ A'.lim t
  fresh : ∃ l, A'.fresh t = A.fresh t ++ l ∧ (∀ id f, (view A' t).V id = some f → id ∈ l ∨ (view A t).V id = some f) ∧ (∀ id ∈ l, (view A t).V id = none) ∧ A'.cnt t = A.cnt t + (l.length : Int)
theorem Goes1.refl (t : Nat) (A : Ar) : Goes1 t A A := ⟨Sees.refl _, rfl, fun _ _ => rfl, fun h => h, [], by simp, fun _ _ h => .inr h, fun _ h => (by cases h), by simp⟩
theorem Goes1.trans {t : Nat} {A A1 A2 : Ar} (h : Goes1 t A A1) (k : Goes1 t A1 A2) : Goes1 t A A2 := by
  obtain ⟨l, hl, ha, hb, hc⟩ := h.fresh
  obtain ⟨l2, hl2, ka, kb, kc⟩ := k.fresh
  refine ⟨h.sees.trans k.sees, k.lim.trans h.lim, fun u hu => (k.oth u hu).trans (h.oth u hu), fun e => k.cap (h.cap e), l ++ l2, by rw [hl2, hl, List.append_assoc], fun id f hf => ?_, fun id hi => ?_, by rw [kc, hc, List.length_append]; omega⟩
  · rcases ka id f hf with e | e
    · exact .inl (List.mem_append_right _ e)
    · rcases ha id f e with e | e
      · exact .inl (List.mem_append_left _ e)
      · exact .inr e
  · rcases List.mem_append.1 hi with e | e
    · exact hb id e
    · cases hv : (view A t).V id with
      | none => rfl
      | some f => rw [← kb id e, h.sees id f hv]
structure Gx (t : Nat) (A A' : Ar) (e e' : Int) (D : Item → Prop) : Prop extends Goes1 t A A' where
  new : ∀ id f, (view A' t).V id = some f → (view A t).V id = some f ∨ ∃ i, Is (view A' t) id i ∧ D i
  all : e' = 0 → e = 0 ∧ ∀ i, D i → Has (view A' t) i
  bad : Er e' → Er e ∨ (Stop t A' e' ∧ ∃ i, D i ∧ ¬ Has (view A' t) i)
  dead : Er e → A' = A ∧ e' = e
variable {R : Bool → Nat → Bool} {rn : Int} {PR : (Bool → Nat → Bool) → Int → Prop} {t : Nat} {q : Nat → Int} {A : Ar}
theorem Gx.no {e : Int} (he : Er e) (t : Nat) (A : Ar) (D : Item → Prop) : Gx t A A e e D := ⟨Goes1.refl t A, fun _ _ h => .inl h, fun h => absurd h he.ne, fun _ => .inl he, fun _ => ⟨rfl, rfl⟩⟩
theorem Gx.nil (t : Nat) (A : Ar) {e : Int} : Gx t A A e e (fun _ => False) := ⟨Goes1.refl t A, fun _ _ h => .inl h, fun h => ⟨h, fun _ h => h.elim⟩, fun h => .inl h, fun _ => ⟨rfl, rfl⟩⟩
theorem Gx.seq {A1 A2 : Ar} {e e1 e2 : Int} {D D1 D2 : Item → Prop} (h1 : NxSt PR t q A1) (ht : t < 64) (he1 : e1 = 0 ∨ Er e1) (h : Gx t A A1 e e1 D1) (k : Gx t A1 A2 e1 e2 D2) (a1 : ∀ i, D1 i → D i) (a2 : e1 = 0 → e = 0 → ∀ i, D2 i → D i) (a3 : e2 = 0 → e1 = 0 → e = 0 → ∀ i, D i → D1 i ∨ D2 i) : Gx t A A2 e e2 D := by
  have hw := h1.g.wel t ht
  refine ⟨h.toGoes1.trans k.toGoes1, fun id f hf => ?_, fun e0 => ?_, fun e9 => ?_, fun e9 => ?_⟩
  · rcases he1 with rfl | he1
    · rcases k.new id f hf with h2 | ⟨i, h2, h3⟩
      · rcases h.new id f h2 with h3 | ⟨i, h3, h4⟩
        · exact .inl h3
        · exact .inr ⟨i, h3.sees hw h1.p k.sees, a1 i h4⟩
      · exact .inr ⟨i, h2, a2 rfl (h.all rfl).1 i h3⟩
    · obtain ⟨rfl, _⟩ := k.dead he1
      rcases h.new id f hf with h3 | ⟨i, h3, h4⟩
      · exact .inl h3
      · exact .inr ⟨i, h3, a1 i h4⟩
  · obtain ⟨k1, k2⟩ := k.all e0
    obtain ⟨h3, h4⟩ := h.all k1
    refine ⟨h3, fun i hi => ?_⟩
    rcases a3 e0 k1 h3 i hi with h5 | h5
    · exact (h4 i h5).sees hw h1.p k.sees
    · exact k2 i h5
  · rcases he1 with rfl | he1
    · rcases k.bad e9 with h2 | ⟨h2, i, h3, h4⟩
      · exact absurd rfl h2.ne
      · exact .inr ⟨h2, i, a2 rfl (h.all rfl).1 i h3, h4⟩
    · obtain ⟨rfl, rfl⟩ := k.dead he1
      rcases h.bad he1 with h2 | ⟨h2, i, h3, h4⟩
      · exact .inl h2
      · exact .inr ⟨h2, i, a1 i h3, h4⟩
  · obtain ⟨rfl, h2⟩ := h.dead e9
    subst h2
    exact k.dead e9
theorem Gx.eqv {A1 : Ar} {e e1 : Int} {D D1 : Item → Prop} (h : Gx t A A1 e e1 D1) (a1 : e = 0 → ∀ i, D1 i ↔ D i) (he : e = 0 ∨ Er e) : Gx t A A1 e e1 D := by
  rcases he with rfl | he
  · have a := a1 rfl
    refine ⟨h.toGoes1, fun id f hf => ?_, fun e0 => ⟨rfl, fun i hi => (h.all e0).2 i ((a i).2 hi)⟩, fun e9 => ?_, h.dead⟩
    · rcases h.new id f hf with h3 | ⟨i, h3, h4⟩
      · exact .inl h3
      · exact .inr ⟨i, h3, (a i).1 h4⟩
    · rcases h.bad e9 with h2 | ⟨h2, i, h3, h4⟩
      · exact .inl h2
      · exact .inr ⟨h2, i, (a i).1 h3, h4⟩
  · obtain ⟨rfl, rfl⟩ := h.dead he
    exact Gx.no he t A1 D
theorem uq_view (hS : Sound A) (t : Nat) : Uq (QV (view A t)) := by
  obtain ⟨h1, h2, h3⟩ := QG_uq hS.uniq
  have he := view_QG A t
  have none_of : ∀ i, QG A.ths i = none → QV (view A t) i = none := fun i hi => by
    cases hq : QV (view A t) i with
    | none => rfl
    | some q => rw [he i q hq] at hi; cases hi
  exact ⟨fun i j q hi hj => h1 i j q (he i q hi) (he j q hj), none_of 0 h2, none_of 1 h3⟩
theorem lev_fits (hS : Sound A) {id a : Int} (h : levV (view A t).V id = some a) : Fits id := by
  unfold levV at h
  split at h
  · rename_i h0
    unfold Fits
    rcases h0 with rfl | rfl <;> omega
  · cases hv : (view A t).V id with
    | none => rw [hv] at h; cases h
    | some f =>
      obtain ⟨h2, x, hx, _⟩ := ownV_iff.1 hv
      have h3 := (List.getElem?_eq_some_iff.1 hx).1
      have h4 := hS.len
      have h5 := hS.room1
      unfold Fits
      omega
theorem kids_lev (hw : Wel (view A t)) {n : Nat} {id : Int} (h : levV (view A t).V id = some ((n + 1 : Nat) : Int)) : ∃ r : Nat → Int, QV (view A t) id = some (r 0, r 1, r 2, r 3) ∧ ∀ i, i < 4 → levV (view A t).V (r i) = some (n : Int) := by
  unfold levV at h
  split at h
  · have := Option.some.inj h; omega
  · cases hv : (view A t).V id with
    | none => rw [hv] at h; cases h
    | some f =>
      rw [hv] at h
      simp only at h
      split at h
      · rename_i hk
        have h2 := Option.some.inj h
        have hr : refsV f = [f.1.p0, f.1.p1, f.1.p2, f.1.p3] := by unfold refsV; rw [if_pos hk]
        have hl : ∀ r ∈ refsV f, levV (view A t).V r = some (n : Int) := fun r hr => by rw [hw.lev id f hv hk r hr, h2]; congr 1; omega
        rw [hr] at hl
        refine ⟨fun i => match i with | 0 => f.1.p0 | 1 => f.1.p1 | 2 => f.1.p2 | _ => f.1.p3, QV_some hv hk, fun i hi => ?_⟩
        have : i = 0 ∨ i = 1 ∨ i = 2 ∨ i = 3 := by omega
        rcases this with rfl | rfl | rfl | rfl <;> exact hl _ (by simp)
      · cases h
theorem QV_key {v : Vw} {id : Int} {q0 q1 q2 q3 : Int} (h : QV v id = some (q0, q1, q2, q3)) : ∃ f, v.V id = some f ∧ f.1 = ⟨1, q0, q1, q2, q3⟩ := by
  unfold QV at h
  cases hv : v.V id with
  | none => rw [hv] at h; cases h
  | some f =>
    rw [hv] at h
    simp only at h
    split at h
    · rename_i hk
      have h2 := Option.some.inj h
      refine ⟨f, rfl, ?_⟩
      cases hf : f.1 with
      | mk a0 a1 a2 a3 a4 =>
        rw [hf] at hk h2
        simp only [Prod.mk.injEq] at h2 hk
        rw [hk, h2.1, h2.2.1, h2.2.2.1, h2.2.2.2]
    · cases h
def joinD (Q : Qs4) (n : Nat) (q0 q1 q2 q3 : Int) : Item → Prop := fun i => i = .sq (n + 1) (joinPic n (picQ Q n q0) (picQ Q n q1) (picQ Q n q2) (picQ Q n q3))
theorem goes_more {A' : Ar} {id : Int} {f : Ky × Int × Int} (hn : ownV A.ths t id = none) (h : view A' t = (view A t).more id f) (ho : ∀ u, u ≠ t → view A' u = view A u) (hcl : A.cnt t < A.lim t) : Goes1 t A A' := by
  refine ⟨by rw [h]; exact Sees.more hn, ?_, ho, fun _ => (by have e1 : A'.lim t = A.lim t := congrArg Vw.lim h; have e2 : A'.cnt t = A.cnt t + 1 := congrArg Vw.cnt h; omega), [id], ?_, fun k g hg => ?_, fun k hk => ?_, ?_⟩
  · have := congrArg Vw.lim h; exact this
  · have := congrArg Vw.fresh h; exact this
  · rw [h] at hg
    change (if k = id then some f else (view A t).V k) = some g at hg
    split at hg
    · rename_i e; exact .inl (by simp [e])
    · exact .inr hg
  · simp only [List.mem_singleton] at hk
    rw [hk]; exact hn
  · have := congrArg Vw.cnt h; exact this
theorem gx_more {A' : Ar} {id : Int} {f : Ky × Int × Int} {D : Item → Prop} {i : Item} (hn : ownV A.ths t id = none) (h : view A' t = (view A t).more id f) (ho : ∀ u, u ≠ t → view A' u = view A u) (hcl : A.cnt t < A.lim t) (hi : Is (view A' t) id i) (hD : ∀ k, D k ↔ k = i) : Gx t A A' 0 0 D := by
  refine ⟨goes_more hn h ho hcl, fun k g hg => ?_, fun _ => ⟨rfl, fun k hk => ⟨id, by rw [(hD k).1 hk]; exact hi⟩⟩, fun e => absurd rfl e.ne, fun e => absurd rfl e.ne⟩
  rw [h] at hg
  change (if k = id then some f else (view A t).V k) = some g at hg
  split at hg
  · rename_i e; exact .inr ⟨i, by rw [e]; exact hi, (hD i).2 rfl⟩
  · exact .inl hg
theorem beco_no {x : Th} (h : NxSt PR t q A) (ht : t < 64) (h5 : (A.beco t x).2.2 = 5) : A.beco t x = (A.made, 0, 5) ∧ NxSt PR t q A.made ∧ Goes1 t A A.made ∧ Stop t A.made 5 ∧ ∀ id f, ownV A.ths t id = some f → f.1 ≠ x.key := by
  have hv := fun u => view_made A u
  have hrm : A.made.room = A.room := (made_rest A).1
  have hcn : ∀ u, A.made.cnt u = A.cnt u := fun u => congrArg Vw.cnt (hv u)
  have hlm : ∀ u, A.made.lim u = A.lim u := fun u => congrArg Vw.lim (hv u)
  have hfr : ∀ u, A.made.fresh u = A.fresh u := fun u => congrArg Vw.fresh (hv u)
  unfold Ar.beco at h5 ⊢
  cases hs : spotF A.ths x.key with
  | some i =>
    rw [hs] at h5
    simp only at h5
    split at h5
    · cases h5
    · split at h5 <;> cases h5
  | none =>
    rw [hs] at h5
    simp only at h5 ⊢
    split at h5
    · cases h5
    · rename_i hc
      split at h5
      · rename_i hf
        rw [if_neg hc, if_pos hf]
        refine ⟨rfl, ⟨made_sound h.s, glob_made h.g h.s, by rw [hv t]; exact h.p, fun R rn hP => notes_made (h.n R rn hP) h.s h.g, h.u, h.r.same hrm fun u _ => hcn u⟩, ⟨by rw [hv t]; exact Sees.refl _, hlm t, fun u _ => hv u, fun e => (by rw [hcn, hlm]; exact e), [], by rw [hfr t]; simp, fun id f hf => .inr (by rw [hv t] at hf; exact hf), fun _ hi => (by cases hi), by rw [hcn t]; simp⟩, .inr ⟨rfl, by rw [hcn t, hlm t]; omega, fun c hr => ?_⟩, fun id f hf e => ?_⟩
        · rcases Int.lt_or_le (A.made.cnt t) c with h1 | h1
          · have hr' : RoomT t c A := hr.same hrm.symm fun u _ => (hcn u).symm
            exact absurd hf (hr'.not h.s ht (by rw [← hcn t]; exact h1))
          · exact h1
        · obtain ⟨_, z, g2, _, g4⟩ := ownV_iff.1 hf
          exact spot_none hs z (List.mem_of_getElem? g2) (by rw [← e, ← g4]; rfl)
      · cases h5
theorem join_sem (h : NxSt PR t q A) (ht : t < 64) {q0 q1 q2 q3 : Int} {n : Nat} (hn : n < 44) (l0 : levV (view A t).V q0 = some (n : Int)) (l1 : levV (view A t).V q1 = some (n : Int)) (l2 : levV (view A t).V q2 = some (n : Int)) (l3 : levV (view A t).V q3 = some (n : Int)) (f0 : Fits q0) (f1 : Fits q1) (f2 : Fits q2) (f3 : Fits q3) :
    NxSt PR t q (A.joinP t q0 q1 q2 q3).1 ∧ Gx t A (A.joinP t q0 q1 q2 q3).1 0 (A.joinP t q0 q1 q2 q3).2.2 (joinD (QV (view A t)) n q0 q1 q2 q3) ∧ (Er (A.joinP t q0 q1 q2 q3).2.2 ∨ ((A.joinP t q0 q1 q2 q3).2.2 = 0 ∧ QV (view (A.joinP t q0 q1 q2 q3).1 t) (A.joinP t q0 q1 q2 q3).2.1 = some (q0, q1, q2, q3) ∧ levV (view (A.joinP t q0 q1 q2 q3).1 t).V (A.joinP t q0 q1 q2 q3).2.1 = some ((n + 1 : Nat) : Int))) := by
  have hs := join_sound h.s ht f0 f1 f2 f3
  have hE : joinE A t q0 q1 q2 q3 = (0, (n : Int)) := by
    unfold joinE
    rw [levelF_V, levelF_V, levelF_V, levelF_V]
    change joinL (levV (view A t).V q0) (levV (view A t).V q1) (levV (view A t).V q2) (levV (view A t).V q3) = _
    rw [l0, l1, l2, l3, joinL4, if_pos ⟨by omega, rfl, rfl, rfl⟩]
  have e1 : A.joinP t q0 q1 q2 q3 = A.beco t (sqTh q0 q1 q2 q3 n) := by
    unfold Ar.joinP
    rw [hE]
    exact if_pos rfl
  have hgj := fun hf => glob_join (q0 := q0) (q1 := q1) (q2 := q2) (q3 := q3) h.g h.s ht hf
  rw [e1] at hs hgj ⊢
  have hlev : ∀ (B : Ar) (id : Int), (view B t).V id = some (sqTh q0 q1 q2 q3 n).face → 2 ≤ id → QV (view B t) id = some (q0, q1, q2, q3) ∧ levV (view B t).V id = some ((n + 1 : Nat) : Int) := fun B id hid h2 => by
    refine ⟨QV_some hid rfl, ?_⟩
    unfold levV
    rw [if_neg (by omega), hid]
    show (if (1 : Int) = 1 then some ((n : Int) + 1) else none) = _
    rw [if_pos rfl]
    rfl
  have hw := h.g.wel t ht
  have i0 := isSq_of_lev hw h.p _ _ l0
  have i1 := isSq_of_lev hw h.p _ _ l1
  have i2 := isSq_of_lev hw h.p _ _ l2
  have i3 := isSq_of_lev hw h.p _ _ l3
  have hmiss : ∀ (hno : ∀ id f, ownV A.ths t id = some f → f.1 ≠ (⟨1, q0, q1, q2, q3⟩ : Ky)), ¬ Has (view A t) (.sq (n + 1) (joinPic n (picQ (QV (view A t)) n q0) (picQ (QV (view A t)) n q1) (picQ (QV (view A t)) n q2) (picQ (QV (view A t)) n q3))) := fun hno => by
    rintro ⟨id, _, b2, b3⟩
    obtain ⟨r, c1, c2⟩ := kids_lev hw b2
    have hu := uq_view h.s t
    have hj := (join_picQ (n := n) c1).trans b3
    obtain ⟨d0, d1, d2, d3⟩ := join_inj (q := (r 0, r 1, r 2, r 3)) (q' := (q0, q1, q2, q3)) hj
    have e0 := sq_one hu n (isSq_of_lev hw h.p _ _ (c2 0 (by omega))) i0 d0
    have e1 := sq_one hu n (isSq_of_lev hw h.p _ _ (c2 1 (by omega))) i1 d1
    have e2 := sq_one hu n (isSq_of_lev hw h.p _ _ (c2 2 (by omega))) i2 d2
    have e3 := sq_one hu n (isSq_of_lev hw h.p _ _ (c2 3 (by omega))) i3 d3
    rw [e0, e1, e2, e3] at c1
    obtain ⟨f, f1, f2⟩ := QV_key c1
    exact hno id f f1 f2
  by_cases h5 : (A.beco t (sqTh q0 q1 q2 q3 n)).2.2 = 5
  · obtain ⟨a1, a2, a3, a4, a5⟩ := beco_no h ht h5
    rw [a1]
    refine ⟨a2, ⟨a3, fun id f hf => .inl (by rw [view_made A t] at hf; exact hf), fun e => (by cases e), fun _ => .inr ⟨a4, _, rfl, ?_⟩, fun e => absurd rfl e.ne⟩, .inl (.inr rfl)⟩
    rw [view_made A t]
    exact hmiss a5
  have hfull := h5
  have hg := hgj hfull
  rcases beco_view h.s ht (by show (1 : Int) ≠ 0; decide) rfl hfull (square_face h.g (by rw [levelF_V]; exact l0)) with ⟨id, a1, a2⟩ | ⟨hno, ⟨hlc, a2⟩ | ⟨hcl, id, a1, a2, a3, a4, a5⟩⟩
  · rw [a2]
    have hq := hlev A id a1 (hw.two id _ a1)
    refine ⟨h, ⟨Goes1.refl t A, fun _ _ h => .inl h, fun _ => ⟨rfl, fun i hi => ⟨id, ?_⟩⟩, fun e => absurd rfl e.ne, fun e => absurd rfl e.ne⟩, .inr ⟨rfl, hq⟩⟩
    rw [hi]
    exact ⟨by omega, hq.2, (join_picQ (n := n) hq.1).symm⟩
  · rw [a2]
    exact ⟨h, ⟨Goes1.refl t A, fun _ _ h => .inl h, fun e => (by cases e), fun _ => .inr ⟨.inl ⟨rfl, hlc⟩, _, rfl, hmiss hno⟩, fun e => absurd rfl e.ne⟩, .inl (.inl rfl)⟩
  · have hgo := goes_more a2 a4 a5 hcl
    have hq := hlev (A.beco t (sqTh q0 q1 q2 q3 n)).1 id (by rw [a4]; exact if_pos rfl) a1
    refine ⟨⟨hs, hg, ?_, fun R rn hP => ?_, h.u, h.r.same (beco_rest A t _).2.1 (beco_rest A t _).2.2.1⟩, ?_, .inr ⟨by rw [a3], ?_⟩⟩
    · rw [a4]
      exact pos_more h.p fun _ => by show (1 : Int) ≤ (n : Int) + 1; omega
    · refine notes_beco (h.n R rn hP) h.s h.g (fun _ => rfl) (fun e => absurd rfl e) (fun _ r hr => ?_) (by show (0 : Int) ≤ (n : Int) + 1; omega) (fun hk => by cases hk)
      have e : (sqTh q0 q1 q2 q3 n).lv - 1 = n := by show (n : Int) + 1 - 1 = n; omega
      rw [e]
      simp only [partsT, sqTh, List.mem_cons, List.not_mem_nil, or_false] at hr
      rcases hr with rfl | rfl | rfl | rfl
      · exact l0
      · exact l1
      · exact l2
      · exact l3
    · rw [a3]
      refine gx_more a2 a4 a5 hcl (i := .sq (n + 1) (picQ (QV (view (A.beco t (sqTh q0 q1 q2 q3 n)).1 t)) (n + 1) id)) ⟨by omega, hq.2, rfl⟩ fun k => ?_
      unfold joinD
      have x := hgo.sees.ext
      rw [← join_picQ (n := n) hq.1, picQ_ext x i0, picQ_ext x i1, picQ_ext x i2, picQ_ext x i3]
    · rw [a3]
      exact hq
theorem recall_sem (h : NxSt PR t q A) (hPR : PR R rn) {s v : Int} {n j : Nat} (ht : t < 64) (hr : recallF A.ths t s rn j = some v) (hl : levV (view A t).V s = some ((n + 2 : Nat) : Int)) (hj : j ≤ n) : Nx R (QV (view A t)) n s j v ∧ levV (view A t).V v = some ((n + 1 : Nat) : Int) := by
  unfold recallF at hr
  cases hs : spotF A.ths (nkey s rn j) with
  | none => rw [hs] at hr; cases hr
  | some i =>
    rw [hs] at hr
    obtain ⟨z, h1, h2, h3⟩ := spot_at hs
    simp only at hr
    rw [h3] at hr
    split at hr
    · rename_i hb
      have hv : z.va = v := Option.some.inj hr
      have hk2 : z.k = 2 := congrArg Ky.k h2
      have hzk : z.p0 = s ∧ z.p1 = rn ∧ z.p2 = (j : Int) := by
        unfold Th.key nkey at h2
        simp only [Ky.mk.injEq] at h2
        exact ⟨h2.2.1, h2.2.2.1, h2.2.2.2.1⟩
      have hnr := h.n R rn hPR z (List.mem_of_getElem? h1) hk2
      have hlg : glev A.ths z.p0 = some ((n + 2 : Nat) : Int) := by rw [hzk.1]; exact level_glev hl
      have hnx := hnr.nx hzk.2.1 n j hlg hzk.2.2 hj
      rw [hzk.1, hv] at hnx
      have hV : (view A t).V ((i : Int) + 2) = some z.face := ownV_iff.2 ⟨by omega, z, by rw [show (((i : Int) + 2 - 2).toNat) = i by omega]; exact h1, hb, rfl⟩
      have hcl := (h.g.wel t ht).clo _ _ hV v (by
        unfold refsV
        rw [if_neg (show ¬ z.face.1.k = 1 by show ¬ z.k = 1; omega)]
        show v ∈ [z.p0, z.va]
        rw [hv]
        simp)
      obtain ⟨a, ha⟩ := some_of hcl
      obtain ⟨k, rfl⟩ : ∃ k : Nat, a = k := ⟨a.toNat, by have := glev_nn (lv0_of h.s) (level_glev ha); omega⟩
      have hq := isSq_of_lev (h.g.wel t ht) h.p k v ha
      have hkn : k = n + 1 := sq_level (QG_uq h.s.uniq) (hq.ext (view_QG A t)) hnx.1
      rw [hkn] at ha hq
      exact ⟨hnx.less (view_QG A t) (isSq_of_lev (h.g.wel t ht) h.p _ _ hl) hq, ha⟩
    · cases hr
theorem note_sem (h : NxSt PR t q A) (hPR : PR R rn) (ht : t < 64) {s v : Int} {n j : Nat} (hl : levV (view A t).V s = some ((n + 2 : Nat) : Int)) (hv : levV (view A t).V v = some ((n + 1 : Nat) : Int)) (hj : j ≤ n) (hnx : Nx R (QV (view A t)) n s j v) (fs : Fits s) (fr : Fits rn) (fj : Fits j) (fv : Fits v) :
    NxSt PR t q (A.noteP t s rn j v).1 ∧ Gx t A (A.noteP t s rn j v).1 0 (A.noteP t s rn j v).2 (fun i => i = .nt rn (n + 2) (picQ (QV (view A t)) (n + 2) s) j) ∧ (Er (A.noteP t s rn j v).2 ∨ (A.noteP t s rn j v).2 = 0) := by
  have hs := note_sound h.s ht fs fr fj fv
  have hlv : (levelF A.ths t s).isSome = true ∧ (levelF A.ths t v).isSome = true := by
    rw [levelF_V, levelF_V]
    change (levV (view A t).V s).isSome = true ∧ (levV (view A t).V v).isSome = true
    rw [hl, hv]
    exact ⟨rfl, rfl⟩
  have hw := h.g.wel t ht
  have hsq := isSq_of_lev hw h.p _ _ hl
  have hnG : Nx R (QG A.ths) n s j v := hnx.ext hsq (view_QG A t)
  have htw : twiceF A.ths s rn j v = false := by
    unfold twiceF
    cases hsp : spotF A.ths (nkey s rn j) with
    | none => rfl
    | some i =>
      obtain ⟨z, h1, h2, h3⟩ := spot_at hsp
      simp only
      rw [h3]
      have hk2 : z.k = 2 := congrArg Ky.k h2
      have hzk : z.p0 = s ∧ z.p1 = rn ∧ z.p2 = (j : Int) := by
        unfold Th.key nkey at h2
        simp only [Ky.mk.injEq] at h2
        exact ⟨h2.2.1, h2.2.2.1, h2.2.2.2.1⟩
      have hz := (h.n R rn hPR z (List.mem_of_getElem? h1) hk2).nx hzk.2.1 n j (by rw [hzk.1]; exact level_glev hl) hzk.2.2 hj
      rw [hzk.1] at hz
      rw [nx_one (QG_uq h.s.uniq) hz hnG]
      simp
  have e1 : A.noteP t s rn j v = ((A.beco t (noteTh s rn j v)).1, (A.beco t (noteTh s rn j v)).2.2) := by
    unfold Ar.noteP
    rw [if_pos hlv, if_neg (by rw [htw]; decide)]
  have hgj := fun hf => glob_note (s := s) (r := rn) (j := (j : Int)) (v := v) h.g h.s ht hf
  rw [e1] at hs hgj ⊢
  simp only at hs hgj ⊢
  have hnr : ∀ R' rn', PR R' rn' → NoteR R' rn' A.made.ths (noteTh s rn j v) := fun R' rn' hP => by
    have hml : ∀ id a, levV (view A t).V id = some a → glev A.made.ths id = some a := fun id a ha => level_glev (u := t) (by rw [show ownV A.made.ths t = ownV A.ths t from funext (ownV_made A t)]; exact ha)
    refine ⟨by show (glev A.made.ths s).isSome = true; rw [hml _ _ hl]; rfl, by show (glev A.made.ths v).isSome = true; rw [hml _ _ hv]; rfl, fun er n' j' hl' hj' _ => ?_⟩
    change rn = rn' at er
    subst er
    obtain rfl := h.u R R' rn hPR hP
    change glev A.made.ths s = _ at hl'
    rw [hml _ _ hl] at hl'
    have e2 := Option.some.inj hl'
    have e3 : (j : Int) = (j' : Int) := hj'
    have en : n' = n := by omega
    have ej : j' = j := by omega
    subst en ej
    have := hnx.ext hsq (view_QG A.made t |> fun k => by rw [view_made] at k; exact k)
    exact this
  have hmiss : ∀ (hno : ∀ id f, ownV A.ths t id = some f → f.1 ≠ nkey s rn j), ¬ Has (view A t) (.nt rn (n + 2) (picQ (QV (view A t)) (n + 2) s) j) := fun hno => by
    rintro ⟨id, f, f1, f2, f3, f4, f5, f6, f7⟩
    have e0 := sq_one (uq_view h.s t) (n + 2) (isSq_of_lev hw h.p _ _ f6) hsq (picQ_cells f7)
    refine hno id f f1 ?_
    cases hf : f.1 with
    | mk c0 c1 c2 c3 c4 =>
      rw [hf] at f2 f3 f4 f5 e0
      simp only at f2 f3 f4 f5 e0
      rw [f2, f3, f4, f5, e0]
      rfl
  by_cases h5 : (A.beco t (noteTh s rn j v)).2.2 = 5
  · obtain ⟨a1, a2, a3, a4, a5⟩ := beco_no h ht h5
    rw [a1]
    refine ⟨a2, ⟨a3, fun id f hf => .inl (by rw [view_made A t] at hf; exact hf), fun e => (by cases e), fun _ => .inr ⟨a4, _, rfl, ?_⟩, fun e => absurd rfl e.ne⟩, .inl (.inr rfl)⟩
    rw [view_made A t]
    exact hmiss a5
  have hfull := h5
  have hg := hgj hfull
  rcases beco_view h.s ht (by show (2 : Int) ≠ 0; decide) rfl hfull (note_face h.s h.g htw) with ⟨id, a1, a2⟩ | ⟨hno, ⟨hlc, a2⟩ | ⟨hcl, id, a1, a2, a3, a4, a5⟩⟩
  · rw [a2]
    refine ⟨h, ⟨Goes1.refl t A, fun _ _ h => .inl h, fun _ => ⟨rfl, fun i hi => ⟨id, ?_⟩⟩, fun e => absurd rfl e.ne, fun e => absurd rfl e.ne⟩, .inr rfl⟩
    rw [hi]
    exact ⟨_, a1, rfl, rfl, rfl, rfl, hl, rfl⟩
  · rw [a2]
    exact ⟨h, ⟨Goes1.refl t A, fun _ _ h => .inl h, fun e => (by cases e), fun _ => .inr ⟨.inl ⟨rfl, hlc⟩, _, rfl, hmiss hno⟩, fun e => absurd rfl e.ne⟩, .inl (.inl rfl)⟩
  · have hgo := goes_more a2 a4 a5 hcl
    refine ⟨⟨hs, hg, ?_, fun R' rn' hP => notes_beco (h.n R' rn' hP) h.s h.g (fun e => by cases e) (fun _ => rfl) (fun e => by cases e) (Int.le_refl _) (fun _ => hnr R' rn' hP), h.u, h.r.same (beco_rest A t _).2.1 (beco_rest A t _).2.2.1⟩, ?_, .inr (by rw [a3])⟩
    · rw [a4]
      exact pos_more h.p fun e => by cases e
    · rw [a3]
      refine gx_more a2 a4 a5 hcl (i := .nt rn (n + 2) (picQ (QV (view A t)) (n + 2) s) j) ⟨(noteTh s rn j v).face, by rw [a4]; exact if_pos rfl, rfl, rfl, rfl, rfl, hgo.sees.lev hl, picQ_ext hgo.sees.ext hsq⟩ fun k => Iff.rfl
theorem joinD_sq {Q : Qs4} {n : Nat} {q0 q1 q2 q3 : Int} : ∀ i, joinD Q n q0 q1 q2 q3 i → ∃ n p, i = .sq n p := fun _ h => ⟨_, _, h⟩
theorem recall_has {s v : Int} {n j : Nat} (hr : recallF A.ths t s rn j = some v) (hl : levV (view A t).V s = some ((n + 2 : Nat) : Int)) : Has (view A t) (.nt rn (n + 2) (picQ (QV (view A t)) (n + 2) s) j) := by
  unfold recallF at hr
  cases hs : spotF A.ths (nkey s rn j) with
  | none => rw [hs] at hr; cases hr
  | some i =>
    rw [hs] at hr
    obtain ⟨z, h1, h2, h3⟩ := spot_at hs
    simp only at hr
    rw [h3] at hr
    split at hr
    · rename_i hb
      have hV : (view A t).V ((i : Int) + 2) = some z.face := ownV_iff.2 ⟨by omega, z, by rw [show (((i : Int) + 2 - 2).toNat) = i by omega]; exact h1, hb, rfl⟩
      have hk : z.face.1 = nkey s rn j := h2
      refine ⟨_, z.face, hV, ?_⟩
      rw [hk]
      exact ⟨rfl, rfl, rfl, rfl, hl, rfl⟩
    · cases hr
theorem has_recall (h : NxSt PR t q A) (ht : t < 64) {s : Int} {n j : Nat} (hl : levV (view A t).V s = some ((n + 2 : Nat) : Int)) (hh : Has (view A t) (.nt rn (n + 2) (picQ (QV (view A t)) (n + 2) s) j)) : ∃ v, recallF A.ths t s rn j = some v := by
  have hw := h.g.wel t ht
  obtain ⟨id, f, f1, f2, f3, f4, f5, f6, f7⟩ := hh
  have e0 := sq_one (uq_view h.s t) (n + 2) (isSq_of_lev hw h.p _ _ f6) (isSq_of_lev hw h.p _ _ hl) (picQ_cells f7)
  obtain ⟨h2, x, hx, hb, hf⟩ := ownV_iff.1 f1
  have hkey : x.key = nkey s rn j := by
    have e1 : f.1 = x.key := by rw [← hf]; rfl
    rw [← e1]
    cases hf' : f.1 with
    | mk c0 c1 c2 c3 c4 =>
      rw [hf'] at f2 f3 f4 f5 e0
      simp only at f2 f3 f4 f5 e0
      rw [f2, f3, f4, f5, e0]
      rfl
  cases hs : spotF A.ths (nkey s rn j) with
  | none => exact absurd hkey (spot_none hs x (List.mem_of_getElem? hx))
  | some i =>
    obtain ⟨z, h1, h2, h3⟩ := spot_at hs
    have hzx : i = (id - 2).toNat := h.s.uniq i _ z x h1 hx (by intro e; have : z.key.k = 0 := e; rw [h2] at this; cases this) (by rw [h2, hkey])
    rw [← hzx, h1] at hx
    cases hx
    unfold recallF
    rw [hs]
    simp only
    rw [h3, if_pos hb]
    exact ⟨_, rfl⟩
theorem Cl.more {A' : Ar} {S D : Item → Prop} {e e' : Int} (h : Cl R rn S (view A t)) (hst : NxSt PR t q A) (ht : t < 64) (g : Gx t A A' e e' D) (hD : ∀ i, D i → ∃ n p, i = .sq n p) : Cl R rn S (view A' t) := by
  have hw := hst.g.wel t ht
  refine ⟨fun i hi => (h.sub i hi).sees hw hst.p g.sees, fun n p j hj hn hS i hi => ?_⟩
  refine (h.clo n p j hj ?_ hS i hi).sees hw hst.p g.sees
  obtain ⟨id, f, f1, f2, f3, f4, f5, f6, f7⟩ := hn
  rcases g.new id f f1 with h1 | ⟨k, h1, h2⟩
  · have hc := hw.clo id f h1 f.1.p0 (by unfold refsV; rw [if_neg (by omega)]; simp)
    obtain ⟨a, ha⟩ := some_of hc
    have h6 := g.sees.lev ha
    rw [f6] at h6
    rw [← Option.some.inj h6] at ha
    exact ⟨id, f, h1, f2, f3, f4, f5, ha, (picQ_ext g.sees.ext (isSq_of_lev hw hst.p _ _ ha)).symm.trans f7⟩
  · obtain ⟨m, p', rfl⟩ := hD k h2
    have := is_one h1 (i' := .nt rn (n + 2) p j) ⟨f, f1, f2, f3, f4, f5, f6, f7⟩
    cases this
end Go.Proofs.YtofbcngcblleaabGreat.A
