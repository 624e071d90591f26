/- What Join, Note and Recall mean for a tenant's view. -/
import Derived.Test.YtgipjplifndniaaGreatDoorLpItem
import Derived.Test.YtgipjplifndniaaGreatDoorArReach
import Derived.Test.YtgipjplifndniaaGreatDoorHaPut
namespace Go.Proofs.YtgipjplifndniaaGreatDoor.A
open Go.RowKit Go.Proofs.YtgipjplifndniaaGreatDoor.L

def QG (l : List Th) : Qs4 := fun id => if 2 ≤ id then (match l[(id - 2).toNat]? with
  | some x => if x.k = 1 then some (x.p0, x.p1, x.p2, x.p3) else none
  | none => none) else none
theorem QG_iff {l : List Th} {id : Int} {q : Int × Int × Int × Int} : QG l id = some q ↔ 2 ≤ id ∧ ∃ x, l[(id - 2).toNat]? = some x ∧ x.k = 1 ∧ q = (x.p0, x.p1, x.p2, x.p3) := by
  unfold QG
  constructor
  · intro h
    split at h
    · rename_i h2
      cases hx : l[(id - 2).toNat]? with
      | none => rw [hx] at h; cases h
      | some x =>
        rw [hx] at h
        simp only at h
        split at h
        · rename_i hk; exact ⟨h2, x, rfl, hk, (Option.some.inj h).symm⟩
        · cases h
    · cases h
  · rintro ⟨h2, x, hx, hk, rfl⟩
    rw [if_pos h2, hx]
    exact if_pos hk
theorem QG_uq {l : List Th} (hu : Uniq l) : Uq (QG l) := by
  refine ⟨fun i j q hi hj => ?_, ?_, ?_⟩
  · obtain ⟨h1, x, hx, kx, ex⟩ := QG_iff.1 hi
    obtain ⟨h2, y, hy, ky, ey⟩ := QG_iff.1 hj
    have e : x.key = y.key := by
      rw [ex] at ey
      simp only [Prod.mk.injEq] at ey
      unfold Th.key
      rw [kx, ky, ey.1, ey.2.1, ey.2.2.1, ey.2.2.2]
    have := hu _ _ x y hx hy (by rw [kx]; decide) e
    omega
  · unfold QG; rw [if_neg (by decide)]
  · unfold QG; rw [if_neg (by decide)]
theorem sq_level {Q : Qs4} (hu : Uq Q) : ∀ {n k : Nat} {id : Int}, IsSq Q n id → IsSq Q k id → n = k
  | 0, 0, _, _, _ => rfl
  | 0, k + 1, id, h, ⟨q, hq, _⟩ => by
    rcases h with rfl | rfl
    · rw [hu.2.1] at hq; cases hq
    · rw [hu.2.2] at hq; cases hq
  | n + 1, 0, id, ⟨q, hq, _⟩, h => by
    rcases h with rfl | rfl
    · rw [hu.2.1] at hq; cases hq
    · rw [hu.2.2] at hq; cases hq
  | n + 1, k + 1, id, ⟨q, hq, h1, _⟩, ⟨p, hp, k1, _⟩ => by
    rw [hq] at hp
    cases hp
    rw [sq_level hu h1 k1]
def Inc (l l' : List Th) : Prop := ∀ (j : Nat) (x : Th), l[j]? = some x → x.k ≠ 0 → ∃ y, l'[j]? = some y ∧ y.face = x.face
theorem face_all {x y : Th} (h : y.face = x.face) : y.k = x.k ∧ y.p0 = x.p0 ∧ y.p1 = x.p1 ∧ y.p2 = x.p2 ∧ y.p3 = x.p3 ∧ y.lv = x.lv ∧ y.va = x.va := by
  simp only [Th.face, Th.key, Prod.mk.injEq, Ky.mk.injEq] at h
  obtain ⟨⟨a, b, c, d, e⟩, f, g⟩ := h
  exact ⟨a, b, c, d, e, f, g⟩
theorem Inc.ext {l l' : List Th} (h : Inc l l') : Ext (QG l) (QG l') := fun id q hq => by
  obtain ⟨h2, x, hx, hk, rfl⟩ := QG_iff.1 hq
  obtain ⟨y, hy, e⟩ := h _ x hx (by rw [hk]; decide)
  obtain ⟨e0, e1, e2, e3, e4, _⟩ := face_all e
  exact QG_iff.2 ⟨h2, y, hy, e0.trans hk, by rw [e1, e2, e3, e4]⟩
theorem Inc.glev {l l' : List Th} (h : Inc l l') {id a : Int} (hl : glev l id = some a) : glev l' id = some a := by
  rcases glev_iff.1 hl with e | ⟨h1, x, h2, h3, h4⟩
  · exact glev_iff.2 (.inl e)
  · obtain ⟨y, hy, e⟩ := h _ x h2 (by rw [h3]; decide)
    obtain ⟨e0, _, _, _, _, e5, _⟩ := face_all e
    exact glev_iff.2 (.inr ⟨h1, y, hy, e0.trans h3, e5.trans h4⟩)
def Lv0 (l : List Th) : Prop := ∀ x ∈ l, 0 ≤ x.lv
theorem glev_nn {l : List Th} (h : Lv0 l) {id a : Int} (hl : glev l id = some a) : 0 ≤ a := by
  rcases glev_iff.1 hl with ⟨_, e⟩ | ⟨_, x, h2, _, h4⟩
  · omega
  · rw [← h4]; exact h x (List.mem_of_getElem? h2)
theorem isSq_glev {l : List Th} (hg : GL l) (h0 : Lv0 l) : ∀ (n : Nat) (id : Int), glev l id = some (n : Int) → IsSq (QG l) n id
  | 0, id, h => by
    rcases glev_iff.1 h with ⟨e, _⟩ | ⟨_, x, h2, h3, h4⟩
    · exact e
    · have := glev_nn h0 (hg.sq x (List.mem_of_getElem? h2) h3 x.p0 (by simp [partsT]))
      omega
  | n + 1, id, h => by
    rcases glev_iff.1 h with ⟨_, e⟩ | ⟨h1, x, h2, h3, h4⟩
    · omega
    · have hl : ∀ r ∈ partsT x, glev l r = some (n : Int) := fun r hr => by rw [hg.sq x (List.mem_of_getElem? h2) h3 r hr, h4]; congr 1; omega
      exact ⟨_, QG_iff.2 ⟨h1, x, h2, h3, rfl⟩, isSq_glev hg h0 n _ (hl _ (by simp [partsT])), isSq_glev hg h0 n _ (hl _ (by simp [partsT])), isSq_glev hg h0 n _ (hl _ (by simp [partsT])), isSq_glev hg h0 n _ (hl _ (by simp [partsT]))⟩
structure NoteR (R : Bool → Nat → Bool) (rn : Int) (l : List Th) (x : Th) : Prop where
  sub : (glev l x.p0).isSome = true
  val : (glev l x.va).isSome = true
  nx : x.p1 = rn → ∀ n j : Nat, glev l x.p0 = some ((n + 2 : Nat) : Int) → x.p2 = (j : Int) → j ≤ n → Nx R (QG l) n x.p0 j x.va
def NotesG (R : Bool → Nat → Bool) (rn : Int) (l : List Th) : Prop := ∀ x ∈ l, x.k = 2 → NoteR R rn l x
theorem some_of {o : Option Int} (h : o.isSome = true) : ∃ a, o = some a := Option.isSome_iff_exists.1 h
theorem NoteR.inc {R : Bool → Nat → Bool} {rn : Int} {l l' : List Th} {x y : Th} (h : NoteR R rn l x) (e : y.face = x.face) (hi : Inc l l') (hg : GL l) (h0 : Lv0 l) : NoteR R rn l' y := by
  obtain ⟨_, e0, e1, e2, _, _, e3⟩ := face_all e
  obtain ⟨a, ha⟩ := some_of h.sub
  obtain ⟨c, hc⟩ := some_of h.val
  refine ⟨by rw [e0, hi.glev ha]; rfl, by rw [e3, hi.glev hc]; rfl, fun hr n j hl hj hjn => ?_⟩
  rw [e0, hi.glev ha] at hl
  have h3 : glev l x.p0 = some ((n + 2 : Nat) : Int) := ha.trans hl
  rw [e0, e3]
  exact (h.nx (by rw [← e1]; exact hr) n j h3 (by rw [← e2]; exact hj) hjn).ext (isSq_glev hg h0 _ _ h3) hi.ext
theorem NoteR.dec {R : Bool → Nat → Bool} {rn : Int} {l l' : List Th} {x : Th} (h : NoteR R rn l x) (hi : Inc l' l) (hu : Uniq l) (hg : GL l') (h0 : Lv0 l') (hs : (glev l' x.p0).isSome = true) (hv : (glev l' x.va).isSome = true) : NoteR R rn l' x := by
  refine ⟨hs, hv, fun hr n j hl hj hjn => ?_⟩
  have h1 := h.nx hr n j (hi.glev hl) hj hjn
  obtain ⟨a, ha⟩ := some_of hv
  obtain ⟨k, rfl⟩ : ∃ k : Nat, a = k := ⟨a.toNat, by have := glev_nn h0 ha; omega⟩
  have h2 := isSq_glev hg h0 k _ ha
  have h3 : k = n + 1 := sq_level (QG_uq hu) (h2.ext hi.ext) h1.1
  exact h1.less hi.ext (isSq_glev hg h0 _ _ hl) (by rw [← h3]; exact h2)
theorem inc_swept (l : List Th) : Inc (swL l) l := fun j y hy hk => by
  rw [swL_get] at hy
  obtain ⟨x, hx, rfl⟩ := Option.map_eq_some_iff.1 hy
  cases hg : gone x with
  | false => rw [clrT_keep hg]; exact ⟨x, hx, rfl⟩
  | true => rw [clrT_gone hg] at hk; exact absurd rfl hk
theorem lv0_of {A : Ar} (hS : Sound A) : Lv0 A.ths := fun x hx => (hS.lv x hx).1
theorem mem_get {l : List Th} {x : Th} (h : x ∈ l) : ∃ j : Nat, l[j]? = some x := List.getElem?_of_mem h
theorem view_QG (A : Ar) (t : Nat) : Ext (QV (view A t)) (QG A.ths) := fun id q hq => by
  unfold QV at hq
  cases hv : (view A t).V id with
  | none => rw [hv] at hq; cases hq
  | some f =>
    rw [hv] at hq
    simp only at hq
    split at hq
    · rename_i hk
      obtain ⟨h2, x, hx, _, e⟩ := ownV_iff.1 hv
      subst e
      exact QG_iff.2 ⟨h2, x, hx, hk, (Option.some.inj hq).symm⟩
    · cases hq
theorem notes_made {R : Bool → Nat → Bool} {rn : Int} {A : Ar} (h : NotesG R rn A.ths) (hS : Sound A) (hG : Glob A) : NotesG R rn A.made.ths := by
  unfold Ar.made
  split
  · intro x hx hk
    obtain ⟨j, hj⟩ := mem_get hx
    have hj' : (swL A.ths)[j]? = some x := hj
    rw [swL_get] at hj'
    obtain ⟨z, hz, e⟩ := Option.map_eq_some_iff.1 hj'
    have hng : gone z = false := by
      cases hg : gone z with
      | false => rfl
      | true => rw [clrT_gone hg] at e; rw [← e] at hk; cases hk
    rw [clrT_keep hng] at e
    subst e
    have hm0 : z.mask ≠ 0 := fun e0 => by
      have : gone z = true := by unfold gone; rw [e0, hk]; decide
      rw [this] at hng
      cases hng
    obtain ⟨u, hu, hb⟩ := mask_bit hm0 (hS.mask z (List.mem_of_getElem? hz))
    have hV : (view A u).V ((j : Int) + 2) = some z.face := ownV_iff.2 ⟨by omega, z, by rw [show (((j : Int) + 2 - 2).toNat) = j by omega]; exact hz, hb, rfl⟩
    have hcl : ∀ r ∈ [z.p0, z.va], (glev A.swept.ths r).isSome = true := fun r hr => by
      have h1 := (hG.wel u hu).clo _ _ hV r (by unfold refsV; rw [if_neg (show ¬ z.face.1.k = 1 by show ¬ z.k = 1; omega)]; exact hr)
      obtain ⟨a, ha⟩ := some_of h1
      have h2 : levV (ownV A.swept.ths u) r = some a := by
        rw [show ownV A.swept.ths u = ownV A.ths u from funext fun id => ownV_swept _ _ _]
        exact ha
      rw [level_glev h2]
      rfl
    exact (h z (List.mem_of_getElem? hz) hk).dec (inc_swept A.ths) hS.uniq (gl_swept hG hS) (lv0_of (swept_sound hS)) (hcl _ (by simp)) (hcl _ (by simp))
  · exact h
theorem inc_laid {A : Ar} (x : Th) : Inc A.ths (A.laid x).1.ths ∧ ∀ (j : Nat) (y : Th), (A.laid x).1.ths[j]? = some y → y = x ∨ A.ths[j]? = some y := by
  unfold Ar.laid
  cases hf : A.ths.findIdx? isNo with
  | none =>
    refine ⟨fun j y hy _ => ⟨y, ?_, rfl⟩, fun j y hy => ?_⟩
    · show (A.ths ++ [x])[j]? = some y
      rw [List.getElem?_append_left (List.getElem?_eq_some_iff.1 hy).1]; exact hy
    · change (A.ths ++ [x])[j]? = some y at hy
      rcases Nat.lt_or_ge j A.ths.length with h | h
      · rw [List.getElem?_append_left h] at hy; exact .inr hy
      · rw [List.getElem?_append_right h] at hy
        left
        have := List.mem_of_getElem? hy
        simpa using this
  | some i =>
    have hi : ∃ z, A.ths[i]? = some z ∧ z.k = 0 := by
      obtain ⟨h1, h2, _⟩ := List.findIdx?_eq_some_iff_getElem.1 hf
      exact ⟨A.ths[i], List.getElem?_eq_getElem h1, by unfold isNo at h2; simpa using h2⟩
    obtain ⟨z, hz, hzk⟩ := hi
    refine ⟨fun j y hy hk => ⟨y, ?_, rfl⟩, fun j y hy => ?_⟩
    · show (A.ths.set i x)[j]? = some y
      rw [List.getElem?_set]
      by_cases e : i = j
      · subst e; rw [hz] at hy; cases hy; exact absurd hzk hk
      · rw [if_neg e]; exact hy
    · change (A.ths.set i x)[j]? = some y at hy
      rw [List.getElem?_set] at hy
      by_cases e : i = j
      · subst e
        rw [if_pos rfl] at hy
        split at hy
        · exact .inl (Option.some.inj hy).symm
        · cases hy
      · rw [if_neg e] at hy; exact .inr hy
theorem notes_laid {R : Bool → Nat → Bool} {rn : Int} {A : Ar} {x : Th} (h : NotesG R rn A.ths) (hg : GL A.ths) (h0 : Lv0 A.ths) (hx : x.k = 2 → NoteR R rn A.ths x) : NotesG R rn (A.laid x).1.ths := by
  obtain ⟨i1, i2⟩ := inc_laid (A := A) x
  intro y hy hk
  obtain ⟨j, hj⟩ := mem_get hy
  rcases i2 j y hj with rfl | e
  · exact (hx hk).inc rfl i1 hg h0
  · exact (h y (List.mem_of_getElem? e) hk).inc rfl i1 hg h0
theorem notes_give {R : Bool → Nat → Bool} {rn : Int} {A : Ar} {t i : Nat} {x : Th} (h : NotesG R rn A.ths) (hg : GL A.ths) (h0 : Lv0 A.ths) (hx : A.ths[i]? = some x) : NotesG R rn (A.give t i x).ths := by
  have hget : ∀ j, (A.give t i x).ths[j]? = if i = j then some { x with mask := x.mask ||| bitN t } else A.ths[j]? := fun j => by
    show (A.ths.set i _)[j]? = _
    rw [List.getElem?_set]
    by_cases e : i = j
    · rw [if_pos e, if_pos e, if_pos (e ▸ (List.getElem?_eq_some_iff.1 hx).1)]
    · rw [if_neg e, if_neg e]
  have hi : Inc A.ths (A.give t i x).ths := fun j y hy _ => by
    rw [hget]
    by_cases e : i = j
    · subst e
      rw [hx] at hy
      cases hy
      exact ⟨_, if_pos rfl, rfl⟩
    · exact ⟨y, by rw [if_neg e]; exact hy, rfl⟩
  intro y hy hk
  obtain ⟨j, hj⟩ := mem_get hy
  rw [hget] at hj
  by_cases e : i = j
  · rw [if_pos e] at hj
    cases hj
    exact (h x (List.mem_of_getElem? hx) hk).inc rfl hi hg h0
  · rw [if_neg e] at hj
    exact (h y (List.mem_of_getElem? hj) hk).inc rfl hi hg h0
theorem gl_made {A : Ar} (hG : Glob A) (hS : Sound A) : GL A.made.ths := by
  unfold Ar.made
  split
  · exact gl_swept hG hS
  · exact hG.gl
theorem notes_beco {R : Bool → Nat → Bool} {rn : Int} {A : Ar} {t : Nat} {x : Th} (h : NotesG R rn A.ths) (hS : Sound A) (hG : Glob A) (hv : x.k = 1 → x.va = 0) (hl : x.k ≠ 1 → x.lv = 0) (hr1 : x.k = 1 → ∀ r ∈ partsT x, levV (ownV A.ths t) r = some (x.lv - 1)) (hx0 : 0 ≤ x.lv) (hx : x.k = 2 → NoteR R rn A.made.ths x) : NotesG R rn (A.beco t x).1.ths := by
  have hgl : GL (A.made.laid x).1.ths := gl_laid (t := t) (gl_made hG hS) hv hl fun e r hr' => by
    rw [show ownV A.made.ths t = ownV A.ths t from funext (ownV_made A t)]
    exact hr1 e r hr'
  have hm := notes_made h hS hG
  have hm0 := lv0_of (made_sound hS)
  unfold Ar.beco
  cases hs : spotF A.ths x.key with
  | some i =>
    obtain ⟨z, h1, _, h3⟩ := spot_at hs
    simp only
    split
    · exact h
    · split
      · exact h
      · rw [h3]
        exact notes_give h hG.gl (lv0_of hS) h1
  | none =>
    simp only
    split
    · exact h
    · split
      · exact hm
      · obtain ⟨i1, i2⟩ := inc_laid (A := A.made) x
        refine notes_give (notes_laid hm (gl_made hG hS) hm0 hx) hgl (fun y hy => ?_) (laid_at A.made x)
        obtain ⟨j, hj⟩ := mem_get hy
        rcases i2 j y hj with rfl | e
        · exact hx0
        · exact hm0 y (List.mem_of_getElem? e)
end Go.Proofs.YtgipjplifndniaaGreatDoor.A

namespace Go.Proofs.YtgipjplifndniaaGreatDoor.A
open Go.RowKit Go.Proofs.YtgipjplifndniaaGreatDoor.L

def Er (e : Int) : Prop := e = 9 ∨ e = 5
theorem Er.ne {e : Int} (h : Er e) : e ≠ 0 := by rcases h with rfl | rfl <;> decide
def RoomT (t : Nat) (c : Int) (A : Ar) : Prop := lsum tens (fun u => if u = t then c else A.cnt u) ≤ A.room
theorem RoomT.same {t : Nat} {c : Int} {A A' : Ar} (h : RoomT t c A) (hr : A'.room = A.room) (hc : ∀ u, u ≠ t → A'.cnt u = A.cnt u) : RoomT t c A' := by
  unfold RoomT at *
  rw [hr]
  have : (fun u => if u = t then c else A'.cnt u) = fun u => if u = t then c else A.cnt u := funext fun u => by
    by_cases e : u = t
    · rw [if_pos e, if_pos e]
    · rw [if_neg e, if_neg e, hc u e]
  rw [this]
  exact h
theorem RoomT.not {t : Nat} {c : Int} {A : Ar} (h : RoomT t c A) (hS : Sound A) (ht : t < 64) (hlt : A.cnt t < c) : ¬ A.made.room ≤ (liveN A.made.ths : Int) :=
  roomy_not (q := fun u => if u = t then c else A.cnt u) hS ⟨fun u _ => by
    by_cases e : u = t
    · simp only [e, if_true]; omega
    · simp only [e, if_false]; exact Int.le_refl _, h⟩ ht (by simp only [if_true]; exact hlt)
def Stop (t : Nat) (A : Ar) (e : Int) : Prop := (e = 9 ∧ A.lim t ≤ A.cnt t) ∨ (e = 5 ∧ A.cnt t < A.lim t ∧ ∀ c, RoomT t c A → c ≤ A.cnt t)
structure NxSt (PR : (Bool → Nat → Bool) → Int → Prop) (t : Nat) (q : Nat → Int) (A : Ar) : Prop where
  s : Sound A
  g : Glob A
  p : PosL (view A t)
  n : ∀ R rn, PR R rn → NotesG R rn A.ths
  u : ∀ R R' rn, PR R rn → PR R' rn → R = R'
  r : RoomT t (q t) A
structure Goes1 (t : Nat) (A A' : Ar) : Prop where
  sees : Sees (view A t) (view A' t)
  lim : A'.lim t = A.lim t
  oth : ∀ u, u ≠ t → view A' u = view A u
  cap : A.cnt t ≤ A.lim t → A'.cnt t ≤ A'.lim t
  fresh : ∃ l, A'.fresh t = A.fresh t ++ l ∧ (∀ id f, (view A' t).V id = some f → id ∈ l ∨ (view A t).V id = some f) ∧ (∀ id ∈ l, (view A t).V id = none) ∧ A'.cnt t = A.cnt t + (l.length : Int)
theorem Goes1.refl (t : Nat) (A : Ar) : Goes1 t A A := ⟨Sees.refl _, rfl, fun _ _ => rfl, fun h => h, [], by simp, fun _ _ h => .inr h, fun _ h => (by cases h), by simp⟩
theorem Goes1.trans {t : Nat} {A A1 A2 : Ar} (h : Goes1 t A A1) (k : Goes1 t A1 A2) : Goes1 t A A2 := by
  obtain ⟨l, hl, ha, hb, hc⟩ := h.fresh
  obtain ⟨l2, hl2, ka, kb, kc⟩ := k.fresh
  refine ⟨h.sees.trans k.sees, k.lim.trans h.lim, fun u hu => (k.oth u hu).trans (h.oth u hu), fun e => k.cap (h.cap e), l ++ l2, by rw [hl2, hl, List.append_assoc], fun id f hf => ?_, fun id hi => ?_, by rw [kc, hc, List.length_append]; omega⟩
  · rcases ka id f hf with e | e
    · exact .inl (List.mem_append_right _ e)
    · rcases ha id f e with e | e
      · exact .inl (List.mem_append_left _ e)
      · exact .inr e
  · rcases List.mem_append.1 hi with e | e
    · exact hb id e
    · cases hv : (view A t).V id with
      | none => rfl
      | some f => rw [← kb id e, h.sees id f hv]
structure Gx (t : Nat) (A A' : Ar) (e e' : Int) (D : Item → Prop) : Prop extends Goes1 t A A' where
  new : ∀ id f, (view A' t).V id = some f → (view A t).V id = some f ∨ ∃ i, Is (view A' t) id i ∧ D i
  all : e' = 0 → e = 0 ∧ ∀ i, D i → Has (view A' t) i
  bad : Er e' → Er e ∨ (Stop t A' e' ∧ ∃ i, D i ∧ ¬ Has (view A' t) i)
  dead : Er e → A' = A ∧ e' = e
variable {R : Bool → Nat → Bool} {rn : Int} {PR : (Bool → Nat → Bool) → Int → Prop} {t : Nat} {q : Nat → Int} {A : Ar}
theorem Gx.no {e : Int} (he : Er e) (t : Nat) (A : Ar) (D : Item → Prop) : Gx t A A e e D := ⟨Goes1.refl t A, fun _ _ h => .inl h, fun h => absurd h he.ne, fun _ => .inl he, fun _ => ⟨rfl, rfl⟩⟩
theorem Gx.nil (t : Nat) (A : Ar) {e : Int} : Gx t A A e e (fun _ => False) := ⟨Goes1.refl t A, fun _ _ h => .inl h, fun h => ⟨h, fun _ h => h.elim⟩, fun h => .inl h, fun _ => ⟨rfl, rfl⟩⟩
theorem Gx.seq {A1 A2 : Ar} {e e1 e2 : Int} {D D1 D2 : Item → Prop} (h1 : NxSt PR t q A1) (ht : t < 64) (he1 : e1 = 0 ∨ Er e1) (h : Gx t A A1 e e1 D1) (k : Gx t A1 A2 e1 e2 D2) (a1 : ∀ i, D1 i → D i) (a2 : e1 = 0 → e = 0 → ∀ i, D2 i → D i) (a3 : e2 = 0 → e1 = 0 → e = 0 → ∀ i, D i → D1 i ∨ D2 i) : Gx t A A2 e e2 D := by
  have hw := h1.g.wel t ht
  refine ⟨h.toGoes1.trans k.toGoes1, fun id f hf => ?_, fun e0 => ?_, fun e9 => ?_, fun e9 => ?_⟩
  · rcases he1 with rfl | he1
    · rcases k.new id f hf with h2 | ⟨i, h2, h3⟩
      · rcases h.new id f h2 with h3 | ⟨i, h3, h4⟩
        · exact .inl h3
        · exact .inr ⟨i, h3.sees hw h1.p k.sees, a1 i h4⟩
      · exact .inr ⟨i, h2, a2 rfl (h.all rfl).1 i h3⟩
    · obtain ⟨rfl, _⟩ := k.dead he1
      rcases h.new id f hf with h3 | ⟨i, h3, h4⟩
      · exact .inl h3
      · exact .inr ⟨i, h3, a1 i h4⟩
  · obtain ⟨k1, k2⟩ := k.all e0
    obtain ⟨h3, h4⟩ := h.all k1
    refine ⟨h3, fun i hi => ?_⟩
    rcases a3 e0 k1 h3 i hi with h5 | h5
    · exact (h4 i h5).sees hw h1.p k.sees
    · exact k2 i h5
  · rcases he1 with rfl | he1
    · rcases k.bad e9 with h2 | ⟨h2, i, h3, h4⟩
      · exact absurd rfl h2.ne
      · exact .inr ⟨h2, i, a2 rfl (h.all rfl).1 i h3, h4⟩
    · obtain ⟨rfl, rfl⟩ := k.dead he1
      rcases h.bad he1 with h2 | ⟨h2, i, h3, h4⟩
      · exact .inl h2
      · exact .inr ⟨h2, i, a1 i h3, h4⟩
  · obtain ⟨rfl, h2⟩ := h.dead e9
    subst h2
    exact k.dead e9
theorem Gx.eqv {A1 : Ar} {e e1 : Int} {D D1 : Item → Prop} (h : Gx t A A1 e e1 D1) (a1 : e = 0 → ∀ i, D1 i ↔ D i) (he : e = 0 ∨ Er e) : Gx t A A1 e e1 D := by
  rcases he with rfl | he
  · have a := a1 rfl
    refine ⟨h.toGoes1, fun id f hf => ?_, fun e0 => ⟨rfl, fun i hi => (h.all e0).2 i ((a i).2 hi)⟩, fun e9 => ?_, h.dead⟩
    · rcases h.new id f hf with h3 | ⟨i, h3, h4⟩
      · exact .inl h3
      · exact .inr ⟨i, h3, (a i).1 h4⟩
    · rcases h.bad e9 with h2 | ⟨h2, i, h3, h4⟩
      · exact .inl h2
      · exact .inr ⟨h2, i, (a i).1 h3, h4⟩
  · obtain ⟨rfl, rfl⟩ := h.dead he
    exact Gx.no he t A1 D
theorem uq_view (hS : Sound A) (t : Nat) : Uq (QV (view A t)) := by
  obtain ⟨h1, h2, h3⟩ := QG_uq hS.uniq
  have he := view_QG A t
  have none_of : ∀ i, QG A.ths i = none → QV (view A t) i = none := fun i hi => by
    cases hq : QV (view A t) i with
    | none => rfl
    | some q => rw [he i q hq] at hi; cases hi
  exact ⟨fun i j q hi hj => h1 i j q (he i q hi) (he j q hj), none_of 0 h2, none_of 1 h3⟩
theorem lev_fits (hS : Sound A) {id a : Int} (h : levV (view A t).V id = some a) : Fits id := by
  unfold levV at h
  split at h
  · rename_i h0
    unfold Fits
    rcases h0 with rfl | rfl <;> omega
  · cases hv : (view A t).V id with
    | none => rw [hv] at h; cases h
    | some f =>
      obtain ⟨h2, x, hx, _⟩ := ownV_iff.1 hv
      have h3 := (List.getElem?_eq_some_iff.1 hx).1
      have h4 := hS.len
      have h5 := hS.room1
      unfold Fits
      omega
theorem kids_lev (hw : Wel (view A t)) {n : Nat} {id : Int} (h : levV (view A t).V id = some ((n + 1 : Nat) : Int)) : ∃ r : Nat → Int, QV (view A t) id = some (r 0, r 1, r 2, r 3) ∧ ∀ i, i < 4 → levV (view A t).V (r i) = some (n : Int) := by
  unfold levV at h
  split at h
  · have := Option.some.inj h; omega
  · cases hv : (view A t).V id with
    | none => rw [hv] at h; cases h
    | some f =>
      rw [hv] at h
      simp only at h
      split at h
      · rename_i hk
        have h2 := Option.some.inj h
        have hr : refsV f = [f.1.p0, f.1.p1, f.1.p2, f.1.p3] := by unfold refsV; rw [if_pos hk]
        have hl : ∀ r ∈ refsV f, levV (view A t).V r = some (n : Int) := fun r hr => by rw [hw.lev id f hv hk r hr, h2]; congr 1; omega
        rw [hr] at hl
        refine ⟨fun i => match i with | 0 => f.1.p0 | 1 => f.1.p1 | 2 => f.1.p2 | _ => f.1.p3, QV_some hv hk, fun i hi => ?_⟩
        have : i = 0 ∨ i = 1 ∨ i = 2 ∨ i = 3 := by omega
        rcases this with rfl | rfl | rfl | rfl <;> exact hl _ (by simp)
      · cases h
theorem QV_key {v : Vw} {id : Int} {q0 q1 q2 q3 : Int} (h : QV v id = some (q0, q1, q2, q3)) : ∃ f, v.V id = some f ∧ f.1 = ⟨1, q0, q1, q2, q3⟩ := by
  unfold QV at h
  cases hv : v.V id with
  | none => rw [hv] at h; cases h
  | some f =>
    rw [hv] at h
    simp only at h
    split at h
    · rename_i hk
      have h2 := Option.some.inj h
      refine ⟨f, rfl, ?_⟩
      cases hf : f.1 with
      | mk a0 a1 a2 a3 a4 =>
        rw [hf] at hk h2
        simp only [Prod.mk.injEq] at h2 hk
        rw [hk, h2.1, h2.2.1, h2.2.2.1, h2.2.2.2]
    · cases h
def joinD (Q : Qs4) (n : Nat) (q0 q1 q2 q3 : Int) : Item → Prop := fun i => i = .sq (n + 1) (joinPic n (picQ Q n q0) (picQ Q n q1) (picQ Q n q2) (picQ Q n q3))
theorem goes_more {A' : Ar} {id : Int} {f : Ky × Int × Int} (hn : ownV A.ths t id = none) (h : view A' t = (view A t).more id f) (ho : ∀ u, u ≠ t → view A' u = view A u) (hcl : A.cnt t < A.lim t) : Goes1 t A A' := by
  refine ⟨by rw [h]; exact Sees.more hn, ?_, ho, fun _ => (by have e1 : A'.lim t = A.lim t := congrArg Vw.lim h; have e2 : A'.cnt t = A.cnt t + 1 := congrArg Vw.cnt h; omega), [id], ?_, fun k g hg => ?_, fun k hk => ?_, ?_⟩
  · have := congrArg Vw.lim h; exact this
  · have := congrArg Vw.fresh h; exact this
  · rw [h] at hg
    change (if k = id then some f else (view A t).V k) = some g at hg
    split at hg
    · rename_i e; exact .inl (by simp [e])
    · exact .inr hg
  · simp only [List.mem_singleton] at hk
    rw [hk]; exact hn
  · have := congrArg Vw.cnt h; exact this
theorem gx_more {A' : Ar} {id : Int} {f : Ky × Int × Int} {D : Item → Prop} {i : Item} (hn : ownV A.ths t id = none) (h : view A' t = (view A t).more id f) (ho : ∀ u, u ≠ t → view A' u = view A u) (hcl : A.cnt t < A.lim t) (hi : Is (view A' t) id i) (hD : ∀ k, D k ↔ k = i) : Gx t A A' 0 0 D := by
  refine ⟨goes_more hn h ho hcl, fun k g hg => ?_, fun _ => ⟨rfl, fun k hk => ⟨id, by rw [(hD k).1 hk]; exact hi⟩⟩, fun e => absurd rfl e.ne, fun e => absurd rfl e.ne⟩
  rw [h] at hg
  change (if k = id then some f else (view A t).V k) = some g at hg
  split at hg
  · rename_i e; exact .inr ⟨i, by rw [e]; exact hi, (hD i).2 rfl⟩
  · exact .inl hg
theorem beco_no {x : Th} (h : NxSt PR t q A) (ht : t < 64) (h5 : (A.beco t x).2.2 = 5) : A.beco t x = (A.made, 0, 5) ∧ NxSt PR t q A.made ∧ Goes1 t A A.made ∧ Stop t A.made 5 ∧ ∀ id f, ownV A.ths t id = some f → f.1 ≠ x.key := by
  have hv := fun u => view_made A u
  have hrm : A.made.room = A.room := (made_rest A).1
  have hcn : ∀ u, A.made.cnt u = A.cnt u := fun u => congrArg Vw.cnt (hv u)
  have hlm : ∀ u, A.made.lim u = A.lim u := fun u => congrArg Vw.lim (hv u)
  have hfr : ∀ u, A.made.fresh u = A.fresh u := fun u => congrArg Vw.fresh (hv u)
  unfold Ar.beco at h5 ⊢
  cases hs : spotF A.ths x.key with
  | some i =>
    rw [hs] at h5
    simp only at h5
    split at h5
    · cases h5
    · split at h5 <;> cases h5
  | none =>
    rw [hs] at h5
    simp only at h5 ⊢
    split at h5
    · cases h5
    · rename_i hc
      split at h5
      · rename_i hf
        rw [if_neg hc, if_pos hf]
        refine ⟨rfl, ⟨made_sound h.s, glob_made h.g h.s, by rw [hv t]; exact h.p, fun R rn hP => notes_made (h.n R rn hP) h.s h.g, h.u, h.r.same hrm fun u _ => hcn u⟩, ⟨by rw [hv t]; exact Sees.refl _, hlm t, fun u _ => hv u, fun e => (by rw [hcn, hlm]; exact e), [], by rw [hfr t]; simp, fun id f hf => .inr (by rw [hv t] at hf; exact hf), fun _ hi => (by cases hi), by rw [hcn t]; simp⟩, .inr ⟨rfl, by rw [hcn t, hlm t]; omega, fun c hr => ?_⟩, fun id f hf e => ?_⟩
        · rcases Int.lt_or_le (A.made.cnt t) c with h1 | h1
          · have hr' : RoomT t c A := hr.same hrm.symm fun u _ => (hcn u).symm
            exact absurd hf (hr'.not h.s ht (by rw [← hcn t]; exact h1))
          · exact h1
        · obtain ⟨_, z, g2, _, g4⟩ := ownV_iff.1 hf
          exact spot_none hs z (List.mem_of_getElem? g2) (by rw [← e, ← g4]; rfl)
      · cases h5
theorem join_sem (h : NxSt PR t q A) (ht : t < 64) {q0 q1 q2 q3 : Int} {n : Nat} (hn : n < 44) (l0 : levV (view A t).V q0 = some (n : Int)) (l1 : levV (view A t).V q1 = some (n : Int)) (l2 : levV (view A t).V q2 = some (n : Int)) (l3 : levV (view A t).V q3 = some (n : Int)) (f0 : Fits q0) (f1 : Fits q1) (f2 : Fits q2) (f3 : Fits q3) :
    NxSt PR t q (A.joinP t q0 q1 q2 q3).1 ∧ Gx t A (A.joinP t q0 q1 q2 q3).1 0 (A.joinP t q0 q1 q2 q3).2.2 (joinD (QV (view A t)) n q0 q1 q2 q3) ∧ (Er (A.joinP t q0 q1 q2 q3).2.2 ∨ ((A.joinP t q0 q1 q2 q3).2.2 = 0 ∧ QV (view (A.joinP t q0 q1 q2 q3).1 t) (A.joinP t q0 q1 q2 q3).2.1 = some (q0, q1, q2, q3) ∧ levV (view (A.joinP t q0 q1 q2 q3).1 t).V (A.joinP t q0 q1 q2 q3).2.1 = some ((n + 1 : Nat) : Int))) := by
  have hs := join_sound h.s ht f0 f1 f2 f3
  have hE : joinE A t q0 q1 q2 q3 = (0, (n : Int)) := by
    unfold joinE
    rw [levelF_V, levelF_V, levelF_V, levelF_V]
    change joinL (levV (view A t).V q0) (levV (view A t).V q1) (levV (view A t).V q2) (levV (view A t).V q3) = _
    rw [l0, l1, l2, l3, joinL4, if_pos ⟨by omega, rfl, rfl, rfl⟩]
  have e1 : A.joinP t q0 q1 q2 q3 = A.beco t (sqTh q0 q1 q2 q3 n) := by
    unfold Ar.joinP
    rw [hE]
    exact if_pos rfl
  have hgj := fun hf => glob_join (q0 := q0) (q1 := q1) (q2 := q2) (q3 := q3) h.g h.s ht hf
  rw [e1] at hs hgj ⊢
  have hlev : ∀ (B : Ar) (id : Int), (view B t).V id = some (sqTh q0 q1 q2 q3 n).face → 2 ≤ id → QV (view B t) id = some (q0, q1, q2, q3) ∧ levV (view B t).V id = some ((n + 1 : Nat) : Int) := fun B id hid h2 => by
    refine ⟨QV_some hid rfl, ?_⟩
    unfold levV
    rw [if_neg (by omega), hid]
    show (if (1 : Int) = 1 then some ((n : Int) + 1) else none) = _
    rw [if_pos rfl]
    rfl
  have hw := h.g.wel t ht
  have i0 := isSq_of_lev hw h.p _ _ l0
  have i1 := isSq_of_lev hw h.p _ _ l1
  have i2 := isSq_of_lev hw h.p _ _ l2
  have i3 := isSq_of_lev hw h.p _ _ l3
  have hmiss : ∀ (hno : ∀ id f, ownV A.ths t id = some f → f.1 ≠ (⟨1, q0, q1, q2, q3⟩ : Ky)), ¬ Has (view A t) (.sq (n + 1) (joinPic n (picQ (QV (view A t)) n q0) (picQ (QV (view A t)) n q1) (picQ (QV (view A t)) n q2) (picQ (QV (view A t)) n q3))) := fun hno => by
    rintro ⟨id, _, b2, b3⟩
    obtain ⟨r, c1, c2⟩ := kids_lev hw b2
    have hu := uq_view h.s t
    have hj := (join_picQ (n := n) c1).trans b3
    obtain ⟨d0, d1, d2, d3⟩ := join_inj (q := (r 0, r 1, r 2, r 3)) (q' := (q0, q1, q2, q3)) hj
    have e0 := sq_one hu n (isSq_of_lev hw h.p _ _ (c2 0 (by omega))) i0 d0
    have e1 := sq_one hu n (isSq_of_lev hw h.p _ _ (c2 1 (by omega))) i1 d1
    have e2 := sq_one hu n (isSq_of_lev hw h.p _ _ (c2 2 (by omega))) i2 d2
    have e3 := sq_one hu n (isSq_of_lev hw h.p _ _ (c2 3 (by omega))) i3 d3
    rw [e0, e1, e2, e3] at c1
    obtain ⟨f, f1, f2⟩ := QV_key c1
    exact hno id f f1 f2
  by_cases h5 : (A.beco t (sqTh q0 q1 q2 q3 n)).2.2 = 5
  · obtain ⟨a1, a2, a3, a4, a5⟩ := beco_no h ht h5
    rw [a1]
    refine ⟨a2, ⟨a3, fun id f hf => .inl (by rw [view_made A t] at hf; exact hf), fun e => (by cases e), fun _ => .inr ⟨a4, _, rfl, ?_⟩, fun e => absurd rfl e.ne⟩, .inl (.inr rfl)⟩
    rw [view_made A t]
    exact hmiss a5
  have hfull := h5
  have hg := hgj hfull
  rcases beco_view h.s ht (by show (1 : Int) ≠ 0; decide) rfl hfull (square_face h.g (by rw [levelF_V]; exact l0)) with ⟨id, a1, a2⟩ | ⟨hno, ⟨hlc, a2⟩ | ⟨hcl, id, a1, a2, a3, a4, a5⟩⟩
  · rw [a2]
    have hq := hlev A id a1 (hw.two id _ a1)
    refine ⟨h, ⟨Goes1.refl t A, fun _ _ h => .inl h, fun _ => ⟨rfl, fun i hi => ⟨id, ?_⟩⟩, fun e => absurd rfl e.ne, fun e => absurd rfl e.ne⟩, .inr ⟨rfl, hq⟩⟩
    rw [hi]
    exact ⟨by omega, hq.2, (join_picQ (n := n) hq.1).symm⟩
  · rw [a2]
    exact ⟨h, ⟨Goes1.refl t A, fun _ _ h => .inl h, fun e => (by cases e), fun _ => .inr ⟨.inl ⟨rfl, hlc⟩, _, rfl, hmiss hno⟩, fun e => absurd rfl e.ne⟩, .inl (.inl rfl)⟩
  · have hgo := goes_more a2 a4 a5 hcl
    have hq := hlev (A.beco t (sqTh q0 q1 q2 q3 n)).1 id (by rw [a4]; exact if_pos rfl) a1
    refine ⟨⟨hs, hg, ?_, fun R rn hP => ?_, h.u, h.r.same (beco_rest A t _).2.1 (beco_rest A t _).2.2.1⟩, ?_, .inr ⟨by rw [a3], ?_⟩⟩
    · rw [a4]
      exact pos_more h.p fun _ => by show (1 : Int) ≤ (n : Int) + 1; omega
    · refine notes_beco (h.n R rn hP) h.s h.g (fun _ => rfl) (fun e => absurd rfl e) (fun _ r hr => ?_) (by show (0 : Int) ≤ (n : Int) + 1; omega) (fun hk => by cases hk)
      have e : (sqTh q0 q1 q2 q3 n).lv - 1 = n := by show (n : Int) + 1 - 1 = n; omega
      rw [e]
      simp only [partsT, sqTh, List.mem_cons, List.not_mem_nil, or_false] at hr
      rcases hr with rfl | rfl | rfl | rfl
      · exact l0
      · exact l1
      · exact l2
      · exact l3
    · rw [a3]
      refine gx_more a2 a4 a5 hcl (i := .sq (n + 1) (picQ (QV (view (A.beco t (sqTh q0 q1 q2 q3 n)).1 t)) (n + 1) id)) ⟨by omega, hq.2, rfl⟩ fun k => ?_
      unfold joinD
      have x := hgo.sees.ext
      rw [← join_picQ (n := n) hq.1, picQ_ext x i0, picQ_ext x i1, picQ_ext x i2, picQ_ext x i3]
    · rw [a3]
      exact hq
end Go.Proofs.YtgipjplifndniaaGreatDoor.A
