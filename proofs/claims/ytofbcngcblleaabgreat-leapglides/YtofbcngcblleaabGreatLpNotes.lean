/- Every note in an arena is right, whoever has it. -/
import Derived.Test.YtofbcngcblleaabGreatLpOne
import Derived.Test.YtofbcngcblleaabGreatLpOps
import Derived.Test.YtofbcngcblleaabGreatArReach
namespace Go.Proofs.YtofbcngcblleaabGreat.A
open Go.RowKit Go.Proofs.YtofbcngcblleaabGreat.L
def QG (l : List Th) : Qs4 := fun id => if 2 ≤ id then (match l[(id - 2).toNat]? with
  | some x => if x.k = 1 then some (x.p0, x.p1, x.p2, x.p3) else none
  | none => none) else none
theorem QG_iff {l : List Th} {id : Int} {q : Int × Int × Int × Int} : QG l id = some q ↔ 2 ≤ id ∧ ∃ x, l[(id - 2).toNat]? = some x ∧ x.k = 1 ∧ q = (x.p0, x.p1, x.p2, x.p3) := by
  unfold QG
  constructor
  · intro h
    split at h
    · rename_i h2
      cases hx : l[(id - 2).toNat]? with
      | none => rw [hx] at h; cases h
      | some x =>
        rw [hx] at h
        simp only at h
        split at h
        · rename_i hk; exact ⟨h2, x, rfl, hk, (Option.some.inj h).symm⟩
        · cases h
    · cases h
  · rintro ⟨h2, x, hx, hk, rfl⟩
    rw [if_pos h2, hx]
    exact if_pos hk
theorem QG_uq {l : List Th} (hu : Uniq l) : Uq (QG l) := by
  refine ⟨fun i j q hi hj => ?_, ?_, ?_⟩
  · obtain ⟨h1, x, hx, kx, ex⟩ := QG_iff.1 hi
    obtain ⟨h2, y, hy, ky, ey⟩ := QG_iff.1 hj
    have e : x.key = y.key := by
      rw [ex] at ey
      simp only [Prod.mk.injEq] at ey
      unfold Th.key
      rw [kx, ky, ey.1, ey.2.1, ey.2.2.1, ey.2.2.2]
    have := hu _ _ x y hx hy (by rw [kx]; decide) e
    omega
  · unfold QG; rw [if_neg (by decide)]
  · unfold QG; rw [if_neg (by decide)]
theorem sq_level {Q : Qs4} (hu : Uq Q) : ∀ {n k : Nat} {id : Int}, IsSq Q n id → IsSq Q k id → n = k
  | 0, 0, _, _, _ => rfl
  | 0, k + 1, id, h, ⟨q, hq, _⟩ => by
    rcases h with rfl | rfl
    · rw [hu.2.1] at hq; cases hq
    · rw [hu.2.2] at hq; cases hq
  | n + 1, 0, id, ⟨q, hq, _⟩, h => by
    rcases h with rfl | rfl
    · rw [hu.2.1] at hq; cases hq
    · rw [hu.2.2] at hq; cases hq
  | n + 1, k + 1, id, ⟨q, hq, h1, _⟩, ⟨p, hp, k1, _⟩ => by
    rw [hq] at hp
    cases hp
    rw [sq_level hu h1 k1]
def Inc (l l' : List Th) : Prop := ∀ (j : Nat) (x : Th), l[j]? = some x → x.k ≠ 0 → ∃ y, l'[j]? = some y ∧ y.face = x.face
theorem face_all {x y : Th} (h : y.face = x.face) : y.k = x.k ∧ y.p0 = x.p0 ∧ y.p1 = x.p1 ∧ y.p2 = x.p2 ∧ y.p3 = x.p3 ∧ y.lv = x.lv ∧ y.va = x.va := by
  simp only [Th.face, Th.key, Prod.mk.injEq, Ky.mk.injEq] at h
  obtain ⟨⟨a, b, c, d, e⟩, f, g⟩ := h
  exact ⟨a, b, c, d, e, f, g⟩
theorem Inc.ext {l l' : List Th} (h : Inc l l') : Ext (QG l) (QG l') := fun id q hq => by
  obtain ⟨h2, x, hx, hk, rfl⟩ := QG_iff.1 hq
  obtain ⟨y, hy, e⟩ := h _ x hx (by rw [hk]; decide)
  obtain ⟨e0, e1, e2, e3, e4, _⟩ := face_all e
  exact QG_iff.2 ⟨h2, y, hy, e0.trans hk, by rw [e1, e2, e3, e4]⟩
theorem Inc.glev {l l' : List Th} (h : Inc l l') {id a : Int} (hl : glev l id = some a) : glev l' id = some a := by
  rcases glev_iff.1 hl with e | ⟨h1, x, h2, h3, h4⟩
  · exact glev_iff.2 (.inl e)
  · obtain ⟨y, hy, e⟩ := h _ x h2 (by rw [h3]; decide)
    obtain ⟨e0, _, _, _, _, e5, _⟩ := face_all e
    exact glev_iff.2 (.inr ⟨h1, y, hy, e0.trans h3, e5.trans h4⟩)
def Lv0 (l : List Th) : Prop := ∀ x ∈ l, 0 ≤ x.lv
theorem glev_nn {l : List Th} (h : Lv0 l) {id a : Int} (hl : glev l id = some a) : 0 ≤ a := by
  rcases glev_iff.1 hl with ⟨_, e⟩ | ⟨_, x, h2, _, h4⟩
  · omega
  · rw [← h4]; exact h x (List.mem_of_getElem? h2)
theorem isSq_glev {l : List Th} (hg : GL l) (h0 : Lv0 l) : ∀ (n : Nat) (id : Int), glev l id = some (n : Int) → IsSq (QG l) n id
  | 0, id, h => by
    rcases glev_iff.1 h with ⟨e, _⟩ | ⟨_, x, h2, h3, h4⟩
    · exact e
    · have := glev_nn h0 (hg.sq x (List.mem_of_getElem? h2) h3 x.p0 (by simp [partsT]))
      omega
  | n + 1, id, h => by
    rcases glev_iff.1 h with ⟨_, e⟩ | ⟨h1, x, h2, h3, h4⟩
    · omega
    · have hl : ∀ r ∈ partsT x, glev l r = some (n : Int) := fun r hr => by rw [hg.sq x (List.mem_of_getElem? h2) h3 r hr, h4]; congr 1; omega
      exact ⟨_, QG_iff.2 ⟨h1, x, h2, h3, rfl⟩, isSq_glev hg h0 n _ (hl _ (by simp [partsT])), isSq_glev hg h0 n _ (hl _ (by simp [partsT])), isSq_glev hg h0 n _ (hl _ (by simp [partsT])), isSq_glev hg h0 n _ (hl _ (by simp [partsT]))⟩
structure NoteR (R : Bool → Nat → Bool) (rn : Int) (l : List Th) (x : Th) : Prop where
  sub : (glev l x.p0).isSome = true
  val : (glev l x.va).isSome = true
  nx : x.p1 = rn → ∀ n j : Nat, glev l x.p0 = some ((n + 2 : Nat) : Int) → x.p2 = (j : Int) → j ≤ n → Nx R (QG l) n x.p0 j x.va
def NotesG (R : Bool → Nat → Bool) (rn : Int) (l : List Th) : Prop := ∀ x ∈ l, x.k = 2 → NoteR R rn l x
theorem some_of {o : Option Int} (h : o.isSome = true) : ∃ a, o = some a := Option.isSome_iff_exists.1 h
theorem NoteR.inc {R : Bool → Nat → Bool} {rn : Int} {l l' : List Th} {x y : Th} (h : NoteR R rn l x) (e : y.face = x.face) (hi : Inc l l') (hg : GL l) (h0 : Lv0 l) : NoteR R rn l' y := by
  obtain ⟨_, e0, e1, e2, _, _, e3⟩ := face_all e
  obtain ⟨a, ha⟩ := some_of h.sub
  obtain ⟨c, hc⟩ := some_of h.val
  refine ⟨by rw [e0, hi.glev ha]; rfl, by rw [e3, hi.glev hc]; rfl, fun hr n j hl hj hjn => ?_⟩
  rw [e0, hi.glev ha] at hl
  have h3 : glev l x.p0 = some ((n + 2 : Nat) : Int) := ha.trans hl
  rw [e0, e3]
  exact (h.nx (by rw [← e1]; exact hr) n j h3 (by rw [← e2]; exact hj) hjn).ext (isSq_glev hg h0 _ _ h3) hi.ext
theorem NoteR.dec {R : Bool → Nat → Bool} {rn : Int} {l l' : List Th} {x : Th} (h : NoteR R rn l x) (hi : Inc l' l) (hu : Uniq l) (hg : GL l') (h0 : Lv0 l') (hs : (glev l' x.p0).isSome = true) (hv : (glev l' x.va).isSome = true) : NoteR R rn l' x := by
  refine ⟨hs, hv, fun hr n j hl hj hjn => ?_⟩
  have h1 := h.nx hr n j (hi.glev hl) hj hjn
  obtain ⟨a, ha⟩ := some_of hv
  obtain ⟨k, rfl⟩ : ∃ k : Nat, a = k := ⟨a.toNat, by have := glev_nn h0 ha; omega⟩
  have h2 := isSq_glev hg h0 k _ ha
  have h3 : k = n + 1 := sq_level (QG_uq hu) (h2.ext hi.ext) h1.1
  exact h1.less hi.ext (isSq_glev hg h0 _ _ hl) (by rw [← h3]; exact h2)
theorem inc_swept (l : List Th) : Inc (swL l) l := fun j y hy hk => by
  rw [swL_get] at hy
  obtain ⟨x, hx, rfl⟩ := Option.map_eq_some_iff.1 hy
  cases hg : gone x with
  | false => rw [clrT_keep hg]; exact ⟨x, hx, rfl⟩
  | true => rw [clrT_gone hg] at hk; exact absurd rfl hk
theorem lv0_of {A : Ar} (hS : Sound A) : Lv0 A.ths := fun x hx => (hS.lv x hx).1
theorem mem_get {l : List Th} {x : Th} (h : x ∈ l) : ∃ j : Nat, l[j]? = some x := List.getElem?_of_mem h
theorem view_QG (A : Ar) (t : Nat) : Ext (QV (view A t)) (QG A.ths) := fun id q hq => by
  unfold QV at hq
  cases hv : (view A t).V id with
  | none => rw [hv] at hq; cases hq
  | some f =>
    rw [hv] at hq
    simp only at hq
    split at hq
    · rename_i hk
      obtain ⟨h2, x, hx, _, e⟩ := ownV_iff.1 hv
      subst e
      exact QG_iff.2 ⟨h2, x, hx, hk, (Option.some.inj hq).symm⟩
    · cases hq
theorem notes_made {R : Bool → Nat → Bool} {rn : Int} {A : Ar} (h : NotesG R rn A.ths) (hS : Sound A) (hG : Glob A) : NotesG R rn A.made.ths := by
  unfold Ar.made
  split
  · intro x hx hk
    obtain ⟨j, hj⟩ := mem_get hx
    have hj' : (swL A.ths)[j]? = some x := hj
    rw [swL_get] at hj'
    obtain ⟨z, hz, e⟩ := Option.map_eq_some_iff.1 hj'
    have hng : gone z = false := by
      cases hg : gone z with
      | false => rfl
      | true => rw [clrT_gone hg] at e; rw [← e] at hk; cases hk
    rw [clrT_keep hng] at e
    subst e
    have hm0 : z.mask ≠ 0 := fun e0 => by
      have : gone z = true := by unfold gone; rw [e0, hk]; decide
      rw [this] at hng
      cases hng
    obtain ⟨u, hu, hb⟩ := mask_bit hm0 (hS.mask z (List.mem_of_getElem? hz))
    have hV : (view A u).V ((j : Int) + 2) = some z.face := ownV_iff.2 ⟨by omega, z, by rw [show (((j : Int) + 2 - 2).toNat) = j by omega]; exact hz, hb, rfl⟩
    have hcl : ∀ r ∈ [z.p0, z.va], (glev A.swept.ths r).isSome = true := fun r hr => by
      have h1 := (hG.wel u hu).clo _ _ hV r (by unfold refsV; rw [if_neg (show ¬ z.face.1.k = 1 by show ¬ z.k = 1; omega)]; exact hr)
      obtain ⟨a, ha⟩ := some_of h1
      have h2 : levV (ownV A.swept.ths u) r = some a := by
        rw [show ownV A.swept.ths u = ownV A.ths u from funext fun id => ownV_swept _ _ _]
        exact ha
      rw [level_glev h2]
      rfl
    exact (h z (List.mem_of_getElem? hz) hk).dec (inc_swept A.ths) hS.uniq (gl_swept hG hS) (lv0_of (swept_sound hS)) (hcl _ (by simp)) (hcl _ (by simp))
  · exact h
theorem inc_laid {A : Ar} (x : Th) : Inc A.ths (A.laid x).1.ths ∧ ∀ (j : Nat) (y : Th), (A.laid x).1.ths[j]? = some y → y = x ∨ A.ths[j]? = some y := by
  unfold Ar.laid
  cases hf : A.ths.findIdx? isNo with
  | none =>
    refine ⟨fun j y hy _ => ⟨y, ?_, rfl⟩, fun j y hy => ?_⟩
    · show (A.ths ++ [x])[j]? = some y
      rw [List.getElem?_append_left (List.getElem?_eq_some_iff.1 hy).1]; exact hy
    · change (A.ths ++ [x])[j]? = some y at hy
      rcases Nat.lt_or_ge j A.ths.length with h | h
      · rw [List.getElem?_append_left h] at hy; exact .inr hy
      · rw [List.getElem?_append_right h] at hy
        left
        have := List.mem_of_getElem? hy
        simpa using this
  | some i =>
    have hi : ∃ z, A.ths[i]? = some z ∧ z.k = 0 := by
      obtain ⟨h1, h2, _⟩ := List.findIdx?_eq_some_iff_getElem.1 hf
      exact ⟨A.ths[i], List.getElem?_eq_getElem h1, by unfold isNo at h2; simpa using h2⟩
    obtain ⟨z, hz, hzk⟩ := hi
    refine ⟨fun j y hy hk => ⟨y, ?_, rfl⟩, fun j y hy => ?_⟩
    · show (A.ths.set i x)[j]? = some y
      rw [List.getElem?_set]
      by_cases e : i = j
      · subst e; rw [hz] at hy; cases hy; exact absurd hzk hk
      · rw [if_neg e]; exact hy
    · change (A.ths.set i x)[j]? = some y at hy
      rw [List.getElem?_set] at hy
      by_cases e : i = j
      · subst e
        rw [if_pos rfl] at hy
        split at hy
        · exact .inl (Option.some.inj hy).symm
        · cases hy
      · rw [if_neg e] at hy; exact .inr hy
theorem notes_laid {R : Bool → Nat → Bool} {rn : Int} {A : Ar} {x : Th} (h : NotesG R rn A.ths) (hg : GL A.ths) (h0 : Lv0 A.ths) (hx : x.k = 2 → NoteR R rn A.ths x) : NotesG R rn (A.laid x).1.ths := by
  obtain ⟨i1, i2⟩ := inc_laid (A := A) x
  intro y hy hk
  obtain ⟨j, hj⟩ := mem_get hy
  rcases i2 j y hj with rfl | e
  · exact (hx hk).inc rfl i1 hg h0
  · exact (h y (List.mem_of_getElem? e) hk).inc rfl i1 hg h0
theorem notes_give {R : Bool → Nat → Bool} {rn : Int} {A : Ar} {t i : Nat} {x : Th} (h : NotesG R rn A.ths) (hg : GL A.ths) (h0 : Lv0 A.ths) (hx : A.ths[i]? = some x) : NotesG R rn (A.give t i x).ths := by
  have hget : ∀ j, (A.give t i x).ths[j]? = if i = j then some { x with mask := x.mask ||| bitN t } else A.ths[j]? := fun j => by
    show (A.ths.set i _)[j]? = _
    rw [List.getElem?_set]
    by_cases e : i = j
    · rw [if_pos e, if_pos e, if_pos (e ▸ (List.getElem?_eq_some_iff.1 hx).1)]
    · rw [if_neg e, if_neg e]
  have hi : Inc A.ths (A.give t i x).ths := fun j y hy _ => by
    rw [hget]
    by_cases e : i = j
    · subst e
      rw [hx] at hy
      cases hy
      exact ⟨_, if_pos rfl, rfl⟩
    · exact ⟨y, by rw [if_neg e]; exact hy, rfl⟩
  intro y hy hk
  obtain ⟨j, hj⟩ := mem_get hy
  rw [hget] at hj
  by_cases e : i = j
  · rw [if_pos e] at hj
    cases hj
    exact (h x (List.mem_of_getElem? hx) hk).inc rfl hi hg h0
  · rw [if_neg e] at hj
    exact (h y (List.mem_of_getElem? hj) hk).inc rfl hi hg h0
theorem gl_made {A : Ar} (hG : Glob A) (hS : Sound A) : GL A.made.ths := by
  unfold Ar.made
  split
  · exact gl_swept hG hS
  · exact hG.gl
theorem notes_beco {R : Bool → Nat → Bool} {rn : Int} {A : Ar} {t : Nat} {x : Th} (h : NotesG R rn A.ths) (hS : Sound A) (hG : Glob A) (hv : x.k = 1 → x.va = 0) (hl : x.k ≠ 1 → x.lv = 0) (hr1 : x.k = 1 → ∀ r ∈ partsT x, levV (ownV A.ths t) r = some (x.lv - 1)) (hx0 : 0 ≤ x.lv) (hx : x.k = 2 → NoteR R rn A.made.ths x) : NotesG R rn (A.beco t x).1.ths := by
  have hgl : GL (A.made.laid x).1.ths := gl_laid (t := t) (gl_made hG hS) hv hl fun e r hr' => by
    rw [show ownV A.made.ths t = ownV A.ths t from funext (ownV_made A t)]
    exact hr1 e r hr'
  have hm := notes_made h hS hG
  have hm0 := lv0_of (made_sound hS)
  unfold Ar.beco
  cases hs : spotF A.ths x.key with
  | some i =>
    obtain ⟨z, h1, _, h3⟩ := spot_at hs
    simp only
    split
    · exact h
    · split
      · exact h
      · rw [h3]
        exact notes_give h hG.gl (lv0_of hS) h1
  | none =>
    simp only
    split
    · exact h
    · split
      · exact hm
      · obtain ⟨i1, i2⟩ := inc_laid (A := A.made) x
        refine notes_give (notes_laid hm (gl_made hG hS) hm0 hx) hgl (fun y hy => ?_) (laid_at A.made x)
        obtain ⟨j, hj⟩ := mem_get hy
        rcases i2 j y hj with rfl | e
        · exact hx0
        · exact hm0 y (List.mem_of_getElem? e)
end Go.Proofs.YtofbcngcblleaabGreat.A
