/- The plain store is the arena: give. -/
import Derived.Test.YtfogedmghhacdaaRsPure
namespace Go.Proofs.Ytfogedmghhacdaa.A
open Go.RowKit

/-- the arena as a plain store -/
def St.of (A : Ar) : St := ⟨A.room, refL 0 A.ths, A.lim, A.fresh⟩
theorem live_le (l : List Th) : liveN l ≤ l.length := List.countP_le_length
theorem of_tame {A : Ar} (hS : Sound A) : Tame (St.of A) := by
  refine ⟨?_, fun r hr => ?_⟩
  · show (refL 0 A.ths).length < 900000
    rw [ref_len]
    have := live_le A.ths
    have := hS.len
    have := hS.room1
    omega
  · obtain ⟨j, x, h1, _, h3⟩ := (mem_ref _ _ _).1 hr
    rw [h3]
    exact hS.mask x (List.mem_of_getElem? h1)
/-- a tenant's own square, by both -/
theorem owned_ref {l : List Th} (hz : ∀ x ∈ l, x.k = 0 → x = noTh) (t : Nat) (id : Int) : ownedF (refL 0 l) t id 0 = if id = 0 ∨ id = 1 then some noRt else match ownF l t id with | some x => if x.k = 1 then some (toRt (id - 2).toNat x) else none | none => none := by
  unfold ownedF
  by_cases h01 : id = 0 ∨ id = 1
  · rw [if_pos ⟨rfl, h01⟩, if_pos h01]
  · rw [if_neg fun e => h01 e.2, if_neg h01]
    unfold ownF
    by_cases h2 : 2 ≤ id
    · rw [if_pos h2]
      obtain ⟨j, hj⟩ := Int.eq_ofNat_of_zero_le (show 0 ≤ id - 2 by omega)
      obtain rfl : id = (j : Int) + 2 := by omega
      rw [show ((j : Int) + 2 - 2).toNat = j by omega]
      cases hx : l[j]? with
      | none =>
        rw [ref_lost fun k x hk _ e => by obtain rfl : k = j := by omega
                                          rw [hx] at hk; cases hk]
        rfl
      | some x =>
        by_cases hk : x.k = 0
        · have hx0 := hz x (List.mem_of_getElem? hx) hk
          rw [ref_lost fun k y hy hk' e => by obtain rfl : k = j := by omega
                                              rw [hx] at hy; cases hy; exact hk' hk]
          rw [Option.filter_some, hx0, if_neg (by simp [noTh])]
        · obtain ⟨p, hp1, hp2⟩ := ref_find hx hk
          rw [hp1]
          simp only
          rw [hp2]
          simp only
          rw [Option.filter_some]
          have e1 : (toRt j x).mask = x.mask := rfl
          have e2 : (toRt j x).k = 0 ↔ x.k = 1 := by
            show x.k - 1 = 0 ↔ _
            omega
          cases hb : x.mask.testBit t with
          | true =>
            simp only [if_true]
            by_cases h1 : x.k = 1
            · rw [if_pos ⟨e2.2 h1, by rw [e1, hb]⟩, if_pos h1]
            · rw [if_neg fun e => h1 (e2.1 e.1), if_neg h1]
          | false =>
            simp only [Bool.false_eq_true, if_false]
            rw [if_neg fun e => by rw [e1, hb] at e; exact absurd e.2 (by decide)]
    · rw [if_neg h2, ref_lost fun k x _ _ e => by omega]
theorem level_ref {l : List Th} (hz : ∀ x ∈ l, x.k = 0 → x = noTh) (t : Nat) (id : Int) : ((ownedF (refL 0 l) t id 0).getD noRt).lv = (levelF l t id).getD 0 ∧ (ownedF (refL 0 l) t id 0).isSome = (levelF l t id).isSome := by
  rw [owned_ref hz]
  unfold levelF
  by_cases h01 : id = 0 ∨ id = 1
  · rw [if_pos h01, if_pos h01]
    exact ⟨rfl, rfl⟩
  · rw [if_neg h01, if_neg h01]
    cases ownF l t id with
    | none => exact ⟨rfl, rfl⟩
    | some x =>
      simp only
      by_cases h1 : x.k = 1
      · rw [if_pos h1, if_pos h1]
        exact ⟨rfl, rfl⟩
      · rw [if_neg h1, if_neg h1]
        exact ⟨rfl, rfl⟩
theorem lack_eq {α β : Type} {o : Option α} {p : Option β} (h : o.isSome = p.isSome) : lack o = lack p := by
  cases o <;> cases p <;> first | rfl | simp at h
theorem kids_ref {l : List Th} (hz : ∀ x ∈ l, x.k = 0 → x = noTh) (t : Nat) (id : Int) : kidsS (squareS (refL 0 l) t id) = kidsV (squareF l t id) ∧ (squareS (refL 0 l) t id).isSome = (squareF l t id).isSome := by
  unfold squareS squareF
  by_cases h1 : 1 < id
  · rw [if_pos h1, owned_ref hz, if_neg (by omega)]
    cases ownF l t id with
    | none => exact ⟨rfl, rfl⟩
    | some x =>
      simp only [Option.filter_some]
      by_cases h2 : x.k = 1
      · rw [if_pos h2, if_pos (by simpa using h2)]
        exact ⟨rfl, rfl⟩
      · rw [if_neg h2, if_neg (by simpa using h2)]
        exact ⟨rfl, rfl⟩
  · rw [if_neg h1]
    have : ownF l t id = none := by
      unfold ownF
      rw [if_neg (by omega)]
    rw [this]
    exact ⟨rfl, rfl⟩
theorem note_ref {i : Nat} {x : Th} {s r j : Int} : (toRt i x).isNote s r j ↔ x.key = nkey s r j := by
  unfold Rt.isNote toRt Th.key nkey
  simp only [Ky.mk.injEq]
  constructor
  · rintro ⟨h, h'⟩
    exact ⟨by omega, h'⟩
  · rintro ⟨h, h'⟩
    exact ⟨by omega, h'⟩
theorem spot_some {l : List Th} {q : Ky} {i : Nat} (h : spotF l q = some i) : ∃ x, l[i]? = some x ∧ x.key = q := by
  unfold spotF at h
  obtain ⟨h1, h2, _⟩ := List.findIdx?_eq_some_iff_getElem.1 h
  exact ⟨_, List.getElem?_eq_getElem h1, by simpa using h2⟩
theorem get_bang {l : List Th} {i : Nat} {x : Th} (h : l[i]? = some x) : l[i]! = x := by rw [List.getElem!_eq_getElem?_getD, h]; rfl
theorem recall_ref {l : List Th} (hU : Uniq l) (t : Nat) (s r j : Int) : recS (refL 0 l) t s r j = recallF l t s r j := by
  unfold recallF
  cases hs : spotF l (nkey s r j) with
  | none =>
    refine recS_none fun k y hy e => ?_
    obtain ⟨i, x, h1, _, h3⟩ := ref_of hy
    rw [h3] at e
    exact spot_none hs x (List.mem_of_getElem? h1) (note_ref.1 e.1)
  | some i =>
    obtain ⟨x, hx, hxk⟩ := spot_some hs
    have hk : x.k ≠ 0 := by
      have : x.k = 2 := congrArg Ky.k hxk
      omega
    simp only
    rw [get_bang hx]
    have huniq : ∀ (k : Nat) (y : Rt), (refL 0 l)[k]? = some y → y.isNote s r j → y = toRt i x := fun k y hy he => by
      obtain ⟨i', x', h1, h2, h3⟩ := ref_of hy
      rw [Nat.zero_add] at h3
      rw [h3] at he
      have := hU i' i x' x h1 hx h2 ((note_ref.1 he).trans hxk.symm)
      subst this
      rw [hx] at h1
      cases h1
      exact h3
    cases hb : x.mask.testBit t with
    | true =>
      simp only [if_true]
      obtain ⟨p, hp⟩ := ref_at (i := 0) hx hk
      rw [Nat.zero_add] at hp
      refine recS_some hp (note_ref.2 hxk) hb fun k y hk2 hy e => ?_
      have he := huniq k y hy e.1
      rw [he] at hy
      have := ref_inj hy hp rfl
      omega
    | false =>
      simp only [Bool.false_eq_true, if_false]
      refine recS_none fun k y hy e => ?_
      rw [huniq k y hy e.1] at e
      have : x.mask.testBit t = true := e.2
      rw [hb] at this
      cases this
theorem swept_ref : ∀ (l : List Th) (i : Nat), sweptL (refL i l) = refL i (swL l)
  | [], i => rfl
  | y :: l, i => by
    have ih := swept_ref l (i + 1)
    have e : swL (y :: l) = clrT y :: swL l := rfl
    unfold sweptL at *
    rw [e]
    by_cases hy : y.k = 0
    · have hc : clrT y = y := clrT_keep (by unfold gone; simp [hy])
      rw [ref_zero hy, ih, hc, ref_zero hy]
    · rw [ref_one hy]
      by_cases hm : y.mask = 0
      · have hc : clrT y = noTh := clrT_gone (by unfold gone; simp [hy, hm])
        rw [List.filter_cons_of_neg (by simp [toRt, hm]), ih, hc, ref_zero rfl]
      · have hc : clrT y = y := clrT_keep (by unfold gone; simp [hm])
        rw [List.filter_cons_of_pos (by simpa [toRt] using hm), ih, hc, ref_one hy]
theorem made_ref (A : Ar) : (St.of A).made = St.of A.made := by
  unfold St.made Ar.made
  have e : ((St.of A).ths.length : Int) = (liveN A.ths : Int) := by
    show ((refL 0 A.ths).length : Int) = _
    rw [ref_len]
  rw [e]
  show (if A.room ≤ _ then _ else _) = _
  by_cases h : A.room ≤ (liveN A.ths : Int)
  · rw [if_pos h, if_pos h]
    unfold St.swept St.of Ar.swept
    simp only
    rw [swept_ref]
  · rw [if_neg h, if_neg h]
end Go.Proofs.Ytfogedmghhacdaa.A

namespace Go.Proofs.Ytfogedmghhacdaa.A
open Go.RowKit

/-- a thing to be given, as the plain store is handed it -/
def wantRt (x : Th) : Rt := ⟨0, x.k - 1, x.lv, x.va, x.p0, x.p1, x.p2, x.p3, x.mask⟩
/-- the first place that is free -/
def firstNo (l : List Th) : Nat := match l.findIdx? isNo with | some i => i | none => l.length
theorem first_some {l : List Th} {i : Nat} (h : l.findIdx? isNo = some i) : (∀ z ∈ l.take i, z.k ≠ 0) ∧ ∃ y, l[i]? = some y ∧ y.k = 0 := by
  obtain ⟨h1, h2, h3⟩ := List.findIdx?_eq_some_iff_getElem.1 h
  refine ⟨fun z hz => ?_, _, List.getElem?_eq_getElem h1, by unfold isNo at h2; simpa using h2⟩
  obtain ⟨j, hj⟩ := List.mem_iff_getElem?.1 hz
  have hjl := (List.getElem?_eq_some_iff.1 hj).1
  rw [List.length_take] at hjl
  rw [List.getElem?_take, if_pos (by omega)] at hj
  obtain ⟨hj1, hj2⟩ := List.getElem?_eq_some_iff.1 hj
  have := h3 j (by omega)
  rw [hj2] at this
  unfold isNo at this
  simpa using this
theorem first_none {l : List Th} (h : l.findIdx? isNo = none) : ∀ z ∈ l, z.k ≠ 0 := fun z hz => by
  rw [List.findIdx?_eq_none_iff] at h
  have := h z hz
  unfold isNo at this
  simpa using this
theorem first_ids (l : List Th) : (∀ j, j < firstNo l → ∃ y, (refL 0 l)[j]? = some y ∧ y.id = 2 + j) ∧ (∀ (j : Nat) y, firstNo l ≤ j → (refL 0 l)[j]? = some y → (2 + firstNo l : Int) < y.id) := by
  have key : ∀ m, (∀ z ∈ l.take m, z.k ≠ 0) → m ≤ l.length → (∀ y, l[m]? = some y → y.k = 0) → (∀ j, j < m → ∃ y, (refL 0 l)[j]? = some y ∧ y.id = 2 + j) ∧ (∀ (j : Nat) y, m ≤ j → (refL 0 l)[j]? = some y → (2 + m : Int) < y.id) := fun m h1 h2 h3 => by
    have hf := ref_full (l.take m) 0 h1
    have hl : (refL 0 (l.take m)).length = m := by rw [hf.1, List.length_take]; omega
    have hs := ref_split l 0 m
    refine ⟨fun j hj => ?_, fun j y hj hy => ?_⟩
    · have hx : (l.take m)[j]? = some (l[j]'(by omega)) := by rw [List.getElem?_take, if_pos hj]; exact List.getElem?_eq_getElem _
      refine ⟨toRt (0 + j) (l[j]'(by omega)), ?_, ?_⟩
      · rw [hs, List.getElem?_append_left (by omega)]
        exact hf.2 j _ hx
      · show ((0 + j : Nat) : Int) + 2 = 2 + j
        omega
    · rw [hs, List.getElem?_append_right (by omega), hl] at hy
      obtain ⟨k, x, g1, g2, g3⟩ := ref_of hy
      rw [List.getElem?_drop] at g1
      have hk : k ≠ 0 := fun e => by
        subst e
        exact g2 (h3 x (by simpa using g1))
      rw [g3]
      show (2 + m : Int) < ((0 + m + k : Nat) : Int) + 2
      omega
  unfold firstNo
  cases h : l.findIdx? isNo with
  | some i =>
    obtain ⟨h1, y, h2, h3⟩ := first_some h
    exact key i h1 (Nat.le_of_lt (List.getElem?_eq_some_iff.1 h2).1) fun z hz => by rw [h2] at hz; cases hz; exact h3
  | none =>
    exact key l.length (fun z hz => first_none h z (List.mem_of_mem_take hz)) (Nat.le_refl _) fun z hz => by rw [List.getElem?_eq_none (Nat.le_refl _)] at hz; cases hz
/-- laid and given at once -/
theorem laid_ref (A : Ar) (t : Nat) (x : Th) (hk : x.k ≠ 0) : (A.laid x).2 = firstNo A.ths ∧ refL 0 ((A.laid x).1.give t (A.laid x).2 x).ths = insL (refL 0 A.ths) (firstNo A.ths) (toRt (firstNo A.ths) { x with mask := x.mask ||| bitN t }) := by
  unfold Ar.laid firstNo
  cases h : A.ths.findIdx? isNo with
  | some i =>
    obtain ⟨h1, y, h2, h3⟩ := first_some h
    refine ⟨rfl, ?_⟩
    show refL 0 ((A.ths.set i x).set i { x with mask := x.mask ||| bitN t }) = _
    rw [List.set_set, ref_ins A.ths 0 i { x with mask := x.mask ||| bitN t } y h1 h2 h3 hk, Nat.zero_add]
  | none =>
    refine ⟨rfl, ?_⟩
    show refL 0 ((A.ths ++ [x]).set A.ths.length { x with mask := x.mask ||| bitN t }) = _
    rw [List.set_append_right _ _ (Nat.le_refl _), Nat.sub_self, List.set_cons_zero, ref_push A.ths 0 { x with mask := x.mask ||| bitN t } (first_none h) hk, Nat.zero_add]
/-- give: both make of it the same -/
theorem give_ref {A : Ar} (hS : Sound A) {t : Nat} (ht : t < 64) (x : Th) (hk : x.k ≠ 0) (hm : x.mask = 0) :
    giveR (St.of A) t (wantRt x) (firstNo A.made.ths) = (St.of (A.beco t x).1, (A.beco t x).2.1, (A.beco t x).2.2) := by
  have hcn : ((ownS (St.of A).ths t : Nat) : Int) = A.cnt t := by
    rw [hS.cnt t ht]
    exact congrArg _ (ref_own A.ths 0 hS.zero)
  have hsame : haveF (St.of A).ths (wantRt x) = haveF (refL 0 A.ths) (toRt 0 x) := rfl
  unfold giveR Ar.beco
  rw [hsame]
  cases hs : spotF A.ths x.key with
  | some i =>
    obtain ⟨y, hy, hyk⟩ := spot_some hs
    have hyk0 : y.k ≠ 0 := by
      have : y.k = x.k := congrArg Ky.k hyk
      omega
    obtain ⟨p, hp1, hp2⟩ := ref_have hS.uniq (i := 0) hy hyk0 hyk
    rw [hp1]
    simp only
    rw [show (St.of A).ths[p]? = some (toRt i y) from hp2, get_bang hy]
    simp only
    have e1 : (toRt i y).mask = y.mask := rfl
    have e2 : (toRt i y).id = (i : Int) + 2 := rfl
    rw [e1, e2, hcn]
    by_cases hb : y.mask.testBit t = true
    · rw [if_pos hb, if_pos hb]
    · rw [if_neg hb, if_neg hb]
      by_cases hq : A.lim t ≤ A.cnt t
      · rw [if_pos hq, if_pos (show (St.of A).quota t ≤ A.cnt t from hq)]
      · rw [if_neg hq, if_neg (show ¬ (St.of A).quota t ≤ A.cnt t from hq)]
        have hset := ref_set A.ths 0 i p (y.mask ||| 2 ^ t) y hy hyk0 (by rw [Nat.zero_add]; exact hp2)
        rw [Nat.zero_add] at hset
        show ((St.of A).put ((refL 0 A.ths).set p { toRt i y with mask := y.mask ||| 2 ^ t }) t ((i : Int) + 2), (i : Int) + 2, (0 : Int)) = _
        rw [hset]
        rfl
  | none =>
    rw [ref_havenot hk hs]
    simp only
    rw [hcn, made_ref]
    have el : ((St.of A.made).ths.length : Int) = (liveN A.made.ths : Int) := by
      show ((refL 0 A.made.ths).length : Int) = _
      rw [ref_len]
    rw [el]
    by_cases hq : A.lim t ≤ A.cnt t
    · rw [if_pos hq, if_pos (show (St.of A).quota t ≤ A.cnt t from hq)]
    · rw [if_neg hq, if_neg (show ¬ (St.of A).quota t ≤ A.cnt t from hq)]
      by_cases hr : A.made.room ≤ (liveN A.made.ths : Int)
      · rw [if_pos hr, if_pos (show (St.of A.made).room ≤ (liveN A.made.ths : Int) from hr)]
      · rw [if_neg hr, if_neg (show ¬ (St.of A.made).room ≤ (liveN A.made.ths : Int) from hr)]
        obtain ⟨l1, l2⟩ := laid_ref A.made t x hk
        have e0 : (wantRt x).set0 (firstNo A.made.ths) t = toRt (firstNo A.made.ths) { x with mask := x.mask ||| bitN t } := by
          unfold Rt.set0 wantRt toRt bitN
          rw [hm, Nat.zero_or]
          simp only [Rt.mk.injEq, and_true]
          omega
        have e3 : (2 + (firstNo A.made.ths : Int)) = (firstNo A.made.ths : Int) + 2 := by omega
        have hroom : ((A.made.laid x).1.give t (A.made.laid x).2 x).room = A.made.room ∧ ((A.made.laid x).1.give t (A.made.laid x).2 x).lim = A.made.lim ∧ ((A.made.laid x).1.give t (A.made.laid x).2 x).fresh = upd A.made.fresh t (A.made.fresh t ++ [((A.made.laid x).2 : Int) + 2]) := by
          unfold Ar.laid
          cases A.made.ths.findIdx? isNo <;> exact ⟨rfl, rfl, rfl⟩
        rw [e0, e3]
        refine Prod.ext ?_ (Prod.ext ?_ rfl)
        · show St.put (St.of A.made) _ t _ = St.of _
          unfold St.put St.of
          simp only [St.mk.injEq]
          refine ⟨hroom.1.symm, l2.symm, hroom.2.1.symm, ?_⟩
          rw [hroom.2.2, l1]
        · show (firstNo A.made.ths : Int) + 2 = ((A.made.laid x).2 : Int) + 2
          rw [l1]
end Go.Proofs.Ytfogedmghhacdaa.A
