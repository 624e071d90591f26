/- What lay, Sweep and give make of an arena, in plain words. -/
import Derived.Test.YtgipjplifndniaaGreatDoorArLive
namespace Go.Proofs.YtgipjplifndniaaGreatDoor.A
open Go.RowKit Go.Maps

def Ar.swept (A : Ar) : Ar := { A with ths := swL A.ths }
def Ar.laid (A : Ar) (x : Th) : Ar × Nat := match A.ths.findIdx? isNo with
  | some i => ({ A with ths := A.ths.set i x }, i)
  | none => ({ A with ths := A.ths ++ [x] }, A.ths.length)
def Ar.made (A : Ar) : Ar := if A.room ≤ (liveN A.ths : Int) then A.swept else A
def Ar.beco (A : Ar) (t : Nat) (x : Th) : Ar × Int × Int :=
  match spotF A.ths x.key with
  | some i => if (A.ths[i]!).mask.testBit t = true then (A, (i : Int) + 2, 0) else if A.lim t ≤ A.cnt t then (A, 0, 9) else (A.give t i (A.ths[i]!), (i : Int) + 2, 0)
  | none => if A.lim t ≤ A.cnt t then (A, 0, 9) else
    if A.made.room ≤ (liveN A.made.ths : Int) then (A.made, 0, 5) else ((A.made.laid x).1.give t (A.made.laid x).2 x, ((A.made.laid x).2 : Int) + 2, 0)

theorem clrT_keep {x : Th} (h : gone x = false) : clrT x = x := by unfold clrT; rw [h]; rfl
theorem clrT_gone {x : Th} (h : gone x = true) : clrT x = noTh := by unfold clrT; rw [h]; rfl
theorem own_not_gone {x : Th} {t : Nat} (h : x.mask.testBit t = true) : gone x = false := by
  unfold gone
  cases e : (x.mask == 0) with
  | false => simp
  | true =>
    have : x.mask = 0 := by simpa using e
    rw [this] at h
    simp at h
theorem swL_get (l : List Th) (j : Nat) : (swL l)[j]? = (l[j]?).map clrT := by unfold swL; rw [List.getElem?_map]
theorem ownN_swept (l : List Th) (t : Nat) : ownN (swL l) t = ownN l t := by
  unfold ownN swL
  rw [List.countP_map]
  refine List.countP_congr fun x _ => ?_
  simp only [Function.comp_apply]
  cases hg : gone x with
  | false => rw [clrT_keep hg]
  | true =>
    rw [clrT_gone hg]
    constructor
    · intro h; simp [noTh] at h
    · intro h; rw [own_not_gone h] at hg; cases hg
theorem fits_zero : Fits 0 := ⟨by decide, by decide⟩
theorem noTh_fit : noTh.key.Fit := ⟨fits_zero, fits_zero, fits_zero, fits_zero, fits_zero⟩
theorem swept_sound {A : Ar} (h : Sound A) : Sound A.swept where
  free := h.free
  room0 := h.room0
  room1 := h.room1
  len := by show ((swL A.ths).length : Int) ≤ _; simp [swL]; exact h.len
  mask := fun x hx => by
    obtain ⟨y, hy, rfl⟩ := List.mem_map.1 hx
    cases hg : gone y with
    | false => rw [clrT_keep hg]; exact h.mask y hy
    | true => rw [clrT_gone hg]; decide
  zero := fun x hx hk => by
    obtain ⟨y, hy, rfl⟩ := List.mem_map.1 hx
    cases hg : gone y with
    | false => rw [clrT_keep hg] at hk ⊢; exact h.zero y hy hk
    | true => rw [clrT_gone hg]
  fit := fun x hx => by
    obtain ⟨y, hy, rfl⟩ := List.mem_map.1 hx
    cases hg : gone y with
    | false => rw [clrT_keep hg]; exact h.fit y hy
    | true => rw [clrT_gone hg]; exact noTh_fit
  lv := fun x hx => by
    obtain ⟨y, hy, rfl⟩ := List.mem_map.1 hx
    cases hg : gone y with
    | false => rw [clrT_keep hg]; exact h.lv y hy
    | true => rw [clrT_gone hg]; decide
  va := fun x hx => by
    obtain ⟨y, hy, rfl⟩ := List.mem_map.1 hx
    cases hg : gone y with
    | false => rw [clrT_keep hg]; exact h.va y hy
    | true => rw [clrT_gone hg]; exact fits_zero
  uniq := by
    have := sw_uniq h.uniq A.ths.length
    rw [sw_all] at this
    exact this
  lim := h.lim
  cnt := fun t ht => by rw [show ownN A.swept.ths t = ownN A.ths t from ownN_swept _ _]; exact h.cnt t ht
  fresh := fun t ht => by
    refine ⟨(h.fresh t ht).1, fun id hid => ?_⟩
    obtain ⟨h1, x, h2, h3⟩ := (h.fresh t ht).2 id hid
    refine ⟨h1, x, ?_, h3⟩
    show (swL A.ths)[_]? = _
    rw [swL_get, h2, Option.map_some, clrT_keep (own_not_gone h3)]
theorem made_sound {A : Ar} (h : Sound A) : Sound A.made := by
  unfold Ar.made
  split
  · exact swept_sound h
  · exact h
theorem made_rest (A : Ar) : A.made.room = A.room ∧ A.made.lim = A.lim ∧ A.made.cnt = A.cnt ∧ A.made.fresh = A.fresh := by
  unfold Ar.made
  split <;> exact ⟨rfl, rfl, rfl, rfl⟩
theorem spot_swept {l : List Th} {q : Ky} (hq : q.k ≠ 0) (h : spotF l q = none) : spotF (swL l) q = none := by
  unfold spotF
  rw [List.findIdx?_eq_none_iff]
  intro y hy
  obtain ⟨x, hx, rfl⟩ := List.mem_map.1 hy
  simp only [decide_eq_false_iff_not]
  cases hg : gone x with
  | false => rw [clrT_keep hg]; exact spot_none h x hx
  | true =>
    rw [clrT_gone hg]
    exact fun e => hq (by rw [← e]; rfl)
theorem made_spot {A : Ar} {q : Ky} (hq : q.k ≠ 0) (h : spotF A.ths q = none) : spotF A.made.ths q = none := by
  unfold Ar.made
  split
  · exact spot_swept hq h
  · exact h
theorem full_of_none {l : List Th} (h : l.findIdx? isNo = none) : liveN l = l.length := by
  have := free_live l
  unfold freeIds at this
  rw [sel_none h] at this
  simpa using this
theorem first_free {l : List Th} {i : Nat} (h : l.findIdx? isNo = some i) : ∃ x, l[i]? = some x ∧ x.k = 0 := by
  rw [List.findIdx?_eq_some_iff_getElem] at h
  obtain ⟨hi, hp, _⟩ := h
  exact ⟨_, List.getElem?_eq_getElem hi, by simpa [isNo] using hp⟩
theorem laid_at (A : Ar) (x : Th) : (A.laid x).1.ths[(A.laid x).2]? = some x := by
  unfold Ar.laid
  cases h : A.ths.findIdx? isNo with
  | none => simp
  | some i =>
    obtain ⟨y, hy, _⟩ := first_free h
    have := (List.getElem?_eq_some_iff.1 hy).1
    simp [this]
theorem laid_other (A : Ar) (x : Th) (j : Nat) (y : Th) (h : A.ths[j]? = some y) (hk : y.k ≠ 0) : (A.laid x).1.ths[j]? = some y ∧ j ≠ (A.laid x).2 := by
  unfold Ar.laid
  have hj := (List.getElem?_eq_some_iff.1 h).1
  cases e : A.ths.findIdx? isNo with
  | none =>
    simp only
    rw [List.getElem?_append_left hj]
    exact ⟨h, by omega⟩
  | some i =>
    obtain ⟨z, hz, hz0⟩ := first_free e
    simp only
    have : i ≠ j := fun e' => by
      subst e'
      rw [h] at hz
      obtain rfl := Option.some.inj hz
      exact hk hz0
    rw [List.getElem?_set, if_neg this]
    exact ⟨h, fun e' => this e'.symm⟩
theorem laid_back (A : Ar) (x : Th) (j : Nat) (y : Th) (h : (A.laid x).1.ths[j]? = some y) : (j = (A.laid x).2 ∧ y = x) ∨ (j ≠ (A.laid x).2 ∧ A.ths[j]? = some y) := by
  by_cases e : j = (A.laid x).2
  · subst e
    rw [laid_at] at h
    exact .inl ⟨rfl, (Option.some.inj h).symm⟩
  · refine .inr ⟨e, ?_⟩
    unfold Ar.laid at h e
    cases f : A.ths.findIdx? isNo with
    | none =>
      rw [f] at h e
      simp only at h e
      rw [List.getElem?_append] at h
      split at h
      · exact h
      · have : (j - A.ths.length) ≠ 0 := by omega
        obtain ⟨k, hk⟩ : ∃ k, j - A.ths.length = k + 1 := ⟨j - A.ths.length - 1, by omega⟩
        rw [hk] at h
        simp at h
    | some i =>
      rw [f] at h e
      simp only at h e
      rw [List.getElem?_set, if_neg (fun e' => e e'.symm)] at h
      exact h
theorem laid_rest (A : Ar) (x : Th) : (A.laid x).1.room = A.room ∧ (A.laid x).1.lim = A.lim ∧ (A.laid x).1.cnt = A.cnt ∧ (A.laid x).1.fresh = A.fresh ∧ (A.laid x).1.free = A.free := by
  unfold Ar.laid
  split <;> exact ⟨rfl, rfl, rfl, rfl, rfl⟩
theorem laid_len (A : Ar) (x : Th) : (A.laid x).1.ths.length ≤ A.ths.length + 1 ∧ A.ths.length ≤ (A.laid x).1.ths.length ∧ ((A.laid x).1.ths.length = A.ths.length ∨ liveN A.ths = A.ths.length) := by
  unfold Ar.laid
  cases f : A.ths.findIdx? isNo with
  | none => simp; exact full_of_none f
  | some i => simp
theorem set_count {l : List Th} {i : Nat} {x y : Th} (p : Th → Bool) (h : l[i]? = some x) : (l.set i y).countP p + (if p x then 1 else 0) = l.countP p + (if p y then 1 else 0) := by
  induction l generalizing i with
  | nil => simp at h
  | cons z r ih =>
    cases i with
    | zero =>
      simp at h; subst h
      rw [List.set_cons_zero, List.countP_cons, List.countP_cons]
      omega
    | succ i =>
      have := ih (i := i) (by simpa using h)
      rw [List.set_cons_succ, List.countP_cons, List.countP_cons]
      omega
theorem ownN_laid {A : Ar} {x : Th} (h : Sound A) (hx : x.mask = 0) (t : Nat) : ownN (A.laid x).1.ths t = ownN A.ths t := by
  unfold Ar.laid
  cases f : A.ths.findIdx? isNo with
  | none =>
    simp only
    unfold ownN
    rw [List.countP_append, List.countP_cons_of_neg (by rw [hx]; simp)]
    rfl
  | some i =>
    obtain ⟨y, hy, hk⟩ := first_free f
    have e := set_count (y := x) (fun z => z.mask.testBit t) hy
    have hy0 := h.zero y (List.mem_of_getElem? hy) hk
    simp only at e ⊢
    rw [hx, hy0] at e
    simp [noTh] at e
    exact e
theorem laid_sound {A : Ar} {x : Th} (h : Sound A) (hlv : 0 ≤ x.lv ∧ x.lv ≤ 44) (hva : Fits x.va) (hx : x.mask = 0) (hk : x.k ≠ 0) (hf : x.key.Fit) (hs : spotF A.ths x.key = none) (hr : (liveN A.ths : Int) < A.room) : Sound (A.laid x).1 := by
  obtain ⟨r1, r2, r3, r4, r5⟩ := laid_rest A x
  obtain ⟨l1, _, l3⟩ := laid_len A x
  have back : ∀ y ∈ (A.laid x).1.ths, y = x ∨ y ∈ A.ths := fun y hy => by
    obtain ⟨j, hj⟩ := List.getElem?_of_mem hy
    rcases laid_back A x j y hj with ⟨_, e⟩ | ⟨_, e⟩
    · exact .inl e
    · exact .inr (List.mem_of_getElem? e)
  exact {
    free := r5.trans h.free
    room0 := by rw [r1]; exact h.room0
    room1 := by rw [r1]; exact h.room1
    len := by
      rw [r1]
      have := h.len
      rcases l3 with e | e
      · omega
      · omega
    mask := fun y hy => by
      rcases back y hy with rfl | e
      · rw [hx]; decide
      · exact h.mask y e
    zero := fun y hy h0 => by
      rcases back y hy with rfl | e
      · exact absurd h0 hk
      · exact h.zero y e h0
    fit := fun y hy => by
      rcases back y hy with rfl | e
      · exact hf
      · exact h.fit y e
    lv := fun y hy => by
      rcases back y hy with rfl | e
      · exact hlv
      · exact h.lv y e
    va := fun y hy => by
      rcases back y hy with rfl | e
      · exact hva
      · exact h.va y e
    uniq := fun i j y z hy hz h0 he => by
      rcases laid_back A x i y hy with ⟨e1, e2⟩ | ⟨e1, e2⟩
      · rcases laid_back A x j z hz with ⟨f1, f2⟩ | ⟨f1, f2⟩
        · rw [e1, f1]
        · subst e2
          exact absurd he.symm (spot_none hs z (List.mem_of_getElem? f2))
      · rcases laid_back A x j z hz with ⟨f1, f2⟩ | ⟨f1, f2⟩
        · subst f2
          exact absurd he (spot_none hs y (List.mem_of_getElem? e2))
        · exact h.uniq i j y z e2 f2 h0 he
    lim := fun t ht => by rw [r1, r2]; exact h.lim t ht
    cnt := fun t ht => by rw [r3, ownN_laid h hx]; exact h.cnt t ht
    fresh := fun t ht => by
      rw [r4]
      refine ⟨(h.fresh t ht).1, fun id hid => ?_⟩
      obtain ⟨h1, y, h2, h3⟩ := (h.fresh t ht).2 id hid
      refine ⟨h1, y, (laid_other A x _ y h2 fun e => ?_).1, h3⟩
      rw [h.zero y (List.mem_of_getElem? h2) e] at h3
      simp [noTh] at h3 }
theorem give_sound {A : Ar} {t i : Nat} {x : Th} (h : Sound A) (ht : t < 64) (hx : A.ths[i]? = some x) (hk : x.k ≠ 0) (hb : x.mask.testBit t = false) : Sound (A.give t i x) := by
  have hi := (List.getElem?_eq_some_iff.1 hx).1
  have hxm := List.mem_of_getElem? hx
  have hget : ∀ j y, (A.give t i x).ths[j]? = some y → (j = i ∧ y = { x with mask := x.mask ||| bitN t }) ∨ (j ≠ i ∧ A.ths[j]? = some y) := fun j y hy => by
    have hy : (A.ths.set i { x with mask := x.mask ||| bitN t })[j]? = some y := hy
    rw [List.getElem?_set] at hy
    by_cases e : i = j
    · subst e
      rw [if_pos rfl, if_pos hi] at hy
      exact .inl ⟨rfl, (Option.some.inj hy).symm⟩
    · rw [if_neg e] at hy
      exact .inr ⟨fun e' => e e'.symm, hy⟩
  have back : ∀ y ∈ (A.give t i x).ths, y = { x with mask := x.mask ||| bitN t } ∨ y ∈ A.ths := fun y hy => by
    obtain ⟨j, hj⟩ := List.getElem?_of_mem hy
    rcases hget j y hj with ⟨_, e⟩ | ⟨_, e⟩
    · exact .inl e
    · exact .inr (List.mem_of_getElem? e)
  exact {
    free := h.free
    room0 := h.room0
    room1 := h.room1
    len := by show ((A.ths.set i _).length : Int) ≤ _; rw [List.length_set]; exact h.len
    mask := fun y hy => by
      rcases back y hy with rfl | e
      · exact Nat.or_lt_two_pow (n := 64) (h.mask x hxm) (bitN_lt t ht)
      · exact h.mask y e
    zero := fun y hy h0 => by
      rcases back y hy with rfl | e
      · exact absurd h0 hk
      · exact h.zero y e h0
    fit := fun y hy => by
      rcases back y hy with rfl | e
      · exact h.fit x hxm
      · exact h.fit y e
    lv := fun y hy => by
      rcases back y hy with rfl | e
      · exact h.lv x hxm
      · exact h.lv y e
    va := fun y hy => by
      rcases back y hy with rfl | e
      · exact h.va x hxm
      · exact h.va y e
    uniq := fun a c y z hy hz h0 he => by
      rcases hget a y hy with ⟨e1, e2⟩ | ⟨e1, e2⟩
      · rcases hget c z hz with ⟨f1, f2⟩ | ⟨f1, f2⟩
        · rw [e1, f1]
        · subst e2
          rw [e1]
          exact h.uniq i c x z hx f2 h0 he
      · rcases hget c z hz with ⟨f1, f2⟩ | ⟨f1, f2⟩
        · subst f2
          rw [f1]
          exact h.uniq a i y x e2 hx h0 he
        · exact h.uniq a c y z e2 f2 h0 he
    lim := h.lim
    cnt := fun u hu => by
      have e := set_count (y := { x with mask := x.mask ||| bitN t }) (fun z => z.mask.testBit u) hx
      have hc := h.cnt u hu
      show upd A.cnt t (A.cnt t + 1) u = ((A.ths.set i { x with mask := x.mask ||| bitN t }).countP fun z => z.mask.testBit u : Nat)
      unfold ownN at hc
      generalize (A.ths.set i { x with mask := x.mask ||| bitN t }).countP (fun z => z.mask.testBit u) = N at *
      simp only [Nat.testBit_or] at e
      unfold upd
      by_cases eu : u = t
      · subst eu
        rw [if_pos rfl, hc]
        rw [hb, bitN, Nat.testBit_two_pow_self] at e
        simp at e
        rw [e]
        simp
      · rw [if_neg eu, hc]
        rw [bitN, Nat.testBit_two_pow_of_ne (fun e' => eu e'.symm), Bool.or_false] at e
        omega
    fresh := fun u hu => by
      have keep : ∀ id ∈ A.fresh u, 2 ≤ id ∧ ∃ y, (A.give t i x).ths[(id - 2).toNat]? = some y ∧ y.mask.testBit u = true := fun id hid => by
        obtain ⟨h1, y, h2, h3⟩ := (h.fresh u hu).2 id hid
        refine ⟨h1, ?_⟩
        show ∃ y, (A.ths.set i { x with mask := x.mask ||| bitN t })[(id - 2).toNat]? = some y ∧ _
        rw [List.getElem?_set]
        by_cases e : i = (id - 2).toNat
        · rw [if_pos e, if_pos hi]
          rw [← e, hx] at h2
          obtain rfl := Option.some.inj h2
          exact ⟨_, rfl, by simp [Nat.testBit_or, h3]⟩
        · rw [if_neg e]
          exact ⟨y, h2, h3⟩
      show (upd A.fresh t (A.fresh t ++ [(i : Int) + 2]) u).Nodup ∧ ∀ id ∈ upd A.fresh t (A.fresh t ++ [(i : Int) + 2]) u, _
      unfold upd
      by_cases eu : u = t
      · subst eu
        rw [if_pos rfl]
        refine ⟨?_, fun id hid => ?_⟩
        · rw [List.nodup_append]
          refine ⟨(h.fresh u hu).1, by simp, ?_⟩
          intro a ha c hc e
          simp at hc
          subst e hc
          obtain ⟨_, y, h2, h3⟩ := (h.fresh u hu).2 _ ha
          rw [show (((i : Int) + 2 - 2).toNat) = i by omega, hx] at h2
          obtain rfl := Option.some.inj h2
          rw [hb] at h3; cases h3
        · rcases List.mem_append.1 hid with e | e
          · exact keep id e
          · simp at e
            subst e
            refine ⟨by omega, { x with mask := x.mask ||| bitN u }, ?_, by simp [Nat.testBit_or, bitN]⟩
            show (A.ths.set i _)[_]? = _
            rw [show (((i : Int) + 2 - 2).toNat) = i by omega, List.getElem?_set, if_pos rfl, if_pos hi]
      · rw [if_neg eu]
        exact ⟨(h.fresh u hu).1, keep⟩ }
theorem spot_at {l : List Th} {q : Ky} {i : Nat} (h : spotF l q = some i) : ∃ x, l[i]? = some x ∧ x.key = q ∧ l[i]! = x := by
  unfold spotF at h
  rw [List.findIdx?_eq_some_iff_getElem] at h
  obtain ⟨hi, hp, _⟩ := h
  exact ⟨_, List.getElem?_eq_getElem hi, of_decide_eq_true hp, by rw [getElem!_pos l i hi]⟩
theorem beco_sound {A : Ar} {t : Nat} {x : Th} (h : Sound A) (ht : t < 64) (hlv : 0 ≤ x.lv ∧ x.lv ≤ 44) (hva : Fits x.va) (hx : x.mask = 0) (hk : x.k ≠ 0) (hf : x.key.Fit) : Sound (A.beco t x).1 := by
  unfold Ar.beco
  cases hs : spotF A.ths x.key with
  | some i =>
    simp only
    obtain ⟨y, h1, h2, h3⟩ := spot_at hs
    split
    · exact h
    · rename_i hb
      split
      · exact h
      · rw [h3] at hb ⊢
        exact give_sound h ht h1 (by rw [key_k h2]; exact hk) (by simpa using hb)
  | none =>
    simp only
    split
    · exact h
    · split
      · exact made_sound h
      · rename_i hr
        have hm := made_sound h
        refine give_sound (laid_sound hm hlv hva hx hk hf (made_spot hk hs) (by omega)) ht (laid_at _ _) hk (by rw [hx]; simp)
end Go.Proofs.YtgipjplifndniaaGreatDoor.A
