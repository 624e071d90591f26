/- A hand that makes squares: its purse, its empty squares. -/
import Derived.Test.YthobobgiendcfaaSqPutPure
namespace Go.Proofs.Ythobobgiendcfaa.A
open Go.RowKit Go.Maps

/-- a tenant's own squares are made of its own squares -/
def Closed (l : List Th) (u : Nat) : Prop := ∀ x ∈ l, x.k = 1 → x.mask.testBit u = true → levelF l u x.p0 = some (x.lv - 1) ∧ levelF l u x.p1 = some (x.lv - 1) ∧ levelF l u x.p2 = some (x.lv - 1) ∧ levelF l u x.p3 = some (x.lv - 1)
/-- how many things a tenant has -/
def ownN (l : List Th) (u : Nat) : Nat := l.countP fun x => x.mask.testBit u
structure Inv (A : Ar) : Prop where
  good : Good A.ths
  uniq : Uniq A.ths
  closed : ∀ u, Closed A.ths u
  cnt : ∀ u, u < 64 → A.cnt u = (ownN A.ths u : Int)

/-- what a tenant has gained: the things N -/
structure Gain (t : Nat) (A A' : Ar) (N : List Int) : Prop where
  ext : Ext A.ths A'.ths
  lim : A'.lim = A.lim
  room : A'.room = A.room
  free : A'.free = A.free
  cnt : A'.cnt = upd A.cnt t (A.cnt t + (N.length : Int))
  fresh : A'.fresh = upd A.fresh t (A.fresh t ++ N)
  bits : ∀ (j : Nat) (x' : Th), A'.ths[j]? = some x' → ∀ u, x'.mask.testBit u = true ↔ (∃ x, A.ths[j]? = some x ∧ x.mask.testBit u = true) ∨ (u = t ∧ (j : Int) + 2 ∈ N)
  nodup : N.Nodup
  news : ∀ id ∈ N, ownF A.ths t id = none
  born : ∀ j, A.ths.length ≤ j → j < A'.ths.length → (j : Int) + 2 ∈ N
  low : ∀ id ∈ N, 2 ≤ id ∧ (id - 2).toNat < A'.ths.length

theorem upd_upd {α : Type} (f : Nat → α) (t : Nat) (x y : α) : upd (upd f t x) t y = upd f t y := by
  funext u
  unfold upd
  split <;> rfl
theorem upd_self {α : Type} (f : Nat → α) (t : Nat) : upd f t (f t) = f := by
  funext u
  unfold upd
  split
  · rename_i h; rw [h]
  · rfl
theorem Ext.len {l l' : List Th} (h : Ext l l') : l.length ≤ l'.length := by
  rcases Nat.eq_zero_or_pos l.length with h0 | h0
  · omega
  · obtain ⟨x', hx', _⟩ := h (l.length - 1) _ (List.getElem?_eq_getElem (show l.length - 1 < l.length by omega))
    have := (List.getElem?_eq_some_iff.1 hx').1
    omega
theorem own_none_ext {t : Nat} {A A' : Ar} {N : List Int} (g : Gain t A A' N) {id : Int} (h : ownF A'.ths t id = none) : ownF A.ths t id = none := by
  cases e : ownF A.ths t id with
  | none => rfl
  | some x =>
    obtain ⟨x', hx', _⟩ := own_ext e g.ext
    rw [h] at hx'; cases hx'
theorem Gain.refl (t : Nat) (A : Ar) : Gain t A A [] := ⟨Ext.refl _, rfl, rfl, rfl, by simp [upd_self], by simp [upd_self], fun j x' h u => ⟨fun hb => Or.inl ⟨x', h, hb⟩, fun hb => by
  rcases hb with ⟨x, hx, hb⟩ | ⟨_, hb⟩
  · rw [h] at hx; cases hx; exact hb
  · cases hb⟩, List.nodup_nil, fun _ h => by (cases h), fun j h1 h2 => by omega, fun _ h => by (cases h)⟩
/-- a thing that is gained is own -/
theorem Gain.owns {t : Nat} {A A' : Ar} {N : List Int} (g : Gain t A A' N) {id : Int} (h : id ∈ N) : ∃ x, ownF A'.ths t id = some x := by
  obtain ⟨h2, hl⟩ := g.low id h
  have hx : A'.ths[(id - 2).toNat]? = some A'.ths[(id - 2).toNat] := List.getElem?_eq_getElem hl
  refine ⟨_, own_of h2 hx ((g.bits _ _ hx t).2 (Or.inr ⟨rfl, ?_⟩))⟩
  rw [show (((id - 2).toNat : Nat) : Int) + 2 = id by omega]
  exact h
theorem Gain.trans {t : Nat} {A B C : Ar} {N M : List Int} (g : Gain t A B N) (k : Gain t B C M) : Gain t A C (N ++ M) := by
  have hl1 := g.ext.len
  have hl2 := k.ext.len
  refine ⟨g.ext.trans k.ext, k.lim.trans g.lim, k.room.trans g.room, k.free.trans g.free, ?_, ?_, fun j x' hx' u => ?_, ?_, fun id h => ?_, fun j h1 h2 => ?_, fun id h => ?_⟩
  · rw [k.cnt, g.cnt, upd_upd, upd_same]
    congr 1
    simp; omega
  · rw [k.fresh, g.fresh, upd_upd, upd_same, List.append_assoc]
  · rw [k.bits j x' hx' u]
    constructor
    · rintro (⟨y, hy, hb⟩ | ⟨e, h⟩)
      · rcases (g.bits j y hy u).1 hb with h | ⟨e, h⟩
        · exact Or.inl h
        · exact Or.inr ⟨e, List.mem_append_left _ h⟩
      · exact Or.inr ⟨e, List.mem_append_right _ h⟩
    · rintro (⟨x, hx, hb⟩ | ⟨e, h⟩)
      · obtain ⟨y, hy, _, _, _, hm⟩ := g.ext j x hx
        exact Or.inl ⟨y, hy, hm u hb⟩
      · rcases List.mem_append.1 h with h | h
        · obtain ⟨h2, hl⟩ := g.low _ h
          have hj : j < B.ths.length := by omega
          have hy : B.ths[j]? = some B.ths[j] := List.getElem?_eq_getElem hj
          exact Or.inl ⟨_, hy, (g.bits j _ hy u).2 (Or.inr ⟨e, h⟩)⟩
        · exact Or.inr ⟨e, h⟩
  · rw [List.nodup_append]
    refine ⟨g.nodup, k.nodup, fun a ha b hb e => ?_⟩
    subst e
    obtain ⟨x, hx⟩ := g.owns ha
    rw [k.news a hb] at hx; cases hx
  · rcases List.mem_append.1 h with h | h
    · exact g.news id h
    · exact own_none_ext g (k.news id h)
  · rcases Nat.lt_or_ge j B.ths.length with h | h
    · exact List.mem_append_left _ (g.born j h1 h)
    · exact List.mem_append_right _ (k.born j h h2)
  · rcases List.mem_append.1 h with h | h
    · have := g.low id h; omega
    · exact k.low id h

theorem gain_give (A : Ar) (t i : Nat) (x : Th) (hx : A.ths[i]? = some x) (hb : x.mask.testBit t = false) : Gain t A (A.give t i x) [(i : Int) + 2] := by
  have hi : i < A.ths.length := (List.getElem?_eq_some_iff.1 hx).1
  have hget : ∀ j, (A.give t i x).ths[j]? = if i = j then some { x with mask := x.mask ||| bitN t } else A.ths[j]? := fun j => by
    show (A.ths.set i _)[j]? = _
    rw [List.getElem?_set]
    by_cases e : i = j
    · subst e; simp [hi]
    · simp [e]
  have hlen : (A.give t i x).ths.length = A.ths.length := by show (A.ths.set i _).length = _; rw [List.length_set]
  refine ⟨(give_grew A t i x hx).1.ext, rfl, rfl, rfl, rfl, rfl, fun j x' h u => ?_, by simp, fun id h => ?_, fun j h1 h2 => by omega, fun id h => ?_⟩
  · rw [hget] at h
    by_cases e : i = j
    · subst e
      rw [if_pos rfl] at h
      obtain rfl := Option.some.inj h
      show (x.mask ||| bitN t).testBit u = true ↔ _
      rw [or_bit]
      constructor
      · intro hh
        rcases Bool.or_eq_true_iff.1 hh with h1 | h1
        · exact Or.inl ⟨x, hx, h1⟩
        · exact Or.inr ⟨(of_decide_eq_true h1).symm, by simp⟩
      · rintro (⟨y, hy, h1⟩ | ⟨rfl, _⟩)
        · rw [hx] at hy; cases hy; simp [h1]
        · simp
    · rw [if_neg e] at h
      constructor
      · intro hh; exact Or.inl ⟨x', h, hh⟩
      · rintro (⟨y, hy, h1⟩ | ⟨_, h1⟩)
        · rw [h] at hy; cases hy; exact h1
        · simp at h1; omega
  · simp at h; subst h
    unfold ownF
    rw [if_pos (by omega), show ((i : Int) + 2 - 2).toNat = i by omega, filter_some hx, hb]
    rfl
  · simp at h; subst h
    rw [hlen]
    omega
theorem gain_push (A : Ar) (t : Nat) (x : Th) (hx : x.mask = 0) : Gain t A (({ A with ths := A.ths ++ [x] } : Ar).give t A.ths.length x) [(A.ths.length : Int) + 2] := by
  have h1 : (A.ths ++ [x])[A.ths.length]? = some x := by simp
  have g := gain_give ({ A with ths := A.ths ++ [x] } : Ar) t A.ths.length x h1 (by rw [hx]; simp)
  have hlen : (({ A with ths := A.ths ++ [x] } : Ar).give t A.ths.length x).ths.length = A.ths.length + 1 := by show ((A.ths ++ [x]).set _ _).length = _; rw [List.length_set]; simp
  refine ⟨(push_grew A t x hx).ext, g.lim, g.room, g.free, g.cnt, g.fresh, fun j x' h u => ?_, g.nodup, fun id h => ?_, fun j h2 h3 => ?_, fun id h => g.low id h⟩
  · rw [g.bits j x' h u]
    constructor
    · rintro (⟨y, hy, hb⟩ | h)
      · have hy' : (A.ths ++ [x])[j]? = some y := hy
        rw [List.getElem?_append] at hy'
        split at hy'
        · exact Or.inl ⟨y, hy', hb⟩
        · have : y = x := by
            rcases Nat.eq_zero_or_pos (j - A.ths.length) with h0 | h0
            · rw [h0] at hy'; simp at hy'; exact hy'.symm
            · rw [List.getElem?_eq_none (by simp; omega)] at hy'; cases hy'
          rw [this, hx] at hb; simp at hb
      · exact Or.inr h
    · rintro (⟨y, hy, hb⟩ | h)
      · refine Or.inl ⟨y, ?_, hb⟩
        show (A.ths ++ [x])[j]? = some y
        rw [List.getElem?_append_left (List.getElem?_eq_some_iff.1 hy).1]
        exact hy
      · exact Or.inr h
  · simp at h; subst h
    unfold ownF
    rw [if_pos (by omega), show ((A.ths.length : Int) + 2 - 2).toNat = A.ths.length by omega, List.getElem?_eq_none (Nat.le_refl _)]
    rfl
  · rw [hlen] at h3
    simp; omega

theorem spot_none {l : List Th} {q : Ky} (h : spotF l q = none) : ∀ x ∈ l, x.key ≠ q := by
  unfold spotF at h
  rw [List.findIdx?_eq_none_iff] at h
  intro x hx e
  have := h x hx
  simp [e] at this
theorem ownN_give (A : Ar) (t i u : Nat) (x : Th) (hx : A.ths[i]? = some x) (hb : x.mask.testBit t = false) : ownN (A.give t i x).ths u = ownN A.ths u + if u = t then 1 else 0 := by
  show (A.ths.set i _).countP _ = A.ths.countP _ + _
  generalize A.ths = l at *
  induction l generalizing i with
  | nil => simp at hx
  | cons y l ih =>
    cases i with
    | zero =>
      simp at hx; subst hx
      rw [List.set_cons_zero, List.countP_cons, List.countP_cons]
      show l.countP _ + (if (y.mask ||| bitN t).testBit u = true then 1 else 0) = _
      rw [or_bit]
      by_cases e : u = t
      · subst e
        simp [hb]
      · have : ¬ t = u := fun k => e k.symm
        simp [e, this]
    | succ i =>
      rw [List.set_cons_succ, List.countP_cons, List.countP_cons, ih i (by simpa using hx)]
      omega
theorem ownN_push (l : List Th) (x : Th) (u : Nat) (hx : x.mask = 0) : ownN (l ++ [x]) u = ownN l u := by
  unfold ownN
  rw [List.countP_append]
  simp [hx]

/-- what a join that is made makes of an arena -/
structure Joined (t : Nat) (A : Ar) (q0 q1 q2 q3 m : Int) (A' : Ar) (id : Int) : Prop where
  inv : Inv A'
  grew : Grew t A A'
  gain : ∃ N, Gain t A A' N ∧ ∀ j ∈ N, j = id
  own : ∃ y, ownF A'.ths t id = some y ∧ y.key = ⟨1, q0, q1, q2, q3⟩ ∧ y.lv = m + 1

theorem become_inv (A : Ar) (t : Nat) (q0 q1 q2 q3 m : Int) (hI : Inv A) (ht : t < 64) (h0 : levelF A.ths t q0 = some m) (h1 : levelF A.ths t q1 = some m) (h2 : levelF A.ths t q2 = some m) (h3 : levelF A.ths t q3 = some m) (hm0 : 0 ≤ m) (hm : m < 44) (hq : A.cnt t < A.lim t) :
    Joined t A q0 q1 q2 q3 m (A.join t q0 q1 q2 q3).1 (A.join t q0 q1 q2 q3).2.1 ∧ (A.join t q0 q1 q2 q3).2.2 = 0 := by
  have hM := join_made A t q0 q1 q2 q3 m hI.good h0 h1 h2 h3 hm0 hm hq
  refine ⟨?_, hM.ok⟩
  have hJ : joinE A t q0 q1 q2 q3 = (0, m) := by
    unfold joinE
    rw [h0, h1, h2, h3, joinL4, if_pos ⟨hm, rfl, rfl, rfl⟩]
  have e : A.join t q0 q1 q2 q3 = A.become t (sqTh q0 q1 q2 q3 m) := by
    unfold Ar.join
    rw [hJ]
    simp
  have clos : ∀ (A' : Ar) (N : List Int) (id : Int), Gain t A A' N → (∀ j ∈ N, j = id) → (∃ y, ownF A'.ths t id = some y ∧ y.key = ⟨1, q0, q1, q2, q3⟩ ∧ y.lv = m + 1) → ∀ u, Closed A'.ths u := by
    rintro A' N id g hN ⟨y, hy, hyk, hyl⟩ u x' hx' hk hb
    obtain ⟨j, hj⟩ := List.getElem?_of_mem hx'
    rcases (g.bits j x' hj u).1 hb with ⟨x, hx, hxb⟩ | ⟨rfl, hjn⟩
    · obtain ⟨x2, hx2, k2, l2, _, _⟩ := g.ext j x hx
      rw [hj] at hx2; cases hx2
      have := hI.closed u x (List.mem_of_getElem? hx) ((key_k k2).symm.trans hk) hxb
      obtain ⟨e0, e1, e2, e3⟩ := key_parts k2
      rw [e0, e1, e2, e3, l2]
      exact ⟨level_ext this.1 g.ext, level_ext this.2.1 g.ext, level_ext this.2.2.1 g.ext, level_ext this.2.2.2 g.ext⟩
    · have hid := hN _ hjn
      obtain ⟨_, hy1, _⟩ := own_some hy
      rw [← hid, show ((j : Int) + 2 - 2).toNat = j by omega, hj] at hy1
      obtain rfl : y = x' := (Option.some.inj hy1).symm
      have p0 : y.p0 = q0 := congrArg Ky.p0 hyk
      have p1 : y.p1 = q1 := congrArg Ky.p1 hyk
      have p2 : y.p2 = q2 := congrArg Ky.p2 hyk
      have p3 : y.p3 = q3 := congrArg Ky.p3 hyk
      rw [p0, p1, p2, p3, hyl, show m + 1 - 1 = m by omega]
      exact ⟨level_ext h0 g.ext, level_ext h1 g.ext, level_ext h2 g.ext, level_ext h3 g.ext⟩
  have own := hM.own
  have good := hM.good
  have grew := hM.grew
  rw [e] at own good grew ⊢
  have hkey : (sqTh q0 q1 q2 q3 m).key = ⟨1, q0, q1, q2, q3⟩ := rfl
  cases hs : spotF A.ths (sqTh q0 q1 q2 q3 m).key with
  | none =>
    have eb : A.become t (sqTh q0 q1 q2 q3 m) = (({ A with ths := A.ths ++ [sqTh q0 q1 q2 q3 m] } : Ar).give t A.ths.length (sqTh q0 q1 q2 q3 m), (A.ths.length : Int) + 2, 0) := by
      unfold Ar.become
      rw [hs]
      simp only
      rw [if_neg (by omega)]
    rw [eb] at own good grew ⊢
    have g := gain_push A t (sqTh q0 q1 q2 q3 m) rfl
    have hx : ({ A with ths := A.ths ++ [sqTh q0 q1 q2 q3 m] } : Ar).ths[A.ths.length]? = some (sqTh q0 q1 q2 q3 m) := by simp
    have hget : ∀ (j : Nat) (z : Th), (({ A with ths := A.ths ++ [sqTh q0 q1 q2 q3 m] } : Ar).give t A.ths.length (sqTh q0 q1 q2 q3 m)).ths[j]? = some z → (∃ z', A.ths[j]? = some z' ∧ z'.key = z.key) ∨ (j = A.ths.length ∧ z.key = ⟨1, q0, q1, q2, q3⟩) := fun j z hz => by
      have hz' : ((A.ths ++ [sqTh q0 q1 q2 q3 m]).set A.ths.length { sqTh q0 q1 q2 q3 m with mask := (sqTh q0 q1 q2 q3 m).mask ||| bitN t })[j]? = some z := hz
      rw [List.getElem?_set] at hz'
      split at hz'
      · rename_i hj
        simp only [List.length_append, List.length_cons, List.length_nil] at hz'
        rw [if_pos (by omega)] at hz'
        obtain rfl := Option.some.inj hz'
        exact Or.inr ⟨hj.symm, rfl⟩
      · rename_i hj
        have hlt : j < A.ths.length := by
          have := (List.getElem?_eq_some_iff.1 hz').1
          simp at this; omega
        rw [List.getElem?_append_left hlt] at hz'
        exact Or.inl ⟨z, hz', rfl⟩
    refine ⟨⟨good, ?_, clos _ _ _ g (by simp) own, fun u hu => ?_⟩, grew, ⟨_, g, by simp⟩, own⟩
    · intro i j a b ha hb hak hab
      rcases hget i a ha with ⟨a', ha', ka⟩ | ⟨rfl, ka⟩ <;> rcases hget j b hb with ⟨b', hb', kb⟩ | ⟨rfl, kb⟩
      · exact hI.uniq i j a' b' ha' hb' (by rw [key_k ka]; exact hak) (by rw [ka, kb, hab])
      · exact absurd (by rw [ka, hab, kb, hkey]) (spot_none hs a' (List.mem_of_getElem? ha'))
      · exact absurd (by rw [kb, ← hab, ka, hkey]) (spot_none hs b' (List.mem_of_getElem? hb'))
      · rfl
    · rw [g.cnt, ownN_give _ t _ u _ hx (by simp [sqTh])]
      show upd A.cnt t _ u = ((ownN (A.ths ++ [_]) u + _ : Nat) : Int)
      rw [ownN_push _ _ _ rfl]
      by_cases eu : u = t
      · subst eu
        rw [upd_same, hI.cnt u hu]; simp
      · rw [upd_other _ _ eu, hI.cnt u hu]; simp [eu]
  | some i =>
    obtain ⟨hi, hik⟩ := spot_lt hs
    have hy : A.ths[i]? = some A.ths[i]! := by rw [getElem!_pos A.ths i hi]; exact List.getElem?_eq_getElem hi
    cases ho : (A.ths[i]!).mask.testBit t with
    | true =>
      have eb : A.become t (sqTh q0 q1 q2 q3 m) = (A, (i : Int) + 2, 0) := by
        unfold Ar.become
        rw [hs]
        simp only [ho, if_true]
      rw [eb] at own good grew ⊢
      exact ⟨hI, grew, ⟨[], Gain.refl t A, by simp⟩, own⟩
    | false =>
      have eb : A.become t (sqTh q0 q1 q2 q3 m) = (A.give t i A.ths[i]!, (i : Int) + 2, 0) := by
        unfold Ar.become
        rw [hs]
        simp only [ho, Bool.false_eq_true, if_false]
        rw [if_neg (by omega)]
      rw [eb] at own good grew ⊢
      have g := gain_give A t i _ hy ho
      have hfrom := give_from A t i _ hy
      have hkeys : ∀ (j : Nat) (z : Th), (A.give t i A.ths[i]!).ths[j]? = some z → ∃ z', A.ths[j]? = some z' ∧ z'.key = z.key := fun j z hz => by
        have hz' : (A.ths.set i { A.ths[i]! with mask := (A.ths[i]!).mask ||| bitN t })[j]? = some z := hz
        rw [List.getElem?_set] at hz'
        split at hz'
        · rename_i hj
          subst hj
          obtain rfl := Option.some.inj hz'
          exact ⟨_, hy, rfl⟩
        · exact ⟨z, hz', rfl⟩
      refine ⟨⟨good, ?_, clos _ _ _ g (by simp) own, fun u hu => ?_⟩, grew, ⟨_, g, by simp⟩, own⟩
      · intro a b x y hx hy hk he
        obtain ⟨x', hx', kx⟩ := hkeys a x hx
        obtain ⟨y', hy', ky⟩ := hkeys b y hy
        exact hI.uniq a b x' y' hx' hy' (by rw [key_k kx]; exact hk) (by rw [kx, ky, he])
      · rw [g.cnt, ownN_give A t i u _ hy ho]
        by_cases eu : u = t
        · subst eu
          rw [upd_same, hI.cnt u hu]; simp
        · rw [upd_other _ _ eu, hI.cnt u hu]; simp [eu]
end Go.Proofs.Ythobobgiendcfaa.A

namespace Go.Proofs.Ythobobgiendcfaa.A
open Go.RowKit Go.Maps

/-- room for k joins more, for a tenant -/
structure Pur (A : Ar) (t k nn : Nat) : Prop where
  bud : Bud A k
  quo : A.cnt t + (k : Int) ≤ A.lim t
  nn : nn + k < 900000000
theorem Pur.less {A : Ar} {t k k' nn : Nat} (h : Pur A t k nn) (hk : k' ≤ k) : Pur A t k' nn := ⟨h.bud.less hk, by have := h.quo; omega, by have := h.nn; omega⟩
theorem Pur.step {A A' : Ar} {t k nn : Nat} (h : Pur A t (k + 1) nn) (g : Grew t A A') (ht : t < 64) : Pur A' t k (nn + 1) :=
  ⟨h.bud.step g ht, by have := h.quo; have := g.cnt t; rw [g.lim]; omega, by have := h.nn; omega⟩

/-- what a square is made of -/
inductive Sub (l : List Th) : Int → Int → Prop
  | self (id : Int) : Sub l id id
  | p0 {id j : Int} : 2 ≤ id → Sub l (thAt l id).p0 j → Sub l id j
  | p1 {id j : Int} : 2 ≤ id → Sub l (thAt l id).p1 j → Sub l id j
  | p2 {id j : Int} : 2 ≤ id → Sub l (thAt l id).p2 j → Sub l id j
  | p3 {id j : Int} : 2 ≤ id → Sub l (thAt l id).p3 j → Sub l id j

/-- what one join makes, with its cells -/
structure Joins (t : Nat) (A : Ar) (q0 q1 q2 q3 : Int) (m : Nat) (A' : Ar) (id : Int) (N : List Int) : Prop where
  inv : Inv A'
  gain : Gain t A A' N
  only : ∀ j ∈ N, j = id
  lv : levelF A'.ths t id = some ((m + 1 : Nat) : Int)
  kids : (thAt A'.ths id).p0 = q0 ∧ (thAt A'.ths id).p1 = q1 ∧ (thAt A'.ths id).p2 = q2 ∧ (thAt A'.ths id).p3 = q3
  two : 2 ≤ id
  cells : cellsF A'.ths (m + 1) id = cellsF A.ths m q0 ++ shiftL ((2 ^ m : Nat) : Int) 0 (cellsF A.ths m q1) ++ shiftL 0 ((2 ^ m : Nat) : Int) (cellsF A.ths m q2) ++ shiftL ((2 ^ m : Nat) : Int) ((2 ^ m : Nat) : Int) (cellsF A.ths m q3)
  sq : ∃ y, ownF A'.ths t id = some y ∧ y.key = ⟨1, q0, q1, q2, q3⟩ ∧ y.lv = ((m + 1 : Nat) : Int)

theorem joins_any (A : Ar) (t k nn : Nat) (q0 q1 q2 q3 : Int) (m : Nat) (hI : Inv A) (ht : t < 64) (hP : Pur A t (k + 1) nn) (h0 : levelF A.ths t q0 = some (m : Int)) (h1 : levelF A.ths t q1 = some (m : Int)) (h2 : levelF A.ths t q2 = some (m : Int)) (h3 : levelF A.ths t q3 = some (m : Int)) (hm : m < 44) :
    ∃ N, Joins t A q0 q1 q2 q3 m (A.join t q0 q1 q2 q3).1 (A.join t q0 q1 q2 q3).2.1 N ∧ (A.join t q0 q1 q2 q3).2.2 = 0 ∧ Pur (A.join t q0 q1 q2 q3).1 t k (nn + 1) := by
  have hq := hP.quo
  obtain ⟨hJ, h0e⟩ := become_inv A t q0 q1 q2 q3 m hI ht h0 h1 h2 h3 (by omega) (by omega) (by omega)
  obtain ⟨N, hN, hone⟩ := hJ.gain
  obtain ⟨y, hy, hk, hl⟩ := hJ.own
  obtain ⟨h2i, hya, _⟩ := own_some hy
  have k0 : y.p0 = q0 := congrArg Ky.p0 hk
  have k1 : y.p1 = q1 := congrArg Ky.p1 hk
  have k2 : y.p2 = q2 := congrArg Ky.p2 hk
  have k3 : y.p3 = q3 := congrArg Ky.p3 hk
  have hth := thAt_eq hya
  refine ⟨N, ⟨hJ.inv, hN, hone, ?_, ?_, h2i, ?_, ⟨y, hy, hk, by rw [hl]; rfl⟩⟩, h0e, hP.step hJ.grew ht⟩
  · rw [level_of hy (congrArg Ky.k hk), hl]; rfl
  · rw [hth]; exact ⟨k0, k1, k2, k3⟩
  · simp only [cellsF]
    rw [hth, k0, k1, k2, k3, cells_ext hI.good hN.ext m _ (glevel_of h0), cells_ext hI.good hN.ext m _ (glevel_of h1), cells_ext hI.good hN.ext m _ (glevel_of h2), cells_ext hI.good hN.ext m _ (glevel_of h3)]

theorem Sub.ext {l l' : List Th} (he : Ext l l') : ∀ {id j : Int}, Sub l id j → (∀ n : Nat, ∀ i, glevel l i = some (n : Int) → True) → (∃ n : Nat, glevel l id = some (n : Int)) → Good l → Sub l' id j := by
  intro id j h
  induction h with
  | self id => intro _ _ _; exact Sub.self id
  | @p0 id j h2 _ ih =>
    rintro hh ⟨n, hn⟩ hG
    cases n with
    | zero => rcases glevel_zero hG hn with rfl | rfl <;> omega
    | succ n =>
      obtain ⟨x, hx, _, _, _, g0, g1, g2, g3⟩ := thing_of hG hn
      obtain ⟨x', hx', hk, _⟩ := he _ _ hx
      have e := (key_parts hk).1
      refine Sub.p0 h2 ?_
      rw [thAt_eq hx', e]
      rw [thAt_eq hx] at ih
      exact ih hh ⟨n, g0⟩ hG
  | @p1 id j h2 _ ih =>
    rintro hh ⟨n, hn⟩ hG
    cases n with
    | zero => rcases glevel_zero hG hn with rfl | rfl <;> omega
    | succ n =>
      obtain ⟨x, hx, _, _, _, g0, g1, g2, g3⟩ := thing_of hG hn
      obtain ⟨x', hx', hk, _⟩ := he _ _ hx
      have e := (key_parts hk).2.1
      refine Sub.p1 h2 ?_
      rw [thAt_eq hx', e]
      rw [thAt_eq hx] at ih
      exact ih hh ⟨n, g1⟩ hG
  | @p2 id j h2 _ ih =>
    rintro hh ⟨n, hn⟩ hG
    cases n with
    | zero => rcases glevel_zero hG hn with rfl | rfl <;> omega
    | succ n =>
      obtain ⟨x, hx, _, _, _, g0, g1, g2, g3⟩ := thing_of hG hn
      obtain ⟨x', hx', hk, _⟩ := he _ _ hx
      have e := (key_parts hk).2.2.1
      refine Sub.p2 h2 ?_
      rw [thAt_eq hx', e]
      rw [thAt_eq hx] at ih
      exact ih hh ⟨n, g2⟩ hG
  | @p3 id j h2 _ ih =>
    rintro hh ⟨n, hn⟩ hG
    cases n with
    | zero => rcases glevel_zero hG hn with rfl | rfl <;> omega
    | succ n =>
      obtain ⟨x, hx, _, _, _, g0, g1, g2, g3⟩ := thing_of hG hn
      obtain ⟨x', hx', hk, _⟩ := he _ _ hx
      have e := (key_parts hk).2.2.2
      refine Sub.p3 h2 ?_
      rw [thAt_eq hx', e]
      rw [thAt_eq hx] at ih
      exact ih hh ⟨n, g3⟩ hG
theorem Sub.later {l l' : List Th} {id j : Int} {n : Nat} (h : Sub l id j) (he : Ext l l') (hG : Good l) (hn : glevel l id = some (n : Int)) : Sub l' id j := h.ext he (fun _ _ _ => trivial) ⟨n, hn⟩ hG

/-- a hand between two of its steps, in plain words -/
structure PS (t : Nat) (A : Ar) (E : List Int) (k nn : Nat) : Prop where
  inv : Inv A
  emp : Emp A.ths t E
  len : E.length ≤ 45
  pur : Pur A t k nn
theorem PS.pos {t : Nat} {A : Ar} {E : List Int} {k nn : Nat} (h : PS t A E k nn) : 1 ≤ E.length := (List.getElem?_eq_some_iff.1 h.emp.zero).1
theorem PS.less {t : Nat} {A : Ar} {E : List Int} {k k' nn : Nat} (h : PS t A E k nn) (hk : k' ≤ k) : PS t A E k' nn := ⟨h.inv, h.emp, h.len, h.pur.less hk⟩
theorem emp_ext {l l' : List Th} {t : Nat} {E : List Int} (h : Emp l t E) (he : Ext l l') : Emp l' t E := by
  refine ⟨h.zero, fun i e hi => level_ext (h.lv i e hi) he, fun i e e' h1 h2 => ?_⟩
  obtain ⟨y, hy, hk⟩ := h.parts i e e' h1 h2
  obtain ⟨y', hy', hk', _⟩ := own_ext hy he
  exact ⟨y', hy', hk'.trans hk⟩
/-- nothing lives in an empty square -/
theorem emp_cells {l : List Th} {t : Nat} {E : List Int} (h : Emp l t E) : ∀ (n : Nat) (e : Int), E[n]? = some e → cellsF l n e = []
  | 0, e, he => by
    rw [h.zero] at he
    obtain rfl := Option.some.inj he
    rfl
  | n + 1, e, he => by
    have hlt := (List.getElem?_eq_some_iff.1 he).1
    have he0 : E[n]? = some E[n] := List.getElem?_eq_getElem (by omega)
    obtain ⟨y, hy, hk⟩ := h.parts n _ e he0 he
    obtain ⟨_, hya, _⟩ := own_some hy
    have hth := thAt_eq hya
    have k0 : y.p0 = E[n] := congrArg Ky.p0 hk
    have k1 : y.p1 = E[n] := congrArg Ky.p1 hk
    have k2 : y.p2 = E[n] := congrArg Ky.p2 hk
    have k3 : y.p3 = E[n] := congrArg Ky.p3 hk
    simp only [cellsF]
    rw [hth, k0, k1, k2, k3, emp_cells h n _ he0]
    rfl
/-- smaller empty squares are in greater ones -/
theorem emp_sub {l : List Th} {t : Nat} {E : List Int} (h : Emp l t E) {a : Int} {i : Nat} (ha : E[i]? = some a) : ∀ (d : Nat) (b : Int), E[i + d]? = some b → Sub l b a
  | 0, b, hb => by
    rw [Nat.add_zero, ha] at hb
    obtain rfl := Option.some.inj hb
    exact Sub.self _
  | d + 1, b, hb => by
    have hlt := (List.getElem?_eq_some_iff.1 hb).1
    have he0 : E[i + d]? = some E[i + d] := List.getElem?_eq_getElem (by omega)
    obtain ⟨y, hy, hk⟩ := h.parts (i + d) _ b he0 hb
    obtain ⟨h2, hya, _⟩ := own_some hy
    have k0 : y.p0 = E[i + d] := congrArg Ky.p0 hk
    refine Sub.p0 h2 ?_
    rw [thAt_eq hya, k0]
    exact emp_sub h ha d _ he0

/-- one empty square more -/
theorem ps_empty {t : Nat} {A : Ar} {E : List Int} {k nn : Nat} (h : PS t A E (k + 1) nn) (ht : t < 64) (hl : E.length ≤ 44) :
    StepOk t (A, E) ∧ PS t (emptyS t (A, E)).1 (emptyS t (A, E)).2 k (nn + 1) ∧ ∃ N, Gain t A (emptyS t (A, E)).1 N ∧ ∀ j ∈ N, (emptyS t (A, E)).2[E.length]? = some j := by
  have hq := h.pur.quo
  obtain ⟨m, hm, hM, hE⟩ := emp_step h.emp h.inv.good (by omega) (by omega)
  obtain ⟨m', hm', hlast⟩ := h.emp.last
  obtain rfl : m = m' := by omega
  have hlv := h.emp.lv m _ hlast
  obtain ⟨N, hJ, h0, hP⟩ := joins_any A t k nn _ _ _ _ m h.inv ht h.pur hlv hlv hlv hlv (by omega)
  have hf := level_fits hlv h.pur.bud.young.few
  refine ⟨⟨h.pur.bud.young, ⟨by show _ ≤ E.getLast!; omega, by show E.getLast! ≤ _; omega⟩, h0, fun l hl' => by rw [show levelF (A, E).1.ths t (A, E).2.getLast! = levelF A.ths t E.getLast! from rfl, hlv] at hl'; cases hl'; omega⟩, ⟨hJ.inv, hE, by show (E ++ [_]).length ≤ 45; simp; omega, hP⟩, N, hJ.gain, fun j hj => ?_⟩
  rw [hJ.only j hj]
  show (E ++ [_])[E.length]? = _
  simp
theorem ps_empties {t : Nat} {A : Ar} {E : List Int} {k nn : Nat} (ht : t < 64) (d : Nat) (h : PS t A E (k + d) nn) (hl : E.length + d ≤ 45) : (∀ i, i < d → StepOk t (emptyN t (A, E) i)) ∧ PS t (emptyN t (A, E) d).1 (emptyN t (A, E) d).2 k (nn + d) ∧ (∃ N, Gain t A (emptyN t (A, E) d).1 N ∧ ∀ j ∈ N, ∃ i : Nat, i < E.length + d ∧ (emptyN t (A, E) d).2[i]? = some j) ∧ ∀ (i : Nat) (e : Int), E[i]? = some e → (emptyN t (A, E) d).2[i]? = some e := by
  induction d generalizing k with
  | zero => exact ⟨fun i hi => by omega, h, ⟨[], Gain.refl t A, fun j hj => by cases hj⟩, fun i e he => he⟩
  | succ d ih =>
    obtain ⟨i1, i2, ⟨N, g, gN⟩, i4⟩ := ih (k := k + 1) (by rw [show k + 1 + d = k + (d + 1) by omega]; exact h) (by omega)
    have hlen := emptyN_length t (A, E) d
    obtain ⟨s1, s2, M, gm, gM⟩ := ps_empty (A := (emptyN t (A, E) d).1) (E := (emptyN t (A, E) d).2) (k := k) (nn := nn + d) i2 ht (by rw [hlen]; show E.length + d ≤ 44; omega)
    have e1 : emptyN t (A, E) (d + 1) = emptyS t ((emptyN t (A, E) d).1, (emptyN t (A, E) d).2) := rfl
    have keep : ∀ (i : Nat) (e : Int), (emptyN t (A, E) d).2[i]? = some e → (emptyN t (A, E) (d + 1)).2[i]? = some e := fun i e he => by
      rw [e1]
      show ((emptyN t (A, E) d).2 ++ [_])[i]? = some e
      rw [List.getElem?_append_left (List.getElem?_eq_some_iff.1 he).1]
      exact he
    refine ⟨fun i hi => ?_, ?_, ⟨N ++ M, ?_, fun j hj => ?_⟩, fun i e he => keep i e (i4 i e he)⟩
    · rcases Nat.lt_or_ge i d with h1 | h1
      · exact i1 i h1
      · obtain rfl : i = d := by omega
        exact s1
    · rw [e1]; exact s2
    · rw [e1]; exact g.trans gm
    · rcases List.mem_append.1 hj with hj | hj
      · obtain ⟨i, hi, he⟩ := gN j hj
        exact ⟨i, by omega, keep i j he⟩
      · refine ⟨E.length + d, by omega, ?_⟩
        rw [e1]
        have := gM j hj
        rw [hlen] at this
        exact this
end Go.Proofs.Ythobobgiendcfaa.A
