/- Joins that are made: room enough, and what is made. -/
import Derived.Test.YthobobgiendcfaaArEmpty
namespace Go.Proofs.Ythobobgiendcfaa.A
open Go.RowKit Go.Maps

/-- an arena's things have only become more -/
def Ext (l l' : List Th) : Prop := ∀ (j : Nat) (x : Th), l[j]? = some x → ∃ x' : Th, l'[j]? = some x' ∧ x'.key = x.key ∧ x'.lv = x.lv ∧ x'.va = x.va ∧ ∀ u, x.mask.testBit u = true → x'.mask.testBit u = true
theorem Ext.refl (l : List Th) : Ext l l := fun _ x h => ⟨x, h, rfl, rfl, rfl, fun _ h => h⟩
theorem Ext.trans {l l' l'' : List Th} (h : Ext l l') (k : Ext l' l'') : Ext l l'' := fun j x hx => by
  obtain ⟨x', h1, h2, h3, h4, h5⟩ := h j x hx
  obtain ⟨x'', k1, k2, k3, k4, k5⟩ := k j x' h1
  exact ⟨x'', k1, k2.trans h2, k3.trans h3, k4.trans h4, fun u hu => k5 u (h5 u hu)⟩

theorem own_some {l : List Th} {t : Nat} {id : Int} {x : Th} (h : ownF l t id = some x) : 2 ≤ id ∧ l[(id - 2).toNat]? = some x ∧ x.mask.testBit t = true := by
  unfold ownF at h
  split at h
  · rename_i h2
    rw [Option.filter_eq_some_iff] at h
    exact ⟨h2, h.1, h.2⟩
  · cases h
theorem own_of {l : List Th} {t : Nat} {id : Int} {x : Th} (h2 : 2 ≤ id) (h : l[(id - 2).toNat]? = some x) (hm : x.mask.testBit t = true) : ownF l t id = some x := by
  unfold ownF
  rw [if_pos h2, Option.filter_eq_some_iff]
  exact ⟨h, hm⟩
theorem own_ext {l l' : List Th} {t : Nat} {id : Int} {x : Th} (h : ownF l t id = some x) (he : Ext l l') : ∃ x', ownF l' t id = some x' ∧ x'.key = x.key ∧ x'.lv = x.lv ∧ x'.va = x.va := by
  obtain ⟨h2, h3, h4⟩ := own_some h
  obtain ⟨x', e1, e2, e3, e4, e5⟩ := he _ _ h3
  exact ⟨x', own_of h2 e1 (e5 t h4), e2, e3, e4⟩
theorem level_some {l : List Th} {t : Nat} {id m : Int} (h : levelF l t id = some m) : (id = 0 ∨ id = 1) ∧ m = 0 ∨ ∃ x, ownF l t id = some x ∧ x.k = 1 ∧ x.lv = m := by
  unfold levelF at h
  split at h
  · rename_i h0
    exact Or.inl ⟨h0, by cases h; rfl⟩
  · cases ho : ownF l t id with
    | none => rw [ho] at h; cases h
    | some x =>
      rw [ho] at h
      simp only at h
      split at h
      · rename_i hk
        exact Or.inr ⟨x, rfl, hk, by cases h; rfl⟩
      · cases h
theorem level_of {l : List Th} {t : Nat} {id : Int} {x : Th} (h : ownF l t id = some x) (hk : x.k = 1) : levelF l t id = some x.lv := by
  obtain ⟨h2, _⟩ := own_some h
  unfold levelF
  rw [if_neg (by omega), h]
  simp only
  rw [if_pos hk]
theorem key_k {x y : Th} (h : x.key = y.key) : x.k = y.k := congrArg Ky.k h
theorem level_ext {l l' : List Th} {t : Nat} {id m : Int} (h : levelF l t id = some m) (he : Ext l l') : levelF l' t id = some m := by
  rcases level_some h with ⟨h0, rfl⟩ | ⟨x, h1, h2, h3⟩
  · unfold levelF; rw [if_pos h0]
  · obtain ⟨x', e1, e2, e3, _⟩ := own_ext h1 he
    rw [level_of e1 ((key_k e2).trans h2), e3, h3]
theorem level_fits {l : List Th} {t : Nat} {id m : Int} (h : levelF l t id = some m) (hl : l.length < 1000000) : 0 ≤ id ∧ id < 1000002 := by
  rcases level_some h with ⟨h0, _⟩ | ⟨x, h1, _⟩
  · omega
  · obtain ⟨h2, h3, _⟩ := own_some h1
    have := (List.getElem?_eq_some_iff.1 h3).1
    omega

/-- a square's level, whosever it is -/
def glevel (l : List Th) (id : Int) : Option Int := if id = 0 ∨ id = 1 then some 0 else if 2 ≤ id then (match l[(id - 2).toNat]? with | some x => if x.k = 1 then some x.lv else none | none => none) else none
theorem glevel_of {l : List Th} {t : Nat} {id m : Int} (h : levelF l t id = some m) : glevel l id = some m := by
  rcases level_some h with ⟨h0, rfl⟩ | ⟨x, h1, h2, h3⟩
  · unfold glevel; rw [if_pos h0]
  · obtain ⟨g2, g3, _⟩ := own_some h1
    unfold glevel
    rw [if_neg (by omega), if_pos g2, g3]
    simp only
    rw [if_pos h2, h3]
theorem glevel_ext {l l' : List Th} {id m : Int} (h : glevel l id = some m) (he : Ext l l') : glevel l' id = some m := by
  unfold glevel at *
  split at h
  · rename_i h0; rw [if_pos h0]; exact h
  · rename_i h0
    rw [if_neg h0]
    split at h
    · rename_i h2
      rw [if_pos h2]
      cases hx : l[(id - 2).toNat]? with
      | none => rw [hx] at h; cases h
      | some x =>
        rw [hx] at h
        obtain ⟨x', e1, e2, e3, _⟩ := he _ _ hx
        rw [e1]
        simp only at h ⊢
        rw [key_k e2, e3]
        exact h
    · cases h

/-- a square's level is one more than its quarters' -/
structure Good (l : List Th) : Prop where
  lv : ∀ x ∈ l, x.k = 1 → 1 ≤ x.lv ∧ x.lv ≤ 44 ∧ glevel l x.p0 = some (x.lv - 1) ∧ glevel l x.p1 = some (x.lv - 1) ∧ glevel l x.p2 = some (x.lv - 1) ∧ glevel l x.p3 = some (x.lv - 1)
theorem Good.nil : Good [] := ⟨fun _ h => by cases h⟩

/-- what one join makes more -/
structure Grew (t : Nat) (A A' : Ar) : Prop where
  ext : Ext A.ths A'.ths
  len : A'.ths.length ≤ A.ths.length + 1
  lim : A'.lim = A.lim
  room : A'.room = A.room
  free : A'.free = A.free
  cnt : ∀ u, A.cnt u ≤ A'.cnt u ∧ A'.cnt u ≤ A.cnt u + 1
  fresh : ∀ u, (A'.fresh u).length ≤ (A.fresh u).length + 1
  mask : t < 64 → (∀ x ∈ A.ths, x.mask < 18446744073709551616) → ∀ x ∈ A'.ths, x.mask < 18446744073709551616
  other : ∀ u, u ≠ t → ∀ x' ∈ A'.ths, x'.mask.testBit u = true → ∃ x ∈ A.ths, x.mask.testBit u = true
theorem Grew.refl (t : Nat) (A : Ar) : Grew t A A := ⟨Ext.refl _, by omega, rfl, rfl, rfl, fun _ => by omega, fun _ => by omega, fun _ h => h, fun _ _ x hx h => ⟨x, hx, h⟩⟩

theorem or_lt (m t : Nat) (hm : m < 18446744073709551616) (ht : t < 64) : m ||| bitN t < 18446744073709551616 := by
  have h1 := bitN_lt t ht
  have : m ||| bitN t < 2 ^ 64 := Nat.or_lt_two_pow (by simpa using hm) (by simpa using h1)
  simpa using this
theorem or_bit (m t u : Nat) : (m ||| bitN t).testBit u = (m.testBit u || decide (t = u)) := by
  unfold bitN
  rw [Nat.testBit_or, Nat.testBit_two_pow]

theorem give_grew (A : Ar) (t i : Nat) (x : Th) (hx : A.ths[i]? = some x) : Grew t A (A.give t i x) ∧ (A.give t i x).ths.length = A.ths.length := by
  have hi : i < A.ths.length := (List.getElem?_eq_some_iff.1 hx).1
  have hget : ∀ j, (A.ths.set i { x with mask := x.mask ||| bitN t })[j]? = if i = j then some { x with mask := x.mask ||| bitN t } else A.ths[j]? := fun j => by
    rw [List.getElem?_set]
    by_cases e : i = j
    · subst e; simp [hi]
    · simp [e]
  refine ⟨⟨fun j y hy => ?_, ?_, rfl, rfl, rfl, fun u => ?_, fun u => ?_, fun ht hm y hy => ?_, fun u hu y hy hb => ?_⟩, ?_⟩
  · show ∃ x', (A.ths.set i _)[j]? = _ ∧ _
    rw [hget]
    by_cases e : i = j
    · subst e
      rw [hx] at hy; cases hy
      rw [if_pos rfl]
      exact ⟨_, rfl, rfl, rfl, rfl, fun u hu => by show (x.mask ||| bitN t).testBit u = true; rw [or_bit, hu]; rfl⟩
    · rw [if_neg e]
      exact ⟨y, hy, rfl, rfl, rfl, fun _ h => h⟩
  · show (A.ths.set i _).length ≤ _
    rw [List.length_set]; omega
  · show A.cnt u ≤ upd A.cnt t (A.cnt t + 1) u ∧ upd A.cnt t (A.cnt t + 1) u ≤ _
    by_cases e : u = t
    · subst e; rw [upd_same]; omega
    · rw [upd_other _ _ e]; omega
  · show (upd A.fresh t (A.fresh t ++ [(i : Int) + 2]) u).length ≤ _
    by_cases e : u = t
    · subst e; rw [upd_same]; simp
    · rw [upd_other _ _ e]; omega
  · have hy' : y ∈ A.ths.set i { x with mask := x.mask ||| bitN t } := hy
    rcases List.mem_or_eq_of_mem_set hy' with h | h
    · exact hm y h
    · rw [h]; exact or_lt _ _ (hm x (List.mem_of_getElem? hx)) ht
  · have hy' : y ∈ A.ths.set i { x with mask := x.mask ||| bitN t } := hy
    rcases List.mem_or_eq_of_mem_set hy' with h | h
    · exact ⟨y, h, hb⟩
    · rw [h] at hb
      refine ⟨x, List.mem_of_getElem? hx, ?_⟩
      have : (x.mask ||| bitN t).testBit u = true := hb
      rw [or_bit] at this
      have hne : ¬ t = u := fun e => hu e.symm
      simpa [hne] using this
  · show (A.ths.set i _).length = _
    rw [List.length_set]

theorem push_grew (A : Ar) (t : Nat) (x : Th) (hx : x.mask = 0) : Grew t A (({ A with ths := A.ths ++ [x] } : Ar).give t A.ths.length x) := by
  have h1 : (A.ths ++ [x])[A.ths.length]? = some x := by simp
  obtain ⟨g, gl⟩ := give_grew ({ A with ths := A.ths ++ [x] } : Ar) t A.ths.length x h1
  refine ⟨Ext.trans (fun j y hy => ?_) g.ext, ?_, g.lim, g.room, g.free, g.cnt, g.fresh, fun ht hm => g.mask ht fun y hy => ?_, fun u hu y hy hb => ?_⟩
  · refine ⟨y, ?_, rfl, rfl, rfl, fun _ h => h⟩
    show (A.ths ++ [x])[j]? = some y
    rw [List.getElem?_append_left (List.getElem?_eq_some_iff.1 hy).1]
    exact hy
  · rw [gl]; simp
  · have hy' : y ∈ A.ths ++ [x] := hy
    rw [List.mem_append] at hy'
    rcases hy' with h | h
    · exact hm y h
    · simp at h; rw [h, hx]; omega
  · obtain ⟨z, hz, hzb⟩ := g.other u hu y hy hb
    have hz' : z ∈ A.ths ++ [x] := hz
    rw [List.mem_append] at hz'
    rcases hz' with h | h
    · exact ⟨z, h, hzb⟩
    · simp at h; rw [h, hx] at hzb; simp at hzb

theorem become_grew (A : Ar) (t : Nat) (x : Th) (hx : x.mask = 0) : Grew t A (A.become t x).1 := by
  unfold Ar.become
  cases hs : spotF A.ths x.key with
  | none =>
    simp only
    split
    · exact Grew.refl t A
    · exact push_grew A t x hx
  | some i =>
    obtain ⟨hi, _⟩ := spot_lt hs
    simp only
    split
    · exact Grew.refl t A
    · split
      · exact Grew.refl t A
      · exact (give_grew A t i _ (by rw [getElem!_pos A.ths i hi]; exact List.getElem?_eq_getElem hi)).1
theorem join_grew (A : Ar) (t : Nat) (q0 q1 q2 q3 : Int) : Grew t A (A.join t q0 q1 q2 q3).1 := by
  unfold Ar.join
  split
  · exact Grew.refl t A
  · exact become_grew A t _ rfl
end Go.Proofs.Ythobobgiendcfaa.A

namespace Go.Proofs.Ythobobgiendcfaa.A
open Go.RowKit Go.Maps

/-- room for k joins more -/
structure Bud (A : Ar) (k : Nat) : Prop where
  free : A.free = []
  mask : ∀ z ∈ A.ths, z.mask < 18446744073709551616
  few : A.ths.length + k < 1000000
  room : (A.ths.length : Int) + k < A.room
  cnt : ∀ t, t < 64 → 0 ≤ A.cnt t ∧ A.cnt t + k < 4611686018427387904
  fresh : ∀ t, t < 64 → (A.fresh t).length + k < 10000000
theorem Bud.young {A : Ar} {k : Nat} (h : Bud A k) : Young A := ⟨h.free, h.mask, by have := h.few; omega, by have := h.room; omega, fun t ht => by have := h.cnt t ht; omega, fun t ht => by have := h.fresh t ht; omega⟩
theorem Bud.step {t : Nat} {A A' : Ar} {k : Nat} (h : Bud A (k + 1)) (g : Grew t A A') (ht : t < 64) : Bud A' k := by
  have h1 := g.len
  have h2 := h.few
  have h3 := h.room
  refine ⟨g.free.trans h.free, g.mask ht h.mask, by omega, by rw [g.room]; omega, fun u hu => ?_, fun u hu => ?_⟩
  · have := h.cnt u hu; have := g.cnt u; omega
  · have := h.fresh u hu; have := g.fresh u; omega
theorem Bud.less {A : Ar} {k k' : Nat} (h : Bud A k) (hk : k' ≤ k) : Bud A k' :=
  ⟨h.free, h.mask, by have := h.few; omega, by have := h.room; omega, fun t ht => by have := h.cnt t ht; omega, fun t ht => by have := h.fresh t ht; omega⟩

theorem Good.ext {l l' : List Th} (h : Good l) (he : Ext l l') (hb : ∀ x' ∈ l', (∃ x ∈ l, x'.key = x.key ∧ x'.lv = x.lv) ∨ (1 ≤ x'.lv ∧ x'.lv ≤ 44 ∧ glevel l x'.p0 = some (x'.lv - 1) ∧ glevel l x'.p1 = some (x'.lv - 1) ∧ glevel l x'.p2 = some (x'.lv - 1) ∧ glevel l x'.p3 = some (x'.lv - 1))) : Good l' := by
  refine ⟨fun x' hx' hk => ?_⟩
  have key : 1 ≤ x'.lv ∧ x'.lv ≤ 44 ∧ glevel l x'.p0 = some (x'.lv - 1) ∧ glevel l x'.p1 = some (x'.lv - 1) ∧ glevel l x'.p2 = some (x'.lv - 1) ∧ glevel l x'.p3 = some (x'.lv - 1) := by
    rcases hb x' hx' with ⟨x, hx, e1, e2⟩ | h1
    · have k0 : x'.p0 = x.p0 := congrArg Ky.p0 e1
      have k1 : x'.p1 = x.p1 := congrArg Ky.p1 e1
      have k2 : x'.p2 = x.p2 := congrArg Ky.p2 e1
      have k3 : x'.p3 = x.p3 := congrArg Ky.p3 e1
      have := h.lv x hx ((key_k e1).symm.trans hk)
      rw [k0, k1, k2, k3, e2]
      exact this
    · exact h1
  obtain ⟨a, b, c, d, e, f⟩ := key
  exact ⟨a, b, glevel_ext c he, glevel_ext d he, glevel_ext e he, glevel_ext f he⟩

/-- what a join that is made makes -/
structure Made (t : Nat) (A : Ar) (q0 q1 q2 q3 m : Int) (R : Ar × Int × Int) : Prop where
  ok : R.2.2 = 0
  grew : Grew t A R.1
  good : Good R.1.ths
  own : ∃ y, ownF R.1.ths t R.2.1 = some y ∧ y.key = ⟨1, q0, q1, q2, q3⟩ ∧ y.lv = m + 1

theorem give_own (A : Ar) (t i : Nat) (x : Th) (hx : A.ths[i]? = some x) : ownF (A.give t i x).ths t ((i : Int) + 2) = some { x with mask := x.mask ||| bitN t } := by
  have hi : i < A.ths.length := (List.getElem?_eq_some_iff.1 hx).1
  refine own_of (by omega) ?_ ?_
  · show (A.ths.set i _)[((i : Int) + 2 - 2).toNat]? = _
    rw [show ((i : Int) + 2 - 2).toNat = i by omega, List.getElem?_set]
    simp [hi]
  · show (x.mask ||| bitN t).testBit t = true
    rw [or_bit]; simp
theorem give_from (A : Ar) (t i : Nat) (x : Th) (hx : A.ths[i]? = some x) : ∀ x' ∈ (A.give t i x).ths, ∃ z ∈ A.ths, x'.key = z.key ∧ x'.lv = z.lv := by
  intro x' h
  have h' : x' ∈ A.ths.set i { x with mask := x.mask ||| bitN t } := h
  rcases List.mem_or_eq_of_mem_set h' with h1 | h1
  · exact ⟨x', h1, rfl, rfl⟩
  · exact ⟨x, List.mem_of_getElem? hx, by rw [h1]; rfl, by rw [h1]⟩

theorem join_made (A : Ar) (t : Nat) (q0 q1 q2 q3 m : Int) (hG : Good A.ths) (h0 : levelF A.ths t q0 = some m) (h1 : levelF A.ths t q1 = some m) (h2 : levelF A.ths t q2 = some m) (h3 : levelF A.ths t q3 = some m) (hm0 : 0 ≤ m) (hm : m < 44) (hq : A.cnt t < A.lim t) : Made t A q0 q1 q2 q3 m (A.join t q0 q1 q2 q3) := by
  have hJ : joinE A t q0 q1 q2 q3 = (0, m) := by
    unfold joinE
    rw [h0, h1, h2, h3, joinL4, if_pos ⟨hm, rfl, rfl, rfl⟩]
  have hg := join_grew A t q0 q1 q2 q3
  have e : A.join t q0 q1 q2 q3 = A.become t (sqTh q0 q1 q2 q3 m) := by
    unfold Ar.join
    rw [hJ]
    simp
  rw [e] at hg ⊢
  have hkey : (sqTh q0 q1 q2 q3 m).key = ⟨1, q0, q1, q2, q3⟩ := rfl
  cases hs : spotF A.ths (sqTh q0 q1 q2 q3 m).key with
  | none =>
    have eb : A.become t (sqTh q0 q1 q2 q3 m) = (({ A with ths := A.ths ++ [sqTh q0 q1 q2 q3 m] } : Ar).give t A.ths.length (sqTh q0 q1 q2 q3 m), (A.ths.length : Int) + 2, 0) := by
      unfold Ar.become
      rw [hs]
      simp only
      rw [if_neg (by omega)]
    rw [eb] at hg ⊢
    have hx : ({ A with ths := A.ths ++ [sqTh q0 q1 q2 q3 m] } : Ar).ths[A.ths.length]? = some (sqTh q0 q1 q2 q3 m) := by simp
    refine ⟨rfl, hg, hG.ext hg.ext fun x' hx' => ?_, ⟨_, give_own _ t A.ths.length _ hx, rfl, rfl⟩⟩
    obtain ⟨z, hz, z1, z2⟩ := give_from _ t A.ths.length _ hx x' hx'
    have hz' : z ∈ A.ths ++ [sqTh q0 q1 q2 q3 m] := hz
    rw [List.mem_append] at hz'
    rcases hz' with h | h
    · exact Or.inl ⟨z, h, z1, z2⟩
    · simp at h
      subst h
      have k0 : x'.p0 = q0 := congrArg Ky.p0 z1
      have k1 : x'.p1 = q1 := congrArg Ky.p1 z1
      have k2 : x'.p2 = q2 := congrArg Ky.p2 z1
      have k3 : x'.p3 = q3 := congrArg Ky.p3 z1
      have kl : x'.lv = m + 1 := z2
      refine Or.inr ⟨by omega, by omega, ?_, ?_, ?_, ?_⟩
      · rw [k0, kl, glevel_of h0]; congr 1; omega
      · rw [k1, kl, glevel_of h1]; congr 1; omega
      · rw [k2, kl, glevel_of h2]; congr 1; omega
      · rw [k3, kl, glevel_of h3]; congr 1; omega
  | some i =>
    obtain ⟨hi, hik⟩ := spot_lt hs
    have hy : A.ths[i]? = some A.ths[i]! := by rw [getElem!_pos A.ths i hi]; exact List.getElem?_eq_getElem hi
    have hmem : A.ths[i]! ∈ A.ths := List.mem_of_getElem? hy
    rw [hkey] at hik
    have hl : (A.ths[i]!).lv = m + 1 := by
      have k1 : (A.ths[i]!).k = 1 := congrArg Ky.k hik
      have k0 : (A.ths[i]!).p0 = q0 := congrArg Ky.p0 hik
      obtain ⟨_, _, g0, _⟩ := hG.lv _ hmem k1
      rw [k0, glevel_of h0] at g0
      have := Option.some.inj g0
      omega
    cases ho : (A.ths[i]!).mask.testBit t with
    | true =>
      have eb : A.become t (sqTh q0 q1 q2 q3 m) = (A, (i : Int) + 2, 0) := by
        unfold Ar.become
        rw [hs]
        simp only [ho, if_true]
      rw [eb] at hg ⊢
      exact ⟨rfl, hg, hG, ⟨A.ths[i]!, own_of (by show (2 : Int) ≤ (i : Int) + 2; omega) (by show A.ths[((i : Int) + 2 - 2).toNat]? = _; rw [show ((i : Int) + 2 - 2).toNat = i by omega]; exact hy) ho, hik, hl⟩⟩
    | false =>
      have eb : A.become t (sqTh q0 q1 q2 q3 m) = (A.give t i A.ths[i]!, (i : Int) + 2, 0) := by
        unfold Ar.become
        rw [hs]
        simp only [ho, Bool.false_eq_true, if_false]
        rw [if_neg (by omega)]
      rw [eb] at hg ⊢
      exact ⟨rfl, hg, hG.ext hg.ext fun x' hx' => Or.inl (give_from A t i _ hy x' hx'), ⟨_, give_own A t i _ hy, hik, hl⟩⟩

/-- the first empty squares of a tenant -/
structure Emp (l : List Th) (t : Nat) (E : List Int) : Prop where
  zero : E[0]? = some 0
  lv : ∀ (i : Nat) (e : Int), E[i]? = some e → levelF l t e = some (i : Int)
  parts : ∀ (i : Nat) (e e' : Int), E[i]? = some e → E[i + 1]? = some e' → ∃ y, ownF l t e' = some y ∧ y.key = ⟨1, e, e, e, e⟩
theorem Emp.first (l : List Th) (t : Nat) : Emp l t [0] := by
  refine ⟨rfl, fun i e h => ?_, fun i e e' h h' => by simp at h'⟩
  cases i with
  | zero => simp at h; subst h; rfl
  | succ i => simp at h
theorem Emp.last {l : List Th} {t : Nat} {E : List Int} (h : Emp l t E) : ∃ m, E.length = m + 1 ∧ E[m]? = some E.getLast! := by
  have h0 : 0 < E.length := (List.getElem?_eq_some_iff.1 h.zero).1
  refine ⟨E.length - 1, by omega, ?_⟩
  rw [List.getLast!_eq_getLast?_getD, List.getLast?_eq_getElem?, List.getElem?_eq_getElem (show E.length - 1 < E.length by omega)]
  rfl
/-- one empty square more -/
theorem emp_step {A : Ar} {t : Nat} {E : List Int} (h : Emp A.ths t E) (hG : Good A.ths) (hl : E.length ≤ 44) (hq : A.cnt t < A.lim t) :
    ∃ m, E.length = m + 1 ∧ Made t A E.getLast! E.getLast! E.getLast! E.getLast! m (A.join t E.getLast! E.getLast! E.getLast! E.getLast!) ∧ Emp (emptyS t (A, E)).1.ths t (emptyS t (A, E)).2 := by
  obtain ⟨m, hm, hlast⟩ := h.last
  have hlv := h.lv m _ hlast
  have hM := join_made A t _ _ _ _ m hG hlv hlv hlv hlv (by omega) (by omega) hq
  refine ⟨m, hm, hM, ?_⟩
  obtain ⟨y, hy, hyk, hyl⟩ := hM.own
  have hk1 : y.k = 1 := congrArg Ky.k hyk
  have hE : ∀ (i : Nat) (e : Int), (E ++ [(A.join t E.getLast! E.getLast! E.getLast! E.getLast!).2.1])[i]? = some e → E[i]? = some e ∨ (i = m + 1 ∧ e = (A.join t E.getLast! E.getLast! E.getLast! E.getLast!).2.1) := fun i e he => by
    rw [List.getElem?_append] at he
    split at he
    · exact Or.inl he
    · rename_i hn
      have : i - E.length = 0 := by
        rcases Nat.eq_zero_or_pos (i - E.length) with h1 | h1
        · exact h1
        · rw [List.getElem?_eq_none (by simp; omega)] at he; cases he
      rw [this] at he
      exact Or.inr ⟨by omega, (Option.some.inj he).symm⟩
  refine ⟨?_, fun i e he => ?_, fun i e e' he he' => ?_⟩
  · show (E ++ [_])[0]? = some 0
    rw [List.getElem?_append_left (by omega)]
    exact h.zero
  · rcases hE i e he with h1 | ⟨rfl, rfl⟩
    · exact level_ext (h.lv i e h1) hM.grew.ext
    · have := level_of hy hk1
      rw [hyl] at this
      exact this
  · rcases hE (i + 1) e' he' with h1 | ⟨h2, rfl⟩
    · have h3 : E[i]? = some e := by
        rcases hE i e he with h4 | ⟨h5, _⟩
        · exact h4
        · have := (List.getElem?_eq_some_iff.1 h1).1; omega
      obtain ⟨z, z1, z2⟩ := h.parts i e e' h3 h1
      obtain ⟨z', w1, w2, _⟩ := own_ext z1 hM.grew.ext
      exact ⟨z', w1, w2.trans z2⟩
    · have him : i = m := by omega
      subst him
      have h3 : e = E.getLast! := by
        rcases hE i e he with h4 | ⟨h5, _⟩
        · rw [hlast] at h4; cases h4; rfl
        · omega
      subst h3
      exact ⟨y, hy, hyk⟩
end Go.Proofs.Ythobobgiendcfaa.A
