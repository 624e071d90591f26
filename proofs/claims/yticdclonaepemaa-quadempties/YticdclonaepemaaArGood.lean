/- What joins make of an arena, in plain words. -/
import Derived.Test.YticdclonaepemaaArEmpty
namespace Go.Proofs.Yticdclonaepemaa.A
open Go.RowKit Go.Maps

/-- an arena's things have only become more -/
def Ext (l l' : List Th) : Prop := ∀ (j : Nat) (x : Th), l[j]? = some x → ∃ x' : Th, l'[j]? = some x' ∧ x'.key = x.key ∧ x'.lv = x.lv ∧ x'.va = x.va ∧ ∀ u, x.mask.testBit u = true → x'.mask.testBit u = true
theorem Ext.refl (l : List Th) : Ext l l := fun _ x h => ⟨x, h, rfl, rfl, rfl, fun _ h => h⟩
theorem Ext.trans {l l' l'' : List Th} (h : Ext l l') (k : Ext l' l'') : Ext l l'' := fun j x hx => by
  obtain ⟨x', h1, h2, h3, h4, h5⟩ := h j x hx
  obtain ⟨x'', k1, k2, k3, k4, k5⟩ := k j x' h1
  exact ⟨x'', k1, k2.trans h2, k3.trans h3, k4.trans h4, fun u hu => k5 u (h5 u hu)⟩

theorem own_some {l : List Th} {t : Nat} {id : Int} {x : Th} (h : ownF l t id = some x) : 2 ≤ id ∧ l[(id - 2).toNat]? = some x ∧ x.mask.testBit t = true := by
  unfold ownF at h
  split at h
  · rename_i h2
    rw [Option.filter_eq_some_iff] at h
    exact ⟨h2, h.1, h.2⟩
  · cases h
theorem own_of {l : List Th} {t : Nat} {id : Int} {x : Th} (h2 : 2 ≤ id) (h : l[(id - 2).toNat]? = some x) (hm : x.mask.testBit t = true) : ownF l t id = some x := by
  unfold ownF
  rw [if_pos h2, Option.filter_eq_some_iff]
  exact ⟨h, hm⟩
theorem own_ext {l l' : List Th} {t : Nat} {id : Int} {x : Th} (h : ownF l t id = some x) (he : Ext l l') : ∃ x', ownF l' t id = some x' ∧ x'.key = x.key ∧ x'.lv = x.lv ∧ x'.va = x.va := by
  obtain ⟨h2, h3, h4⟩ := own_some h
  obtain ⟨x', e1, e2, e3, e4, e5⟩ := he _ _ h3
  exact ⟨x', own_of h2 e1 (e5 t h4), e2, e3, e4⟩
theorem level_some {l : List Th} {t : Nat} {id m : Int} (h : levelF l t id = some m) : (id = 0 ∨ id = 1) ∧ m = 0 ∨ ∃ x, ownF l t id = some x ∧ x.k = 1 ∧ x.lv = m := by
  unfold levelF at h
  split at h
  · rename_i h0
    exact Or.inl ⟨h0, by cases h; rfl⟩
  · cases ho : ownF l t id with
    | none => rw [ho] at h; cases h
    | some x =>
      rw [ho] at h
      simp only at h
      split at h
      · rename_i hk
        exact Or.inr ⟨x, rfl, hk, by cases h; rfl⟩
      · cases h
theorem level_of {l : List Th} {t : Nat} {id : Int} {x : Th} (h : ownF l t id = some x) (hk : x.k = 1) : levelF l t id = some x.lv := by
  obtain ⟨h2, _⟩ := own_some h
  unfold levelF
  rw [if_neg (by omega), h]
  simp only
  rw [if_pos hk]
theorem key_k {x y : Th} (h : x.key = y.key) : x.k = y.k := congrArg Ky.k h
theorem level_ext {l l' : List Th} {t : Nat} {id m : Int} (h : levelF l t id = some m) (he : Ext l l') : levelF l' t id = some m := by
  rcases level_some h with ⟨h0, rfl⟩ | ⟨x, h1, h2, h3⟩
  · unfold levelF; rw [if_pos h0]
  · obtain ⟨x', e1, e2, e3, _⟩ := own_ext h1 he
    rw [level_of e1 ((key_k e2).trans h2), e3, h3]
theorem level_fits {l : List Th} {t : Nat} {id m : Int} (h : levelF l t id = some m) (hl : l.length < 1000000) : 0 ≤ id ∧ id < 1000002 := by
  rcases level_some h with ⟨h0, _⟩ | ⟨x, h1, _⟩
  · omega
  · obtain ⟨h2, h3, _⟩ := own_some h1
    have := (List.getElem?_eq_some_iff.1 h3).1
    omega

/-- a square's level, whosever it is -/
def glevel (l : List Th) (id : Int) : Option Int := if id = 0 ∨ id = 1 then some 0 else if 2 ≤ id then (match l[(id - 2).toNat]? with | some x => if x.k = 1 then some x.lv else none | none => none) else none
theorem glevel_of {l : List Th} {t : Nat} {id m : Int} (h : levelF l t id = some m) : glevel l id = some m := by
  rcases level_some h with ⟨h0, rfl⟩ | ⟨x, h1, h2, h3⟩
  · unfold glevel; rw [if_pos h0]
  · obtain ⟨g2, g3, _⟩ := own_some h1
    unfold glevel
    rw [if_neg (by omega), if_pos g2, g3]
    simp only
    rw [if_pos h2, h3]
theorem glevel_ext {l l' : List Th} {id m : Int} (h : glevel l id = some m) (he : Ext l l') : glevel l' id = some m := by
  unfold glevel at *
  split at h
  · rename_i h0; rw [if_pos h0]; exact h
  · rename_i h0
    rw [if_neg h0]
    split at h
    · rename_i h2
      rw [if_pos h2]
      cases hx : l[(id - 2).toNat]? with
      | none => rw [hx] at h; cases h
      | some x =>
        rw [hx] at h
        obtain ⟨x', e1, e2, e3, _⟩ := he _ _ hx
        rw [e1]
        simp only at h ⊢
        rw [key_k e2, e3]
        exact h
    · cases h

/-- a square's level is one more than its quarters' -/
structure Good (l : List Th) : Prop where
  lv : ∀ x ∈ l, x.k = 1 → 1 ≤ x.lv ∧ x.lv ≤ 44 ∧ glevel l x.p0 = some (x.lv - 1) ∧ glevel l x.p1 = some (x.lv - 1) ∧ glevel l x.p2 = some (x.lv - 1) ∧ glevel l x.p3 = some (x.lv - 1)
theorem Good.nil : Good [] := ⟨fun _ h => by cases h⟩

/-- what one join makes more -/
structure Grew (t : Nat) (A A' : Ar) : Prop where
  ext : Ext A.ths A'.ths
  len : A'.ths.length ≤ A.ths.length + 1
  lim : A'.lim = A.lim
  room : A'.room = A.room
  free : A'.free = A.free
  cnt : ∀ u, A.cnt u ≤ A'.cnt u ∧ A'.cnt u ≤ A.cnt u + 1
  fresh : ∀ u, (A'.fresh u).length ≤ (A.fresh u).length + 1
  mask : t < 64 → (∀ x ∈ A.ths, x.mask < 18446744073709551616) → ∀ x ∈ A'.ths, x.mask < 18446744073709551616
  other : ∀ u, u ≠ t → ∀ x' ∈ A'.ths, x'.mask.testBit u = true → ∃ x ∈ A.ths, x.mask.testBit u = true
theorem Grew.refl (t : Nat) (A : Ar) : Grew t A A := ⟨Ext.refl _, by omega, rfl, rfl, rfl, fun _ => by omega, fun _ => by omega, fun _ h => h, fun _ _ x hx h => ⟨x, hx, h⟩⟩

theorem or_lt (m t : Nat) (hm : m < 18446744073709551616) (ht : t < 64) : m ||| bitN t < 18446744073709551616 := by
  have h1 := bitN_lt t ht
  have : m ||| bitN t < 2 ^ 64 := Nat.or_lt_two_pow (by simpa using hm) (by simpa using h1)
  simpa using this
theorem or_bit (m t u : Nat) : (m ||| bitN t).testBit u = (m.testBit u || decide (t = u)) := by
  unfold bitN
  rw [Nat.testBit_or, Nat.testBit_two_pow]

theorem give_grew (A : Ar) (t i : Nat) (x : Th) (hx : A.ths[i]? = some x) : Grew t A (A.give t i x) ∧ (A.give t i x).ths.length = A.ths.length := by
  have hi : i < A.ths.length := (List.getElem?_eq_some_iff.1 hx).1
  have hget : ∀ j, (A.ths.set i { x with mask := x.mask ||| bitN t })[j]? = if i = j then some { x with mask := x.mask ||| bitN t } else A.ths[j]? := fun j => by
    rw [List.getElem?_set]
    by_cases e : i = j
    · subst e; simp [hi]
    · simp [e]
  refine ⟨⟨fun j y hy => ?_, ?_, rfl, rfl, rfl, fun u => ?_, fun u => ?_, fun ht hm y hy => ?_, fun u hu y hy hb => ?_⟩, ?_⟩
  · show ∃ x', (A.ths.set i _)[j]? = _ ∧ _
    rw [hget]
    by_cases e : i = j
    · subst e
      rw [hx] at hy; cases hy
      rw [if_pos rfl]
      exact ⟨_, rfl, rfl, rfl, rfl, fun u hu => by show (x.mask ||| bitN t).testBit u = true; rw [or_bit, hu]; rfl⟩
    · rw [if_neg e]
      exact ⟨y, hy, rfl, rfl, rfl, fun _ h => h⟩
  · show (A.ths.set i _).length ≤ _
    rw [List.length_set]; omega
  · show A.cnt u ≤ upd A.cnt t (A.cnt t + 1) u ∧ upd A.cnt t (A.cnt t + 1) u ≤ _
    by_cases e : u = t
    · subst e; rw [upd_same]; omega
    · rw [upd_other _ _ e]; omega
  · show (upd A.fresh t (A.fresh t ++ [(i : Int) + 2]) u).length ≤ _
    by_cases e : u = t
    · subst e; rw [upd_same]; simp
    · rw [upd_other _ _ e]; omega
  · have hy' : y ∈ A.ths.set i { x with mask := x.mask ||| bitN t } := hy
    rcases List.mem_or_eq_of_mem_set hy' with h | h
    · exact hm y h
    · rw [h]; exact or_lt _ _ (hm x (List.mem_of_getElem? hx)) ht
  · have hy' : y ∈ A.ths.set i { x with mask := x.mask ||| bitN t } := hy
    rcases List.mem_or_eq_of_mem_set hy' with h | h
    · exact ⟨y, h, hb⟩
    · rw [h] at hb
      refine ⟨x, List.mem_of_getElem? hx, ?_⟩
      have : (x.mask ||| bitN t).testBit u = true := hb
      rw [or_bit] at this
      have hne : ¬ t = u := fun e => hu e.symm
      simpa [hne] using this
  · show (A.ths.set i _).length = _
    rw [List.length_set]

theorem push_grew (A : Ar) (t : Nat) (x : Th) (hx : x.mask = 0) : Grew t A (({ A with ths := A.ths ++ [x] } : Ar).give t A.ths.length x) := by
  have h1 : (A.ths ++ [x])[A.ths.length]? = some x := by simp
  obtain ⟨g, gl⟩ := give_grew ({ A with ths := A.ths ++ [x] } : Ar) t A.ths.length x h1
  refine ⟨Ext.trans (fun j y hy => ?_) g.ext, ?_, g.lim, g.room, g.free, g.cnt, g.fresh, fun ht hm => g.mask ht fun y hy => ?_, fun u hu y hy hb => ?_⟩
  · refine ⟨y, ?_, rfl, rfl, rfl, fun _ h => h⟩
    show (A.ths ++ [x])[j]? = some y
    rw [List.getElem?_append_left (List.getElem?_eq_some_iff.1 hy).1]
    exact hy
  · rw [gl]; simp
  · have hy' : y ∈ A.ths ++ [x] := hy
    rw [List.mem_append] at hy'
    rcases hy' with h | h
    · exact hm y h
    · simp at h; rw [h, hx]; omega
  · obtain ⟨z, hz, hzb⟩ := g.other u hu y hy hb
    have hz' : z ∈ A.ths ++ [x] := hz
    rw [List.mem_append] at hz'
    rcases hz' with h | h
    · exact ⟨z, h, hzb⟩
    · simp at h; rw [h, hx] at hzb; simp at hzb

theorem become_grew (A : Ar) (t : Nat) (x : Th) (hx : x.mask = 0) : Grew t A (A.become t x).1 := by
  unfold Ar.become
  cases hs : spotF A.ths x.key with
  | none =>
    simp only
    split
    · exact Grew.refl t A
    · exact push_grew A t x hx
  | some i =>
    obtain ⟨hi, _⟩ := spot_lt hs
    simp only
    split
    · exact Grew.refl t A
    · split
      · exact Grew.refl t A
      · exact (give_grew A t i _ (by rw [getElem!_pos A.ths i hi]; exact List.getElem?_eq_getElem hi)).1
theorem join_grew (A : Ar) (t : Nat) (q0 q1 q2 q3 : Int) : Grew t A (A.join t q0 q1 q2 q3).1 := by
  unfold Ar.join
  split
  · exact Grew.refl t A
  · exact become_grew A t _ rfl
end Go.Proofs.Yticdclonaepemaa.A
