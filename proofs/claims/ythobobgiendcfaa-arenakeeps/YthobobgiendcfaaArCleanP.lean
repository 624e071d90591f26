/- What cleaning leaves. -/
import Derived.Test.YthobobgiendcfaaArClean
import Derived.Test.YthobobgiendcfaaArUndo
namespace Go.Proofs.Ythobobgiendcfaa.A
open Go.RowKit Go.Maps

theorem ownN_take (A : Ar) (t i u : Nat) (x : Th) (hx : A.ths[i]? = some x) (hm : x.mask < 18446744073709551616) (ht : t < 64) (hb : x.mask.testBit t = true) : ownN (A.take t i x).ths u + (if u = t then 1 else 0) = ownN A.ths u := by
  show (A.ths.set i _).countP _ + _ = A.ths.countP _
  generalize A.ths = l at *
  induction l generalizing i with
  | nil => simp at hx
  | cons y l ih =>
    cases i with
    | zero =>
      simp at hx; subst hx
      rw [List.set_cons_zero, List.countP_cons, List.countP_cons]
      show l.countP _ + (if (clr y.mask t).testBit u = true then 1 else 0) + _ = _
      rw [clr_bit _ _ _ hm ht]
      by_cases e : u = t
      · subst e
        simp [hb]
      · simp [e]
    | succ i =>
      rw [List.set_cons_succ, List.countP_cons, List.countP_cons]
      have := ih i (by simpa using hx)
      omega
theorem ownN_takes (t : Nat) (ht : t < 64) : ∀ (N : List Int) (A : Ar), N.Nodup → (∀ x ∈ A.ths, x.mask < 18446744073709551616) → (∀ id ∈ N, ∃ x, ownF A.ths t id = some x) → ∀ u, ownN (A.takes t N).ths u + (if u = t then N.length else 0) = ownN A.ths u
  | [], A, _, _, _, u => by show ownN A.ths u + _ = _; simp
  | id :: N, A, hn, hm, ho, u => by
    obtain ⟨x, hx⟩ := ho id (by simp)
    obtain ⟨h2, hx1, hxb⟩ := own_some hx
    have hth : thAt A.ths id = x := by unfold thAt; rw [hx1]; rfl
    have hmx := hm x (List.mem_of_getElem? hx1)
    have h1 := ownN_take A t (id - 2).toNat u x hx1 hmx ht hxb
    have hn' := List.nodup_cons.1 hn
    have hget : ∀ k, (A.take t (id - 2).toNat x).ths[k]? = if (id - 2).toNat = k then some { x with mask := clr x.mask t } else A.ths[k]? := fun k => by
      show (A.ths.set _ _)[k]? = _
      have hlt : (id - 2).toNat < A.ths.length := (List.getElem?_eq_some_iff.1 hx1).1
      rw [List.getElem?_set]
      by_cases e : (id - 2).toNat = k
      · subst e; simp [hlt]
      · simp [e]
    have h3 := ownN_takes t ht N (A.take t (id - 2).toNat x) hn'.2 (fun z hz => by
      rcases List.mem_or_eq_of_mem_set (show z ∈ A.ths.set _ _ from hz) with h | h
      · exact hm z h
      · rw [h]; exact clr_lt _ _ hmx) (fun j hj => by
      obtain ⟨y, hy⟩ := ho j (by simp [hj])
      obtain ⟨k2, k3, k4⟩ := own_some hy
      refine ⟨y, own_of k2 ?_ k4⟩
      rw [hget, if_neg]
      · exact k3
      · intro e
        have : id = j := by omega
        exact hn'.1 (by rw [this]; exact hj)) u
    show ownN ((A.take t (id - 2).toNat (thAt A.ths id)).takes t N).ths u + _ = _
    rw [hth]
    by_cases e : u = t
    · simp only [e, if_true, List.length_cons] at *
      omega
    · simp only [e, if_false] at *
      omega
theorem ids_nodup (l : List Th) (t : Nat) (K : List Bool) (i : Nat) : (idsF l t K i).Nodup := by
  unfold idsF
  refine List.pairwise_map.2 ((List.Pairwise.filter _ List.nodup_range).imp ?_)
  intro a b h e
  exact h (by omega)
theorem mk_get {K : List Bool} {i : Nat} (h : i < K.length) : K[i]! = false ↔ ¬ Mk K i := by
  unfold Mk
  rw [List.getElem?_eq_getElem h, getElem!_pos K i h]
  cases K[i] <;> simp

/-- what is left when a tenant is cleaned but for a square -/
structure Cleaned (t : Nat) (p : Int) (A C : Ar) : Prop where
  alike : Alike A.ths C.ths
  bits : ∀ (j : Nat) (x y : Th), A.ths[j]? = some x → C.ths[j]? = some y → ∀ u, y.mask.testBit u = true ↔ x.mask.testBit u = true ∧ (u = t → Sub A.ths p ((j : Int) + 2))
  mask : ∀ y ∈ C.ths, y.mask < 18446744073709551616
  cnt : ∀ u, u < 64 → C.cnt u = (ownN C.ths u : Int)
  lim : C.lim = A.lim
  room : C.room = A.room
  free : C.free = A.free
  fresh : C.fresh = upd A.fresh t []
theorem cleaned_of {t : Nat} (ht : t < 64) {p : Int} {A : Ar} {K : List Bool} (hI : Inv A) (hm : ∀ x ∈ A.ths, x.mask < 18446744073709551616) (hKl : K.length = A.ths.length) (hK : ∀ i : Nat, Mk K i ↔ Sub A.ths p ((i : Int) + 2)) : Cleaned t p A (A.clean t K) := by
  have hlow : ∀ id ∈ idsF A.ths t K A.ths.length, 2 ≤ id ∧ (id - 2).toNat < A.ths.length := fun id hid => by
    obtain ⟨j, h1, _, _, rfl⟩ := ids_mem.1 hid
    exact ⟨by omega, by omega⟩
  have get := fun j x (hx : A.ths[j]? = some x) => takes_get t ht (idsF A.ths t K A.ths.length) A hlow hm j x hx
  obtain ⟨r1, r2, r3, r4⟩ := takes_rest A t (idsF A.ths t K A.ths.length)
  have al : Alike A.ths (A.clean t K).ths := ⟨takes_len A t _, fun j x hx => by
    obtain ⟨y, y1, y2, y3, y4, _⟩ := get j x hx
    exact ⟨y, y1, y2, y3, y4⟩⟩
  refine ⟨al, fun j x y hx hy u => ?_, fun y hy => ?_, fun u hu => ?_, r2, r3, r4, rfl⟩
  · obtain ⟨y', y1, _, _, _, _, y6⟩ := get j x hx
    have : (A.clean t K).ths[j]? = some y' := y1
    rw [hy] at this
    obtain rfl := Option.some.inj this
    have hj : j < A.ths.length := (List.getElem?_eq_some_iff.1 hx).1
    have ex : A.ths[j]! = x := by rw [List.getElem!_eq_getElem?_getD, hx]; rfl
    rw [y6 u]
    constructor
    · rintro ⟨h1, h2⟩
      refine ⟨h1, fun e => ?_⟩
      rw [← hK j]
      cases hk : K[j]! with
      | false =>
        exact absurd ⟨e, ids_mem.2 ⟨j, hj, by rw [ex, ← e]; exact h1, hk, rfl⟩⟩ h2
      | true =>
        unfold Mk
        rw [List.getElem?_eq_getElem (by omega), ← hk, getElem!_pos K j (by omega)]
    · rintro ⟨h1, h2⟩
      refine ⟨h1, fun ⟨e, h3⟩ => ?_⟩
      obtain ⟨j', h4, _, h6, h7⟩ := ids_mem.1 h3
      obtain rfl : j = j' := by omega
      exact (mk_get (by omega)).1 h6 ((hK j).2 (h2 e))
  · obtain ⟨j, hj⟩ := List.getElem?_of_mem hy
    obtain ⟨x, hx, _⟩ := al.symm.2 j y hj
    obtain ⟨y', y1, _, _, _, y5, _⟩ := get j x hx
    have : (A.clean t K).ths[j]? = some y' := y1
    rw [hj] at this
    obtain rfl := Option.some.inj this
    exact y5
  · have h1 := ownN_takes t ht (idsF A.ths t K A.ths.length) A (ids_nodup _ _ _ _) hm (fun id hid => by
      obtain ⟨j, h1, h2, _, rfl⟩ := ids_mem.1 hid
      have hx : A.ths[j]? = some A.ths[j]! := by rw [getElem!_pos A.ths j h1]; exact List.getElem?_eq_getElem h1
      exact ⟨_, own_of (by omega) (by rw [show ((j : Int) + 2 - 2).toNat = j by omega]; exact hx) h2⟩) u
    show (A.takes t (idsF A.ths t K A.ths.length)).cnt u = (ownN (A.takes t (idsF A.ths t K A.ths.length)).ths u : Int)
    rw [takes_cnt]
    have h2 := hI.cnt u hu
    by_cases e : u = t
    · subst e
      rw [upd_same, h2]
      rw [if_pos rfl] at h1
      omega
    · rw [upd_other _ _ e, h2]
      rw [if_neg e] at h1
      omega
theorem Cleaned.own {t : Nat} {p : Int} {A C : Ar} (h : Cleaned t p A C) {u : Nat} {id : Int} {x : Th} (ho : ownF A.ths u id = some x) (hs : u = t → Sub A.ths p id) : ∃ y, ownF C.ths u id = some y ∧ y.key = x.key ∧ y.lv = x.lv := by
  obtain ⟨h2, h3, h4⟩ := own_some ho
  obtain ⟨y, y1, y2, y3, _⟩ := h.alike.2 _ x h3
  exact ⟨y, own_of h2 y1 ((h.bits _ x y h3 y1 u).2 ⟨h4, fun e => by rw [show (((id - 2).toNat : Nat) : Int) + 2 = id by omega]; exact hs e⟩), y2, y3⟩
theorem Cleaned.level {t : Nat} {p : Int} {A C : Ar} (h : Cleaned t p A C) {u : Nat} {id m : Int} (hl : levelF A.ths u id = some m) (hs : u = t → 2 ≤ id → Sub A.ths p id) : levelF C.ths u id = some m := by
  rcases level_some hl with ⟨h0, rfl⟩ | ⟨x, h1, h2, h3⟩
  · unfold levelF; rw [if_pos h0]
  · obtain ⟨y, y1, y2, y3⟩ := h.own h1 (fun e => hs e (own_some h1).1)
    rw [level_of y1 ((key_k y2).trans h2), y3, h3]
theorem Cleaned.inv {t : Nat} {p : Int} {A C : Ar} (h : Cleaned t p A C) (hI : Inv A) : Inv C := by
  refine ⟨h.alike.good hI.good, h.alike.uniq hI.uniq, fun u y hy hk hb => ?_, h.cnt⟩
  obtain ⟨j, hj⟩ := List.getElem?_of_mem hy
  obtain ⟨x, hx, k1, k2, _⟩ := h.alike.symm.2 j y hj
  obtain ⟨hb1, hs⟩ := (h.bits j x y hx hj u).1 hb
  obtain ⟨l0, l1, l2, l3⟩ := hI.closed u x (List.mem_of_getElem? hx) ((key_k k1).trans hk) hb1
  obtain ⟨e0, e1, e2, e3⟩ := key_parts k1
  have hthx : thAt A.ths ((j : Int) + 2) = x := by unfold thAt; rw [show ((j : Int) + 2 - 2).toNat = j by omega, hx]; rfl
  rw [k2] at l0 l1 l2 l3
  rw [← e0, ← e1, ← e2, ← e3]
  refine ⟨h.level l0 fun e _ => sub_trans (hs e) ?_, h.level l1 fun e _ => sub_trans (hs e) ?_, h.level l2 fun e _ => sub_trans (hs e) ?_, h.level l3 fun e _ => sub_trans (hs e) ?_⟩
  · exact Sub.p0 (by omega) (by rw [hthx]; exact Sub.self _)
  · exact Sub.p1 (by omega) (by rw [hthx]; exact Sub.self _)
  · exact Sub.p2 (by omega) (by rw [hthx]; exact Sub.self _)
  · exact Sub.p3 (by omega) (by rw [hthx]; exact Sub.self _)

/-- squares, and places that are free -/
def KOk (l : List Th) : Prop := ∀ x ∈ l, x.k = 0 ∨ x.k = 1
theorem Alike.kok {l l' : List Th} (h : Alike l l') (hk : KOk l) : KOk l' := fun y hy => by
  obtain ⟨j, hj⟩ := List.getElem?_of_mem hy
  obtain ⟨x, hx, k1, _⟩ := h.symm.2 j y hj
  rw [← key_k k1]
  exact hk x (List.mem_of_getElem? hx)
theorem glevel_fits {l : List Th} {id m : Int} (h : glevel l id = some m) (hf : l.length < 1000000) : Fits id := by
  unfold glevel at h
  split at h
  · rename_i h0; unfold Fits; omega
  · split at h
    · rename_i h2
      cases hx : l[(id - 2).toNat]? with
      | none => rw [hx] at h; cases h
      | some x =>
        have := (List.getElem?_eq_some_iff.1 hx).1
        unfold Fits
        omega
    · cases h
theorem kok_fit {l : List Th} (hG : Good l) (hk : KOk l) (hf : l.length < 1000000) : ∀ x ∈ l, x.k ≠ 0 → x.key.Fit := fun x hx h0 => by
  have h1 : x.k = 1 := by
    rcases hk x hx with h | h
    · exact absurd h h0
    · exact h
  obtain ⟨_, _, g0, g1, g2, g3⟩ := hG.lv x hx h1
  exact ⟨by show Fits x.k; rw [h1]; unfold Fits; omega, glevel_fits g0 hf, glevel_fits g1 hf, glevel_fits g2 hf, glevel_fits g3 hf⟩
/-- what is gained by a square is squares -/
theorem Gain.kok {t : Nat} {A A' : Ar} {N : List Int} {q m : Int} (g : Gain t A A' N) (h : KOk A.ths) (hI : Inv A') (s : ∀ j ∈ N, Sub A'.ths q j) (hl : levelF A'.ths t q = some m) : KOk A'.ths := fun x hx => by
  obtain ⟨j, hj⟩ := List.getElem?_of_mem hx
  have hjl : j < A'.ths.length := (List.getElem?_eq_some_iff.1 hj).1
  by_cases hlt : j < A.ths.length
  · obtain ⟨x', hx', k1, _⟩ := g.ext j _ (List.getElem?_eq_getElem hlt)
    rw [hj] at hx'
    obtain rfl := Option.some.inj hx'
    rw [key_k k1]
    exact h _ (List.getElem_mem hlt)
  · obtain ⟨m', hm'⟩ := sub_owned (Ext.refl _) (hI.closed t) (s _ (g.born j (by omega) hjl)) _ hl
    rcases level_some hm' with ⟨h0, _⟩ | ⟨y, h1, h2, _⟩
    · omega
    · obtain ⟨_, h3, _⟩ := own_some h1
      rw [show ((j : Int) + 2 - 2).toNat = j by omega, hj] at h3
      obtain rfl := Option.some.inj h3
      exact Or.inr h2
end Go.Proofs.Ythobobgiendcfaa.A
