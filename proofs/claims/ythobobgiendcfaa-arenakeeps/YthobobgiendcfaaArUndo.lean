/- What undoing leaves, and that what was undone is made again. -/
import Derived.Test.YthobobgiendcfaaArTake
import Derived.Test.YthobobgiendcfaaSqSub
namespace Go.Proofs.Ythobobgiendcfaa.A
open Go.RowKit Go.Maps

/-- things that differ in their masks alone -/
def Alike (l l' : List Th) : Prop := l'.length = l.length ∧ ∀ (j : Nat) (x : Th), l[j]? = some x → ∃ y, l'[j]? = some y ∧ y.key = x.key ∧ y.lv = x.lv ∧ y.va = x.va
theorem Alike.symm {l l' : List Th} (h : Alike l l') : Alike l' l := ⟨h.1.symm, fun j x hx => by
  have hj : j < l.length := by rw [← h.1]; exact (List.getElem?_eq_some_iff.1 hx).1
  obtain ⟨y, h1, h2, h3, h4⟩ := h.2 j _ (List.getElem?_eq_getElem hj)
  rw [hx] at h1
  obtain rfl := Option.some.inj h1
  exact ⟨_, List.getElem?_eq_getElem hj, h2.symm, h3.symm, h4.symm⟩⟩
theorem Alike.glevel {l l' : List Th} (h : Alike l l') {id m : Int} (hm : A.glevel l id = some m) : A.glevel l' id = some m := by
  unfold A.glevel at *
  split at hm
  · rename_i h0; rw [if_pos h0]; exact hm
  · rename_i h0
    rw [if_neg h0]
    split at hm
    · rename_i h2
      rw [if_pos h2]
      cases hx : l[(id - 2).toNat]? with
      | none => rw [hx] at hm; cases hm
      | some x =>
        rw [hx] at hm
        obtain ⟨x', e1, e2, e3, _⟩ := h.2 _ _ hx
        rw [e1]
        simp only at hm ⊢
        rw [key_k e2, e3]
        exact hm
    · cases hm
theorem Alike.good {l l' : List Th} (h : Alike l l') (hG : Good l) : Good l' := ⟨fun x hx hk => by
  obtain ⟨j, hj⟩ := List.getElem?_of_mem hx
  obtain ⟨y, h1, h2, h3, _⟩ := h.symm.2 j x hj
  obtain ⟨g1, g2, g3, g4, g5, g6⟩ := hG.lv y (List.mem_of_getElem? h1) ((key_k h2).trans hk)
  obtain ⟨e0, e1, e2, e3⟩ := key_parts h2
  rw [h3] at g1 g2 g3 g4 g5 g6
  rw [e0] at g3
  rw [e1] at g4
  rw [e2] at g5
  rw [e3] at g6
  exact ⟨g1, g2, h.glevel g3, h.glevel g4, h.glevel g5, h.glevel g6⟩⟩
theorem Alike.uniq {l l' : List Th} (h : Alike l l') (hU : Uniq l) : Uniq l' := fun i j x y hx hy hk he => by
  obtain ⟨x', h1, h2, _⟩ := h.symm.2 i x hx
  obtain ⟨y', k1, k2, _⟩ := h.symm.2 j y hy
  exact hU i j x' y' h1 k1 (by rw [key_k h2]; exact hk) (by rw [h2, k2, he])
theorem Alike.parts {l l' : List Th} (h : Alike l l') (id : Int) : (thAt l' id).p0 = (thAt l id).p0 ∧ (thAt l' id).p1 = (thAt l id).p1 ∧ (thAt l' id).p2 = (thAt l id).p2 ∧ (thAt l' id).p3 = (thAt l id).p3 := by
  unfold thAt
  cases hx : l[(id - 2).toNat]? with
  | none =>
    have : l'[(id - 2).toNat]? = none := by
      rw [List.getElem?_eq_none_iff, h.1]
      exact List.getElem?_eq_none_iff.1 hx
    rw [this]
    exact ⟨rfl, rfl, rfl, rfl⟩
  | some x =>
    obtain ⟨y, h1, h2, _⟩ := h.2 _ x hx
    rw [h1]
    exact key_parts h2
theorem Alike.sub {l l' : List Th} (h : Alike l l') {id j : Int} (s : Sub l id j) : Sub l' id j := by
  induction s with
  | self id => exact Sub.self id
  | p0 h2 _ ih => exact Sub.p0 h2 (by rw [(h.parts _).1]; exact ih)
  | p1 h2 _ ih => exact Sub.p1 h2 (by rw [(h.parts _).2.1]; exact ih)
  | p2 h2 _ ih => exact Sub.p2 h2 (by rw [(h.parts _).2.2.1]; exact ih)
  | p3 h2 _ ih => exact Sub.p3 h2 (by rw [(h.parts _).2.2.2]; exact ih)
theorem Alike.cells {l l' : List Th} (h : Alike l l') : ∀ (n : Nat) (id : Int), cellsF l' n id = cellsF l n id
  | 0, _ => rfl
  | n + 1, id => by
    obtain ⟨e0, e1, e2, e3⟩ := h.parts id
    unfold cellsF
    rw [e0, e1, e2, e3, h.cells n, h.cells n, h.cells n, h.cells n]

theorem ownN_bits (u : Nat) : ∀ (l l' : List Th), l.length ≤ l'.length → (∀ (j : Nat) (y : Th), l'[j]? = some y → (y.mask.testBit u = true ↔ ∃ x, l[j]? = some x ∧ x.mask.testBit u = true)) → ownN l' u = ownN l u
  | [], l', _, h => by
    unfold ownN
    rw [List.countP_nil, List.countP_eq_zero]
    intro y hy hb
    obtain ⟨j, hj⟩ := List.getElem?_of_mem hy
    obtain ⟨x, hx, _⟩ := (h j y hj).1 (by simpa using hb)
    simp at hx
  | x :: l, [], hl, _ => by simp at hl
  | x :: l, y :: l', hl, h => by
    have ih := ownN_bits u l l' (by simpa using hl) (fun j z hz => by
      have := h (j + 1) z (by simpa using hz)
      simpa using this)
    unfold ownN at *
    rw [List.countP_cons, List.countP_cons, ih]
    have h0 := h 0 y rfl
    simp only [List.getElem?_cons_zero, Option.some.injEq, exists_eq_left'] at h0
    by_cases hb : x.mask.testBit u = true
    · rw [if_pos (h0.2 hb), if_pos hb]
    · rw [if_neg (fun e => hb (h0.1 e)), if_neg hb]

/-- what is left when a tenant's gain is undone -/
structure Undone (t : Nat) (A0 A2 U : Ar) (N : List Int) : Prop where
  alike : Alike A2.ths U.ths
  bits : ∀ (j : Nat) (y : Th), U.ths[j]? = some y → ∀ u, y.mask.testBit u = true ↔ ∃ x, A0.ths[j]? = some x ∧ x.mask.testBit u = true
  mask : ∀ y ∈ U.ths, y.mask < 18446744073709551616
  ext : Ext A0.ths U.ths
  cnt : U.cnt = A0.cnt
  lim : U.lim = A0.lim
  room : U.room = A0.room
  free : U.free = A0.free
  fresh : U.fresh = upd A0.fresh t []

theorem undone_of {t : Nat} (ht : t < 64) {A0 A2 : Ar} {N : List Int} (g : Gain t { A0 with fresh := upd A0.fresh t [] } A2 N) (hm : ∀ x ∈ A2.ths, x.mask < 18446744073709551616) : A2.fresh t = N ∧ Undone t A0 A2 (A2.undo t) N := by
  have hf : A2.fresh t = N := by
    rw [g.fresh, upd_same]
    show upd A0.fresh t [] t ++ N = N
    rw [upd_same]
    rfl
  have get := fun j x (hx : A2.ths[j]? = some x) => takes_get t ht N A2 g.low hm j x hx
  have hlen := takes_len A2 t N
  obtain ⟨r1, r2, r3, r4⟩ := takes_rest A2 t N
  have al : Alike A2.ths (A2.undo t).ths := by
    unfold Ar.undo
    rw [hf]
    refine ⟨hlen, fun j x hx => ?_⟩
    obtain ⟨y, y1, y2, y3, y4, _⟩ := get j x hx
    exact ⟨y, y1, y2, y3, y4⟩
  have back : ∀ (j : Nat) (y : Th), (A2.undo t).ths[j]? = some y → ∃ x, A2.ths[j]? = some x ∧ y.key = x.key ∧ y.lv = x.lv ∧ y.va = x.va ∧ y.mask < 18446744073709551616 ∧ ∀ u, y.mask.testBit u = true ↔ x.mask.testBit u = true ∧ ¬ (u = t ∧ (j : Int) + 2 ∈ N) := fun j y hy => by
    have hj : j < A2.ths.length := by rw [← al.1]; exact (List.getElem?_eq_some_iff.1 hy).1
    have hx : A2.ths[j]? = some A2.ths[j] := List.getElem?_eq_getElem hj
    obtain ⟨z, z1, z2, z3, z4, z5, z6⟩ := get j _ hx
    have : (A2.undo t).ths[j]? = some z := by
      unfold Ar.undo
      rw [hf]
      exact z1
    rw [hy] at this
    obtain rfl := Option.some.inj this
    exact ⟨_, hx, z2, z3, z4, z5, z6⟩
  have bits : ∀ (j : Nat) (y : Th), (A2.undo t).ths[j]? = some y → ∀ u, y.mask.testBit u = true ↔ ∃ x, A0.ths[j]? = some x ∧ x.mask.testBit u = true := fun j y hy u => by
    obtain ⟨x, hx, _, _, _, _, hb⟩ := back j y hy
    rw [hb u, g.bits j x hx u]
    constructor
    · rintro ⟨h | h, hn⟩
      · exact h
      · exact absurd h hn
    · rintro ⟨x0, hx0, hb0⟩
      refine ⟨Or.inl ⟨x0, hx0, hb0⟩, ?_⟩
      rintro ⟨rfl, hj⟩
      have h1 := g.news _ hj
      have h2 : ownF A0.ths u ((j : Int) + 2) = some x0 := own_of (by omega) (by rw [show ((j : Int) + 2 - 2).toNat = j by omega]; exact hx0) hb0
      have h3 : ownF A0.ths u ((j : Int) + 2) = none := h1
      rw [h2] at h3
      cases h3
  refine ⟨hf, al, bits, fun y hy => ?_, fun j x hx => ?_, ?_, ?_, ?_, ?_, ?_⟩
  · obtain ⟨j, hj⟩ := List.getElem?_of_mem hy
    obtain ⟨_, _, _, _, _, h5, _⟩ := back j y hj
    exact h5
  · obtain ⟨x2, hx2, k2, l2, v2, _⟩ := g.ext j x hx
    obtain ⟨y, y1, y2, y3, y4⟩ := al.2 j x2 hx2
    exact ⟨y, y1, y2.trans k2, y3.trans l2, y4.trans v2, fun u hu => (bits j y y1 u).2 ⟨x, hx, hu⟩⟩
  · show (A2.takes t (A2.fresh t)).cnt = A0.cnt
    rw [hf, takes_cnt, g.cnt, upd_upd, upd_same]
    show upd A0.cnt t (A0.cnt t + _ - _) = _
    rw [show A0.cnt t + (N.length : Int) - (N.length : Int) = A0.cnt t by omega, upd_self]
  · show (A2.takes t (A2.fresh t)).lim = _
    rw [hf, r2]; exact g.lim
  · show (A2.takes t (A2.fresh t)).room = _
    rw [hf, r3]; exact g.room
  · show (A2.takes t (A2.fresh t)).free = _
    rw [hf, r4]; exact g.free
  · show upd A2.fresh t [] = _
    rw [g.fresh, upd_upd]
    show upd (upd A0.fresh t []) t [] = _
    rw [upd_upd]

theorem Undone.inv {t : Nat} {A0 A2 U : Ar} {N : List Int} (h : Undone t A0 A2 U N) (h0 : Inv A0) (h2 : Inv A2) (hle : A0.ths.length ≤ A2.ths.length) : Inv U := by
  refine ⟨h.alike.good h2.good, h.alike.uniq h2.uniq, fun u x hx hk hb => ?_, fun u hu => ?_⟩
  · obtain ⟨j, hj⟩ := List.getElem?_of_mem hx
    obtain ⟨x0, hx0, hb0⟩ := (h.bits j x hj u).1 hb
    obtain ⟨y, y1, y2, y3, _⟩ := h.ext j x0 hx0
    rw [hj] at y1
    obtain rfl := Option.some.inj y1
    obtain ⟨k0, k1, k2, k3⟩ := h0.closed u x0 (List.mem_of_getElem? hx0) ((key_k y2).symm.trans hk) hb0
    obtain ⟨e0, e1, e2, e3⟩ := key_parts y2
    rw [e0, e1, e2, e3, y3]
    exact ⟨level_ext k0 h.ext, level_ext k1 h.ext, level_ext k2 h.ext, level_ext k3 h.ext⟩
  · rw [h.cnt, h0.cnt u hu, ownN_bits u A0.ths U.ths (by rw [h.alike.1]; exact hle) (fun j y hy => h.bits j y hy u)]
theorem Undone.pur {t k n nn : Nat} {A0 A2 U : Ar} {N : List Int} (h : Undone t A0 A2 U N) (p0 : Pur A0 t k n) (p2 : Pur A2 t k nn) (hr : A2.room = A0.room) : Pur U t k nn := by
  refine ⟨⟨by rw [h.free]; exact p0.bud.free, h.mask, by rw [h.alike.1]; exact p2.bud.few, ?_, ?_, ?_⟩, ?_, p2.nn⟩
  · have h1 := p2.bud.room
    rw [h.alike.1, h.room, ← hr]
    exact h1
  · rw [h.cnt]; exact p0.bud.cnt
  · intro u hu
    rw [h.fresh]
    by_cases e : u = t
    · subst e
      rw [upd_same]
      have := p0.bud.fresh u hu
      simp; omega
    · rw [upd_other _ _ e]; exact p0.bud.fresh u hu
  · rw [h.cnt, h.lim]; exact p0.quo

/-- the very same is made again -/
theorem again {t : Nat} {A0 A2 U A3 : Ar} {N2 N3 : List Int} {q : Int} {n : Nat} (hU : Undone t A0 A2 U N2) (g2 : Gain t { A0 with fresh := upd A0.fresh t [] } A2 N2) (g3 : Gain t U A3 N3) (hI2 : Inv A2) (hIU : Inv U) (hI3 : Inv A3)
    (s2 : ∀ j ∈ N2, Sub A2.ths q j) (s3 : ∀ j ∈ N3, Sub A3.ths q j) (l2 : levelF A2.ths t q = some (n : Int)) (l3 : levelF A3.ths t q = some (n : Int)) : N3.length = N2.length := by
  have m1 : ∀ j ∈ N2, j ∈ N3 := fun j hj => by
    have hs : Sub A3.ths q j := (hU.alike.sub (s2 j hj)).later g3.ext hIU.good (hU.alike.glevel (glevel_of l2))
    obtain ⟨m, hm⟩ := sub_owned (Ext.refl _) (hI3.closed t) hs _ l3
    obtain ⟨x, hx⟩ := level_own hm (g2.low j hj).1
    obtain ⟨h2j, h3, h4⟩ := own_some hx
    have ej : (((j - 2).toNat : Nat) : Int) + 2 = j := by omega
    rcases (g3.bits _ x h3 t).1 h4 with ⟨y, hy, hyb⟩ | ⟨_, e⟩
    · obtain ⟨x0, hx0, hb0⟩ := (hU.bits _ y hy t).1 hyb
      have h5 : ownF A0.ths t j = some x0 := own_of h2j hx0 hb0
      have h6 : ownF A0.ths t j = none := g2.news j hj
      rw [h5] at h6
      cases h6
    · rwa [ej] at e
  have e23 : Ext A2.ths A3.ths := fun j x hx => by
    obtain ⟨y, y1, y2, y3, y4⟩ := hU.alike.2 j x hx
    obtain ⟨z, z1, z2, z3, z4, z5⟩ := g3.ext j y y1
    refine ⟨z, z1, z2.trans y2, z3.trans y3, z4.trans y4, fun u hu => ?_⟩
    rcases (g2.bits j x hx u).1 hu with h | ⟨rfl, h⟩
    · exact z5 u ((hU.bits j y y1 u).2 h)
    · exact (g3.bits j z z1 u).2 (Or.inr ⟨rfl, m1 _ h⟩)
  have m2 : ∀ j ∈ N3, j ∈ N2 := fun j hj => by
    obtain ⟨m, hm⟩ := sub_owned e23 (hI2.closed t) (s3 j hj) _ l2
    obtain ⟨x, hx⟩ := level_own hm (g3.low j hj).1
    obtain ⟨h2j, h3, h4⟩ := own_some hx
    have ej : (((j - 2).toNat : Nat) : Int) + 2 = j := by omega
    rcases (g2.bits _ x h3 t).1 h4 with ⟨x0, hx0, hb0⟩ | ⟨_, e⟩
    · obtain ⟨y, y1, _, _, _, y5⟩ := hU.ext _ x0 hx0
      have h5 : ownF U.ths t j = some y := own_of h2j y1 (y5 t hb0)
      rw [g3.news j hj] at h5
      cases h5
    · rwa [ej] at e
  exact Nat.le_antisymm (g3.nodup.length_le_of_subset m2) (g2.nodup.length_le_of_subset m1)

/-! ### the arena's calls -/
theorem Mark_any (b t n : Nat) (F : Nat → Prop) (A : Ar) (w : World) (h : ArAt w b F n A) (ht : t < 64) :
    Calls Try.prog 31 #[.pointer (some ⟨b, 0, none⟩), .int .i64 t] w fun e w' => e = .returned (.int .i64 0) ∧ ArAt w' b F n { A with fresh := upd A.fresh t [] } ∧ Apart F w w' := by
  obtain ⟨r, D, h⟩ := h
  exact (mark_any b t n F A r D w h ht).mono fun e w' ⟨h1, h2, h3⟩ => ⟨h1, ⟨_, _, h2⟩, h3⟩
theorem marked_inv {A : Ar} {t : Nat} (h : Inv A) : Inv { A with fresh := upd A.fresh t [] } := ⟨h.good, h.uniq, h.closed, h.cnt⟩
theorem marked_pur {A : Ar} {t k n : Nat} (h : Pur A t k n) : Pur { A with fresh := upd A.fresh t [] } t k n := by
  refine ⟨⟨h.bud.free, h.bud.mask, h.bud.few, h.bud.room, h.bud.cnt, fun u hu => ?_⟩, h.quo, h.nn⟩
  show (upd A.fresh t [] u).length + k < _
  have := h.bud.fresh u hu
  by_cases e : u = t
  · rw [e, upd_same]
    simp; omega
  · rw [upd_other _ _ e]; exact this
set_option maxHeartbeats 1000000 in
theorem Undo_any (b t n : Nat) (F : Nat → Prop) (A : Ar) (w : World) (h : ArAt w b F n A) (ht : t < 64) (hl : (A.fresh t).length < 10000000) (hid : ∀ id ∈ A.fresh t, 2 ≤ id ∧ (id - 2).toNat < A.ths.length) (hm : ∀ x ∈ A.ths, x.mask < 18446744073709551616)
    (hn : A.ths.length < 1000000) (hcnt : ((A.fresh t).length : Int) ≤ A.cnt t ∧ A.cnt t < 4611686018427387904) :
    Calls Try.prog 32 #[.pointer (some ⟨b, 0, none⟩), .int .i64 t] w fun e w' => e = .returned (.int .i64 ((A.fresh t).length : Int)) ∧ ArAt w' b F n (A.undo t) ∧ Apart F w w' := by
  obtain ⟨r, D, h⟩ := h
  have c := back_any b t n F A r D w h ht hl hid hm hn hcnt
  clear hl hid hm hn hcnt h
  go_enter Try.func32, Try.ntmps32
  go_wp2_with fail
  refine c.mono ?_
  rintro e w1 ⟨rfl, h1, h2⟩
  go_wp2_with fail
  go_ret
  exact ⟨rfl, h1, h2⟩
end Go.Proofs.Ythobobgiendcfaa.A
