/- Four squares, joined: the cells of all. -/
import Derived.Test.YtofbcngcblleaabGreatArBud
import Derived.Test.YtofbcngcblleaabGreatQuQuart2
namespace Go.Proofs.YtofbcngcblleaabGreat.A
open Go.RowKit Go.Maps
def shiftL (dx dy : Int) (zs : List (Int × Int)) : List (Int × Int) := zs.map fun c => (c.1 + dx, c.2 + dy)
def cellsF (l : List Th) : Nat → Int → List (Int × Int)
  | 0, id => if id = 1 then [(0, 0)] else []
  | n + 1, id => cellsF l n (thAt l id).p0 ++ shiftL ((2 ^ n : Nat) : Int) 0 (cellsF l n (thAt l id).p1) ++ shiftL 0 ((2 ^ n : Nat) : Int) (cellsF l n (thAt l id).p2) ++ shiftL ((2 ^ n : Nat) : Int) ((2 ^ n : Nat) : Int) (cellsF l n (thAt l id).p3)
theorem thing_of {l : List Th} (hG : Good l) {n : Nat} {id : Int} (h : glevel l id = some ((n + 1 : Nat) : Int)) : ∃ x, l[(id - 2).toNat]? = some x ∧ 2 ≤ id ∧ x.k = 1 ∧ x.lv = ((n + 1 : Nat) : Int) ∧ glevel l x.p0 = some (n : Int) ∧ glevel l x.p1 = some (n : Int) ∧ glevel l x.p2 = some (n : Int) ∧ glevel l x.p3 = some (n : Int) := by
  unfold glevel at h
  split at h
  · have := Option.some.inj h; omega
  · split at h
    · split at h
      · rename_i x hx
        split at h
        · rename_i hk
          have hl := Option.some.inj h
          obtain ⟨_, _, a, b, c, d⟩ := hG.lv x (List.mem_of_getElem? hx) hk
          rw [show x.lv - 1 = (n : Int) by omega] at a b c d
          exact ⟨x, hx, by assumption, hk, hl, a, b, c, d⟩
        · cases h
      · cases h
    · cases h
theorem glevel_zero {l : List Th} (hG : Good l) {id : Int} (h : glevel l id = some 0) : id = 0 ∨ id = 1 := by
  unfold glevel at h
  split at h
  · assumption
  · split at h
    · split at h
      · rename_i x hx
        split at h
        · rename_i hk
          have hl := Option.some.inj h
          obtain ⟨a, _⟩ := hG.lv x (List.mem_of_getElem? hx) hk
          omega
        · cases h
      · cases h
    · cases h
theorem thAt_eq {l : List Th} {id : Int} {x : Th} (h : l[(id - 2).toNat]? = some x) : thAt l id = x := by unfold thAt; rw [h]; rfl
theorem key_parts {x y : Th} (h : x.key = y.key) : x.p0 = y.p0 ∧ x.p1 = y.p1 ∧ x.p2 = y.p2 ∧ x.p3 = y.p3 := ⟨congrArg Ky.p0 h, congrArg Ky.p1 h, congrArg Ky.p2 h, congrArg Ky.p3 h⟩
theorem cells_ext {l l' : List Th} (hG : Good l) (he : Ext l l') : ∀ (n : Nat) (id : Int), glevel l id = some (n : Int) → cellsF l' n id = cellsF l n id
  | 0, id, _ => rfl
  | n + 1, id, h => by
    obtain ⟨x, hx, _, _, _, g0, g1, g2, g3⟩ := thing_of hG h
    obtain ⟨x', hx', hk, _⟩ := he _ _ hx
    obtain ⟨e0, e1, e2, e3⟩ := key_parts hk
    simp only [cellsF]
    rw [thAt_eq hx, thAt_eq hx', e0, e1, e2, e3, cells_ext hG he n _ g0, cells_ext hG he n _ g1, cells_ext hG he n _ g2, cells_ext hG he n _ g3]
theorem mem_shift {dx dy : Int} {zs : List (Int × Int)} {c : Int × Int} : c ∈ shiftL dx dy zs ↔ (c.1 - dx, c.2 - dy) ∈ zs := by
  unfold shiftL
  rw [List.mem_map]
  constructor
  · rintro ⟨a, ha, rfl⟩
    simpa using ha
  · intro h
    exact ⟨_, h, by simp⟩
theorem shift_len (dx dy : Int) (zs : List (Int × Int)) : (shiftL dx dy zs).length = zs.length := by simp [shiftL]
theorem cells_in {l : List Th} (hG : Good l) : ∀ (n : Nat) (id : Int), glevel l id = some (n : Int) → ∀ c ∈ cellsF l n id, 0 ≤ c.1 ∧ c.1 < ((2 ^ n : Nat) : Int) ∧ 0 ≤ c.2 ∧ c.2 < ((2 ^ n : Nat) : Int)
  | 0, id, _, c, hc => by
    unfold cellsF at hc
    split at hc
    · simp at hc; subst hc; simp
    · cases hc
  | n + 1, id, h, c, hc => by
    obtain ⟨x, hx, _, _, _, g0, g1, g2, g3⟩ := thing_of hG h
    simp only [cellsF, List.mem_append, mem_shift] at hc
    rw [thAt_eq hx] at hc
    have hp : (2 : Nat) ^ (n + 1) = 2 ^ n + 2 ^ n := by rw [Nat.pow_succ]; omega
    rw [hp]
    rcases hc with ((hc | hc) | hc) | hc
    · have := cells_in hG n _ g0 c hc; omega
    · have := cells_in hG n _ g1 _ hc; simp only at this; omega
    · have := cells_in hG n _ g2 _ hc; simp only at this; omega
    · have := cells_in hG n _ g3 _ hc; simp only at this; omega
theorem cells_nodup {l : List Th} (hG : Good l) : ∀ (n : Nat) (id : Int), glevel l id = some (n : Int) → (cellsF l n id).Nodup
  | 0, id, _ => by
    unfold cellsF
    split <;> simp
  | n + 1, id, h => by
    obtain ⟨x, hx, _, _, _, g0, g1, g2, g3⟩ := thing_of hG h
    have k0 := cells_in hG n _ g0
    have k1 := cells_in hG n _ g1
    have k2 := cells_in hG n _ g2
    have k3 := cells_in hG n _ g3
    have nd : ∀ (dx dy : Int) (zs : List (Int × Int)), zs.Nodup → (shiftL dx dy zs).Nodup := fun dx dy zs hz => by
      unfold shiftL
      refine List.Pairwise.map _ (fun a b hab e => hab ?_) hz
      have e1 := congrArg Prod.fst e
      have e2 := congrArg Prod.snd e
      simp only at e1 e2
      exact Prod.ext (by omega) (by omega)
    simp only [cellsF]
    rw [thAt_eq hx]
    have d0 := cells_nodup hG n _ g0
    have d1 := nd ((2 ^ n : Nat) : Int) 0 _ (cells_nodup hG n _ g1)
    have d2 := nd 0 ((2 ^ n : Nat) : Int) _ (cells_nodup hG n _ g2)
    have d3 := nd ((2 ^ n : Nat) : Int) ((2 ^ n : Nat) : Int) _ (cells_nodup hG n _ g3)
    rw [List.nodup_append, List.nodup_append, List.nodup_append]
    refine ⟨⟨⟨d0, d1, fun a ha b hb e => ?_⟩, d2, fun a ha b hb e => ?_⟩, d3, fun a ha b hb e => ?_⟩
    · subst e
      have h0 := k0 a ha
      have h1 := k1 _ (mem_shift.1 hb)
      simp only at h1; omega
    · subst e
      have h2 := k2 _ (mem_shift.1 hb)
      simp only at h2
      rcases List.mem_append.1 ha with ha | ha
      · have h0 := k0 a ha; omega
      · have h1 := k1 _ (mem_shift.1 ha); simp only at h1; omega
    · subst e
      have h3 := k3 _ (mem_shift.1 hb)
      simp only at h3
      rcases List.mem_append.1 ha with ha | ha
      · rcases List.mem_append.1 ha with ha | ha
        · have h0 := k0 a ha; omega
        · have h1 := k1 _ (mem_shift.1 ha); simp only at h1; omega
      · have h2 := k2 _ (mem_shift.1 ha); simp only at h2; omega
end Go.Proofs.YtofbcngcblleaabGreat.A

namespace Go.Proofs.YtofbcngcblleaabGreat.A
open Go.RowKit Go.Maps
def Closed (l : List Th) (u : Nat) : Prop := ∀ x ∈ l, x.k = 1 → x.mask.testBit u = true → levelF l u x.p0 = some (x.lv - 1) ∧ levelF l u x.p1 = some (x.lv - 1) ∧ levelF l u x.p2 = some (x.lv - 1) ∧ levelF l u x.p3 = some (x.lv - 1)
structure Inv (A : Ar) : Prop where
  good : Good A.ths
  uniq : Uniq A.ths
  closed : ∀ u, Closed A.ths u
  cnt : ∀ u, u < 64 → A.cnt u = (ownN A.ths u : Int)
structure Gain (t : Nat) (A A' : Ar) (N : List Int) : Prop where
  ext : Ext A.ths A'.ths
  lim : A'.lim = A.lim
  room : A'.room = A.room
  free : A'.free = A.free
  cnt : A'.cnt = upd A.cnt t (A.cnt t + (N.length : Int))
  fresh : A'.fresh = upd A.fresh t (A.fresh t ++ N)
  bits : ∀ (j : Nat) (x' : Th), A'.ths[j]? = some x' → ∀ u, x'.mask.testBit u = true ↔ (∃ x, A.ths[j]? = some x ∧ x.mask.testBit u = true) ∨ (u = t ∧ (j : Int) + 2 ∈ N)
  nodup : N.Nodup
  news : ∀ id ∈ N, ownF A.ths t id = none
  born : ∀ j, A.ths.length ≤ j → j < A'.ths.length → (j : Int) + 2 ∈ N
  low : ∀ id ∈ N, 2 ≤ id ∧ (id - 2).toNat < A'.ths.length
structure Joined (t : Nat) (A : Ar) (q0 q1 q2 q3 m : Int) (A' : Ar) (id : Int) : Prop where
  inv : Inv A'
  grew : Grew t A A'
  gain : ∃ N, Gain t A A' N ∧ ∀ j ∈ N, j = id
  own : ∃ y, ownF A'.ths t id = some y ∧ y.key = ⟨1, q0, q1, q2, q3⟩ ∧ y.lv = m + 1
end Go.Proofs.YtofbcngcblleaabGreat.A

namespace Go.Proofs.YtofbcngcblleaabGreat.A
open Go.RowKit Go.Maps
structure Pur (A : Ar) (t k nn : Nat) : Prop where
  bud : Bud A k
  quo : A.cnt t + (k : Int) ≤ A.lim t
  nn : nn + k < 900000000
inductive Sub (l : List Th) : Int → Int → Prop
  | self (id : Int) : Sub l id id
  | p0 {id j : Int} : 2 ≤ id → Sub l (thAt l id).p0 j → Sub l id j
  | p1 {id j : Int} : 2 ≤ id → Sub l (thAt l id).p1 j → Sub l id j
  | p2 {id j : Int} : 2 ≤ id → Sub l (thAt l id).p2 j → Sub l id j
  | p3 {id j : Int} : 2 ≤ id → Sub l (thAt l id).p3 j → Sub l id j
structure Joins (t : Nat) (A : Ar) (q0 q1 q2 q3 : Int) (m : Nat) (A' : Ar) (id : Int) (N : List Int) : Prop where
  inv : Inv A'
  gain : Gain t A A' N
  only : ∀ j ∈ N, j = id
  lv : levelF A'.ths t id = some ((m + 1 : Nat) : Int)
  kids : (thAt A'.ths id).p0 = q0 ∧ (thAt A'.ths id).p1 = q1 ∧ (thAt A'.ths id).p2 = q2 ∧ (thAt A'.ths id).p3 = q3
  two : 2 ≤ id
  cells : cellsF A'.ths (m + 1) id = cellsF A.ths m q0 ++ shiftL ((2 ^ m : Nat) : Int) 0 (cellsF A.ths m q1) ++ shiftL 0 ((2 ^ m : Nat) : Int) (cellsF A.ths m q2) ++ shiftL ((2 ^ m : Nat) : Int) ((2 ^ m : Nat) : Int) (cellsF A.ths m q3)
  sq : ∃ y, ownF A'.ths t id = some y ∧ y.key = ⟨1, q0, q1, q2, q3⟩ ∧ y.lv = ((m + 1 : Nat) : Int)
structure PS (t : Nat) (A : Ar) (E : List Int) (k nn : Nat) : Prop where
  inv : Inv A
  emp : Emp A.ths t E
  len : E.length ≤ 45
  pur : Pur A t k nn
end Go.Proofs.YtofbcngcblleaabGreat.A

namespace Go.Proofs.YtofbcngcblleaabGreat.A
open Go.RowKit Go.Maps
structure MS (w : World) (hb b t nn : Nat) (F H : Nat → Prop) (A : Ar) (E : List Int) : Prop where
  ar : ArAt w b F nn A
  hand : HandIn w hb b t 0 E H
  dis : ∀ k, F k → ¬ H k
theorem ArAt.other {w w' : World} {b n : Nat} {F : Nat → Prop} {A : Ar} (h : ArAt w b F n A) (hs : w.heap.size ≤ w'.heap.size) (hb : ∀ k, F k → w'.heap[k]? = w.heap[k]?) : ArAt w' b F n A := by
  obtain ⟨r, D, h⟩ := h
  exact ⟨r, D, h.other hs hb⟩
section
variable {w w' : World} {hb b t nn : Nat} {F H : Nat → Prop} {A : Ar} {E : List Int}
end
def BOut (w : World) (hb b t c n : Nat) (F H : Nat → Prop) (A : Ar) (x y : Int) (zs : List (Int × Int)) (id : Int) (w' : World) : Prop :=
  ∃ (A' : Ar) (E' : List Int) (F' H' : Nat → Prop) (nn' : Nat) (N : List Int), MS w' hb b t nn' F' H' A' E' ∧ (∀ k, F' k ∨ H' k → (F k ∨ H k) ∨ w.heap.size ≤ k) ∧ Apart (fun k => F k ∨ H k) w w' ∧ PS t A' E' (c + (45 - E'.length)) nn' ∧ Gain t A A' N ∧ (∀ j ∈ N, Sub A'.ths id j) ∧ levelF A'.ths t id = some (n : Int) ∧ ∀ p : Int × Int, p ∈ cellsF A'.ths n id ↔ (p.1 + x, p.2 + y) ∈ zs
def RowL (w : World) (v : Value) (zs : List (Int × Int)) : Prop := ∃ a c, v = .slice a zs.length c ∧ (zs = [] ∨ ∃ b off, a = some ⟨b, off, none⟩ ∧ b < w.heap.size ∧ HoldsR w b off zs)
theorem RowL.other {w w' : World} {v : Value} {zs : List (Int × Int)} (h : RowL w v zs) (hs : w.heap.size ≤ w'.heap.size) (hb : ∀ k, v.ownBlock = some k → w'.heap[k]? = w.heap[k]?) : RowL w' v zs := by
  obtain ⟨a, c, hv, h | ⟨b, off, ha, hl, h3⟩⟩ := h
  · exact ⟨a, c, hv, Or.inl h⟩
  · refine ⟨a, c, hv, Or.inr ⟨b, off, ha, Nat.lt_of_lt_of_le hl hs, fun j hj => ?_⟩⟩
    have e := hb b (by rw [hv, ha]; rfl)
    obtain ⟨a1, a2⟩ := h3 j hj
    exact ⟨(World.cell?_of_block (a := ⟨b, off + j * 2, none⟩) e).trans a1, (World.cell?_of_block (a := ⟨b, off + j * 2 + 1, none⟩) e).trans a2⟩
theorem RowL.of {w : World} {v : Value} {zs : List (Int × Int)} (h : Row w v zs) : RowL w v zs := by
  rcases h with ⟨rfl, rfl⟩ | ⟨h0, b, off, c, hv, hl, h1, h2, h3⟩
  · exact ⟨none, 0, rfl, Or.inl rfl⟩
  · exact ⟨_, c, hv, Or.inr ⟨b, off, rfl, hl, h3⟩⟩
theorem cL_at : ∀ (zs : List (Int × Int)) (j : Nat), j < zs.length → (cL zs)[j * 2]? = some (.int .i64 (zs[j]!).1) ∧ (cL zs)[j * 2 + 1]? = some (.int .i64 (zs[j]!).2)
  | [], j, h => by simp at h
  | c :: zs, 0, _ => by simp [cL]
  | c :: zs, j + 1, h => by
    have := cL_at zs j (by simpa using h)
    have e : cL (c :: zs) = .int .i64 c.1 :: .int .i64 c.2 :: cL zs := by simp [cL]
    rw [e, show (j + 1) * 2 = j * 2 + 1 + 1 by omega, show j * 2 + 1 + 1 + 1 = (j * 2 + 1) + 1 + 1 by omega, List.getElem?_cons_succ, List.getElem?_cons_succ, List.getElem?_cons_succ, List.getElem?_cons_succ]
    simpa using this
theorem row_of_own {w : World} {B : Nat} {v : Value} {zs : List (Int × Int)} (h : w.ownsRow B 27 2 v zs.length (cL zs)) : RowL w v zs := by
  have hh := h
  rcases h.2 with ⟨rfl, h0⟩ | ⟨g, cap, cur, rfl, hB, hg, hc, hm, hr⟩
  · have : zs = [] := List.length_eq_zero_iff.1 h0
    exact ⟨none, 0, by rw [h0], Or.inl this⟩
  · refine ⟨_, cap, rfl, Or.inr ⟨g, 0, rfl, (Array.getElem?_eq_some_iff.1 hg).1, fun j hj => ?_⟩⟩
    have h1 := hh.cellAt (j * 2) (by omega)
    have h2 := hh.cellAt (j * 2 + 1) (by omega)
    obtain ⟨e1, e2⟩ := cL_at zs j hj
    rw [Nat.zero_add]
    exact ⟨h1.trans e1, h2.trans e2⟩
structure RS (w W : World) (hb b t nn : Nat) (F H F1 H1 : Nat → Prop) (A1 : Ar) (E1 : List Int) (q0 q1 q2 q3 : Int) (vs : Nat → Value) (ps : Nat → List (Int × Int)) : Prop where
  ms : MS W hb b t nn F1 H1 A1 E1
  sub : ∀ k, F1 k ∨ H1 k → (F k ∨ H k) ∨ w.heap.size < k
  ap : Apart (fun k => F k ∨ H k) w W
  qb : W.heap[w.heap.size]? = some (.cells #[.int .i64 q0, .int .i64 q1, .int .i64 q2, .int .i64 q3] 41 (0, 0))
  fl : ∀ k, F k ∨ H k → k < w.heap.size
  rows : ∀ i, i < 4 → RowL W (vs i) (ps i) ∧ ∀ k, (vs i).ownBlock = some k → w.heap.size < k ∧ k < W.heap.size ∧ ¬ F1 k ∧ ¬ H1 k
section
variable {w W W' : World} {hb b t nn : Nat} {F H F1 H1 : Nat → Prop} {A1 : Ar} {E1 : List Int} {q0 q1 q2 q3 : Int} {vs : Nat → Value} {ps : Nat → List (Int × Int)}
end
end Go.Proofs.YtofbcngcblleaabGreat.A

namespace Go.Proofs.YtofbcngcblleaabGreat.A
open Go.RowKit Go.Maps
def BSpec (n : Nat) : Prop := ∀ (hb b t nn c : Nat) (x y level : Int) (F H : Nat → Prop) (A : Ar) (E : List Int) (v : Value) (zs : List (Int × Int)) (w : World), n ≤ 44 → level = (n : Int) → MS w hb b t nn F H A E → PS t A E (n * zs.length + c + (45 - E.length)) nn → t < 64 → RowL w v zs → (∀ k, v.ownBlock = some k → ¬ F k ∧ ¬ H k) → zs.length ≤ 4096 →
  (∀ p ∈ zs, x ≤ p.1 ∧ p.1 < x + ((2 ^ n : Nat) : Int) ∧ y ≤ p.2 ∧ p.2 < y + ((2 ^ n : Nat) : Int)) → -1152921504606846976 ≤ x → x + ((2 ^ n : Nat) : Int) ≤ 1152921504606846976 → -1152921504606846976 ≤ y → y + ((2 ^ n : Nat) : Int) ≤ 1152921504606846976 →
  Calls Tryz.prog 17 #[.pointer (some ⟨hb, 0, none⟩), bareV, v, .int .i64 level, .int .i64 x, .int .i64 y] w fun e w' => ∃ id, e = .returned (.int .i64 id) ∧ BOut w hb b t c n F H A x y zs id w'
end Go.Proofs.YtofbcngcblleaabGreat.A

namespace Go.Proofs.YtofbcngcblleaabGreat.A
open Go.RowKit Go.Maps
theorem mem_part {X Y : Int} {zs : List (Int × Int)} {i : Nat} {p : Int × Int} : p ∈ part X Y zs i ↔ p ∈ zs ∧ qi X Y p = i := by
  unfold part
  rw [List.mem_filter]
  simp
theorem qi_cases (X Y : Int) (p : Int × Int) : (qi X Y p = 0 ↔ p.1 < X ∧ p.2 < Y) ∧ (qi X Y p = 1 ↔ X ≤ p.1 ∧ p.2 < Y) ∧ (qi X Y p = 2 ↔ p.1 < X ∧ Y ≤ p.2) ∧ (qi X Y p = 3 ↔ X ≤ p.1 ∧ Y ≤ p.2) := by
  unfold qi
  split <;> split <;> simp <;> omega
theorem parts_len (X Y : Int) (zs : List (Int × Int)) : (part X Y zs 0).length + (part X Y zs 1).length + (part X Y zs 2).length + (part X Y zs 3).length = zs.length := by
  induction zs with
  | nil => rfl
  | cons c zs ih =>
    have h := qi_cases X Y c
    have : qi X Y c = 0 ∨ qi X Y c = 1 ∨ qi X Y c = 2 ∨ qi X Y c = 3 := by
      rw [h.1, h.2.1, h.2.2.1, h.2.2.2]; omega
    unfold part at *
    rcases this with e | e | e | e <;> simp [e] <;> omega
theorem halfN_succ (n : Nat) : halfN (n + 1) = 2 ^ n := rfl
end Go.Proofs.YtofbcngcblleaabGreat.A
