/- The cells of a square with one of them set. -/
import Derived.Test.YthobobgiendcfaaArBud
namespace Go.Proofs.Ythobobgiendcfaa.A
open Go.RowKit Go.Maps

/-- the thing of a number, whosever it is -/
def thAt (l : List Th) (id : Int) : Th := (l[(id - 2).toNat]?).getD noTh
def shiftL (dx dy : Int) (zs : List (Int × Int)) : List (Int × Int) := zs.map fun c => (c.1 + dx, c.2 + dy)
/-- the cells of a square of a level, as if its corner were at 0, 0, quarter by quarter -/
def cellsF (l : List Th) : Nat → Int → List (Int × Int)
  | 0, id => if id = 1 then [(0, 0)] else []
  | n + 1, id => cellsF l n (thAt l id).p0 ++ shiftL ((2 ^ n : Nat) : Int) 0 (cellsF l n (thAt l id).p1) ++ shiftL 0 ((2 ^ n : Nat) : Int) (cellsF l n (thAt l id).p2) ++ shiftL ((2 ^ n : Nat) : Int) ((2 ^ n : Nat) : Int) (cellsF l n (thAt l id).p3)

theorem thing_of {l : List Th} (hG : Good l) {n : Nat} {id : Int} (h : glevel l id = some ((n + 1 : Nat) : Int)) : ∃ x, l[(id - 2).toNat]? = some x ∧ 2 ≤ id ∧ x.k = 1 ∧ x.lv = ((n + 1 : Nat) : Int) ∧ glevel l x.p0 = some (n : Int) ∧ glevel l x.p1 = some (n : Int) ∧ glevel l x.p2 = some (n : Int) ∧ glevel l x.p3 = some (n : Int) := by
  unfold glevel at h
  split at h
  · have := Option.some.inj h; omega
  · split at h
    · split at h
      · rename_i x hx
        split at h
        · rename_i hk
          have hl := Option.some.inj h
          obtain ⟨_, _, a, b, c, d⟩ := hG.lv x (List.mem_of_getElem? hx) hk
          rw [show x.lv - 1 = (n : Int) by omega] at a b c d
          exact ⟨x, hx, by assumption, hk, hl, a, b, c, d⟩
        · cases h
      · cases h
    · cases h
theorem glevel_zero {l : List Th} (hG : Good l) {id : Int} (h : glevel l id = some 0) : id = 0 ∨ id = 1 := by
  unfold glevel at h
  split at h
  · assumption
  · split at h
    · split at h
      · rename_i x hx
        split at h
        · rename_i hk
          have hl := Option.some.inj h
          obtain ⟨a, _⟩ := hG.lv x (List.mem_of_getElem? hx) hk
          omega
        · cases h
      · cases h
    · cases h
theorem thAt_eq {l : List Th} {id : Int} {x : Th} (h : l[(id - 2).toNat]? = some x) : thAt l id = x := by unfold thAt; rw [h]; rfl

theorem key_parts {x y : Th} (h : x.key = y.key) : x.p0 = y.p0 ∧ x.p1 = y.p1 ∧ x.p2 = y.p2 ∧ x.p3 = y.p3 := ⟨congrArg Ky.p0 h, congrArg Ky.p1 h, congrArg Ky.p2 h, congrArg Ky.p3 h⟩

/-- what a square's cells are does not hang on what is made later -/
theorem cells_ext {l l' : List Th} (hG : Good l) (he : Ext l l') : ∀ (n : Nat) (id : Int), glevel l id = some (n : Int) → cellsF l' n id = cellsF l n id
  | 0, id, _ => rfl
  | n + 1, id, h => by
    obtain ⟨x, hx, _, _, _, g0, g1, g2, g3⟩ := thing_of hG h
    obtain ⟨x', hx', hk, _⟩ := he _ _ hx
    obtain ⟨e0, e1, e2, e3⟩ := key_parts hk
    simp only [cellsF]
    rw [thAt_eq hx, thAt_eq hx', e0, e1, e2, e3, cells_ext hG he n _ g0, cells_ext hG he n _ g1, cells_ext hG he n _ g2, cells_ext hG he n _ g3]

theorem mem_shift {dx dy : Int} {zs : List (Int × Int)} {c : Int × Int} : c ∈ shiftL dx dy zs ↔ (c.1 - dx, c.2 - dy) ∈ zs := by
  unfold shiftL
  rw [List.mem_map]
  constructor
  · rintro ⟨a, ha, rfl⟩
    simpa using ha
  · intro h
    exact ⟨_, h, by simp⟩
theorem shift_len (dx dy : Int) (zs : List (Int × Int)) : (shiftL dx dy zs).length = zs.length := by simp [shiftL]
/-- all cells lie within -/
theorem cells_in {l : List Th} (hG : Good l) : ∀ (n : Nat) (id : Int), glevel l id = some (n : Int) → ∀ c ∈ cellsF l n id, 0 ≤ c.1 ∧ c.1 < ((2 ^ n : Nat) : Int) ∧ 0 ≤ c.2 ∧ c.2 < ((2 ^ n : Nat) : Int)
  | 0, id, _, c, hc => by
    unfold cellsF at hc
    split at hc
    · simp at hc; subst hc; simp
    · cases hc
  | n + 1, id, h, c, hc => by
    obtain ⟨x, hx, _, _, _, g0, g1, g2, g3⟩ := thing_of hG h
    simp only [cellsF, List.mem_append, mem_shift] at hc
    rw [thAt_eq hx] at hc
    have hp : (2 : Nat) ^ (n + 1) = 2 ^ n + 2 ^ n := by rw [Nat.pow_succ]; omega
    rw [hp]
    rcases hc with ((hc | hc) | hc) | hc
    · have := cells_in hG n _ g0 c hc; omega
    · have := cells_in hG n _ g1 _ hc; simp only at this; omega
    · have := cells_in hG n _ g2 _ hc; simp only at this; omega
    · have := cells_in hG n _ g3 _ hc; simp only at this; omega
/-- a quarter's cells are those of the square there -/
theorem cells_quarter {l : List Th} (hG : Good l) {n : Nat} {id : Int} {x : Th} (hx : l[(id - 2).toNat]? = some x) (g0 : glevel l x.p0 = some (n : Int)) (g1 : glevel l x.p1 = some (n : Int)) (g2 : glevel l x.p2 = some (n : Int)) (g3 : glevel l x.p3 = some (n : Int)) (c : Int × Int) (h1 : 0 ≤ c.1) (h2 : c.1 < ((2 ^ n : Nat) : Int)) (h3 : 0 ≤ c.2) (h4 : c.2 < ((2 ^ n : Nat) : Int)) :
    ((c.1, c.2) ∈ cellsF l (n + 1) id ↔ c ∈ cellsF l n x.p0) ∧ ((c.1 + ((2 ^ n : Nat) : Int), c.2) ∈ cellsF l (n + 1) id ↔ c ∈ cellsF l n x.p1) ∧ ((c.1, c.2 + ((2 ^ n : Nat) : Int)) ∈ cellsF l (n + 1) id ↔ c ∈ cellsF l n x.p2) ∧ ((c.1 + ((2 ^ n : Nat) : Int), c.2 + ((2 ^ n : Nat) : Int)) ∈ cellsF l (n + 1) id ↔ c ∈ cellsF l n x.p3) := by
  simp only [cellsF, List.mem_append, mem_shift]
  rw [thAt_eq hx]
  have k0 := cells_in hG n _ g0
  have k1 := cells_in hG n _ g1
  have k2 := cells_in hG n _ g2
  have k3 := cells_in hG n _ g3
  have no : ∀ (id : Int) (a b : Int), (∀ c ∈ cellsF l n id, 0 ≤ c.1 ∧ c.1 < ((2 ^ n : Nat) : Int) ∧ 0 ≤ c.2 ∧ c.2 < ((2 ^ n : Nat) : Int)) → ¬ (0 ≤ a ∧ a < ((2 ^ n : Nat) : Int) ∧ 0 ≤ b ∧ b < ((2 ^ n : Nat) : Int)) → ¬ (a, b) ∈ cellsF l n id := fun id a b h hn hm => hn (h _ hm)
  refine ⟨⟨?_, ?_⟩, ⟨?_, ?_⟩, ⟨?_, ?_⟩, ⟨?_, ?_⟩⟩
  · rintro (((h | h) | h) | h)
    · exact h
    · exact absurd h (no _ _ _ k1 (by omega))
    · exact absurd h (no _ _ _ k2 (by omega))
    · exact absurd h (no _ _ _ k3 (by omega))
  · intro h; exact Or.inl (Or.inl (Or.inl h))
  · rintro (((h | h) | h) | h)
    · exact absurd h (no _ _ _ k0 (by omega))
    · simpa using h
    · exact absurd h (no _ _ _ k2 (by omega))
    · exact absurd h (no _ _ _ k3 (by omega))
  · intro h; exact Or.inl (Or.inl (Or.inr (by simpa using h)))
  · rintro (((h | h) | h) | h)
    · exact absurd h (no _ _ _ k0 (by omega))
    · exact absurd h (no _ _ _ k1 (by omega))
    · simpa using h
    · exact absurd h (no _ _ _ k3 (by omega))
  · intro h; exact Or.inl (Or.inr (by simpa using h))
  · rintro (((h | h) | h) | h)
    · exact absurd h (no _ _ _ k0 (by omega))
    · exact absurd h (no _ _ _ k1 (by omega))
    · exact absurd h (no _ _ _ k2 (by omega))
    · simpa using h
  · intro h; exact Or.inr (by simpa using h)

/-- no two things have one key -/
def Uniq (l : List Th) : Prop := ∀ (i j : Nat) (x y : Th), l[i]? = some x → l[j]? = some y → x.k ≠ 0 → x.key = y.key → i = j
/-- each pattern is one square -/
theorem cells_one {l : List Th} (hG : Good l) (hU : Uniq l) : ∀ (n : Nat) (a b : Int), glevel l a = some (n : Int) → glevel l b = some (n : Int) → (∀ c, c ∈ cellsF l n a ↔ c ∈ cellsF l n b) → a = b
  | 0, a, b, ha, hb, h => by
    have h1 := h (0, 0)
    unfold cellsF at h1
    rcases glevel_zero hG ha with rfl | rfl <;> rcases glevel_zero hG hb with rfl | rfl
    · rfl
    · simp at h1
    · simp at h1
    · rfl
  | n + 1, a, b, ha, hb, h => by
    obtain ⟨x, hx, hx2, hxk, _, a0, a1, a2, a3⟩ := thing_of hG ha
    obtain ⟨y, hy, hy2, hyk, _, b0, b1, b2, b3⟩ := thing_of hG hb
    have q := fun c h1 h2 h3 h4 => cells_quarter hG hx a0 a1 a2 a3 c h1 h2 h3 h4
    have r := fun c h1 h2 h3 h4 => cells_quarter hG hy b0 b1 b2 b3 c h1 h2 h3 h4
    have e0 : x.p0 = y.p0 := cells_one hG hU n _ _ a0 b0 fun c => ⟨fun hc => by
      obtain ⟨i1, i2, i3, i4⟩ := cells_in hG n _ a0 c hc
      exact (r c i1 i2 i3 i4).1.1 ((h _).1 ((q c i1 i2 i3 i4).1.2 hc)), fun hc => by
      obtain ⟨i1, i2, i3, i4⟩ := cells_in hG n _ b0 c hc
      exact (q c i1 i2 i3 i4).1.1 ((h _).2 ((r c i1 i2 i3 i4).1.2 hc))⟩
    have e1 : x.p1 = y.p1 := cells_one hG hU n _ _ a1 b1 fun c => ⟨fun hc => by
      obtain ⟨i1, i2, i3, i4⟩ := cells_in hG n _ a1 c hc
      exact (r c i1 i2 i3 i4).2.1.1 ((h _).1 ((q c i1 i2 i3 i4).2.1.2 hc)), fun hc => by
      obtain ⟨i1, i2, i3, i4⟩ := cells_in hG n _ b1 c hc
      exact (q c i1 i2 i3 i4).2.1.1 ((h _).2 ((r c i1 i2 i3 i4).2.1.2 hc))⟩
    have e2 : x.p2 = y.p2 := cells_one hG hU n _ _ a2 b2 fun c => ⟨fun hc => by
      obtain ⟨i1, i2, i3, i4⟩ := cells_in hG n _ a2 c hc
      exact (r c i1 i2 i3 i4).2.2.1.1 ((h _).1 ((q c i1 i2 i3 i4).2.2.1.2 hc)), fun hc => by
      obtain ⟨i1, i2, i3, i4⟩ := cells_in hG n _ b2 c hc
      exact (q c i1 i2 i3 i4).2.2.1.1 ((h _).2 ((r c i1 i2 i3 i4).2.2.1.2 hc))⟩
    have e3 : x.p3 = y.p3 := cells_one hG hU n _ _ a3 b3 fun c => ⟨fun hc => by
      obtain ⟨i1, i2, i3, i4⟩ := cells_in hG n _ a3 c hc
      exact (r c i1 i2 i3 i4).2.2.2.1 ((h _).1 ((q c i1 i2 i3 i4).2.2.2.2 hc)), fun hc => by
      obtain ⟨i1, i2, i3, i4⟩ := cells_in hG n _ b3 c hc
      exact (q c i1 i2 i3 i4).2.2.2.1 ((h _).2 ((r c i1 i2 i3 i4).2.2.2.2 hc))⟩
    have hk : x.key = y.key := by
      unfold Th.key
      rw [hxk, hyk, e0, e1, e2, e3]
    have := hU _ _ x y hx hy (by rw [hxk]; decide) hk
    omega
/-- no cell twice -/
theorem cells_nodup {l : List Th} (hG : Good l) : ∀ (n : Nat) (id : Int), glevel l id = some (n : Int) → (cellsF l n id).Nodup
  | 0, id, _ => by
    unfold cellsF
    split <;> simp
  | n + 1, id, h => by
    obtain ⟨x, hx, _, _, _, g0, g1, g2, g3⟩ := thing_of hG h
    have k0 := cells_in hG n _ g0
    have k1 := cells_in hG n _ g1
    have k2 := cells_in hG n _ g2
    have k3 := cells_in hG n _ g3
    have nd : ∀ (dx dy : Int) (zs : List (Int × Int)), zs.Nodup → (shiftL dx dy zs).Nodup := fun dx dy zs hz => by
      unfold shiftL
      refine List.Pairwise.map _ (fun a b hab e => hab ?_) hz
      have e1 := congrArg Prod.fst e
      have e2 := congrArg Prod.snd e
      simp only at e1 e2
      exact Prod.ext (by omega) (by omega)
    simp only [cellsF]
    rw [thAt_eq hx]
    have d0 := cells_nodup hG n _ g0
    have d1 := nd ((2 ^ n : Nat) : Int) 0 _ (cells_nodup hG n _ g1)
    have d2 := nd 0 ((2 ^ n : Nat) : Int) _ (cells_nodup hG n _ g2)
    have d3 := nd ((2 ^ n : Nat) : Int) ((2 ^ n : Nat) : Int) _ (cells_nodup hG n _ g3)
    rw [List.nodup_append, List.nodup_append, List.nodup_append]
    refine ⟨⟨⟨d0, d1, fun a ha b hb e => ?_⟩, d2, fun a ha b hb e => ?_⟩, d3, fun a ha b hb e => ?_⟩
    · subst e
      have h0 := k0 a ha
      have h1 := k1 _ (mem_shift.1 hb)
      simp only at h1; omega
    · subst e
      have h2 := k2 _ (mem_shift.1 hb)
      simp only at h2
      rcases List.mem_append.1 ha with ha | ha
      · have h0 := k0 a ha; omega
      · have h1 := k1 _ (mem_shift.1 ha); simp only at h1; omega
    · subst e
      have h3 := k3 _ (mem_shift.1 hb)
      simp only at h3
      rcases List.mem_append.1 ha with ha | ha
      · rcases List.mem_append.1 ha with ha | ha
        · have h0 := k0 a ha; omega
        · have h1 := k1 _ (mem_shift.1 ha); simp only at h1; omega
      · have h2 := k2 _ (mem_shift.1 ha); simp only at h2; omega
end Go.Proofs.Ythobobgiendcfaa.A

namespace Go.Proofs.Ythobobgiendcfaa.A
open Go.RowKit Go.Maps

/-- the cells of a square with one of them set -/
def PutC (alive : Bool) (X Y : Int) (S T : List (Int × Int)) : Prop := ∀ p : Int × Int, p ∈ T ↔ (p = (X, Y) ∧ alive = true) ∨ (p ≠ (X, Y) ∧ p ∈ S)
/-- four quarters -/
def quartC (h : Int) (S0 S1 S2 S3 : List (Int × Int)) : List (Int × Int) := S0 ++ shiftL h 0 S1 ++ shiftL 0 h S2 ++ shiftL h h S3
theorem mem_quartC {h : Int} {S0 S1 S2 S3 : List (Int × Int)} {p : Int × Int} : p ∈ quartC h S0 S1 S2 S3 ↔ p ∈ S0 ∨ (p.1 - h, p.2) ∈ S1 ∨ (p.1, p.2 - h) ∈ S2 ∨ (p.1 - h, p.2 - h) ∈ S3 := by
  unfold quartC
  simp only [List.mem_append, mem_shift, Int.sub_zero, or_assoc]
def InH (h : Int) (S : List (Int × Int)) : Prop := ∀ p ∈ S, 0 ≤ p.1 ∧ p.1 < h ∧ 0 ≤ p.2 ∧ p.2 < h
theorem putC_0 {alive : Bool} {X Y h : Int} {S0 S1 S2 S3 T : List (Int × Int)} (hX : 0 ≤ X ∧ X < h) (hY : 0 ≤ Y ∧ Y < h) (h1 : InH h S1) (h2 : InH h S2) (h3 : InH h S3) (hP : PutC alive X Y S0 T) : PutC alive (X) (Y) (quartC h S0 S1 S2 S3) (quartC h T S1 S2 S3) := fun p => by
  obtain ⟨p1, p2⟩ := p
  rw [mem_quartC, mem_quartC]
  simp only
  by_cases e : p1 = X ∧ p2 = Y
  · obtain ⟨e1, e2⟩ := e
    have n1 : ¬ (p1 - h, p2) ∈ S1 := fun hm => by have := h1 _ hm; simp only at this; omega
    have n2 : ¬ (p1, p2 - h) ∈ S2 := fun hm => by have := h2 _ hm; simp only at this; omega
    have n3 : ¬ (p1 - h, p2 - h) ∈ S3 := fun hm => by have := h3 _ hm; simp only at this; omega
    have hT : (p1, p2) ∈ T ↔ alive = true := by
      have he : ((p1, p2) = (X, Y)) = True := eq_true (by rw [Prod.mk.injEq]; omega)
      rw [hP]
      simp only [he, true_and, ne_eq, not_true_eq_false, false_and, or_false]
    have heq : ((p1, p2) = (X, Y)) = True := eq_true (by rw [Prod.mk.injEq]; exact ⟨e1, e2⟩)
    refine Iff.trans (b := alive = true) (by simp only [hT, n1, n2, n3, or_false]) ?_
    simp only [heq, true_and, ne_eq, not_true_eq_false, false_and, or_false]
  · have hT : (p1, p2) ∈ T ↔ (p1, p2) ∈ S0 := by
      rw [hP]
      have : (p1, p2) ≠ (X, Y) := fun h' => e (by rw [Prod.mk.injEq] at h'; omega)
      simp only [this, false_and, false_or, ne_eq, not_false_eq_true, true_and]
    have hne : (p1, p2) ≠ (X, Y) := fun h' => e (by rw [Prod.mk.injEq] at h'; exact h')
    simp only [hT, hne, false_and, false_or, ne_eq, not_false_eq_true, true_and]
theorem putC_1 {alive : Bool} {X Y h : Int} {S0 S1 S2 S3 T : List (Int × Int)} (hX : 0 ≤ X ∧ X < h) (hY : 0 ≤ Y ∧ Y < h) (h0 : InH h S0) (h2 : InH h S2) (h3 : InH h S3) (hP : PutC alive X Y S1 T) : PutC alive (X + h) (Y) (quartC h S0 S1 S2 S3) (quartC h S0 T S2 S3) := fun p => by
  obtain ⟨p1, p2⟩ := p
  rw [mem_quartC, mem_quartC]
  simp only
  by_cases e : p1 = X + h ∧ p2 = Y
  · obtain ⟨e1, e2⟩ := e
    have n0 : ¬ (p1, p2) ∈ S0 := fun hm => by have := h0 _ hm; simp only at this; omega
    have n2 : ¬ (p1, p2 - h) ∈ S2 := fun hm => by have := h2 _ hm; simp only at this; omega
    have n3 : ¬ (p1 - h, p2 - h) ∈ S3 := fun hm => by have := h3 _ hm; simp only at this; omega
    have hT : (p1 - h, p2) ∈ T ↔ alive = true := by
      have he : ((p1 - h, p2) = (X, Y)) = True := eq_true (by rw [Prod.mk.injEq]; omega)
      rw [hP]
      simp only [he, true_and, ne_eq, not_true_eq_false, false_and, or_false]
    have heq : ((p1, p2) = (X + h, Y)) = True := eq_true (by rw [Prod.mk.injEq]; exact ⟨e1, e2⟩)
    refine Iff.trans (b := alive = true) (by simp only [hT, n0, n2, n3, false_or, or_false]) ?_
    simp only [heq, true_and, ne_eq, not_true_eq_false, false_and, or_false]
  · have hT : (p1 - h, p2) ∈ T ↔ (p1 - h, p2) ∈ S1 := by
      rw [hP]
      have : (p1 - h, p2) ≠ (X, Y) := fun h' => e (by rw [Prod.mk.injEq] at h'; omega)
      simp only [this, false_and, false_or, ne_eq, not_false_eq_true, true_and]
    have hne : (p1, p2) ≠ (X + h, Y) := fun h' => e (by rw [Prod.mk.injEq] at h'; exact h')
    simp only [hT, hne, false_and, false_or, ne_eq, not_false_eq_true, true_and]
theorem putC_2 {alive : Bool} {X Y h : Int} {S0 S1 S2 S3 T : List (Int × Int)} (hX : 0 ≤ X ∧ X < h) (hY : 0 ≤ Y ∧ Y < h) (h0 : InH h S0) (h1 : InH h S1) (h3 : InH h S3) (hP : PutC alive X Y S2 T) : PutC alive (X) (Y + h) (quartC h S0 S1 S2 S3) (quartC h S0 S1 T S3) := fun p => by
  obtain ⟨p1, p2⟩ := p
  rw [mem_quartC, mem_quartC]
  simp only
  by_cases e : p1 = X ∧ p2 = Y + h
  · obtain ⟨e1, e2⟩ := e
    have n0 : ¬ (p1, p2) ∈ S0 := fun hm => by have := h0 _ hm; simp only at this; omega
    have n1 : ¬ (p1 - h, p2) ∈ S1 := fun hm => by have := h1 _ hm; simp only at this; omega
    have n3 : ¬ (p1 - h, p2 - h) ∈ S3 := fun hm => by have := h3 _ hm; simp only at this; omega
    have hT : (p1, p2 - h) ∈ T ↔ alive = true := by
      have he : ((p1, p2 - h) = (X, Y)) = True := eq_true (by rw [Prod.mk.injEq]; omega)
      rw [hP]
      simp only [he, true_and, ne_eq, not_true_eq_false, false_and, or_false]
    have heq : ((p1, p2) = (X, Y + h)) = True := eq_true (by rw [Prod.mk.injEq]; exact ⟨e1, e2⟩)
    refine Iff.trans (b := alive = true) (by simp only [hT, n0, n1, n3, false_or, or_false]) ?_
    simp only [heq, true_and, ne_eq, not_true_eq_false, false_and, or_false]
  · have hT : (p1, p2 - h) ∈ T ↔ (p1, p2 - h) ∈ S2 := by
      rw [hP]
      have : (p1, p2 - h) ≠ (X, Y) := fun h' => e (by rw [Prod.mk.injEq] at h'; omega)
      simp only [this, false_and, false_or, ne_eq, not_false_eq_true, true_and]
    have hne : (p1, p2) ≠ (X, Y + h) := fun h' => e (by rw [Prod.mk.injEq] at h'; exact h')
    simp only [hT, hne, false_and, false_or, ne_eq, not_false_eq_true, true_and]
theorem putC_3 {alive : Bool} {X Y h : Int} {S0 S1 S2 S3 T : List (Int × Int)} (hX : 0 ≤ X ∧ X < h) (hY : 0 ≤ Y ∧ Y < h) (h0 : InH h S0) (h1 : InH h S1) (h2 : InH h S2) (hP : PutC alive X Y S3 T) : PutC alive (X + h) (Y + h) (quartC h S0 S1 S2 S3) (quartC h S0 S1 S2 T) := fun p => by
  obtain ⟨p1, p2⟩ := p
  rw [mem_quartC, mem_quartC]
  simp only
  by_cases e : p1 = X + h ∧ p2 = Y + h
  · obtain ⟨e1, e2⟩ := e
    have n0 : ¬ (p1, p2) ∈ S0 := fun hm => by have := h0 _ hm; simp only at this; omega
    have n1 : ¬ (p1 - h, p2) ∈ S1 := fun hm => by have := h1 _ hm; simp only at this; omega
    have n2 : ¬ (p1, p2 - h) ∈ S2 := fun hm => by have := h2 _ hm; simp only at this; omega
    have hT : (p1 - h, p2 - h) ∈ T ↔ alive = true := by
      have he : ((p1 - h, p2 - h) = (X, Y)) = True := eq_true (by rw [Prod.mk.injEq]; omega)
      rw [hP]
      simp only [he, true_and, ne_eq, not_true_eq_false, false_and, or_false]
    have heq : ((p1, p2) = (X + h, Y + h)) = True := eq_true (by rw [Prod.mk.injEq]; exact ⟨e1, e2⟩)
    refine Iff.trans (b := alive = true) (by simp only [hT, n0, n1, n2, false_or]) ?_
    simp only [heq, true_and, ne_eq, not_true_eq_false, false_and, or_false]
  · have hT : (p1 - h, p2 - h) ∈ T ↔ (p1 - h, p2 - h) ∈ S3 := by
      rw [hP]
      have : (p1 - h, p2 - h) ≠ (X, Y) := fun h' => e (by rw [Prod.mk.injEq] at h'; omega)
      simp only [this, false_and, false_or, ne_eq, not_false_eq_true, true_and]
    have hne : (p1, p2) ≠ (X + h, Y + h) := fun h' => e (by rw [Prod.mk.injEq] at h'; exact h')
    simp only [hT, hne, false_and, false_or, ne_eq, not_false_eq_true, true_and]
theorem mod_half {x : Int} {n : Nat} (h0 : 0 ≤ x) : x % ((2 ^ (n + 1) : Nat) : Int) = x % ((2 ^ n : Nat) : Int) + ((2 ^ n : Nat) : Int) * (x / ((2 ^ n : Nat) : Int) % 2) := by
  obtain ⟨k, rfl⟩ : ∃ k : Nat, x = (k : Int) := ⟨x.toNat, by omega⟩
  have := Nat.mod_mul (x := k) (a := 2 ^ n) (b := 2)
  rw [← Nat.pow_succ] at this
  exact_mod_cast this
end Go.Proofs.Ythobobgiendcfaa.A
