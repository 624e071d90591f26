/- Four squares, joined: the cells of all. -/
import Derived.Test.YthobobgiendcfaaQuQuart2
import Derived.Test.YthobobgiendcfaaSqHand
namespace Go.Proofs.Ythobobgiendcfaa.A
open Go.RowKit Go.Maps

/-- arena and hand in memory -/
structure MS (w : World) (hb b t nn : Nat) (F H : Nat → Prop) (A : Ar) (E : List Int) : Prop where
  ar : ArAt w b F nn A
  hand : HandIn w hb b t 0 E H
  dis : ∀ k, F k → ¬ H k
theorem HandIn.hlt {w : World} {hb b t : Nat} {e : Int} {E : List Int} {H : Nat → Prop} (h : HandIn w hb b t e E H) : ∀ k, H k → k < w.heap.size := by
  obtain ⟨v, _, _, _, _, _, h⟩ := h
  exact h
theorem HandIn.other {w w' : World} {hb b t : Nat} {e : Int} {E : List Int} {H : Nat → Prop} (h : HandIn w hb b t e E H) (hs : w.heap.size ≤ w'.heap.size) (hb' : ∀ k, H k → w'.heap[k]? = w.heap[k]?) : HandIn w' hb b t e E H := by
  obtain ⟨v, h1, h2, h3, h4, h5, h6⟩ := h
  exact ⟨v, h1.go (hb' hb h3), row_other h2 fun k hk => hb' k (h4 k hk), h3, h4, h5, fun k hk => Nat.lt_of_lt_of_le (h6 k hk) hs⟩
theorem ArAt.other {w w' : World} {b n : Nat} {F : Nat → Prop} {A : Ar} (h : ArAt w b F n A) (hs : w.heap.size ≤ w'.heap.size) (hb : ∀ k, F k → w'.heap[k]? = w.heap[k]?) : ArAt w' b F n A := by
  obtain ⟨r, D, h⟩ := h
  exact ⟨r, D, h.other hs hb⟩
theorem cell_inb {w : World} {k o : Nat} {v : Value} (h : w.cell? ⟨k, o, none⟩ = some v) : k < w.heap.size := by
  rcases Nat.lt_or_ge k w.heap.size with hl | hl
  · exact hl
  · exfalso
    simp [World.cell?, Array.getElem?_eq_none hl] at h
section
variable {w w' : World} {hb b t nn : Nat} {F H : Nat → Prop} {A : Ar} {E : List Int}
theorem MS.lt (h : MS w hb b t nn F H A E) {k : Nat} (hk : F k ∨ H k) : k < w.heap.size := by
  rcases hk with hk | hk
  · exact h.ar.flt k hk
  · exact h.hand.hlt k hk
theorem MS.other (h : MS w hb b t nn F H A E) (hs : w.heap.size ≤ w'.heap.size) (hb' : ∀ k, F k ∨ H k → w'.heap[k]? = w.heap[k]?) : MS w' hb b t nn F H A E :=
  ⟨h.ar.other hs fun k hk => hb' k (Or.inl hk), h.hand.other hs fun k hk => hb' k (Or.inr hk), h.dis⟩
theorem MS.below (h : MS w hb b t nn F H A E) (hb' : Below w.heap.size w w') : MS w' hb b t nn F H A E :=
  h.other hb'.size fun k hk => hb'.block k (h.lt hk)
end

/-- what a call that builds a square answers and leaves -/
def BOut (w : World) (hb b t c n : Nat) (F H : Nat → Prop) (A : Ar) (x y : Int) (zs : List (Int × Int)) (id : Int) (w' : World) : Prop :=
  ∃ (A' : Ar) (E' : List Int) (F' H' : Nat → Prop) (nn' : Nat) (N : List Int), MS w' hb b t nn' F' H' A' E' ∧ (∀ k, F' k ∨ H' k → (F k ∨ H k) ∨ w.heap.size ≤ k) ∧ Apart (fun k => F k ∨ H k) w w' ∧ PS t A' E' (c + (45 - E'.length)) nn' ∧ Gain t A A' N ∧ (∀ j ∈ N, Sub A'.ths id j) ∧ levelF A'.ths t id = some (n : Int) ∧ ∀ p : Int × Int, p ∈ cellsF A'.ths n id ↔ (p.1 + x, p.2 + y) ∈ zs

/-- a slice that reads as a list of cells -/
def RowL (w : World) (v : Value) (zs : List (Int × Int)) : Prop := ∃ a c, v = .slice a zs.length c ∧ (zs = [] ∨ ∃ b off, a = some ⟨b, off, none⟩ ∧ b < w.heap.size ∧ HoldsR w b off zs)
theorem RowL.other {w w' : World} {v : Value} {zs : List (Int × Int)} (h : RowL w v zs) (hs : w.heap.size ≤ w'.heap.size) (hb : ∀ k, v.ownBlock = some k → w'.heap[k]? = w.heap[k]?) : RowL w' v zs := by
  obtain ⟨a, c, hv, h | ⟨b, off, ha, hl, h3⟩⟩ := h
  · exact ⟨a, c, hv, Or.inl h⟩
  · refine ⟨a, c, hv, Or.inr ⟨b, off, ha, Nat.lt_of_lt_of_le hl hs, fun j hj => ?_⟩⟩
    have e := hb b (by rw [hv, ha]; rfl)
    obtain ⟨a1, a2⟩ := h3 j hj
    exact ⟨(World.cell?_of_block (a := ⟨b, off + j * 2, none⟩) e).trans a1, (World.cell?_of_block (a := ⟨b, off + j * 2 + 1, none⟩) e).trans a2⟩
theorem RowL.of {w : World} {v : Value} {zs : List (Int × Int)} (h : Row w v zs) : RowL w v zs := by
  rcases h with ⟨rfl, rfl⟩ | ⟨h0, b, off, c, hv, hl, h1, h2, h3⟩
  · exact ⟨none, 0, rfl, Or.inl rfl⟩
  · exact ⟨_, c, hv, Or.inr ⟨b, off, rfl, hl, h3⟩⟩
theorem cL_at : ∀ (zs : List (Int × Int)) (j : Nat), j < zs.length → (cL zs)[j * 2]? = some (.int .i64 (zs[j]!).1) ∧ (cL zs)[j * 2 + 1]? = some (.int .i64 (zs[j]!).2)
  | [], j, h => by simp at h
  | c :: zs, 0, _ => by simp [cL]
  | c :: zs, j + 1, h => by
    have := cL_at zs j (by simpa using h)
    have e : cL (c :: zs) = .int .i64 c.1 :: .int .i64 c.2 :: cL zs := by simp [cL]
    rw [e, show (j + 1) * 2 = j * 2 + 1 + 1 by omega, show j * 2 + 1 + 1 + 1 = (j * 2 + 1) + 1 + 1 by omega, List.getElem?_cons_succ, List.getElem?_cons_succ, List.getElem?_cons_succ, List.getElem?_cons_succ]
    simpa using this
theorem cL_len (zs : List (Int × Int)) : (cL zs).length = zs.length * 2 := by
  induction zs with
  | nil => rfl
  | cons c zs ih => simp [cL] at *; omega
/-- a row of a call's own reads as a list -/
theorem row_of_own {w : World} {B : Nat} {v : Value} {zs : List (Int × Int)} (h : w.ownsRow B 87 2 v zs.length (cL zs)) : RowL w v zs := by
  have hh := h
  rcases h.2 with ⟨rfl, h0⟩ | ⟨g, cap, cur, rfl, hB, hg, hc, hm, hr⟩
  · have : zs = [] := List.length_eq_zero_iff.1 h0
    exact ⟨none, 0, by rw [h0], Or.inl this⟩
  · refine ⟨_, cap, rfl, Or.inr ⟨g, 0, rfl, (Array.getElem?_eq_some_iff.1 hg).1, fun j hj => ?_⟩⟩
    have h1 := hh.cellAt (j * 2) (by omega)
    have h2 := hh.cellAt (j * 2 + 1) (by omega)
    obtain ⟨e1, e2⟩ := cL_at zs j hj
    rw [Nat.zero_add]
    exact ⟨h1.trans e1, h2.trans e2⟩

/-- between the rounds: four numbers in a block of their own, the parts' rows, arena and hand -/
structure RS (w W : World) (hb b t nn : Nat) (F H F1 H1 : Nat → Prop) (A1 : Ar) (E1 : List Int) (q0 q1 q2 q3 : Int) (vs : Nat → Value) (ps : Nat → List (Int × Int)) : Prop where
  ms : MS W hb b t nn F1 H1 A1 E1
  sub : ∀ k, F1 k ∨ H1 k → (F k ∨ H k) ∨ w.heap.size < k
  ap : Apart (fun k => F k ∨ H k) w W
  qb : W.heap[w.heap.size]? = some (.cells #[.int .i64 q0, .int .i64 q1, .int .i64 q2, .int .i64 q3] 35 (0, 0))
  fl : ∀ k, F k ∨ H k → k < w.heap.size
  rows : ∀ i, i < 4 → RowL W (vs i) (ps i) ∧ ∀ k, (vs i).ownBlock = some k → w.heap.size < k ∧ k < W.heap.size ∧ ¬ F1 k ∧ ¬ H1 k
section
variable {w W W' : World} {hb b t nn : Nat} {F H F1 H1 : Nat → Prop} {A1 : Ar} {E1 : List Int} {q0 q1 q2 q3 : Int} {vs : Nat → Value} {ps : Nat → List (Int × Int)}
theorem RS.noq (h : RS w W hb b t nn F H F1 H1 A1 E1 q0 q1 q2 q3 vs ps) : ¬ F1 w.heap.size ∧ ¬ H1 w.heap.size := by
  constructor
  · intro e
    rcases h.sub _ (Or.inl e) with h1 | h1
    · have := h.fl _ h1; omega
    · omega
  · intro e
    rcases h.sub _ (Or.inr e) with h1 | h1
    · have := h.fl _ h1; omega
    · omega
/-- a call that builds one of the four -/
theorem RS.built {c n : Nat} {x y : Int} {zs : List (Int × Int)} {id : Int} (h : RS w W hb b t nn F H F1 H1 A1 E1 q0 q1 q2 q3 vs ps) (hB : BOut W hb b t c n F1 H1 A1 x y zs id W') :
    ∃ (A2 : Ar) (E2 : List Int) (F2 H2 : Nat → Prop) (nn2 : Nat) (N : List Int), RS w W' hb b t nn2 F H F2 H2 A2 E2 q0 q1 q2 q3 vs ps ∧ PS t A2 E2 (c + (45 - E2.length)) nn2 ∧ Gain t A1 A2 N ∧ (∀ j ∈ N, Sub A2.ths id j) ∧ levelF A2.ths t id = some (n : Int) ∧ ∀ p : Int × Int, p ∈ cellsF A2.ths n id ↔ (p.1 + x, p.2 + y) ∈ zs := by
  obtain ⟨A2, E2, F2, H2, nn2, N, m2, s2, a2, p2, g2, u2, l2, c2⟩ := hB
  have hsz := h.ap.size
  have hqlt : w.heap.size < W.heap.size := (Array.getElem?_eq_some_iff.1 h.qb).1
  have hnq := h.noq
  refine ⟨A2, E2, F2, H2, nn2, N, ⟨m2, fun k hk => ?_, ?_, ?_, h.fl, fun i hi => ?_⟩, p2, g2, u2, l2, c2⟩
  · rcases s2 k hk with e | e
    · exact h.sub k e
    · exact Or.inr (by omega)
  · refine h.ap.trans a2 fun k hk => ?_
    rcases h.sub k hk with e | e
    · exact Or.inl e
    · exact Or.inr ⟨by omega, h.ms.lt hk⟩
  · exact (a2.block _ hqlt (by rintro (e | e); exact hnq.1 e; exact hnq.2 e)).trans h.qb
  · obtain ⟨r1, r2⟩ := h.rows i hi
    refine ⟨r1.other a2.size fun k hk => ?_, fun k hk => ?_⟩
    · obtain ⟨_, e2, e3, e4⟩ := r2 k hk
      exact a2.block k e2 (by rintro (e | e); exact e3 e; exact e4 e)
    · obtain ⟨e1, e2, e3, e4⟩ := r2 k hk
      refine ⟨e1, Nat.lt_of_lt_of_le e2 a2.size, fun e => ?_, fun e => ?_⟩
      · rcases s2 k (Or.inl e) with h1 | h1
        · rcases h1 with h1 | h1
          · exact e3 h1
          · exact e4 h1
        · omega
      · rcases s2 k (Or.inr e) with h1 | h1
        · rcases h1 with h1 | h1
          · exact e3 h1
          · exact e4 h1
        · omega
/-- nothing but the four numbers' block turned -/
theorem RS.stored (h : RS w W hb b t nn F H F1 H1 A1 E1 q0 q1 q2 q3 vs ps) (hs : W'.heap.size = W.heap.size) (ho : W'.os = W.os) (ht : W'.tape = W.tape) (hp : W'.output = W.output) (hk : ∀ k, k ≠ w.heap.size → W'.heap[k]? = W.heap[k]?) {r0 r1 r2 r3 : Int} (hq : W'.heap[w.heap.size]? = some (.cells #[.int .i64 r0, .int .i64 r1, .int .i64 r2, .int .i64 r3] 35 (0, 0))) : RS w W' hb b t nn F H F1 H1 A1 E1 r0 r1 r2 r3 vs ps := by
  have hnq := h.noq
  refine ⟨h.ms.other (by omega) fun k hk1 => hk k ?_, h.sub, ⟨ho.trans h.ap.os, ht.trans h.ap.tape, hp.trans h.ap.output, by have := h.ap.size; omega, fun k h1 h2 => (hk k (by omega)).trans (h.ap.block k h1 h2)⟩, hq, h.fl, fun i hi => ?_⟩
  · rintro rfl
    rcases hk1 with e | e
    · exact hnq.1 e
    · exact hnq.2 e
  · obtain ⟨r1, r2⟩ := h.rows i hi
    refine ⟨r1.other (by omega) fun k hk1 => hk k ?_, fun k hk1 => ?_⟩
    · obtain ⟨e1, _⟩ := r2 k hk1; omega
    · rw [hs]; exact r2 k hk1
theorem RS.set0 (h : RS w W hb b t nn F H F1 H1 A1 E1 q0 q1 q2 q3 vs ps) (z : Int) : RS w (W.setCell ⟨w.heap.size, 0, none⟩ (.int .i64 z)) hb b t nn F H F1 H1 A1 E1 z q1 q2 q3 vs ps := h.stored size_set rfl rfl rfl (fun _ hk => heap_set hk) (Go.Joins.block_setCell h.qb _)
theorem RS.set1 (h : RS w W hb b t nn F H F1 H1 A1 E1 q0 q1 q2 q3 vs ps) (z : Int) : RS w (W.setCell ⟨w.heap.size, 1, none⟩ (.int .i64 z)) hb b t nn F H F1 H1 A1 E1 q0 z q2 q3 vs ps := h.stored size_set rfl rfl rfl (fun _ hk => heap_set hk) (Go.Joins.block_setCell h.qb _)
theorem RS.set2 (h : RS w W hb b t nn F H F1 H1 A1 E1 q0 q1 q2 q3 vs ps) (z : Int) : RS w (W.setCell ⟨w.heap.size, 2, none⟩ (.int .i64 z)) hb b t nn F H F1 H1 A1 E1 q0 q1 z q3 vs ps := h.stored size_set rfl rfl rfl (fun _ hk => heap_set hk) (Go.Joins.block_setCell h.qb _)
theorem RS.set3 (h : RS w W hb b t nn F H F1 H1 A1 E1 q0 q1 q2 q3 vs ps) (z : Int) : RS w (W.setCell ⟨w.heap.size, 3, none⟩ (.int .i64 z)) hb b t nn F H F1 H1 A1 E1 q0 q1 q2 z vs ps := h.stored size_set rfl rfl rfl (fun _ hk => heap_set hk) (Go.Joins.block_setCell h.qb _)
theorem RS.cells (h : RS w W hb b t nn F H F1 H1 A1 E1 q0 q1 q2 q3 vs ps) : (W.cell? ⟨w.heap.size, 0, none⟩ = some (.int .i64 q0) ∧ W.cell? ⟨w.heap.size, 1, none⟩ = some (.int .i64 q1) ∧ W.cell? ⟨w.heap.size, 2, none⟩ = some (.int .i64 q2) ∧ W.cell? ⟨w.heap.size, 3, none⟩ = some (.int .i64 q3)) ∧ (W.frozen? ⟨w.heap.size, 0, none⟩ = false ∧ W.frozen? ⟨w.heap.size, 1, none⟩ = false ∧ W.frozen? ⟨w.heap.size, 2, none⟩ = false ∧ W.frozen? ⟨w.heap.size, 3, none⟩ = false) :=
  ⟨⟨Lib.cell_of_heap h.qb 0, Lib.cell_of_heap h.qb 1, Lib.cell_of_heap h.qb 2, Lib.cell_of_heap h.qb 3⟩, ⟨Lib.frozen_of_heap h.qb 0, Lib.frozen_of_heap h.qb 1, Lib.frozen_of_heap h.qb 2, Lib.frozen_of_heap h.qb 3⟩⟩
end
theorem BOut.drew {W : World} {hb b t c n : Nat} {F H : Nat → Prop} {A : Ar} {x y : Int} {zs : List (Int × Int)} {id : Int} {W' : World} (q : Nat) (h : BOut (W.drewN q) hb b t c n F H A x y zs id W') : BOut W hb b t c n F H A x y zs id W' := by
  obtain ⟨A', E', F', H', nn', N, h1, h2, h3, h4⟩ := h
  exact ⟨A', E', F', H', nn', N, h1, h2, ⟨h3.os, h3.tape, h3.output, h3.size, h3.block⟩, h4⟩
/-- what was done ahead of it in new blocks alone -/
theorem BOut.ahead {W0 W : World} {hb b t c n : Nat} {F H : Nat → Prop} {A : Ar} {x y : Int} {zs : List (Int × Int)} {id : Int} {W' : World} (hb0 : Below W0.heap.size W0 W) (h : BOut W hb b t c n F H A x y zs id W') : BOut W0 hb b t c n F H A x y zs id W' := by
  obtain ⟨A', E', F', H', nn', N, h1, h2, h3, h4⟩ := h
  refine ⟨A', E', F', H', nn', N, h1, fun k hk => ?_, (Apart.of hb0).trans h3 fun k hk => Or.inl hk, h4⟩
  rcases h2 k hk with e | e
  · exact Or.inl e
  · exact Or.inr (Nat.le_trans hb0.size e)
end Go.Proofs.Ythobobgiendcfaa.A

namespace Go.Proofs.Ythobobgiendcfaa.A
open Go.RowKit Go.Maps

theorem mem_part {X Y : Int} {zs : List (Int × Int)} {i : Nat} {p : Int × Int} : p ∈ part X Y zs i ↔ p ∈ zs ∧ qi X Y p = i := by
  unfold part
  rw [List.mem_filter]
  simp
theorem qi_cases (X Y : Int) (p : Int × Int) : (qi X Y p = 0 ↔ p.1 < X ∧ p.2 < Y) ∧ (qi X Y p = 1 ↔ X ≤ p.1 ∧ p.2 < Y) ∧ (qi X Y p = 2 ↔ p.1 < X ∧ Y ≤ p.2) ∧ (qi X Y p = 3 ↔ X ≤ p.1 ∧ Y ≤ p.2) := by
  unfold qi
  split <;> split <;> simp <;> omega
theorem mem_parts (X Y : Int) (zs : List (Int × Int)) (p : Int × Int) : p ∈ zs ↔ p ∈ part X Y zs 0 ∨ p ∈ part X Y zs 1 ∨ p ∈ part X Y zs 2 ∨ p ∈ part X Y zs 3 := by
  simp only [mem_part]
  have h := qi_cases X Y p
  constructor
  · intro hp
    have : qi X Y p = 0 ∨ qi X Y p = 1 ∨ qi X Y p = 2 ∨ qi X Y p = 3 := by
      rw [h.1, h.2.1, h.2.2.1, h.2.2.2]; omega
    rcases this with h | h | h | h
    · exact Or.inl ⟨hp, h⟩
    · exact Or.inr (Or.inl ⟨hp, h⟩)
    · exact Or.inr (Or.inr (Or.inl ⟨hp, h⟩))
    · exact Or.inr (Or.inr (Or.inr ⟨hp, h⟩))
  · rintro (h | h | h | h) <;> exact h.1
theorem parts_len (X Y : Int) (zs : List (Int × Int)) : (part X Y zs 0).length + (part X Y zs 1).length + (part X Y zs 2).length + (part X Y zs 3).length = zs.length := by
  induction zs with
  | nil => rfl
  | cons c zs ih =>
    have h := qi_cases X Y c
    have : qi X Y c = 0 ∨ qi X Y c = 1 ∨ qi X Y c = 2 ∨ qi X Y c = 3 := by
      rw [h.1, h.2.1, h.2.2.1, h.2.2.2]; omega
    unfold part at *
    rcases this with e | e | e | e <;> simp [e] <;> omega
theorem halfN_succ (n : Nat) : halfN (n + 1) = 2 ^ n := rfl

theorem four_done {t n c nn : Nat} {A0 A1 A2 A3 A4 : Ar} {E4 : List Int} {N0 N1 N2 N3 : List Int} {i0 i1 i2 i3 x y X Y : Int} {zs : List (Int × Int)} (hn : n < 44) (ht : t < 64)
    (g0 : Gain t A0 A1 N0) (g1 : Gain t A1 A2 N1) (g2 : Gain t A2 A3 N2) (g3 : Gain t A3 A4 N3) (s0 : ∀ j ∈ N0, Sub A1.ths i0 j) (s1 : ∀ j ∈ N1, Sub A2.ths i1 j) (s2 : ∀ j ∈ N2, Sub A3.ths i2 j) (s3 : ∀ j ∈ N3, Sub A4.ths i3 j)
    (l0 : levelF A1.ths t i0 = some (n : Int)) (l1 : levelF A2.ths t i1 = some (n : Int)) (l2 : levelF A3.ths t i2 = some (n : Int)) (l3 : levelF A4.ths t i3 = some (n : Int))
    (c0 : ∀ p : Int × Int, p ∈ cellsF A1.ths n i0 ↔ (p.1 + x, p.2 + y) ∈ part X Y zs 0) (c1 : ∀ p : Int × Int, p ∈ cellsF A2.ths n i1 ↔ (p.1 + (x + ((2 ^ n : Nat) : Int)), p.2 + y) ∈ part X Y zs 1) (c2 : ∀ p : Int × Int, p ∈ cellsF A3.ths n i2 ↔ (p.1 + x, p.2 + (y + ((2 ^ n : Nat) : Int))) ∈ part X Y zs 2) (c3 : ∀ p : Int × Int, p ∈ cellsF A4.ths n i3 ↔ (p.1 + (x + ((2 ^ n : Nat) : Int)), p.2 + (y + ((2 ^ n : Nat) : Int))) ∈ part X Y zs 3)
    (v1 : Inv A1) (v2 : Inv A2) (v3 : Inv A3) (P4 : PS t A4 E4 (c + (45 - E4.length) + 1) nn) :
    (A4.join t i0 i1 i2 i3).2.2 = 0 ∧ PS t (A4.join t i0 i1 i2 i3).1 E4 (c + (45 - E4.length)) (nn + 1) ∧ (∃ N, Gain t A0 (A4.join t i0 i1 i2 i3).1 N ∧ ∀ j ∈ N, Sub (A4.join t i0 i1 i2 i3).1.ths (A4.join t i0 i1 i2 i3).2.1 j) ∧ levelF (A4.join t i0 i1 i2 i3).1.ths t (A4.join t i0 i1 i2 i3).2.1 = some ((n + 1 : Nat) : Int) ∧ (∀ p : Int × Int, p ∈ cellsF (A4.join t i0 i1 i2 i3).1.ths (n + 1) (A4.join t i0 i1 i2 i3).2.1 ↔ (p.1 + x, p.2 + y) ∈ zs) ∧ levelF A4.ths t i0 = some (n : Int) ∧ levelF A4.ths t i1 = some (n : Int) ∧ levelF A4.ths t i2 = some (n : Int) ∧ levelF A4.ths t i3 = some (n : Int) := by
  have e34 := g3.ext
  have e24 := g2.ext.trans e34
  have e14 := g1.ext.trans e24
  have m0 := level_ext l0 e14
  have m1 := level_ext l1 e24
  have m2 := level_ext l2 e34
  obtain ⟨N, hJ, hz, hP⟩ := joins_any A4 t _ nn i0 i1 i2 i3 n P4.inv ht P4.pur m0 m1 m2 l3 hn
  generalize hR : A4.join t i0 i1 i2 i3 = R at *
  obtain ⟨B, id, er⟩ := R
  simp only at *
  have eB := hJ.gain.ext
  have v4 := P4.inv
  refine ⟨hz, ⟨hJ.inv, emp_ext P4.emp eB, P4.len, hP⟩, ⟨N0 ++ N1 ++ N2 ++ N3 ++ N, (((g0.trans g1).trans g2).trans g3).trans hJ.gain, fun j hj => ?_⟩, hJ.lv, fun p => ?_, m0, m1, m2, l3⟩
  · rcases List.mem_append.1 hj with hj | hj
    · rcases List.mem_append.1 hj with hj | hj
      · rcases List.mem_append.1 hj with hj | hj
        · rcases List.mem_append.1 hj with hj | hj
          · refine Sub.p0 hJ.two ?_
            rw [hJ.kids.1]
            exact (s0 j hj).later (e14.trans eB) v1.good (glevel_of l0)
          · refine Sub.p1 hJ.two ?_
            rw [hJ.kids.2.1]
            exact (s1 j hj).later (e24.trans eB) v2.good (glevel_of l1)
        · refine Sub.p2 hJ.two ?_
          rw [hJ.kids.2.2.1]
          exact (s2 j hj).later (e34.trans eB) v3.good (glevel_of l2)
      · refine Sub.p3 hJ.two ?_
        rw [hJ.kids.2.2.2]
        exact (s3 j hj).later eB v4.good (glevel_of l3)
    · rw [hJ.only j hj]; exact Sub.self _
  · rw [hJ.cells]
    simp only [List.mem_append, mem_shift]
    rw [cells_ext v1.good e14 n _ (glevel_of l0), cells_ext v2.good e24 n _ (glevel_of l1), cells_ext v3.good e34 n _ (glevel_of l2), c0, c1, c2, c3, mem_parts X Y zs]
    simp only
    rw [show p.1 - ((2 ^ n : Nat) : Int) + (x + ((2 ^ n : Nat) : Int)) = p.1 + x by omega, show p.2 - ((2 ^ n : Nat) : Int) + (y + ((2 ^ n : Nat) : Int)) = p.2 + y by omega, show p.1 - 0 + x = p.1 + x by omega, show p.2 - 0 + y = p.2 + y by omega]
    constructor
    · rintro (((h | h) | h) | h)
      · exact Or.inl h
      · exact Or.inr (Or.inl h)
      · exact Or.inr (Or.inr (Or.inl h))
      · exact Or.inr (Or.inr (Or.inr h))
    · rintro (h | h | h | h)
      · exact Or.inl (Or.inl (Or.inl h))
      · exact Or.inl (Or.inl (Or.inr h))
      · exact Or.inl (Or.inr h)
      · exact Or.inr h
end Go.Proofs.Ythobobgiendcfaa.A
