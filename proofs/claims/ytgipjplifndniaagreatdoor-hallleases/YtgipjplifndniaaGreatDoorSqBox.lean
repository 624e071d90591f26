/- Boxes around lists of cells, and the least level. -/
import Derived.Test.YtgipjplifndniaaGreatDoorSqPure
import Derived.Test.YtgipjplifndniaaGreatDoorQuQuart2
namespace Go.Proofs.YtgipjplifndniaaGreatDoor.A
open Go.RowKit Go.Maps

def Closed (l : List Th) (u : Nat) : Prop := ∀ x ∈ l, x.k = 1 → x.mask.testBit u = true → levelF l u x.p0 = some (x.lv - 1) ∧ levelF l u x.p1 = some (x.lv - 1) ∧ levelF l u x.p2 = some (x.lv - 1) ∧ levelF l u x.p3 = some (x.lv - 1)
structure Inv (A : Ar) : Prop where
  good : Good A.ths
  uniq : Uniq A.ths
  closed : ∀ u, Closed A.ths u
  cnt : ∀ u, u < 64 → A.cnt u = (ownN A.ths u : Int)

structure Gain (t : Nat) (A A' : Ar) (N : List Int) : Prop where
  ext : Ext A.ths A'.ths
  lim : A'.lim = A.lim
  room : A'.room = A.room
  free : A'.free = A.free
  cnt : A'.cnt = upd A.cnt t (A.cnt t + (N.length : Int))
  fresh : A'.fresh = upd A.fresh t (A.fresh t ++ N)
  bits : ∀ (j : Nat) (x' : Th), A'.ths[j]? = some x' → ∀ u, x'.mask.testBit u = true ↔ (∃ x, A.ths[j]? = some x ∧ x.mask.testBit u = true) ∨ (u = t ∧ (j : Int) + 2 ∈ N)
  nodup : N.Nodup
  news : ∀ id ∈ N, ownF A.ths t id = none
  born : ∀ j, A.ths.length ≤ j → j < A'.ths.length → (j : Int) + 2 ∈ N
  low : ∀ id ∈ N, 2 ≤ id ∧ (id - 2).toNat < A'.ths.length

structure Joined (t : Nat) (A : Ar) (q0 q1 q2 q3 m : Int) (A' : Ar) (id : Int) : Prop where
  inv : Inv A'
  grew : Grew t A A'
  gain : ∃ N, Gain t A A' N ∧ ∀ j ∈ N, j = id
  own : ∃ y, ownF A'.ths t id = some y ∧ y.key = ⟨1, q0, q1, q2, q3⟩ ∧ y.lv = m + 1

end Go.Proofs.YtgipjplifndniaaGreatDoor.A

namespace Go.Proofs.YtgipjplifndniaaGreatDoor.A
open Go.RowKit Go.Maps

structure MS (w : World) (hb b t nn : Nat) (F H : Nat → Prop) (A : Ar) (E : List Int) : Prop where
  ar : ArAt w b F nn A
  hand : HandIn w hb b t 0 E H
  dis : ∀ k, F k → ¬ H k
theorem ArAt.other {w w' : World} {b n : Nat} {F : Nat → Prop} {A : Ar} (h : ArAt w b F n A) (hs : w.heap.size ≤ w'.heap.size) (hb : ∀ k, F k → w'.heap[k]? = w.heap[k]?) : ArAt w' b F n A := by
  obtain ⟨r, D, h⟩ := h
  exact ⟨r, D, h.other hs hb⟩
section
variable {w w' : World} {hb b t nn : Nat} {F H : Nat → Prop} {A : Ar} {E : List Int}
end

def RowL (w : World) (v : Value) (zs : List (Int × Int)) : Prop := ∃ a c, v = .slice a zs.length c ∧ (zs = [] ∨ ∃ b off, a = some ⟨b, off, none⟩ ∧ b < w.heap.size ∧ HoldsR w b off zs)
theorem RowL.other {w w' : World} {v : Value} {zs : List (Int × Int)} (h : RowL w v zs) (hs : w.heap.size ≤ w'.heap.size) (hb : ∀ k, v.ownBlock = some k → w'.heap[k]? = w.heap[k]?) : RowL w' v zs := by
  obtain ⟨a, c, hv, h | ⟨b, off, ha, hl, h3⟩⟩ := h
  · exact ⟨a, c, hv, Or.inl h⟩
  · refine ⟨a, c, hv, Or.inr ⟨b, off, ha, Nat.lt_of_lt_of_le hl hs, fun j hj => ?_⟩⟩
    have e := hb b (by rw [hv, ha]; rfl)
    obtain ⟨a1, a2⟩ := h3 j hj
    exact ⟨(World.cell?_of_block (a := ⟨b, off + j * 2, none⟩) e).trans a1, (World.cell?_of_block (a := ⟨b, off + j * 2 + 1, none⟩) e).trans a2⟩
theorem RowL.of {w : World} {v : Value} {zs : List (Int × Int)} (h : Row w v zs) : RowL w v zs := by
  rcases h with ⟨rfl, rfl⟩ | ⟨h0, b, off, c, hv, hl, h1, h2, h3⟩
  · exact ⟨none, 0, rfl, Or.inl rfl⟩
  · exact ⟨_, c, hv, Or.inr ⟨b, off, rfl, hl, h3⟩⟩
theorem cL_at : ∀ (zs : List (Int × Int)) (j : Nat), j < zs.length → (cL zs)[j * 2]? = some (.int .i64 (zs[j]!).1) ∧ (cL zs)[j * 2 + 1]? = some (.int .i64 (zs[j]!).2)
  | [], j, h => by simp at h
  | c :: zs, 0, _ => by simp [cL]
  | c :: zs, j + 1, h => by
    have := cL_at zs j (by simpa using h)
    have e : cL (c :: zs) = .int .i64 c.1 :: .int .i64 c.2 :: cL zs := by simp [cL]
    rw [e, show (j + 1) * 2 = j * 2 + 1 + 1 by omega, show j * 2 + 1 + 1 + 1 = (j * 2 + 1) + 1 + 1 by omega, List.getElem?_cons_succ, List.getElem?_cons_succ, List.getElem?_cons_succ, List.getElem?_cons_succ]
    simpa using this
theorem row_of_own {w : World} {B : Nat} {v : Value} {zs : List (Int × Int)} (h : w.ownsRow B 50 2 v zs.length (cL zs)) : RowL w v zs := by
  have hh := h
  rcases h.2 with ⟨rfl, h0⟩ | ⟨g, cap, cur, rfl, hB, hg, hc, hm, hr⟩
  · have : zs = [] := List.length_eq_zero_iff.1 h0
    exact ⟨none, 0, by rw [h0], Or.inl this⟩
  · refine ⟨_, cap, rfl, Or.inr ⟨g, 0, rfl, (Array.getElem?_eq_some_iff.1 hg).1, fun j hj => ?_⟩⟩
    have h1 := hh.cellAt (j * 2) (by omega)
    have h2 := hh.cellAt (j * 2 + 1) (by omega)
    obtain ⟨e1, e2⟩ := cL_at zs j hj
    rw [Nat.zero_add]
    exact ⟨h1.trans e1, h2.trans e2⟩

structure RS (w W : World) (hb b t nn : Nat) (F H F1 H1 : Nat → Prop) (A1 : Ar) (E1 : List Int) (q0 q1 q2 q3 : Int) (vs : Nat → Value) (ps : Nat → List (Int × Int)) : Prop where
  ms : MS W hb b t nn F1 H1 A1 E1
  sub : ∀ k, F1 k ∨ H1 k → (F k ∨ H k) ∨ w.heap.size < k
  ap : Apart (fun k => F k ∨ H k) w W
  qb : W.heap[w.heap.size]? = some (.cells #[.int .i64 q0, .int .i64 q1, .int .i64 q2, .int .i64 q3] 69 (0, 0))
  fl : ∀ k, F k ∨ H k → k < w.heap.size
  rows : ∀ i, i < 4 → RowL W (vs i) (ps i) ∧ ∀ k, (vs i).ownBlock = some k → w.heap.size < k ∧ k < W.heap.size ∧ ¬ F1 k ∧ ¬ H1 k
section
variable {w W W' : World} {hb b t nn : Nat} {F H F1 H1 : Nat → Prop} {A1 : Ar} {E1 : List Int} {q0 q1 q2 q3 : Int} {vs : Nat → Value} {ps : Nat → List (Int × Int)}
end
end Go.Proofs.YtgipjplifndniaaGreatDoor.A

namespace Go.Proofs.YtgipjplifndniaaGreatDoor.A
open Go.RowKit Go.Maps

theorem mem_part {X Y : Int} {zs : List (Int × Int)} {i : Nat} {p : Int × Int} : p ∈ part X Y zs i ↔ p ∈ zs ∧ qi X Y p = i := by
  unfold part
  rw [List.mem_filter]
  simp
theorem qi_cases (X Y : Int) (p : Int × Int) : (qi X Y p = 0 ↔ p.1 < X ∧ p.2 < Y) ∧ (qi X Y p = 1 ↔ X ≤ p.1 ∧ p.2 < Y) ∧ (qi X Y p = 2 ↔ p.1 < X ∧ Y ≤ p.2) ∧ (qi X Y p = 3 ↔ X ≤ p.1 ∧ Y ≤ p.2) := by
  unfold qi
  split <;> split <;> simp <;> omega
theorem parts_len (X Y : Int) (zs : List (Int × Int)) : (part X Y zs 0).length + (part X Y zs 1).length + (part X Y zs 2).length + (part X Y zs 3).length = zs.length := by
  induction zs with
  | nil => rfl
  | cons c zs ih =>
    have h := qi_cases X Y c
    have : qi X Y c = 0 ∨ qi X Y c = 1 ∨ qi X Y c = 2 ∨ qi X Y c = 3 := by
      rw [h.1, h.2.1, h.2.2.1, h.2.2.2]; omega
    unfold part at *
    rcases this with e | e | e | e <;> simp [e] <;> omega
theorem halfN_succ (n : Nat) : halfN (n + 1) = 2 ^ n := rfl

end Go.Proofs.YtgipjplifndniaaGreatDoor.A

namespace Go.Proofs.YtgipjplifndniaaGreatDoor.A
open Go.RowKit Go.Maps

theorem Tryz.ix0 (a b c d : Value) (w : World) : (Instr.index 199 (.agg #[a, b, c, d]) (.int .i64 0)).run Tryz.prog w = .ok a w := by kernel_rfl
theorem Tryz.ix1 (a b c d : Value) (w : World) : (Instr.index 199 (.agg #[a, b, c, d]) (.int .i64 1)).run Tryz.prog w = .ok b w := by kernel_rfl
theorem Tryz.ix2 (a b c d : Value) (w : World) : (Instr.index 199 (.agg #[a, b, c, d]) (.int .i64 2)).run Tryz.prog w = .ok c w := by kernel_rfl
theorem Tryz.ix3 (a b c d : Value) (w : World) : (Instr.index 199 (.agg #[a, b, c, d]) (.int .i64 3)).run Tryz.prog w = .ok d w := by kernel_rfl

theorem parts_in {x y h : Int} {zs : List (Int × Int)} (hin : ∀ p ∈ zs, x ≤ p.1 ∧ p.1 < x + (h + h) ∧ y ≤ p.2 ∧ p.2 < y + (h + h)) :
    (∀ p ∈ part (x + h) (y + h) zs 0, x ≤ p.1 ∧ p.1 < x + h ∧ y ≤ p.2 ∧ p.2 < y + h) ∧ (∀ p ∈ part (x + h) (y + h) zs 1, x + h ≤ p.1 ∧ p.1 < x + h + h ∧ y ≤ p.2 ∧ p.2 < y + h) ∧ (∀ p ∈ part (x + h) (y + h) zs 2, x ≤ p.1 ∧ p.1 < x + h ∧ y + h ≤ p.2 ∧ p.2 < y + h + h) ∧ (∀ p ∈ part (x + h) (y + h) zs 3, x + h ≤ p.1 ∧ p.1 < x + h + h ∧ y + h ≤ p.2 ∧ p.2 < y + h + h) := by
  refine ⟨fun p hp => ?_, fun p hp => ?_, fun p hp => ?_, fun p hp => ?_⟩ <;> (rw [mem_part] at hp; have h1 := hin p hp.1; have h2 := qi_cases (x + h) (y + h) p; have h3 := hp.2)
  · have := h2.1.1 h3; omega
  · have := h2.2.1.1 h3; omega
  · have := h2.2.2.1.1 h3; omega
  · have := h2.2.2.2.1 h3; omega

abbrev bare4 : Value := .agg #[.int .i64 (-1), .int .i64 0, .int .i64 0, .int .i64 (-1), .int .i64 0, .int .i64 0, .int .i64 (-1), .int .i64 0, .int .i64 0, .int .i64 (-1), .int .i64 0, .int .i64 0]
set_option linter.unusedSimpArgs false in
set_option maxRecDepth 20000 in
set_option maxHeartbeats 4000000 in
theorem below_bare (hb : Nat) (w : World) : Calls Tryz.prog 127 #[.pointer (some ⟨hb, 0, none⟩), bareV] w fun e w' => e = .returned bare4 ∧ Below w.heap.size w w' := by
  have hbr := fun W => bare_any W
  unfold bareV at hbr ⊢
  have hb0 : Below w.heap.size w (w.alloc (.cells #[.int .i64 (-1), .int .i64 0, .int .i64 0] 151)) := (Below.refl _ _).alloc (Nat.le_refl _) _
  have hb1 : Below w.heap.size w ((w.alloc (.cells #[.int .i64 (-1), .int .i64 0, .int .i64 0] 151)).alloc (.cells #[.int .i64 0, .int .i64 0, .int .i64 0, .int .i64 0, .int .i64 0, .int .i64 0, .int .i64 0, .int .i64 0, .int .i64 0, .int .i64 0, .int .i64 0, .int .i64 0] 163)) := hb0.alloc hb0.size _
  have x0 : ((w.alloc (.cells #[.int .i64 (-1), .int .i64 0, .int .i64 0] 151)).alloc (.cells #[.int .i64 0, .int .i64 0, .int .i64 0, .int .i64 0, .int .i64 0, .int .i64 0, .int .i64 0, .int .i64 0, .int .i64 0, .int .i64 0, .int .i64 0, .int .i64 0] 163)).heap[w.heap.size]? = some (.cells #[.int .i64 (-1), .int .i64 0, .int .i64 0] 151 (0, 0)) := heap_alloc2_old w _ _
  have x1 : ((w.alloc (.cells #[.int .i64 (-1), .int .i64 0, .int .i64 0] 151)).alloc (.cells #[.int .i64 0, .int .i64 0, .int .i64 0, .int .i64 0, .int .i64 0, .int .i64 0, .int .i64 0, .int .i64 0, .int .i64 0, .int .i64 0, .int .i64 0, .int .i64 0] 163)).heap[w.heap.size + 1]? = some (.cells #[.int .i64 0, .int .i64 0, .int .i64 0, .int .i64 0, .int .i64 0, .int .i64 0, .int .i64 0, .int .i64 0, .int .i64 0, .int .i64 0, .int .i64 0, .int .i64 0] 163 (0, 0)) := heap_alloc2_new w _ _
  go_enter Tryz.func127, Tryz.ntmps127
  go_wp2_with fail
  generalize ((w.alloc (.cells #[.int .i64 (-1), .int .i64 0, .int .i64 0] 151)).alloc (.cells #[.int .i64 0, .int .i64 0, .int .i64 0, .int .i64 0, .int .i64 0, .int .i64 0, .int .i64 0, .int .i64 0, .int .i64 0, .int .i64 0, .int .i64 0, .int .i64 0] 163)) = v0 at *
  have l1 : w.heap.size + 1 < v0.heap.size := (Array.getElem?_eq_some_iff.1 x1).1
  refine (hbr _).mono ?_
  rintro e v1 ⟨rfl, b1⟩
  go_wp2_with fail
  refine (hbr _).mono ?_
  rintro e v2 ⟨rfl, b2⟩
  go_wp2_with fail
  refine (hbr _).mono ?_
  rintro e v3 ⟨rfl, b3⟩
  go_wp2_with fail
  refine (hbr _).mono ?_
  rintro e v4 ⟨rfl, b4⟩
  have b04 : Below v0.heap.size v0 v4 := ((b1.trans (b2.mono b1.size)).trans (b3.mono (Nat.le_trans b1.size b2.size))).trans (b4.mono (Nat.le_trans (Nat.le_trans b1.size b2.size) b3.size))
  have y0 := (b04.block _ (by omega)).trans x0
  have y1 := (b04.block _ l1).trans x1
  have b5 : Below v4.heap.size v4 (v4.alloc (.cells #[.int .i64 (-1), .int .i64 0, .int .i64 0, .int .i64 (-1), .int .i64 0, .int .i64 0, .int .i64 (-1), .int .i64 0, .int .i64 0, .int .i64 (-1), .int .i64 0, .int .i64 0] 163)) := (Below.refl _ _).alloc (Nat.le_refl _) _
  have y2 : (v4.alloc (.cells #[.int .i64 (-1), .int .i64 0, .int .i64 0, .int .i64 (-1), .int .i64 0, .int .i64 0, .int .i64 (-1), .int .i64 0, .int .i64 0, .int .i64 (-1), .int .i64 0, .int .i64 0] 163)).heap[v4.heap.size]? = some (.cells #[.int .i64 (-1), .int .i64 0, .int .i64 0, .int .i64 (-1), .int .i64 0, .int .i64 0, .int .i64 (-1), .int .i64 0, .int .i64 0, .int .i64 (-1), .int .i64 0, .int .i64 0] 163 (0, 0)) := heap_alloc_new v4 _
  have l4 : w.heap.size + 1 < v4.heap.size := Nat.lt_of_lt_of_le l1 b04.size
  generalize hv5 : v4.alloc (.cells #[.int .i64 (-1), .int .i64 0, .int .i64 0, .int .i64 (-1), .int .i64 0, .int .i64 0, .int .i64 (-1), .int .i64 0, .int .i64 0, .int .i64 (-1), .int .i64 0, .int .i64 0] 163) = v5 at *
  have u0 := (b5.block _ (by omega)).trans y0
  have u1 := (b5.block _ l4).trans y1
  have hb4 := hb1.trans (b04.mono hb1.size)
  have HB5 : Hid (Below w.heap.size w v5) := hb4.trans (b5.mono hb4.size)
  have HLE : Hid (w.heap.size ≤ w.heap.size + 1) := Nat.le_succ _
  have HLE4 : Hid (w.heap.size ≤ v4.heap.size) := by show _ ≤ _; omega
  have g0 : v5.cell? ⟨w.heap.size, 0, none⟩ = some (.int .i64 (-1)) := by rw [Lib.cell_of_heap u0]; rfl
  have g2 : v5.cell? ⟨w.heap.size, 2, none⟩ = some (.int .i64 0) := by rw [Lib.cell_of_heap u0]; rfl
  have q0 : v5.cell? ⟨w.heap.size + 1, 0, none⟩ = some (.int .i64 0) := by rw [Lib.cell_of_heap u1]; rfl
  have z0 : v5.frozen? ⟨w.heap.size + 1, 0, none⟩ = false := Lib.frozen_of_heap u1 0
  have r0 : v5.cell? ⟨v4.heap.size, 0, none⟩ = some (.int .i64 (-1)) := by rw [Lib.cell_of_heap y2]; rfl
  have q1 : v5.cell? ⟨w.heap.size + 1, 1, none⟩ = some (.int .i64 0) := by rw [Lib.cell_of_heap u1]; rfl
  have z1 : v5.frozen? ⟨w.heap.size + 1, 1, none⟩ = false := Lib.frozen_of_heap u1 1
  have r1 : v5.cell? ⟨v4.heap.size, 1, none⟩ = some (.int .i64 0) := by rw [Lib.cell_of_heap y2]; rfl
  have q2 : v5.cell? ⟨w.heap.size + 1, 2, none⟩ = some (.int .i64 0) := by rw [Lib.cell_of_heap u1]; rfl
  have z2 : v5.frozen? ⟨w.heap.size + 1, 2, none⟩ = false := Lib.frozen_of_heap u1 2
  have r2 : v5.cell? ⟨v4.heap.size, 2, none⟩ = some (.int .i64 0) := by rw [Lib.cell_of_heap y2]; rfl
  have q3 : v5.cell? ⟨w.heap.size + 1, 3, none⟩ = some (.int .i64 0) := by rw [Lib.cell_of_heap u1]; rfl
  have z3 : v5.frozen? ⟨w.heap.size + 1, 3, none⟩ = false := Lib.frozen_of_heap u1 3
  have r3 : v5.cell? ⟨v4.heap.size, 3, none⟩ = some (.int .i64 (-1)) := by rw [Lib.cell_of_heap y2]; rfl
  have q4 : v5.cell? ⟨w.heap.size + 1, 4, none⟩ = some (.int .i64 0) := by rw [Lib.cell_of_heap u1]; rfl
  have z4 : v5.frozen? ⟨w.heap.size + 1, 4, none⟩ = false := Lib.frozen_of_heap u1 4
  have r4 : v5.cell? ⟨v4.heap.size, 4, none⟩ = some (.int .i64 0) := by rw [Lib.cell_of_heap y2]; rfl
  have q5 : v5.cell? ⟨w.heap.size + 1, 5, none⟩ = some (.int .i64 0) := by rw [Lib.cell_of_heap u1]; rfl
  have z5 : v5.frozen? ⟨w.heap.size + 1, 5, none⟩ = false := Lib.frozen_of_heap u1 5
  have r5 : v5.cell? ⟨v4.heap.size, 5, none⟩ = some (.int .i64 0) := by rw [Lib.cell_of_heap y2]; rfl
  have q6 : v5.cell? ⟨w.heap.size + 1, 6, none⟩ = some (.int .i64 0) := by rw [Lib.cell_of_heap u1]; rfl
  have z6 : v5.frozen? ⟨w.heap.size + 1, 6, none⟩ = false := Lib.frozen_of_heap u1 6
  have r6 : v5.cell? ⟨v4.heap.size, 6, none⟩ = some (.int .i64 (-1)) := by rw [Lib.cell_of_heap y2]; rfl
  have q7 : v5.cell? ⟨w.heap.size + 1, 7, none⟩ = some (.int .i64 0) := by rw [Lib.cell_of_heap u1]; rfl
  have z7 : v5.frozen? ⟨w.heap.size + 1, 7, none⟩ = false := Lib.frozen_of_heap u1 7
  have r7 : v5.cell? ⟨v4.heap.size, 7, none⟩ = some (.int .i64 0) := by rw [Lib.cell_of_heap y2]; rfl
  have q8 : v5.cell? ⟨w.heap.size + 1, 8, none⟩ = some (.int .i64 0) := by rw [Lib.cell_of_heap u1]; rfl
  have z8 : v5.frozen? ⟨w.heap.size + 1, 8, none⟩ = false := Lib.frozen_of_heap u1 8
  have r8 : v5.cell? ⟨v4.heap.size, 8, none⟩ = some (.int .i64 0) := by rw [Lib.cell_of_heap y2]; rfl
  have q9 : v5.cell? ⟨w.heap.size + 1, 9, none⟩ = some (.int .i64 0) := by rw [Lib.cell_of_heap u1]; rfl
  have z9 : v5.frozen? ⟨w.heap.size + 1, 9, none⟩ = false := Lib.frozen_of_heap u1 9
  have r9 : v5.cell? ⟨v4.heap.size, 9, none⟩ = some (.int .i64 (-1)) := by rw [Lib.cell_of_heap y2]; rfl
  have q10 : v5.cell? ⟨w.heap.size + 1, 10, none⟩ = some (.int .i64 0) := by rw [Lib.cell_of_heap u1]; rfl
  have z10 : v5.frozen? ⟨w.heap.size + 1, 10, none⟩ = false := Lib.frozen_of_heap u1 10
  have r10 : v5.cell? ⟨v4.heap.size, 10, none⟩ = some (.int .i64 0) := by rw [Lib.cell_of_heap y2]; rfl
  have q11 : v5.cell? ⟨w.heap.size + 1, 11, none⟩ = some (.int .i64 0) := by rw [Lib.cell_of_heap u1]; rfl
  have z11 : v5.frozen? ⟨w.heap.size + 1, 11, none⟩ = false := Lib.frozen_of_heap u1 11
  have r11 : v5.cell? ⟨v4.heap.size, 11, none⟩ = some (.int .i64 0) := by rw [Lib.cell_of_heap y2]; rfl
  have f0 : v5.frozen? ⟨v4.heap.size, 0, none⟩ = false := Lib.frozen_of_heap y2 0
  have f1 : v5.frozen? ⟨v4.heap.size, 1, none⟩ = false := Lib.frozen_of_heap y2 1
  have f2 : v5.frozen? ⟨v4.heap.size, 2, none⟩ = false := Lib.frozen_of_heap y2 2
  have f3 : v5.frozen? ⟨v4.heap.size, 3, none⟩ = false := Lib.frozen_of_heap y2 3
  have f4 : v5.frozen? ⟨v4.heap.size, 4, none⟩ = false := Lib.frozen_of_heap y2 4
  have f5 : v5.frozen? ⟨v4.heap.size, 5, none⟩ = false := Lib.frozen_of_heap y2 5
  have f6 : v5.frozen? ⟨v4.heap.size, 6, none⟩ = false := Lib.frozen_of_heap y2 6
  have f7 : v5.frozen? ⟨v4.heap.size, 7, none⟩ = false := Lib.frozen_of_heap y2 7
  have f8 : v5.frozen? ⟨v4.heap.size, 8, none⟩ = false := Lib.frozen_of_heap y2 8
  have f9 : v5.frozen? ⟨v4.heap.size, 9, none⟩ = false := Lib.frozen_of_heap y2 9
  have f10 : v5.frozen? ⟨v4.heap.size, 10, none⟩ = false := Lib.frozen_of_heap y2 10
  have f11 : v5.frozen? ⟨v4.heap.size, 11, none⟩ = false := Lib.frozen_of_heap y2 11
  clear hbr b1 b2 b3 b4 b04 x0 x1 y0 y1 y2 u0 u1 b5 hb0 hb1 hb4 l1
  have hne : v4.heap.size ≠ w.heap.size + 1 := by omega
  go_wp2_with fail
  refine bodyPost_ret (v := bare4) ?_ rfl ⟨rfl, ?_⟩
  · simp [results, Tryz.results127, go_sem, hne, hne.symm, q0, q1, q2, q3, q4, q5, q6, q7, q8, q9, q10, q11]
  · repeat (first | refine Below.setCell ?_ HLE.out _ | refine Below.setCell ?_ HLE4.out _)
    exact HB5.out

end Go.Proofs.YtgipjplifndniaaGreatDoor.A

namespace Go.Proofs.YtgipjplifndniaaGreatDoor.A
open Go.RowKit Go.Maps

theorem lo_spec (f : Nat → Int) : ∀ n, (∀ j, j ≤ n → lo f n ≤ f j) ∧ ∃ j, j ≤ n ∧ lo f n = f j
  | 0 => ⟨fun j hj => by obtain rfl : j = 0 := (by omega); exact Int.le_refl _, 0, Nat.le_refl _, rfl⟩
  | n + 1 => by
    obtain ⟨h1, k, hk, h2⟩ := lo_spec f n
    refine ⟨fun j hj => ?_, ?_⟩
    · show min _ _ ≤ _
      rcases Nat.lt_or_ge j (n + 1) with h | h
      · have := h1 j (by omega); omega
      · obtain rfl : j = n + 1 := by omega
        omega
    · show ∃ j, j ≤ n + 1 ∧ min _ _ = _
      by_cases h : lo f n ≤ f (n + 1)
      · exact ⟨k, by omega, by rw [Int.min_eq_left h, h2]⟩
      · exact ⟨n + 1, Nat.le_refl _, Int.min_eq_right (by omega)⟩
theorem hi_spec (f : Nat → Int) : ∀ n, (∀ j, j ≤ n → f j ≤ hi f n) ∧ ∃ j, j ≤ n ∧ hi f n = f j
  | 0 => ⟨fun j hj => by obtain rfl : j = 0 := (by omega); exact Int.le_refl _, 0, Nat.le_refl _, rfl⟩
  | n + 1 => by
    obtain ⟨h1, k, hk, h2⟩ := hi_spec f n
    refine ⟨fun j hj => ?_, ?_⟩
    · show _ ≤ max _ _
      rcases Nat.lt_or_ge j (n + 1) with h | h
      · have := h1 j (by omega); omega
      · obtain rfl : j = n + 1 := by omega
        omega
    · show ∃ j, j ≤ n + 1 ∧ max _ _ = _
      by_cases h : f (n + 1) ≤ hi f n
      · exact ⟨k, by omega, by rw [Int.max_eq_left h, h2]⟩
      · exact ⟨n + 1, Nat.le_refl _, Int.max_eq_right (by omega)⟩
structure IsBox (ys : List (Int × Int)) (x0 y0 x1 y1 : Int) : Prop where
  all : ∀ p ∈ ys, x0 ≤ p.1 ∧ y0 ≤ p.2 ∧ p.1 ≤ x1 ∧ p.2 ≤ y1
  a0 : ∃ p ∈ ys, p.1 = x0
  b0 : ∃ p ∈ ys, p.2 = y0
  a1 : ∃ p ∈ ys, p.1 = x1
  b1 : ∃ p ∈ ys, p.2 = y1
theorem mem_at {ys : List (Int × Int)} {j : Nat} (h : j < ys.length) : ys[j]! ∈ ys := by
  rw [getElem!_pos ys j h]; exact List.getElem_mem _
theorem at_mem {ys : List (Int × Int)} {p : Int × Int} (h : p ∈ ys) : ∃ j, j < ys.length ∧ ys[j]! = p := by
  obtain ⟨j, hj, e⟩ := List.getElem_of_mem h
  exact ⟨j, hj, by rw [getElem!_pos ys j hj]; exact e⟩
theorem box_is {ys : List (Int × Int)} (h : ys ≠ []) : IsBox ys (lo' (fun j => (ys[j]!).1) ys.length) (lo' (fun j => (ys[j]!).2) ys.length) (hi' (fun j => (ys[j]!).1) ys.length) (hi' (fun j => (ys[j]!).2) ys.length) := by
  obtain ⟨m, hm⟩ : ∃ m, ys.length = m + 1 := ⟨ys.length - 1, by have := List.length_pos_iff.2 h; omega⟩
  have e1 : ∀ f : Nat → Int, lo' f ys.length = lo f m := fun f => by rw [hm]; rfl
  have e2 : ∀ f : Nat → Int, hi' f ys.length = hi f m := fun f => by rw [hm]; rfl
  rw [e1, e1, e2, e2]
  refine ⟨fun p hp => ?_, ?_, ?_, ?_, ?_⟩
  · obtain ⟨j, hj, rfl⟩ := at_mem hp
    exact ⟨(lo_spec (fun j => (ys[j]!).1) m).1 j (by omega), (lo_spec (fun j => (ys[j]!).2) m).1 j (by omega), (hi_spec (fun j => (ys[j]!).1) m).1 j (by omega), (hi_spec (fun j => (ys[j]!).2) m).1 j (by omega)⟩
  · obtain ⟨_, j, hj, e⟩ := lo_spec (fun j => (ys[j]!).1) m; exact ⟨ys[j]!, mem_at (by omega), e.symm⟩
  · obtain ⟨_, j, hj, e⟩ := lo_spec (fun j => (ys[j]!).2) m; exact ⟨ys[j]!, mem_at (by omega), e.symm⟩
  · obtain ⟨_, j, hj, e⟩ := hi_spec (fun j => (ys[j]!).1) m; exact ⟨ys[j]!, mem_at (by omega), e.symm⟩
  · obtain ⟨_, j, hj, e⟩ := hi_spec (fun j => (ys[j]!).2) m; exact ⟨ys[j]!, mem_at (by omega), e.symm⟩

def fitsLv (n : Nat) (ys : List (Int × Int)) : Prop := ∀ p ∈ ys, -(halfN n : Int) ≤ p.1 ∧ p.1 < halfN n ∧ -(halfN n : Int) ≤ p.2 ∧ p.2 < halfN n
def BoxOr (ys : List (Int × Int)) (x0 y0 x1 y1 : Int) : Prop := (ys = [] ∧ x0 = 0 ∧ y0 = 0 ∧ x1 = 0 ∧ y1 = 0) ∨ IsBox ys x0 y0 x1 y1
theorem reach_fits {ys : List (Int × Int)} {x0 y0 x1 y1 : Int} (h : BoxOr ys x0 y0 x1 y1) {n : Nat} (hn : n ≤ 62) : reachB n x0 y0 x1 y1 = true ↔ fitsLv n ys := by
  have hp := (halfN_bd n hn).2
  unfold reachB fitsLv
  rw [decide_eq_true_iff]
  rcases h with ⟨rfl, rfl, rfl, rfl, rfl⟩ | h
  · constructor
    · intro _ p hp; cases hp
    · intro _; omega
  · constructor
    · intro k p hp
      have := h.all p hp
      omega
    · intro k
      obtain ⟨p, hp, e0⟩ := h.a0
      obtain ⟨q, hq, e1⟩ := h.b0
      obtain ⟨r, hr, e2⟩ := h.a1
      obtain ⟨s, hs, e3⟩ := h.b1
      have := k p hp; have := k q hq; have := k r hr; have := k s hs
      omega
structure LeastLv (N : Nat) (ys : List (Int × Int)) : Prop where
  two : 2 ≤ N
  fits : fitsLv N ys
  least : ∀ j, 2 ≤ j → j < N → ¬ fitsLv j ys
theorem least_from (ys : List (Int × Int)) : ∀ (d M : Nat), 2 ≤ M → fitsLv (M + d) ys → (∀ j, 2 ≤ j → j < M → ¬ fitsLv j ys) → ∃ N, N ≤ M + d ∧ LeastLv N ys
  | 0, M, h2, hf, hl => ⟨M, Nat.le_refl _, h2, hf, hl⟩
  | d + 1, M, h2, hf, hl => by
    by_cases h : fitsLv M ys
    · exact ⟨M, by omega, h2, h, hl⟩
    · obtain ⟨N, hN, h3⟩ := least_from ys d (M + 1) (by omega) (by rw [show M + 1 + d = M + (d + 1) by omega]; exact hf) (fun j h4 h5 => by
        rcases Nat.lt_or_ge j M with h6 | h6
        · exact hl j h4 h6
        · obtain rfl : j = M := by omega
          exact h)
      exact ⟨N, by omega, h3⟩
theorem least_exists {ys : List (Int × Int)} (h : ∀ p ∈ ys, farP p = false) : ∃ N, N ≤ 41 ∧ LeastLv N ys := by
  refine least_from ys 39 2 (by omega) (fun p hp => ?_) (fun j h1 h2 => by omega)
  have := h p hp
  have e : (halfN (2 + 39) : Int) = 1099511627776 := by decide
  rw [e]
  unfold farP farI at this
  simp only [Bool.or_eq_false_iff, decide_eq_false_iff_not] at this
  omega
theorem tidied_far {zs ys : List (Int × Int)} (h : Tidied zs ys) : ∀ p ∈ ys, farP p = false := fun p hp => by
  obtain ⟨h1, h2⟩ := (h.2 p).1 hp
  unfold tcode at h2
  split at h2
  · omega
  · split at h2
    · omega
    · rename_i hn
      simp only [Bool.not_eq_true, List.any_eq_false] at hn
      simpa using hn p h1
theorem tidy_nodup {ys : List (Int × Int)} (h : Tidy ys) : ys.Nodup := by
  refine List.Pairwise.imp (fun {a b} hab e => ?_) h
  subst e
  unfold ahead at hab
  omega
theorem tidied_len {zs ys : List (Int × Int)} (h : Tidied zs ys) : ys.length ≤ zs.length := by
  have nd : ys.Nodup := tidy_nodup h.1
  exact nd.length_le_of_subset fun p hp => ((h.2 p).1 hp).1
end Go.Proofs.YtgipjplifndniaaGreatDoor.A
