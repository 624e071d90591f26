/- Count of an empty square of any level. -/
import Derived.Test.YthobobgiendcfaaSqWalk
namespace Go.Proofs.Ythobobgiendcfaa.A
open Go.RowKit Go.Maps Go.ChangeMaps Go.WideElems

/-- what a walker has in memory while it goes through empty squares -/
structure Walk (w : World) (wb m b nn t n : Nat) (v : Value) (F : Nat → Prop) (A : Ar) (D : DataW Unit) : Prop where
  hand : HandAt w wb b t 0 v
  ar : ArAt w b F nn A
  map : w.ownsMap Try.prog 3 talR m n D
  known : Known D
  c4 : w.cell? ⟨wb, 4, none⟩ = some (.map (some m))
  ne : wb ≠ m
  nF : ¬ F m
  nFw : ¬ F wb
theorem Walk.lt {w : World} {wb m b nn t n : Nat} {v : Value} {F : Nat → Prop} {A : Ar} {D : DataW Unit} (h : Walk w wb m b nn t n v F A D) : m < w.heap.size := by
  have hm0 : w.heap[m]? ≠ none := by obtain ⟨es, c, he, _⟩ := h.map; rw [he]; simp
  rw [Ne, Array.getElem?_eq_none_iff] at hm0; omega
theorem Walk.below {w w' : World} {wb m b nn t n : Nat} {v : Value} {F : Nat → Prop} {A : Ar} {D : DataW Unit} (h : Walk w wb m b nn t n v F A D) (hb : Below w.heap.size w w') : Walk w' wb m b nn t n v F A D :=
  ⟨h.hand.below hb, h.ar.below hb, own_other h.map (hb.block _ h.lt), h.known, (World.cell?_of_block (hb.block _ h.hand.lt)).trans h.c4, h.ne, h.nF, h.nFw⟩
theorem Walk.kids {w w' : World} {wb m b nn t n : Nat} {v : Value} {F : Nat → Prop} {A : Ar} {D : DataW Unit} (h : Walk w wb m b nn t n v F A D) (h2 : HandAt w' wb b t 0 v) (hg : w.grownBy w' (some wb)) (h4 : w'.cell? ⟨wb, 4, none⟩ = some (.map (some m))) : Walk w' wb m b nn t n v F A D := by
  obtain ⟨r, D', ha⟩ := h.ar
  exact ⟨h2, ⟨r, D', ha.other hg.size fun k hk => hg.block k (ha.flt k hk) (fun e => h.nFw (by cases e; exact hk))⟩, own_other h.map (hg.block _ h.lt (fun e => h.ne (by cases e; rfl))), h.known, h4, h.ne, h.nF, h.nFw⟩
theorem Walk.other {w w' : World} {wb m b nn t n : Nat} {v : Value} {F : Nat → Prop} {A : Ar} {D : DataW Unit} (h : Walk w wb m b nn t n v F A D) (hs : w.heap.size ≤ w'.heap.size) (hb : ∀ k, k = wb ∨ k = m ∨ F k → w'.heap[k]? = w.heap[k]?) : Walk w' wb m b nn t n v F A D := by
  obtain ⟨r, D', ha⟩ := h.ar
  exact ⟨h.hand.go (hb wb (Or.inl rfl)), ⟨r, D', ha.other hs fun k hk => hb k (Or.inr (Or.inr hk))⟩, own_other h.map (hb m (Or.inr (Or.inl rfl))), h.known, (World.cell?_of_block (hb wb (Or.inl rfl))).trans h.c4, h.ne, h.nF, h.nFw⟩
/-- what a walker's tally of an empty square leaves -/
def TalOut (w : World) (wb m b nn t n : Nat) (v : Value) (F : Nat → Prop) (A : Ar) (id : Int) (w' : World) : Prop :=
  ∃ D', Walk w' wb m b nn t n v F A D' ∧ Maps.has D' (.int .i64 id) = true ∧ w.heap.size ≤ w'.heap.size ∧ w'.os = w.os ∧ w'.tape = w.tape ∧ w'.output = w.output ∧ ∀ k, k < w.heap.size → k ≠ wb → k ≠ m → w'.heap[k]? = w.heap[k]?

set_option maxRecDepth 20000 in
set_option maxHeartbeats 4000000 in
theorem tally_new (wb m b nn n k t : Nat) (id e level : Int) (v : Value) (F : Nat → Prop) (A : Ar) (x : Th) (D : DataW Unit) (w : World) (hw : Walk w wb m b nn t n v F A D) (hi : Fits id) (h1 : id ≠ 1) (he : Fits e) (he1 : e ≠ 1) (hn : n + k < 900) (hh : Maps.has D (.int .i64 id) = false) (ht : t < 64) (hm : ∀ x ∈ A.ths, x.mask < 18446744073709551616) (hx : squareF A.ths t id = some x) (x0 : x.p0 = e) (x1 : x.p1 = e) (x2 : x.p2 = e) (x3 : x.p3 = e)
    (ih : ∀ (l : Int) (D : DataW Unit) (w : World), Walk w wb m b nn t n v F A D → Calls Try.prog 87 #[.pointer (some ⟨wb, 0, none⟩), .int .i64 e, .int .i64 l] w fun x w' => x = .returned zeroT ∧ TalOut w wb m b nn t (n + k) v F A e w') :
    Calls Try.prog 87 #[.pointer (some ⟨wb, 0, none⟩), .int .i64 id, .int .i64 level] w fun x w' => x = .returned zeroT ∧ TalOut w wb m b nn t (n + k + 1) v F A id w' := by
  have hml := hw.lt
  have hBd := fun W => bounds_any (.slice none 0 0) 0 (fun _ => 0) (fun _ => 0) W (IsRow.nil W _ _)
  rw [boxOf_zero] at hBd
  have hwl := hw.hand.lt
  obtain ⟨W1, hW1⟩ : ∃ W1, W1 = w.alloc (.cells #[.int .i64 0, .int .i64 0, .int .i64 0, .int .i64 0, .int .i64 0] 138) := ⟨_, rfl⟩
  have b1 : Below w.heap.size w (w.alloc (.cells #[.int .i64 0, .int .i64 0, .int .i64 0, .int .i64 0, .int .i64 0] 138)) := (Below.refl _ _).alloc (Nat.le_refl _) _
  have q1 := hw.below b1
  have hlook := tal_look q1.map q1.known hi h1
  have hc' := q1.c4
  rw [hh] at hlook
  have b0 : Below w.heap.size w (((w.alloc (.cells #[.int .i64 0, .int .i64 0, .int .i64 0, .int .i64 0, .int .i64 0] 138)).alloc (.cells #[.int .i64 0, .int .i64 0, .int .i64 0, .int .i64 0, .int .i64 0] 138)).alloc (.cells #[.int .i64 0, .int .i64 0, .int .i64 0, .int .i64 0, .int .i64 0] 138)) := ((b1.alloc b1.size _).alloc (b1.alloc b1.size _).size _)
  have q0 := hw.below b0
  go_enter Try.func87, Try.ntmps87
  go_wp2_with fail
  have hX : (((w.alloc (.cells #[.int .i64 0, .int .i64 0, .int .i64 0, .int .i64 0, .int .i64 0] 138)).alloc (.cells #[.int .i64 0, .int .i64 0, .int .i64 0, .int .i64 0, .int .i64 0] 138)).alloc (.cells #[.int .i64 0, .int .i64 0, .int .i64 0, .int .i64 0, .int .i64 0] 138)).heap[w.heap.size + 1 + 1]? = some (.cells #[.int .i64 0, .int .i64 0, .int .i64 0, .int .i64 0, .int .i64 0] 138 (0, 0)) := by
    have := heap_alloc_new ((w.alloc (.cells #[.int .i64 0, .int .i64 0, .int .i64 0, .int .i64 0, .int .i64 0] 138)).alloc (.cells #[.int .i64 0, .int .i64 0, .int .i64 0, .int .i64 0, .int .i64 0] 138)) (.cells #[.int .i64 0, .int .i64 0, .int .i64 0, .int .i64 0, .int .i64 0] 138)
    simpa using this
  have hY : (((w.alloc (.cells #[.int .i64 0, .int .i64 0, .int .i64 0, .int .i64 0, .int .i64 0] 138)).alloc (.cells #[.int .i64 0, .int .i64 0, .int .i64 0, .int .i64 0, .int .i64 0] 138)).alloc (.cells #[.int .i64 0, .int .i64 0, .int .i64 0, .int .i64 0, .int .i64 0] 138)).heap[w.heap.size]? = some (.cells #[.int .i64 0, .int .i64 0, .int .i64 0, .int .i64 0, .int .i64 0] 138 (0, 0)) := by
    rw [show (((w.alloc (.cells #[.int .i64 0, .int .i64 0, .int .i64 0, .int .i64 0, .int .i64 0] 138)).alloc (.cells #[.int .i64 0, .int .i64 0, .int .i64 0, .int .i64 0, .int .i64 0] 138)).alloc (.cells #[.int .i64 0, .int .i64 0, .int .i64 0, .int .i64 0, .int .i64 0] 138)).heap[w.heap.size]? = ((w.alloc (.cells #[.int .i64 0, .int .i64 0, .int .i64 0, .int .i64 0, .int .i64 0] 138)).alloc (.cells #[.int .i64 0, .int .i64 0, .int .i64 0, .int .i64 0, .int .i64 0] 138)).heap[w.heap.size]? from push_old (by simp; omega)]
    exact heap_alloc2_old w _ _
  refine (handKids_any wb b nn t id x v F A _ q0.hand q0.ar ht hm hi hx).mono ?_
  rintro y w1 ⟨rfl, hw1, g1, hk4⟩
  have q2 := q0.kids hw1 g1 (hk4.trans q0.c4)
  have hsz0 : (((w.alloc (.cells #[.int .i64 0, .int .i64 0, .int .i64 0, .int .i64 0, .int .i64 0] 138)).alloc (.cells #[.int .i64 0, .int .i64 0, .int .i64 0, .int .i64 0, .int .i64 0] 138)).alloc (.cells #[.int .i64 0, .int .i64 0, .int .i64 0, .int .i64 0, .int .i64 0] 138)).heap.size = w.heap.size + 3 := by simp
  have hX1 := (g1.block (w.heap.size + 1 + 1) (by omega) (by simp; omega)).trans hX
  have hY1 := (g1.block w.heap.size (by omega) (by simp; omega)).trans hY
  have g01 : w.grownBy w1 (some wb) := grown_tr (grown_bl b0 _) g1
  have hl1 : w.heap.size + 1 + 1 < w1.heap.size := (Array.getElem?_eq_some_iff.1 hX1).1
  rw [x0, x1, x2, x3]
  have i0 := Try.at0 (.int .i64 e) (.int .i64 e) (.int .i64 e) (.int .i64 e)
  have i1 := Try.at1 (.int .i64 e) (.int .i64 e) (.int .i64 e) (.int .i64 e)
  have i2 := Try.at2 (.int .i64 e) (.int .i64 e) (.int .i64 e) (.int .i64 e)
  have i3 := Try.at3 (.int .i64 e) (.int .i64 e) (.int .i64 e) (.int .i64 e)
  clear hlook hc' hW1 hX hY q0 q1 hk4 hw1 hx x0 x1 x2 x3 g1 b1 b0 hsz0
  go_wp2_with fail
  refine wp_loop_rounds 5 ?_
  rw [rounds_succ]
  go_wp2_with fail
  refine (ih _ D w1 q2).mono ?_
  rintro y w2 ⟨rfl, D2, q3, hD2, s2, p2, r2, u2, k2⟩
  have hX2 := (k2 (w.heap.size + 1 + 1) hl1 (by omega) (by omega)).trans hX1
  have hY2 := (k2 w.heap.size (by omega) (by omega) (by omega)).trans hY1
  go_wp2_with fail
  have c1 : Below w2.heap.size w2 (w2.alloc (.cells #[.int .i64 0, .int .i64 0, .int .i64 0, .int .i64 0, .int .i64 0] 138)) := (Below.refl _ _).alloc (Nat.le_refl _) _
  generalize w2.alloc (.cells #[.int .i64 0, .int .i64 0, .int .i64 0, .int .i64 0, .int .i64 0] 138) = y2 at *
  have q4 := q3.below c1
  have kn1 := fun l => tally_known wb m _ e l D2 y2 q4.map q4.known he he1 q4.c4 hD2
  rw [rounds_succ]
  go_wp2_with fail
  refine (kn1 _).mono ?_
  rintro y w3 ⟨rfl, c2⟩
  have c3 := c1.trans (c2.mono c1.size)
  go_wp2_with fail
  have c4 := c3.alloc c3.size (.cells #[.int .i64 0, .int .i64 0, .int .i64 0, .int .i64 0, .int .i64 0] 138)
  generalize w3.alloc (.cells #[.int .i64 0, .int .i64 0, .int .i64 0, .int .i64 0, .int .i64 0] 138) = y3 at *
  have q5 := q3.below c4
  have kn2 := fun l => tally_known wb m _ e l D2 y3 q5.map q5.known he he1 q5.c4 hD2
  rw [rounds_succ]
  go_wp2_with fail
  refine (kn2 _).mono ?_
  rintro y w4 ⟨rfl, c5⟩
  have c6 := c4.trans (c5.mono c4.size)
  go_wp2_with fail
  have c7 := c6.alloc c6.size (.cells #[.int .i64 0, .int .i64 0, .int .i64 0, .int .i64 0, .int .i64 0] 138)
  generalize w4.alloc (.cells #[.int .i64 0, .int .i64 0, .int .i64 0, .int .i64 0, .int .i64 0] 138) = y4 at *
  have q6 := q3.below c7
  have kn3 := fun l => tally_known wb m _ e l D2 y4 q6.map q6.known he he1 q6.c4 hD2
  rw [rounds_succ]
  go_wp2_with fail
  refine (kn3 _).mono ?_
  rintro y w5 ⟨rfl, c8⟩
  have c9 := c7.trans (c8.mono c7.size)
  go_wp2_with fail
  have d0 := c9.alloc c9.size (.cells #[.int .i64 0, .int .i64 0, .int .i64 0, .int .i64 0, .int .i64 0] 138)
  generalize w5.alloc (.cells #[.int .i64 0, .int .i64 0, .int .i64 0, .int .i64 0, .int .i64 0] 138) = y5 at *
  rw [rounds_succ]
  go_wp2_with fail
  refine (hBd _).mono ?_
  rintro y w6 ⟨rfl, d1⟩
  have d2 := d0.trans (d1.mono d0.size)
  have q7 := q3.below d2
  have hl2 : w.heap.size + 1 + 1 < w2.heap.size := (Array.getElem?_eq_some_iff.1 hX2).1
  have hX6 := (d2.block (w.heap.size + 1 + 1) hl2).trans hX2
  have hY6 := (d2.block w.heap.size (by omega)).trans hY2
  have s0 : w6.cell? ⟨w.heap.size + 1 + 1, 0, none⟩ = some (.int .i64 0) := Lib.cell_of_heap hX6 0
  have s1 : w6.cell? ⟨w.heap.size + 1 + 1, 1, none⟩ = some (.int .i64 0) := Lib.cell_of_heap hX6 1
  have s2' : w6.cell? ⟨w.heap.size + 1 + 1, 2, none⟩ = some (.int .i64 0) := Lib.cell_of_heap hX6 2
  have s3 : w6.cell? ⟨w.heap.size + 1 + 1, 3, none⟩ = some (.int .i64 0) := Lib.cell_of_heap hX6 3
  have s4 : w6.cell? ⟨w.heap.size + 1 + 1, 4, none⟩ = some (.int .i64 0) := Lib.cell_of_heap hX6 4
  have z1 := Lib.frozen_of_heap hX6 1
  have z2 := Lib.frozen_of_heap hX6 2
  have z3 := Lib.frozen_of_heap hX6 3
  have z4 := Lib.frozen_of_heap hX6 4
  clear hX1 hX2 hY1 hY2 c1 c2 c3 c4 c5 c6 c7 c8 c9 d0 d1 q4 q5 q6 kn1 kn2 kn3 i0 i1 i2 i3 ih hBd
  go_wp2_with fail
  have hX7 : ((((w6.setCell ⟨w.heap.size + 1 + 1, 1, none⟩ (.int .i64 0)).setCell ⟨w.heap.size + 1 + 1, 2, none⟩ (.int .i64 0)).setCell ⟨w.heap.size + 1 + 1, 3, none⟩ (.int .i64 0)).setCell ⟨w.heap.size + 1 + 1, 4, none⟩ (.int .i64 0)).heap[w.heap.size + 1 + 1]? = some (.cells #[.int .i64 0, .int .i64 0, .int .i64 0, .int .i64 0, .int .i64 0] 138 (0, 0)) := Go.Joins.block_setCell (Go.Joins.block_setCell (Go.Joins.block_setCell (Go.Joins.block_setCell hX6 _) _) _) _
  have ho : ∀ k, k ≠ w.heap.size + 1 + 1 → ((((w6.setCell ⟨w.heap.size + 1 + 1, 1, none⟩ (.int .i64 0)).setCell ⟨w.heap.size + 1 + 1, 2, none⟩ (.int .i64 0)).setCell ⟨w.heap.size + 1 + 1, 3, none⟩ (.int .i64 0)).setCell ⟨w.heap.size + 1 + 1, 4, none⟩ (.int .i64 0)).heap[k]? = w6.heap[k]? := fun k hk => by
    rw [Below.heap_setCell _ _ _ _ hk, Below.heap_setCell _ _ _ _ hk, Below.heap_setCell _ _ _ _ hk, Below.heap_setCell _ _ _ _ hk]
  have hsz : ((((w6.setCell ⟨w.heap.size + 1 + 1, 1, none⟩ (.int .i64 0)).setCell ⟨w.heap.size + 1 + 1, 2, none⟩ (.int .i64 0)).setCell ⟨w.heap.size + 1 + 1, 3, none⟩ (.int .i64 0)).setCell ⟨w.heap.size + 1 + 1, 4, none⟩ (.int .i64 0)).heap.size = w6.heap.size := by simp [World.setCell]
  have hos : ((((w6.setCell ⟨w.heap.size + 1 + 1, 1, none⟩ (.int .i64 0)).setCell ⟨w.heap.size + 1 + 1, 2, none⟩ (.int .i64 0)).setCell ⟨w.heap.size + 1 + 1, 3, none⟩ (.int .i64 0)).setCell ⟨w.heap.size + 1 + 1, 4, none⟩ (.int .i64 0)).os = w6.os ∧ ((((w6.setCell ⟨w.heap.size + 1 + 1, 1, none⟩ (.int .i64 0)).setCell ⟨w.heap.size + 1 + 1, 2, none⟩ (.int .i64 0)).setCell ⟨w.heap.size + 1 + 1, 3, none⟩ (.int .i64 0)).setCell ⟨w.heap.size + 1 + 1, 4, none⟩ (.int .i64 0)).tape = w6.tape ∧ ((((w6.setCell ⟨w.heap.size + 1 + 1, 1, none⟩ (.int .i64 0)).setCell ⟨w.heap.size + 1 + 1, 2, none⟩ (.int .i64 0)).setCell ⟨w.heap.size + 1 + 1, 3, none⟩ (.int .i64 0)).setCell ⟨w.heap.size + 1 + 1, 4, none⟩ (.int .i64 0)).output = w6.output := ⟨rfl, rfl, rfl⟩
  clear s0 s1 s2' s3 s4 z1 z2 z3 z4
  generalize ((((w6.setCell ⟨w.heap.size + 1 + 1, 1, none⟩ (.int .i64 0)).setCell ⟨w.heap.size + 1 + 1, 2, none⟩ (.int .i64 0)).setCell ⟨w.heap.size + 1 + 1, 3, none⟩ (.int .i64 0)).setCell ⟨w.heap.size + 1 + 1, 4, none⟩ (.int .i64 0)) = w7 at *
  have hfl := hw.ar.flt
  have q8 := q7.other (w' := w7) (by omega) (fun k hk => ho k (by rcases hk with h | h | h <;> first | omega | (have := hfl k h; omega)))
  have s0 : w7.cell? ⟨w.heap.size + 1 + 1, 0, none⟩ = some (.int .i64 0) := Lib.cell_of_heap hX7 0
  have s1 : w7.cell? ⟨w.heap.size + 1 + 1, 1, none⟩ = some (.int .i64 0) := Lib.cell_of_heap hX7 1
  have s2' : w7.cell? ⟨w.heap.size + 1 + 1, 2, none⟩ = some (.int .i64 0) := Lib.cell_of_heap hX7 2
  have s3 : w7.cell? ⟨w.heap.size + 1 + 1, 3, none⟩ = some (.int .i64 0) := Lib.cell_of_heap hX7 3
  have s4 : w7.cell? ⟨w.heap.size + 1 + 1, 4, none⟩ = some (.int .i64 0) := Lib.cell_of_heap hX7 4
  have c4 := q8.c4
  obtain ⟨w8, D8, run8, own8, kn8, has8, tu8⟩ := tal_put (w := w7.drew) (own_other q8.map rfl) q8.known hi (by omega)
  have e8 : ∀ k, k ≠ m → w8.heap[k]? = w7.heap[k]? := fun k hk => turned_block (w := w7.drew) tu8 hk
  have gr8 := grown_of_turned tu8
  have hX8 := (e8 (w.heap.size + 1 + 1) (by omega)).trans hX7
  have hY8 := (e8 w.heap.size (by omega)).trans ((ho w.heap.size (by omega)).trans hY6)
  have t0 : w8.cell? ⟨w.heap.size + 1 + 1, 0, none⟩ = some (.int .i64 0) := Lib.cell_of_heap hX8 0
  have t1 : w8.cell? ⟨w.heap.size + 1 + 1, 1, none⟩ = some (.int .i64 0) := Lib.cell_of_heap hX8 1
  have t2 : w8.cell? ⟨w.heap.size + 1 + 1, 2, none⟩ = some (.int .i64 0) := Lib.cell_of_heap hX8 2
  have t3 : w8.cell? ⟨w.heap.size + 1 + 1, 3, none⟩ = some (.int .i64 0) := Lib.cell_of_heap hX8 3
  have t4 : w8.cell? ⟨w.heap.size + 1 + 1, 4, none⟩ = some (.int .i64 0) := Lib.cell_of_heap hX8 4
  have j0 : w8.cell? ⟨w.heap.size, 0, none⟩ = some (.int .i64 0) := Lib.cell_of_heap hY8 0
  have j1 : w8.cell? ⟨w.heap.size, 1, none⟩ = some (.int .i64 0) := Lib.cell_of_heap hY8 1
  have j2 : w8.cell? ⟨w.heap.size, 2, none⟩ = some (.int .i64 0) := Lib.cell_of_heap hY8 2
  have j3 : w8.cell? ⟨w.heap.size, 3, none⟩ = some (.int .i64 0) := Lib.cell_of_heap hY8 3
  have j4 : w8.cell? ⟨w.heap.size, 4, none⟩ = some (.int .i64 0) := Lib.cell_of_heap hY8 4
  have z0 := Lib.frozen_of_heap hY8 0
  have z1 := Lib.frozen_of_heap hY8 1
  have z2 := Lib.frozen_of_heap hY8 2
  have z3 := Lib.frozen_of_heap hY8 3
  have z4 := Lib.frozen_of_heap hY8 4
  have hR := set5 hY8 (.int .i64 0) (.int .i64 0) (.int .i64 0) (.int .i64 0) (.int .i64 0)
  have e9 : ∀ k, k ≠ w.heap.size → (((((w8.setCell ⟨w.heap.size, 0, none⟩ (.int .i64 0)).setCell ⟨w.heap.size, 1, none⟩ (.int .i64 0)).setCell ⟨w.heap.size, 2, none⟩ (.int .i64 0)).setCell ⟨w.heap.size, 3, none⟩ (.int .i64 0)).setCell ⟨w.heap.size, 4, none⟩ (.int .i64 0)).heap[k]? = w8.heap[k]? := fun k hk => by
    rw [Below.heap_setCell _ _ _ _ hk, Below.heap_setCell _ _ _ _ hk, Below.heap_setCell _ _ _ _ hk, Below.heap_setCell _ _ _ _ hk, Below.heap_setCell _ _ _ _ hk]
  have hs9 : (((((w8.setCell ⟨w.heap.size, 0, none⟩ (.int .i64 0)).setCell ⟨w.heap.size, 1, none⟩ (.int .i64 0)).setCell ⟨w.heap.size, 2, none⟩ (.int .i64 0)).setCell ⟨w.heap.size, 3, none⟩ (.int .i64 0)).setCell ⟨w.heap.size, 4, none⟩ (.int .i64 0)).heap.size = w8.heap.size := by simp [World.setCell]
  have HF : Hid (TalOut w wb m b nn t (n + k + 1) v F A id (((((w8.setCell ⟨w.heap.size, 0, none⟩ (.int .i64 0)).setCell ⟨w.heap.size, 1, none⟩ (.int .i64 0)).setCell ⟨w.heap.size, 2, none⟩ (.int .i64 0)).setCell ⟨w.heap.size, 3, none⟩ (.int .i64 0)).setCell ⟨w.heap.size, 4, none⟩ (.int .i64 0))) := by
    have W8 : Walk w8 wb m b nn t (n + k + 1) v F A D8 := by
      refine ⟨q8.hand.go (e8 wb q8.ne), ?_, own8, kn8, (World.cell?_of_block (e8 wb q8.ne)).trans q8.c4, q8.ne, q8.nF, q8.nFw⟩
      obtain ⟨r, D', ha⟩ := q8.ar
      exact ⟨r, D', ha.other (Nat.le_trans (Nat.le_refl _) gr8.size) fun k hk => e8 k (fun e => q8.nF (by rw [← e]; exact hk))⟩
    refine ⟨D8, W8.other (by omega) (fun k hk => e9 k (by rcases hk with h | h | h <;> first | omega | (have := hfl k h; omega))), has8, ?_, ?_, ?_, ?_, fun k hk hk1 hk2 => ?_⟩
    · have a1 := gr8.size
      have a2 := d2.size
      have a3 := g01.size
      have a4 : w7.drew.heap.size = w7.heap.size := rfl
      omega
    · exact gr8.os.trans (hos.1.trans (d2.os.trans (p2.trans g01.os)))
    · exact gr8.tape.trans (hos.2.1.trans (d2.tape.trans (r2.trans g01.tape)))
    · exact gr8.output.trans (hos.2.2.trans (d2.output.trans (u2.trans g01.output)))
    · have a3 := g01.size
      exact (e9 k (by omega)).trans ((e8 k hk2).trans ((ho k (by omega)).trans ((d2.block k (by omega)).trans ((k2 k (by omega) hk1 hk2).trans (g01.block k hk (by simp; omega))))))
  clear own8 kn8 has8 tu8 gr8 q8 q7 q3 q2 d2 g01 hw hfl ho e8 e9 hs9
  go_region
  all_goals
    go_wp2_with fail
    refine bodyPost_ret (v := zeroT) ?_ rfl ⟨rfl, HF.out⟩
    simp [results, Try.results87, go_sem, Lib.cell_of_heap hR]
end Go.Proofs.Ythobobgiendcfaa.A

namespace Go.Proofs.Ythobobgiendcfaa.A
open Go.RowKit Go.Maps Go.ChangeMaps Go.WideElems

set_option maxRecDepth 20000 in
set_option maxHeartbeats 4000000 in
theorem newWalker_known (b t : Nat) (w : World) : Calls Try.prog 85 #[.pointer (some ⟨b, 0, none⟩), .int .i64 t] w fun x w' => ∃ (g m : Nat) (D : DataW Unit), x = .returned (.agg #[.pointer (some ⟨b, 0, none⟩), .int .i64 t, .int .i64 0, .slice (some ⟨g, 0, none⟩) 1 1, .map (some m)]) ∧ Below w.heap.size w w' ∧ w'.ownsMap Try.prog 3 talR m 2 D ∧ Known D ∧ w.heap.size ≤ m := by
  have hmm := @run_makeMap Try.prog
  have hh := fun W => newHand_any b t W
  have hb0 : Below w.heap.size w (w.alloc (.cells #[.pointer none, .int .i64 0, .int .i64 0, .slice none 0 0, .map none] 134)) := (Below.refl _ _).alloc (Nat.le_refl _) _
  have hX : (w.alloc (.cells #[.pointer none, .int .i64 0, .int .i64 0, .slice none 0 0, .map none] 134)).heap[w.heap.size]? = some (.cells #[.pointer none, .int .i64 0, .int .i64 0, .slice none 0 0, .map none] 134 (0, 0)) := heap_alloc_new w _
  have hs0 : (w.alloc (.cells #[.pointer none, .int .i64 0, .int .i64 0, .slice none 0 0, .map none] 134)).heap.size = w.heap.size + 1 := by simp
  go_enter Try.func85, Try.ntmps85
  go_wp2_with fail
  refine (hh _).mono ?_
  rintro e w1 ⟨rfl, hE, hb1⟩
  have hX1 := (hb1.block w.heap.size (by omega)).trans hX
  have hlt1 : w.heap.size < w1.heap.size := (Array.getElem?_eq_some_iff.1 hX1).1
  have h0 := World.ownsMap_made (H := Unit) w1 Try.prog 3 talR
  obtain ⟨wA, runA, ownA, tA⟩ := h0.store (int_keyed Try.underlying3) Try.underlying132 (show 0 < maxLen by unfold maxLen; omega) (keyOf_int_mk Try.underlying3 (wf_of_fits (show Fits 0 from ⟨by omega, by omega⟩))) talR_zero
  obtain ⟨wB, runB, ownB, tB⟩ := ownA.store (int_keyed Try.underlying3) Try.underlying132 (show 0 + 1 < maxLen by unfold maxLen; omega) (keyOf_int_mk Try.underlying3 (wf_of_fits (show Fits 1 from ⟨by omega, by omega⟩))) talR_one
  have HK : Hid (Known ((DataW.put (.map []) (.int .i64 0) zd).put (.int .i64 1) (.lit (.bool true)))) := by
    refine ⟨fun i hi hi1 => ?_, ?_⟩
    · rw [atKey_put_other (by intro e; cases e; exact hi1 rfl)]
      by_cases e : i = 0
      · subst e; exact atKey_put_same ⟨_, rfl⟩ (by unfold WideAt.IsKeyLit; trivial) _ _
      · rw [atKey_put_other (by intro h; cases h; exact e rfl)]; rfl
    · rw [has_put_other (by intro e; cases e)]
      exact has_put_same ⟨_, rfl⟩ (by unfold WideAt.IsKeyLit; trivial) _
  have HO : Hid (wB.ownsMap Try.prog 3 talR w1.heap.size 2 ((DataW.put (.map []) (.int .i64 0) zd).put (.int .i64 1) (.lit (.bool true)))) := ownB
  have bB : Below w.heap.size w wB := by
    have b1 : Below w.heap.size w w1 := hb0.trans (hb1.mono (by omega))
    have b2 : Below w.heap.size w1 (w1.alloc (.map #[] 0)) := (Below.refl _ _).alloc (by omega) _
    exact ((b1.trans b2).trans (turned_below tA (by omega))).trans (turned_below tB (by omega))
  have hXB : wB.heap[w.heap.size]? = some (.cells #[.pointer none, .int .i64 0, .int .i64 0, .slice none 0 0, .map none] 134 (0, 0)) := by
    rw [turned_block tB (by omega), turned_block tA (by omega), push_old hlt1]
    exact hX1
  have k0 : wB.cell? ⟨w.heap.size, 0, none⟩ = some (.pointer none) := Lib.cell_of_heap hXB 0
  have k1 : wB.cell? ⟨w.heap.size, 1, none⟩ = some (.int .i64 0) := Lib.cell_of_heap hXB 1
  have k2 : wB.cell? ⟨w.heap.size, 2, none⟩ = some (.int .i64 0) := Lib.cell_of_heap hXB 2
  have k3 : wB.cell? ⟨w.heap.size, 3, none⟩ = some (.slice none 0 0) := Lib.cell_of_heap hXB 3
  have k4 : wB.cell? ⟨w.heap.size, 4, none⟩ = some (.map none) := Lib.cell_of_heap hXB 4
  have z0 := Lib.frozen_of_heap hXB 0
  have z1 := Lib.frozen_of_heap hXB 1
  have z2 := Lib.frozen_of_heap hXB 2
  have z3 := Lib.frozen_of_heap hXB 3
  have z4 := Lib.frozen_of_heap hXB 4
  clear ownA ownB h0 hX hE hs0
  go_wp2_with fail
  have hR := set5 hXB (.pointer (some ⟨b, 0, none⟩)) (.int .i64 t) (.int .i64 0) (.slice (some ⟨w.heap.size + 1 + 1, 0, none⟩) 1 1) (.map (some w1.heap.size))
  refine bodyPost_ret (v := .agg #[.pointer (some ⟨b, 0, none⟩), .int .i64 t, .int .i64 0, .slice (some ⟨w.heap.size + 1 + 1, 0, none⟩) 1 1, .map (some w1.heap.size)]) ?_ rfl ⟨_, _, _, rfl, ?_, own_other HO.out ?_, HK.out, Nat.le_of_lt hlt1⟩
  · simp [results, Try.results85, go_sem, Lib.cell_of_heap hR]
  · exact ((((bB.setCell (p := ⟨w.heap.size, 0, none⟩) (Nat.le_refl _) _).setCell (p := ⟨w.heap.size, 1, none⟩) (Nat.le_refl _) _).setCell (p := ⟨w.heap.size, 2, none⟩) (Nat.le_refl _) _).setCell (p := ⟨w.heap.size, 3, none⟩) (Nat.le_refl _) _).setCell (p := ⟨w.heap.size, 4, none⟩) (Nat.le_refl _) _
  · have hk : w1.heap.size ≠ w.heap.size := by omega
    rw [Below.heap_setCell _ _ _ _ hk, Below.heap_setCell _ _ _ _ hk, Below.heap_setCell _ _ _ _ hk, Below.heap_setCell _ _ _ _ hk, Below.heap_setCell _ _ _ _ hk]

set_option maxRecDepth 20000 in
set_option maxHeartbeats 4000000 in
theorem handLevel_ok (hb b n t : Nat) (root least most l : Int) (v : Value) (F : Nat → Prop) (A : Ar) (w : World) (h : HandAt w hb b t 0 v) (hA : ArAt w b F n A) (_hF : ¬ F hb) (ht : t < 64) (hm : ∀ x ∈ A.ths, x.mask < 18446744073709551616) (hr : Fits root) (hl : levelF A.ths t root = some l) (hlo : least ≤ l) (hhi : l ≤ most) :
    Calls Try.prog 86 #[.pointer (some ⟨hb, 0, none⟩), .int .i64 root, .int .i64 least, .int .i64 most] w fun x w' => x = .returned (.int .i64 l) ∧ HandAt w' hb b t 0 v ∧ w.grownBy w' (some hb) ∧ w'.cell? ⟨hb, 4, none⟩ = w.cell? ⟨hb, 4, none⟩ := by
  obtain ⟨r, D, hA⟩ := hA
  have c0 := h.c0
  have c1 := h.c1
  have hlv := fun W (hW : ArRaw W b F n A r D) => Level_any b 0 t root r A.ths W hW.raw hW.ths ht hm hr
  rw [hl] at hlv
  simp only [lack, Option.getD_some] at hlv
  go_enter Try.func86, Try.ntmps86
  go_wp2_with fail
  go_cut [9, 10] from 9 to 23 (fun s9 s10 wc => s9 = .int .i64 l ∧ s10 = .int .i64 0 ∧ Below w.heap.size w wc)
  case first =>
    go_region_held3 (fun w' => w'.cell? ⟨hb, 0, none⟩ = some (.pointer (some ⟨b, 0, none⟩)) ∧ w'.cell? ⟨hb, 1, none⟩ = some (.int .i64 t)) (first | exact ⟨c0, c1⟩ | go_keep | exact ⟨(h.below hb1).c0, (h.below hb1).c1⟩) ((go_at_call 27; refine (hlv _ (hA.drew)).mono ?_; rintro e w1 ⟨rfl, hb0⟩; have hb1 := below_drew hb0))
    all_goals
      go_wp2_with fail
      go_meet
      case rel => exact ⟨rfl, rfl, hb1⟩
  case rest =>
  obtain ⟨rfl, rfl, hbc⟩ := hcut
  have h1 := h.below hbc
  clear c0 c1 hlv
  go_wp2_with fail
  refine (keep_zero hb b t v _ h1).mono ?_
  rintro x w2 ⟨rfl, h2, g2, h24⟩
  have g12 := grown_tr (grown_bl hbc (some hb)) g2
  have hlo' : ¬ l < least := by omega
  have hhi' : ¬ most < l := by omega
  go_wp2_with fail
  go_ret
  exact ⟨rfl, h2, g12, h24.trans (World.cell?_of_block (hbc.block hb h.lt))⟩

theorem field_zero (w : World) : (Instr.field 138 zeroT 0).run Try.prog w = .ok (.int .i64 0) w := by kernel_rfl
theorem Walk.up {w : World} {wb m b nn t n n' : Nat} {v : Value} {F : Nat → Prop} {A : Ar} {D : DataW Unit} (h : Walk w wb m b nn t n v F A D) (hn : n ≤ n') : Walk w wb m b nn t n' v F A D :=
  ⟨h.hand, h.ar, h.map.mono hn, h.known, h.c4, h.ne, h.nF, h.nFw⟩
/-- an empty square's number -/
theorem emp_id {A : Ar} {t : Nat} {E : List Int} (hE : Emp A.ths t E) (hf : A.ths.length < 1000000) {k : Nat} {id : Int} (h : E[k]? = some id) : Fits id ∧ id ≠ 1 := by
  have hl := hE.lv k id h
  have hr := level_fits hl hf
  refine ⟨⟨by omega, by omega⟩, fun e => ?_⟩
  cases k with
  | zero => rw [hE.zero] at h; cases h; omega
  | succ k =>
    subst e
    rw [show levelF A.ths t 1 = some 0 from rfl] at hl
    simp at hl
    omega
theorem tally_emp (wb m b nn t : Nat) (v : Value) (F : Nat → Prop) (A : Ar) (E : List Int) (hE : Emp A.ths t E) (hf : A.ths.length < 1000000) (ht : t < 64) (hm : ∀ x ∈ A.ths, x.mask < 18446744073709551616) :
    ∀ (k : Nat) (id : Int), E[k]? = some id → ∀ (n : Nat) (level : Int) (D : DataW Unit) (w : World), n + k < 800 → Walk w wb m b nn t n v F A D →
      Calls Try.prog 87 #[.pointer (some ⟨wb, 0, none⟩), .int .i64 id, .int .i64 level] w fun x w' => x = .returned zeroT ∧ TalOut w wb m b nn t (n + k) v F A id w' := by
  have known : ∀ (k : Nat) (id : Int), E[k]? = some id → ∀ (n : Nat) (level : Int) (D : DataW Unit) (w : World), Walk w wb m b nn t n v F A D → Maps.has D (.int .i64 id) = true →
      Calls Try.prog 87 #[.pointer (some ⟨wb, 0, none⟩), .int .i64 id, .int .i64 level] w fun x w' => x = .returned zeroT ∧ TalOut w wb m b nn t (n + k) v F A id w' := by
    intro k id hk n level D w hw hh
    obtain ⟨hi, hi1⟩ := emp_id hE hf hk
    refine (tally_known wb m n id level D w hw.map hw.known hi hi1 hw.c4 hh).mono ?_
    rintro x w' ⟨rfl, hb⟩
    exact ⟨rfl, D, (hw.below hb).up (by omega), hh, hb.size, hb.os, hb.tape, hb.output, fun k hk _ _ => hb.block k hk⟩
  intro k
  induction k with
  | zero =>
    intro id hk n level D w _ hw
    refine known 0 id hk n level D w hw ?_
    rw [hE.zero] at hk
    cases hk
    exact hw.known.zero
  | succ k ih =>
    intro id hk n level D w hn hw
    cases hh : Maps.has D (.int .i64 id) with
    | true => exact known (k + 1) id hk n level D w hw hh
    | false =>
      have hkl : k < E.length := by have := (List.getElem?_eq_some_iff.1 hk).1; omega
      have he : E[k]? = some E[k] := List.getElem?_eq_getElem hkl
      obtain ⟨y, hy, hyk⟩ := hE.parts k E[k] id he hk
      obtain ⟨hi, hi1⟩ := emp_id hE hf hk
      obtain ⟨hei, hei1⟩ := emp_id hE hf he
      have hx : squareF A.ths t id = some y := by
        unfold squareF
        rw [hy, Option.filter_some, if_pos (by simp [show y.k = 1 from congrArg Ky.k hyk])]
      have := tally_new wb m b nn n k t id E[k] level v F A y D w hw hi hi1 hei hei1 (by omega) hh ht hm hx (congrArg Ky.p0 hyk) (congrArg Ky.p1 hyk) (congrArg Ky.p2 hyk) (congrArg Ky.p3 hyk) (fun l D w hw => ih E[k] he n l D w (by omega) hw)
      exact this

set_option maxRecDepth 20000 in
set_option maxHeartbeats 4000000 in
/-- Count of an empty square -/
theorem count_emp (b n t k : Nat) (id : Int) (F : Nat → Prop) (A : Ar) (E : List Int) (w : World) (hA : ArAt w b F n A) (ht : t < 64) (hm : ∀ x ∈ A.ths, x.mask < 18446744073709551616) (hf : A.ths.length < 1000000) (hE : Emp A.ths t E) (hk : E[k]? = some id) (hk44 : k ≤ 44) :
    Calls Try.prog 44 #[.pointer (some ⟨b, 0, none⟩), .int .i64 t, .int .i64 id] w fun x w' => x = .returned (.tuple #[.int .i64 0, .int .i64 0]) ∧ Below w.heap.size w w' := by
  obtain ⟨hr, _⟩ := emp_id hE hf hk
  have hflt := hA.flt
  have hll := hE.lv k id hk
  have hlv := fun W hb v (hh : HandAt W hb b t 0 v) (hW : ArAt W b F n A) (hn : ¬ F hb) => handLevel_ok hb b n t id 0 44 k v F A W hh hW hn ht hm hr hll (by omega) (by omega)
  have hta := fun wb m v n' l D W => tally_emp wb m b n t v F A E hE hf ht hm k id hk n' l D W
  clear hll
  go_enter Try.func44, Try.ntmps44
  go_wp2_with fail
  refine (newWalker_known b t _).mono ?_
  rintro x w1 ⟨g, m, D, rfl, hb1, hown, hkn, hmg⟩
  have hX : (w1.alloc (.cells #[.pointer (some ⟨b, 0, none⟩), .int .i64 t, .int .i64 0, .slice (some ⟨g, 0, none⟩) 1 1, .map (some m)] 134)).heap[w1.heap.size]? = some (.cells #[.pointer (some ⟨b, 0, none⟩), .int .i64 t, .int .i64 0, .slice (some ⟨g, 0, none⟩) 1 1, .map (some m)] 134 (0, 0)) := heap_alloc_new w1 _
  have hs1 := hb1.size
  have hml : m < w1.heap.size := by
    obtain ⟨es, c, he, _⟩ := hown
    exact (Array.getElem?_eq_some_iff.1 he).1
  have b2 : Below w.heap.size w (w1.alloc (.cells #[.pointer (some ⟨b, 0, none⟩), .int .i64 t, .int .i64 0, .slice (some ⟨g, 0, none⟩) 1 1, .map (some m)] 134)) := hb1.alloc hs1 _
  have hh := HandAt.of (l := [.map (some m)]) hX
  have hnw : ¬ F w1.heap.size := fun e => by have := hflt _ e; omega
  have hnm : ¬ F m := fun e => by have := hflt _ e; omega
  have Q0 : Walk (w1.alloc (.cells #[.pointer (some ⟨b, 0, none⟩), .int .i64 t, .int .i64 0, .slice (some ⟨g, 0, none⟩) 1 1, .map (some m)] 134)) w1.heap.size m b n t 2 (.slice (some ⟨g, 0, none⟩) 1 1) F A D :=
    ⟨hh, hA.below b2, own_other hown (push_old hml), hkn, Lib.cell_of_heap hX 4, by omega, hnm, hnw⟩
  go_wp2_with fail
  refine (hlv _ _ _ hh (hA.below b2) hnw).mono ?_
  rintro x w3 ⟨rfl, h3, g3, h34⟩
  have c2 := h3.c2
  have Q3 := Q0.kids h3 g3 (h34.trans Q0.c4)
  have b3 : Below w.heap.size w w3 := b2.trans ⟨g3.os, g3.tape, g3.output, g3.size, fun k hk => g3.block k (by have := b2.size; omega) (by simp; omega)⟩
  clear hlv hX
  go_wp2_with fail
  refine (hta _ _ _ 2 _ D _ (by omega) Q3).mono ?_
  rintro x w4 ⟨rfl, D4, Q4, _, s4, o4, t4, u4, k4⟩
  have hlt3 := Q3.hand.lt
  have hfz := field_zero w4
  have b4 : Below w.heap.size w w4 := ⟨o4.trans b3.os, t4.trans b3.tape, u4.trans b3.output, Nat.le_trans b3.size s4, fun k hk => (k4 k (by have := b3.size; omega) (by omega) (by omega)).trans (b3.block k hk)⟩
  go_wp2_with fail
  refine (answer_ok _ b t _ _ _ Q4.hand).mono ?_
  rintro x w5 ⟨rfl, rfl⟩
  go_wp2_with fail
  go_ret2
  exact ⟨rfl, b4⟩
end Go.Proofs.Ythobobgiendcfaa.A
