/- Join. -/
import Derived.Test.YthobobgiendcfaaArBecome
import Derived.LoopN
namespace Go.Proofs.Ythobobgiendcfaa.A
open Go.RowKit Go.Maps

/-- an arena that nothing was swept from, with room -/
structure Young (A : Ar) : Prop where
  free : A.free = []
  mask : ∀ z ∈ A.ths, z.mask < 18446744073709551616
  few : A.ths.length < 1000000
  room : (A.ths.length : Int) < A.room
  cnt : ∀ t, t < 64 → 0 ≤ A.cnt t ∧ A.cnt t < 4611686018427387904
  fresh : ∀ t, t < 64 → (A.fresh t).length < 10000000

theorem ArAt.below {w w' : World} {b n : Nat} {F : Nat → Prop} {A : Ar} (h : ArAt w b F n A) (hb : Below w.heap.size w w') : ArAt w' b F n A := by
  obtain ⟨r, D, h⟩ := h
  exact ⟨r, D, h.below hb⟩
theorem ArAt.flt {w : World} {b n : Nat} {F : Nat → Prop} {A : Ar} (h : ArAt w b F n A) : ∀ k, F k → k < w.heap.size := by
  obtain ⟨r, D, h⟩ := h
  exact h.flt
theorem ArAt.up {w : World} {b n n' : Nat} {F : Nat → Prop} {A : Ar} (h : ArAt w b F n A) (hn : n ≤ n') : ArAt w b F n' A := by
  obtain ⟨r, D, h⟩ := h
  exact ⟨r, D, h.up hn⟩
theorem ArAt.more {w w' : World} {b n : Nat} {F : Nat → Prop} {A : Ar} (h : ArAt w' b F n A) (hF : ∀ k, F k → k < w.heap.size) (hs : w.heap.size ≤ w'.heap.size) : ArAt w' b (More F w w') n A := by
  obtain ⟨r, D, h⟩ := h
  exact ⟨r, D, h.wider (fun k hk => Or.inl hk) (fun k hk => More.lt hF hs hk)⟩

/-- what a call that makes a thing a tenant's own answers and leaves -/
def BecomeOut (A : Ar) (t : Nat) (x : Th) (b : Nat) (F : Nat → Prop) (n : Nat) (w : World) (e : Ending) (w' : World) : Prop :=
  e = .returned (.tuple #[.int .i64 (A.become t x).2.1, .int .i64 (A.become t x).2.2]) ∧ ArAt w' b (More F w w') (n + 1) (A.become t x).1 ∧ Apart F w w'

theorem spot_lt {l : List Th} {q : Ky} {i : Nat} (h : spotF l q = some i) : i < l.length ∧ (l[i]!).key = q := by
  unfold spotF at h
  rw [List.findIdx?_eq_some_iff_getElem] at h
  obtain ⟨h1, h2, _⟩ := h
  refine ⟨h1, ?_⟩
  rw [getElem!_pos l i h1]
  simpa using h2

theorem become_any (b n t : Nat) (F : Nat → Prop) (A : Ar) (x : Th) (w : World) (h : ArAt w b F n A) (hY : Young A) (hx : x.key.Fit) (hk : x.k ≠ 0) (hmx : x.mask < 18446744073709551616) (ht : t < 64) (hn : n < 1000000000) :
    Calls Try.prog 73 #[.pointer (some ⟨b, 0, none⟩), .int .i64 t, x.val] w (BecomeOut A t x b F n w) := by
  have hflt := h.flt
  have hA := h
  obtain ⟨r, D, h⟩ := h
  cases hs : spotF A.ths x.key with
  | none =>
    refine (become_new b n t F A r D x w h hx hk hmx hs ht hY.few hn (hY.cnt t ht) (hY.fresh t ht) hY.free hY.room).mono ?_
    intro e w' he
    unfold BecomeOut Ar.become
    rw [hs]
    by_cases hq : A.lim t ≤ A.cnt t
    · simp only [if_pos hq] at he ⊢
      exact ⟨he.1, ((hA.below he.2).more hflt he.2.size).up (by omega), Apart.of he.2⟩
    · simp only [if_neg hq] at he ⊢
      exact he
  | some i =>
    obtain ⟨hi, _⟩ := spot_lt hs
    have hy : A.ths[i]? = some A.ths[i]! := by rw [getElem!_pos A.ths i hi]; exact List.getElem?_eq_getElem hi
    cases ho : (A.ths[i]!).mask.testBit t with
    | true =>
      refine (become_there b n t i F A r D x A.ths[i]! w h hx hk hs hy hY.mask ht hY.few ho).mono ?_
      intro e w' he
      unfold BecomeOut Ar.become
      rw [hs]
      simp only [ho, if_true]
      exact ⟨he.1, ((hA.below he.2).more hflt he.2.size).up (by omega), Apart.of he.2⟩
    | false =>
      refine (become_else b n t i F A r D x A.ths[i]! w h hx hk hs hy hY.mask ht hY.few ho (hY.cnt t ht) (hY.fresh t ht)).mono ?_
      intro e w' he
      unfold BecomeOut Ar.become
      rw [hs]
      simp only [ho, Bool.false_eq_true, if_false]
      by_cases hq : A.lim t ≤ A.cnt t
      · simp only [if_pos hq] at he ⊢
        exact ⟨he.1, ((hA.below he.2).more hflt he.2.size).up (by omega), Apart.of he.2⟩
      · simp only [if_neg hq] at he ⊢
        exact ⟨he.1, he.2.1.up (by omega), he.2.2⟩
end Go.Proofs.Ythobobgiendcfaa.A

namespace Go.Proofs.Ythobobgiendcfaa.A
open Go.RowKit Go.Maps

def quad4 (q0 q1 q2 q3 : Int) : Value := .agg #[.int .i64 q0, .int .i64 q1, .int .i64 q2, .int .i64 q3]
theorem Try.at0 (a b c d : Value) (w : World) : (Instr.index 35 (.agg #[a, b, c, d]) (.int .i64 0)).run Try.prog w = .ok a w := by kernel_rfl
theorem Try.at1 (a b c d : Value) (w : World) : (Instr.index 35 (.agg #[a, b, c, d]) (.int .i64 1)).run Try.prog w = .ok b w := by kernel_rfl
theorem Try.at2 (a b c d : Value) (w : World) : (Instr.index 35 (.agg #[a, b, c, d]) (.int .i64 2)).run Try.prog w = .ok c w := by kernel_rfl
theorem Try.at3 (a b c d : Value) (w : World) : (Instr.index 35 (.agg #[a, b, c, d]) (.int .i64 3)).run Try.prog w = .ok d w := by kernel_rfl

/-- Join midway: the quarters' block, the levels' block -/
structure JS (w W : World) (q0 q1 q2 q3 a0 a1 a2 a3 : Int) : Prop where
  bel : Below w.heap.size w W
  hq : W.heap[w.heap.size]? = some (.cells #[.int .i64 q0, .int .i64 q1, .int .i64 q2, .int .i64 q3] 35 (0, 0))
  hj : W.heap[w.heap.size + 1]? = some (.cells #[.int .i64 a0, .int .i64 a1, .int .i64 a2, .int .i64 a3] 35 (0, 0))
theorem JS.born (w : World) (q0 q1 q2 q3 : Int) : JS w ((w.alloc (.cells #[.int .i64 q0, .int .i64 q1, .int .i64 q2, .int .i64 q3] 35)).alloc (.cells #[.int .i64 0, .int .i64 0, .int .i64 0, .int .i64 0] 35)) q0 q1 q2 q3 0 0 0 0 := by
  refine ⟨((Below.refl _ _).alloc (Nat.le_refl _) _).alloc (by simp) _, heap_alloc2_old w _ _, heap_alloc2_new w _ _⟩
section
variable {w W W' : World} {q0 q1 q2 q3 a0 a1 a2 a3 : Int}
theorem JS.go (h : JS w W q0 q1 q2 q3 a0 a1 a2 a3) (hb : Below W.heap.size W W') : JS w W' q0 q1 q2 q3 a0 a1 a2 a3 :=
  ⟨h.bel.trans (hb.mono h.bel.size), (hb.block _ (Array.getElem?_eq_some_iff.1 h.hq).1).trans h.hq, (hb.block _ (Array.getElem?_eq_some_iff.1 h.hj).1).trans h.hj⟩
theorem JS.cells (h : JS w W q0 q1 q2 q3 a0 a1 a2 a3) : (W.cell? ⟨w.heap.size + 1, 0, none⟩ = some (.int .i64 a0) ∧ W.cell? ⟨w.heap.size + 1, 1, none⟩ = some (.int .i64 a1) ∧ W.cell? ⟨w.heap.size + 1, 2, none⟩ = some (.int .i64 a2) ∧ W.cell? ⟨w.heap.size + 1, 3, none⟩ = some (.int .i64 a3)) ∧
    (W.frozen? ⟨w.heap.size + 1, 0, none⟩ = false ∧ W.frozen? ⟨w.heap.size + 1, 1, none⟩ = false ∧ W.frozen? ⟨w.heap.size + 1, 2, none⟩ = false ∧ W.frozen? ⟨w.heap.size + 1, 3, none⟩ = false) ∧
    W.cell? ⟨w.heap.size, 0, none⟩ = some (.int .i64 q0) ∧ W.cell? ⟨w.heap.size, 1, none⟩ = some (.int .i64 q1) ∧ W.cell? ⟨w.heap.size, 2, none⟩ = some (.int .i64 q2) ∧ W.cell? ⟨w.heap.size, 3, none⟩ = some (.int .i64 q3) :=
  ⟨⟨Lib.cell_of_heap h.hj 0, Lib.cell_of_heap h.hj 1, Lib.cell_of_heap h.hj 2, Lib.cell_of_heap h.hj 3⟩, ⟨Lib.frozen_of_heap h.hj 0, Lib.frozen_of_heap h.hj 1, Lib.frozen_of_heap h.hj 2, Lib.frozen_of_heap h.hj 3⟩, Lib.cell_of_heap h.hq 0, Lib.cell_of_heap h.hq 1, Lib.cell_of_heap h.hq 2, Lib.cell_of_heap h.hq 3⟩
theorem JS.set0 (h : JS w W q0 q1 q2 q3 a0 a1 a2 a3) (z : Int) : JS w (W.setCell ⟨w.heap.size + 1, 0, none⟩ (.int .i64 z)) q0 q1 q2 q3 z a1 a2 a3 := ⟨h.bel.setCell (p := ⟨w.heap.size + 1, 0, none⟩) (Nat.le_succ _) _, (heap_set (by omega)).trans h.hq, Go.Joins.block_setCell h.hj _⟩
theorem JS.set1 (h : JS w W q0 q1 q2 q3 a0 a1 a2 a3) (z : Int) : JS w (W.setCell ⟨w.heap.size + 1, 1, none⟩ (.int .i64 z)) q0 q1 q2 q3 a0 z a2 a3 := ⟨h.bel.setCell (p := ⟨w.heap.size + 1, 1, none⟩) (Nat.le_succ _) _, (heap_set (by omega)).trans h.hq, Go.Joins.block_setCell h.hj _⟩
theorem JS.set2 (h : JS w W q0 q1 q2 q3 a0 a1 a2 a3) (z : Int) : JS w (W.setCell ⟨w.heap.size + 1, 2, none⟩ (.int .i64 z)) q0 q1 q2 q3 a0 a1 z a3 := ⟨h.bel.setCell (p := ⟨w.heap.size + 1, 2, none⟩) (Nat.le_succ _) _, (heap_set (by omega)).trans h.hq, Go.Joins.block_setCell h.hj _⟩
theorem JS.set3 (h : JS w W q0 q1 q2 q3 a0 a1 a2 a3) (z : Int) : JS w (W.setCell ⟨w.heap.size + 1, 3, none⟩ (.int .i64 z)) q0 q1 q2 q3 a0 a1 a2 z := ⟨h.bel.setCell (p := ⟨w.heap.size + 1, 3, none⟩) (Nat.le_succ _) _, (heap_set (by omega)).trans h.hq, Go.Joins.block_setCell h.hj _⟩
end

/-- which error four quarters' levels make, and which level -/
def joinL (l0 l1 l2 l3 : Option Int) : Int × Int := match l0, l1, l2, l3 with
  | some a, some b, some c, some d => if a < 44 ∧ b = a ∧ c = a ∧ d = a then (0, a) else (8, 0)
  | _, _, _, _ => (6, 0)
theorem joinL0 (l1 l2 l3 : Option Int) : joinL none l1 l2 l3 = (6, 0) := rfl
theorem joinL1 (l0 l2 l3 : Option Int) : joinL l0 none l2 l3 = (6, 0) := by cases l0 <;> rfl
theorem joinL2 (l0 l1 l3 : Option Int) : joinL l0 l1 none l3 = (6, 0) := by cases l0 <;> cases l1 <;> rfl
theorem joinL3 (l0 l1 l2 : Option Int) : joinL l0 l1 l2 none = (6, 0) := by cases l0 <;> cases l1 <;> cases l2 <;> rfl
theorem joinL4 (a b c d : Int) : joinL (some a) (some b) (some c) (some d) = if a < 44 ∧ b = a ∧ c = a ∧ d = a then (0, a) else (8, 0) := rfl
/-- the square of four quarters -/
def sqTh (q0 q1 q2 q3 a : Int) : Th := ⟨1, q0, q1, q2, q3, a + 1, 0, 0⟩
def joinE (A : Ar) (t : Nat) (q0 q1 q2 q3 : Int) : Int × Int := joinL (levelF A.ths t q0) (levelF A.ths t q1) (levelF A.ths t q2) (levelF A.ths t q3)
/-- what Join answers and leaves -/
def JoinOut (A : Ar) (t : Nat) (q0 q1 q2 q3 : Int) (b : Nat) (F : Nat → Prop) (n : Nat) (w : World) (e : Ending) (w' : World) : Prop :=
  ((joinE A t q0 q1 q2 q3).1 ≠ 0 → e = .returned (.tuple #[.int .i64 0, .int .i64 (joinE A t q0 q1 q2 q3).1]) ∧ Below w.heap.size w w') ∧
  ((joinE A t q0 q1 q2 q3).1 = 0 → BecomeOut A t (sqTh q0 q1 q2 q3 (joinE A t q0 q1 q2 q3).2) b F n w e w')
theorem JoinOut.bad {A : Ar} {t : Nat} {q0 q1 q2 q3 : Int} {b : Nat} {F : Nat → Prop} {n : Nat} {w w' : World} {e : Ending} {c : Int} (hc : c ≠ 0) (h : joinE A t q0 q1 q2 q3 = (c, 0)) (he : e = .returned (.tuple #[.int .i64 0, .int .i64 c])) (hb : Below w.heap.size w w') : JoinOut A t q0 q1 q2 q3 b F n w e w' := by
  unfold JoinOut
  rw [h]
  exact ⟨fun _ => ⟨he, hb⟩, fun k => absurd k hc⟩

set_option maxRecDepth 20000 in
set_option maxHeartbeats 8000000 in
theorem join_any (b n t : Nat) (q0 q1 q2 q3 : Int) (F : Nat → Prop) (A : Ar) (w : World) (h : ArAt w b F n A) (hY : Young A) (ht : t < 64) (hq0 : Fits q0) (hq1 : Fits q1) (hq2 : Fits q2) (hq3 : Fits q3) (hn : n < 1000000000) (hlo : ∀ l, levelF A.ths t q0 = some l → 0 ≤ l) :
    Calls Try.prog 25 #[.pointer (some ⟨b, 0, none⟩), .int .i64 t, quad4 q0 q1 q2 q3] w (JoinOut A t q0 q1 q2 q3 b F n w) := by
  have hi := fun W => tenant_yes t ht W
  obtain ⟨r, D, h⟩ := h
  have hlv := fun W (hW : ArRaw W b F n A r D) id (hid : Fits id) => level_any b 0 t id r A.ths W hW.raw hW.ths ht hY.mask hid
  have HB : Hid (∀ W (l : Int), ArRaw W b F n A r D → _) := fun W l hW => become_any b n t F A (sqTh q0 q1 q2 q3 l) W ⟨r, D, hW⟩ hY ⟨⟨by show (_ : Int) ≤ 1; omega, by show (1 : Int) ≤ _; omega⟩, hq0, hq1, hq2, hq3⟩ (by show (1 : Int) ≠ 0; omega) (by show 0 < _; omega) ht hn
  have S := JS.born w q0 q1 q2 q3
  have hJE : Hid (joinE A t q0 q1 q2 q3 = joinL (levelF A.ths t q0) (levelF A.ths t q1) (levelF A.ths t q2) (levelF A.ths t q3)) := rfl
  generalize hPost : JoinOut A t q0 q1 q2 q3 b F n w = Post
  have HP : Hid (JoinOut A t q0 q1 q2 q3 b F n w = Post) := hPost
  clear hPost
  unfold quad4
  go_enter Try.func25, Try.ntmps25
  go_wp2_with fail
  refine (hi _).mono ?_
  rintro e w0 ⟨rfl, rfl⟩
  obtain ⟨⟨c0, c1, c2, c3⟩, ⟨z0, z1, z2, z3⟩, k0, k1, k2, k3⟩ := S.cells
  go_wp2_with fail
  have i0 := Try.at0 (.int .i64 q0) (.int .i64 q1) (.int .i64 q2) (.int .i64 q3)
  have i1 := Try.at1 (.int .i64 q0) (.int .i64 q1) (.int .i64 q2) (.int .i64 q3)
  have i2 := Try.at2 (.int .i64 q0) (.int .i64 q1) (.int .i64 q2) (.int .i64 q3)
  have i3 := Try.at3 (.int .i64 q0) (.int .i64 q1) (.int .i64 q2) (.int .i64 q3)
  refine wp_loop_rounds 5 ?_
  rw [rounds_succ]
  go_wp2_with fail
  refine (hlv _ (h.below S.bel) q0 hq0).mono ?_
  rintro e w0 ⟨rfl, hb0⟩
  have S := S.go hb0
  clear hb0 c0 c1 c2 c3 z0 z1 z2 z3 k0 k1 k2 k3
  obtain ⟨⟨c0, c1, c2, c3⟩, ⟨z0, z1, z2, z3⟩, k0, k1, k2, k3⟩ := S.cells
  cases hl0 : levelF A.ths t q0 with
  | none =>
    simp only [Option.getD_none, Option.isSome_none]
    go_wp2_with fail
    rw [← HP.out]
    exact JoinOut.bad (by decide) (hJE.out.trans (by rw [hl0]; exact joinL0 _ _ _)) rfl S.bel
  | some l0 =>
  have HL0 : Hid (levelF A.ths t q0 = some l0) := hl0
  clear hl0
  simp only [Option.getD_some, Option.isSome_some]
  go_wp2_with fail
  have S := S.set0 l0
  generalize w0.setCell ⟨w.heap.size + 1, 0, none⟩ (.int .i64 l0) = W0 at *
  clear c0 c1 c2 c3 z0 z1 z2 z3 k0 k1 k2 k3
  obtain ⟨⟨c0, c1, c2, c3⟩, ⟨z0, z1, z2, z3⟩, k0, k1, k2, k3⟩ := S.cells
  rw [rounds_succ]
  go_wp2_with fail
  refine (hlv _ (h.below S.bel) q1 hq1).mono ?_
  rintro e w1 ⟨rfl, hb1⟩
  have S := S.go hb1
  clear hb1 c0 c1 c2 c3 z0 z1 z2 z3 k0 k1 k2 k3
  obtain ⟨⟨c0, c1, c2, c3⟩, ⟨z0, z1, z2, z3⟩, k0, k1, k2, k3⟩ := S.cells
  cases hl1 : levelF A.ths t q1 with
  | none =>
    simp only [Option.getD_none, Option.isSome_none]
    go_wp2_with fail
    rw [← HP.out]
    exact JoinOut.bad (by decide) (hJE.out.trans (by rw [hl1]; exact joinL1 _ _ _)) rfl S.bel
  | some l1 =>
  have HL1 : Hid (levelF A.ths t q1 = some l1) := hl1
  clear hl1
  simp only [Option.getD_some, Option.isSome_some]
  go_wp2_with fail
  have S := S.set1 l1
  generalize w1.setCell ⟨w.heap.size + 1, 1, none⟩ (.int .i64 l1) = W1 at *
  clear c0 c1 c2 c3 z0 z1 z2 z3 k0 k1 k2 k3
  obtain ⟨⟨c0, c1, c2, c3⟩, ⟨z0, z1, z2, z3⟩, k0, k1, k2, k3⟩ := S.cells
  rw [rounds_succ]
  go_wp2_with fail
  refine (hlv _ (h.below S.bel) q2 hq2).mono ?_
  rintro e w2 ⟨rfl, hb2⟩
  have S := S.go hb2
  clear hb2 c0 c1 c2 c3 z0 z1 z2 z3 k0 k1 k2 k3
  obtain ⟨⟨c0, c1, c2, c3⟩, ⟨z0, z1, z2, z3⟩, k0, k1, k2, k3⟩ := S.cells
  cases hl2 : levelF A.ths t q2 with
  | none =>
    simp only [Option.getD_none, Option.isSome_none]
    go_wp2_with fail
    rw [← HP.out]
    exact JoinOut.bad (by decide) (hJE.out.trans (by rw [hl2]; exact joinL2 _ _ _)) rfl S.bel
  | some l2 =>
  have HL2 : Hid (levelF A.ths t q2 = some l2) := hl2
  clear hl2
  simp only [Option.getD_some, Option.isSome_some]
  go_wp2_with fail
  have S := S.set2 l2
  generalize w2.setCell ⟨w.heap.size + 1, 2, none⟩ (.int .i64 l2) = W2 at *
  clear c0 c1 c2 c3 z0 z1 z2 z3 k0 k1 k2 k3
  obtain ⟨⟨c0, c1, c2, c3⟩, ⟨z0, z1, z2, z3⟩, k0, k1, k2, k3⟩ := S.cells
  rw [rounds_succ]
  go_wp2_with fail
  refine (hlv _ (h.below S.bel) q3 hq3).mono ?_
  rintro e w3 ⟨rfl, hb3⟩
  have S := S.go hb3
  clear hb3 c0 c1 c2 c3 z0 z1 z2 z3 k0 k1 k2 k3
  obtain ⟨⟨c0, c1, c2, c3⟩, ⟨z0, z1, z2, z3⟩, k0, k1, k2, k3⟩ := S.cells
  cases hl3 : levelF A.ths t q3 with
  | none =>
    simp only [Option.getD_none, Option.isSome_none]
    go_wp2_with fail
    rw [← HP.out]
    exact JoinOut.bad (by decide) (hJE.out.trans (by rw [hl3]; exact joinL3 _ _ _)) rfl S.bel
  | some l3 =>
  have HL3 : Hid (levelF A.ths t q3 = some l3) := hl3
  clear hl3
  simp only [Option.getD_some, Option.isSome_some]
  go_wp2_with fail
  have S := S.set3 l3
  generalize w3.setCell ⟨w.heap.size + 1, 3, none⟩ (.int .i64 l3) = W3 at *
  clear c0 c1 c2 c3 z0 z1 z2 z3 k0 k1 k2 k3
  obtain ⟨⟨c0, c1, c2, c3⟩, ⟨z0, z1, z2, z3⟩, k0, k1, k2, k3⟩ := S.cells
  rw [rounds_succ]
  go_wp2_with fail
  have j0 := Try.at0 (.int .i64 l0) (.int .i64 l1) (.int .i64 l2) (.int .i64 l3)
  have j1 := Try.at1 (.int .i64 l0) (.int .i64 l1) (.int .i64 l2) (.int .i64 l3)
  have j2 := Try.at2 (.int .i64 l0) (.int .i64 l1) (.int .i64 l2) (.int .i64 l3)
  have j3 := Try.at3 (.int .i64 l0) (.int .i64 l1) (.int .i64 l2) (.int .i64 l3)
  have HJ : Hid (joinE A t q0 q1 q2 q3 = if l0 < 44 ∧ l1 = l0 ∧ l2 = l0 ∧ l3 = l0 then (0, l0) else (8, 0)) := hJE.out.trans (by rw [HL0.out, HL1.out, HL2.out, HL3.out]; exact joinL4 _ _ _ _)
  clear hJE
  refine wp_loop_rounds 5 ?_
  rw [rounds_succ]
  by_cases hlt : l0 < 44
  · have hlt' : ¬ (44 : Int) ≤ l0 := by omega
    by_cases e1 : l1 = l0
    · subst e1
      by_cases e2 : l2 = l1
      · subst e2
        by_cases e3 : l3 = l2
        · subst e3
          have HJ2 : Hid (joinE A t q0 q1 q2 q3 = (0, l3)) := HJ.out.trans (if_pos ⟨hlt, rfl, rfl, rfl⟩)
          have hlow := hlo l3 HL0.out
          go_wp2_with fail
          rw [rounds_succ]
          go_wp2_with fail
          rw [rounds_succ]
          go_wp2_with fail
          rw [rounds_succ]
          go_wp2_with fail
          rw [rounds_succ]
          go_wp2_with fail
          refine (HB.out _ l3 (h.below S.bel)).mono ?_
          rintro e w5 ⟨rfl, h5, P5⟩
          go_wp2_with fail
          rw [← HP.out]
          unfold JoinOut
          rw [HJ2.out]
          refine ⟨fun k => absurd rfl k, fun _ => ⟨rfl, ?_, (Apart.of S.bel).trans P5 fun k hk => Or.inl hk⟩⟩
          obtain ⟨r5, D5, h5⟩ := h5
          exact ⟨r5, D5, h5.wider (fun k hk => More.step S.bel.size hk) (fun k hk => More.lt (fun k hk => h.flt k hk) (Nat.le_trans S.bel.size P5.size) hk)⟩
        · have e3' : (l3 != l2) = true := by simpa using e3
          go_wp2_with fail
          rw [rounds_succ]
          go_wp2_with fail
          rw [rounds_succ]
          go_wp2_with fail
          rw [rounds_succ]
          go_wp2_with fail
          rw [← HP.out]
          exact JoinOut.bad (by decide) (HJ.out.trans (if_neg (by omega))) rfl S.bel
      · have e2' : (l2 != l1) = true := by simpa using e2
        go_wp2_with fail
        rw [rounds_succ]
        go_wp2_with fail
        rw [rounds_succ]
        go_wp2_with fail
        rw [← HP.out]
        exact JoinOut.bad (by decide) (HJ.out.trans (if_neg (by omega))) rfl S.bel
    · have e1' : (l1 != l0) = true := by simpa using e1
      go_wp2_with fail
      rw [rounds_succ]
      go_wp2_with fail
      rw [← HP.out]
      exact JoinOut.bad (by decide) (HJ.out.trans (if_neg (by omega))) rfl S.bel
  · have hlt' : (44 : Int) ≤ l0 := by omega
    go_wp2_with fail
    rw [← HP.out]
    exact JoinOut.bad (by decide) (HJ.out.trans (if_neg (by omega))) rfl S.bel
end Go.Proofs.Ythobobgiendcfaa.A
