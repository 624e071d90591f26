/- Join, whatever numbers are free. -/
import Derived.Test.YtofbcngcblleaabGreatArBecoW
import Derived.LoopN
namespace Go.Proofs.YtofbcngcblleaabGreat.A
open Go.RowKit Go.Maps
def quad4 (q0 q1 q2 q3 : Int) : Value := .agg #[.int .i64 q0, .int .i64 q1, .int .i64 q2, .int .i64 q3]
theorem Tryz.at0 (a b c d : Value) (w : World) : (Instr.index 41 (.agg #[a, b, c, d]) (.int .i64 0)).run Tryz.prog w = .ok a w := by kernel_rfl
theorem Tryz.at1 (a b c d : Value) (w : World) : (Instr.index 41 (.agg #[a, b, c, d]) (.int .i64 1)).run Tryz.prog w = .ok b w := by kernel_rfl
theorem Tryz.at2 (a b c d : Value) (w : World) : (Instr.index 41 (.agg #[a, b, c, d]) (.int .i64 2)).run Tryz.prog w = .ok c w := by kernel_rfl
theorem Tryz.at3 (a b c d : Value) (w : World) : (Instr.index 41 (.agg #[a, b, c, d]) (.int .i64 3)).run Tryz.prog w = .ok d w := by kernel_rfl
structure JS (w W : World) (q0 q1 q2 q3 a0 a1 a2 a3 : Int) : Prop where
  bel : Below w.heap.size w W
  hq : W.heap[w.heap.size]? = some (.cells #[.int .i64 q0, .int .i64 q1, .int .i64 q2, .int .i64 q3] 41 (0, 0))
  hj : W.heap[w.heap.size + 1]? = some (.cells #[.int .i64 a0, .int .i64 a1, .int .i64 a2, .int .i64 a3] 41 (0, 0))
theorem JS.born (w : World) (q0 q1 q2 q3 : Int) : JS w ((w.alloc (.cells #[.int .i64 q0, .int .i64 q1, .int .i64 q2, .int .i64 q3] 41)).alloc (.cells #[.int .i64 0, .int .i64 0, .int .i64 0, .int .i64 0] 41)) q0 q1 q2 q3 0 0 0 0 := by
  refine ⟨((Below.refl _ _).alloc (Nat.le_refl _) _).alloc (by simp) _, heap_alloc2_old w _ _, heap_alloc2_new w _ _⟩
section
variable {w W W' : World} {q0 q1 q2 q3 a0 a1 a2 a3 : Int}
theorem JS.go (h : JS w W q0 q1 q2 q3 a0 a1 a2 a3) (hb : Below W.heap.size W W') : JS w W' q0 q1 q2 q3 a0 a1 a2 a3 :=
  ⟨h.bel.trans (hb.mono h.bel.size), (hb.block _ (Array.getElem?_eq_some_iff.1 h.hq).1).trans h.hq, (hb.block _ (Array.getElem?_eq_some_iff.1 h.hj).1).trans h.hj⟩
theorem JS.cells (h : JS w W q0 q1 q2 q3 a0 a1 a2 a3) : (W.cell? ⟨w.heap.size + 1, 0, none⟩ = some (.int .i64 a0) ∧ W.cell? ⟨w.heap.size + 1, 1, none⟩ = some (.int .i64 a1) ∧ W.cell? ⟨w.heap.size + 1, 2, none⟩ = some (.int .i64 a2) ∧ W.cell? ⟨w.heap.size + 1, 3, none⟩ = some (.int .i64 a3)) ∧
    (W.frozen? ⟨w.heap.size + 1, 0, none⟩ = false ∧ W.frozen? ⟨w.heap.size + 1, 1, none⟩ = false ∧ W.frozen? ⟨w.heap.size + 1, 2, none⟩ = false ∧ W.frozen? ⟨w.heap.size + 1, 3, none⟩ = false) ∧
    W.cell? ⟨w.heap.size, 0, none⟩ = some (.int .i64 q0) ∧ W.cell? ⟨w.heap.size, 1, none⟩ = some (.int .i64 q1) ∧ W.cell? ⟨w.heap.size, 2, none⟩ = some (.int .i64 q2) ∧ W.cell? ⟨w.heap.size, 3, none⟩ = some (.int .i64 q3) :=
  ⟨⟨Lib.cell_of_heap h.hj 0, Lib.cell_of_heap h.hj 1, Lib.cell_of_heap h.hj 2, Lib.cell_of_heap h.hj 3⟩, ⟨Lib.frozen_of_heap h.hj 0, Lib.frozen_of_heap h.hj 1, Lib.frozen_of_heap h.hj 2, Lib.frozen_of_heap h.hj 3⟩, Lib.cell_of_heap h.hq 0, Lib.cell_of_heap h.hq 1, Lib.cell_of_heap h.hq 2, Lib.cell_of_heap h.hq 3⟩
theorem JS.set0 (h : JS w W q0 q1 q2 q3 a0 a1 a2 a3) (z : Int) : JS w (W.setCell ⟨w.heap.size + 1, 0, none⟩ (.int .i64 z)) q0 q1 q2 q3 z a1 a2 a3 := ⟨h.bel.setCell (p := ⟨w.heap.size + 1, 0, none⟩) (Nat.le_succ _) _, (heap_set (by omega)).trans h.hq, Go.Joins.block_setCell h.hj _⟩
theorem JS.set1 (h : JS w W q0 q1 q2 q3 a0 a1 a2 a3) (z : Int) : JS w (W.setCell ⟨w.heap.size + 1, 1, none⟩ (.int .i64 z)) q0 q1 q2 q3 a0 z a2 a3 := ⟨h.bel.setCell (p := ⟨w.heap.size + 1, 1, none⟩) (Nat.le_succ _) _, (heap_set (by omega)).trans h.hq, Go.Joins.block_setCell h.hj _⟩
theorem JS.set2 (h : JS w W q0 q1 q2 q3 a0 a1 a2 a3) (z : Int) : JS w (W.setCell ⟨w.heap.size + 1, 2, none⟩ (.int .i64 z)) q0 q1 q2 q3 a0 a1 z a3 := ⟨h.bel.setCell (p := ⟨w.heap.size + 1, 2, none⟩) (Nat.le_succ _) _, (heap_set (by omega)).trans h.hq, Go.Joins.block_setCell h.hj _⟩
theorem JS.set3 (h : JS w W q0 q1 q2 q3 a0 a1 a2 a3) (z : Int) : JS w (W.setCell ⟨w.heap.size + 1, 3, none⟩ (.int .i64 z)) q0 q1 q2 q3 a0 a1 a2 z := ⟨h.bel.setCell (p := ⟨w.heap.size + 1, 3, none⟩) (Nat.le_succ _) _, (heap_set (by omega)).trans h.hq, Go.Joins.block_setCell h.hj _⟩
end
def joinL (l0 l1 l2 l3 : Option Int) : Int × Int := match l0, l1, l2, l3 with
  | some a, some b, some c, some d => if a < 44 ∧ b = a ∧ c = a ∧ d = a then (0, a) else (8, 0)
  | _, _, _, _ => (6, 0)
theorem joinL0 (l1 l2 l3 : Option Int) : joinL none l1 l2 l3 = (6, 0) := rfl
theorem joinL1 (l0 l2 l3 : Option Int) : joinL l0 none l2 l3 = (6, 0) := by cases l0 <;> rfl
theorem joinL2 (l0 l1 l3 : Option Int) : joinL l0 l1 none l3 = (6, 0) := by cases l0 <;> cases l1 <;> rfl
theorem joinL3 (l0 l1 l2 : Option Int) : joinL l0 l1 l2 none = (6, 0) := by cases l0 <;> cases l1 <;> cases l2 <;> rfl
theorem joinL4 (a b c d : Int) : joinL (some a) (some b) (some c) (some d) = if a < 44 ∧ b = a ∧ c = a ∧ d = a then (0, a) else (8, 0) := rfl
def sqTh (q0 q1 q2 q3 a : Int) : Th := ⟨1, q0, q1, q2, q3, a + 1, 0, 0⟩
def joinE (A : Ar) (t : Nat) (q0 q1 q2 q3 : Int) : Int × Int := joinL (levelF A.ths t q0) (levelF A.ths t q1) (levelF A.ths t q2) (levelF A.ths t q3)
def Ar.joinP (A : Ar) (t : Nat) (q0 q1 q2 q3 : Int) : Ar × Int × Int := if (joinE A t q0 q1 q2 q3).1 = 0 then A.beco t (sqTh q0 q1 q2 q3 (joinE A t q0 q1 q2 q3).2) else (A, 0, (joinE A t q0 q1 q2 q3).1)
def JoinPOut (A : Ar) (t : Nat) (q0 q1 q2 q3 : Int) (b : Nat) (F : Nat → Prop) (w : World) (e : Ending) (w' : World) : Prop :=
  e = .returned (.tuple #[.int .i64 (A.joinP t q0 q1 q2 q3).2.1, .int .i64 (A.joinP t q0 q1 q2 q3).2.2]) ∧ Led w b F (A.joinP t q0 q1 q2 q3).1 w'
theorem JoinPOut.bad {A : Ar} {t : Nat} {q0 q1 q2 q3 : Int} {b : Nat} {F : Nat → Prop} {w w' : World} {e : Ending} {c : Int} (hA : AtP w b F A) (hc : c ≠ 0) (h : joinE A t q0 q1 q2 q3 = (c, 0)) (he : e = .returned (.tuple #[.int .i64 0, .int .i64 c])) (hb : Below w.heap.size w w') : JoinPOut A t q0 q1 q2 q3 b F w e w' := by
  unfold JoinPOut Ar.joinP
  rw [h, if_neg hc]
  exact ⟨he, hA.ledB hb⟩
theorem level_lo {A : Ar} (hS : Sound A) {t : Nat} {id l : Int} (h : levelF A.ths t id = some l) : 0 ≤ l ∧ l ≤ 44 := by
  unfold levelF at h
  split at h
  · obtain rfl := Option.some.inj h; decide
  · unfold ownF at h
    split at h
    · rename_i x hx
      split at hx
      · rw [Option.filter_eq_some_iff] at hx
        split at h
        · obtain rfl := Option.some.inj h
          exact hS.lv x (List.mem_of_getElem? hx.1)
        · cases h
      · cases hx
    · cases h
theorem levelP_any (b t : Nat) (F : Nat → Prop) (id : Int) (A : Ar) (w : World) (h : AtP w b F A) (hS : Sound A) (ht : t < 64) (hid : Fits id) :
    Calls Tryz.prog 27 #[.pointer (some ⟨b, 0, none⟩), .int .i64 t, .int .i64 id] w fun e w' => e = .returned (.tuple #[.int .i64 ((levelF A.ths t id).getD 0), .bool (levelF A.ths t id).isSome]) ∧ Below w.heap.size w w' := by
  obtain ⟨L, r, D, h, _⟩ := h
  exact level_any b 0 t id r A.ths w h.raw h.ths ht hS.mask hid
set_option maxRecDepth 20000 in
set_option maxHeartbeats 8000000 in
theorem joinP_any (b t : Nat) (q0 q1 q2 q3 : Int) (F : Nat → Prop) (A : Ar) (w : World) (h : AtP w b F A) (hS : Sound A) (ht : t < 64) (hq0 : Fits q0) (hq1 : Fits q1) (hq2 : Fits q2) (hq3 : Fits q3) :
    Calls Tryz.prog 10 #[.pointer (some ⟨b, 0, none⟩), .int .i64 t, quad4 q0 q1 q2 q3] w (JoinPOut A t q0 q1 q2 q3 b F w) := by
  have hi := fun W => tenant_yes t ht W
  have hlo : ∀ l, levelF A.ths t q0 = some l → 0 ≤ l ∧ l ≤ 44 := fun l hl => level_lo hS hl
  have hlv := fun W (hW : AtP W b F A) id (hid : Fits id) => levelP_any b t F id A W hW hS ht hid
  have HB : Hid (∀ W (l : Int), 0 ≤ l → l < 44 → AtP W b F A → _) := fun W l hl0 hl1 hW => beco_any b t F A (sqTh q0 q1 q2 q3 l) W hW hS ht ⟨⟨by show (_ : Int) ≤ 1; omega, by show (1 : Int) ≤ _; omega⟩, hq0, hq1, hq2, hq3⟩ (by show (1 : Int) ≠ 0; omega) (by show 0 ≤ l + 1 ∧ l + 1 ≤ 44; omega) fits_zero rfl
  have HA : Hid (AtP w b F A) := h
  have S := JS.born w q0 q1 q2 q3
  have hJE : Hid (joinE A t q0 q1 q2 q3 = joinL (levelF A.ths t q0) (levelF A.ths t q1) (levelF A.ths t q2) (levelF A.ths t q3)) := rfl
  generalize hPost : JoinPOut A t q0 q1 q2 q3 b F w = Post
  have HP : Hid (JoinPOut A t q0 q1 q2 q3 b F w = Post) := hPost
  clear hPost
  unfold quad4
  go_enter Tryz.func10, Tryz.ntmps10
  go_wp2_with fail
  refine (hi _).mono ?_
  rintro e w0 ⟨rfl, rfl⟩
  obtain ⟨⟨c0, c1, c2, c3⟩, ⟨z0, z1, z2, z3⟩, k0, k1, k2, k3⟩ := S.cells
  go_wp2_with fail
  have i0 := Tryz.at0 (.int .i64 q0) (.int .i64 q1) (.int .i64 q2) (.int .i64 q3)
  have i1 := Tryz.at1 (.int .i64 q0) (.int .i64 q1) (.int .i64 q2) (.int .i64 q3)
  have i2 := Tryz.at2 (.int .i64 q0) (.int .i64 q1) (.int .i64 q2) (.int .i64 q3)
  have i3 := Tryz.at3 (.int .i64 q0) (.int .i64 q1) (.int .i64 q2) (.int .i64 q3)
  refine wp_loop_rounds 5 ?_
  rw [rounds_succ]
  go_wp2_with fail
  refine (hlv _ (h.below S.bel) q0 hq0).mono ?_
  rintro e w0 ⟨rfl, hb0⟩
  have S := S.go hb0
  clear hb0 c0 c1 c2 c3 z0 z1 z2 z3 k0 k1 k2 k3
  obtain ⟨⟨c0, c1, c2, c3⟩, ⟨z0, z1, z2, z3⟩, k0, k1, k2, k3⟩ := S.cells
  cases hl0 : levelF A.ths t q0 with
  | none =>
    simp only [Option.getD_none, Option.isSome_none]
    go_wp2_with fail
    rw [← HP.out]
    exact JoinPOut.bad HA.out (by decide) (hJE.out.trans (by rw [hl0]; exact joinL0 _ _ _)) rfl S.bel
  | some l0 =>
  have HL0 : Hid (levelF A.ths t q0 = some l0) := hl0
  clear hl0
  simp only [Option.getD_some, Option.isSome_some]
  go_wp2_with fail
  have S := S.set0 l0
  generalize w0.setCell ⟨w.heap.size + 1, 0, none⟩ (.int .i64 l0) = W0 at *
  clear c0 c1 c2 c3 z0 z1 z2 z3 k0 k1 k2 k3
  obtain ⟨⟨c0, c1, c2, c3⟩, ⟨z0, z1, z2, z3⟩, k0, k1, k2, k3⟩ := S.cells
  rw [rounds_succ]
  go_wp2_with fail
  refine (hlv _ (h.below S.bel) q1 hq1).mono ?_
  rintro e w1 ⟨rfl, hb1⟩
  have S := S.go hb1
  clear hb1 c0 c1 c2 c3 z0 z1 z2 z3 k0 k1 k2 k3
  obtain ⟨⟨c0, c1, c2, c3⟩, ⟨z0, z1, z2, z3⟩, k0, k1, k2, k3⟩ := S.cells
  cases hl1 : levelF A.ths t q1 with
  | none =>
    simp only [Option.getD_none, Option.isSome_none]
    go_wp2_with fail
    rw [← HP.out]
    exact JoinPOut.bad HA.out (by decide) (hJE.out.trans (by rw [hl1]; exact joinL1 _ _ _)) rfl S.bel
  | some l1 =>
  have HL1 : Hid (levelF A.ths t q1 = some l1) := hl1
  clear hl1
  simp only [Option.getD_some, Option.isSome_some]
  go_wp2_with fail
  have S := S.set1 l1
  generalize w1.setCell ⟨w.heap.size + 1, 1, none⟩ (.int .i64 l1) = W1 at *
  clear c0 c1 c2 c3 z0 z1 z2 z3 k0 k1 k2 k3
  obtain ⟨⟨c0, c1, c2, c3⟩, ⟨z0, z1, z2, z3⟩, k0, k1, k2, k3⟩ := S.cells
  rw [rounds_succ]
  go_wp2_with fail
  refine (hlv _ (h.below S.bel) q2 hq2).mono ?_
  rintro e w2 ⟨rfl, hb2⟩
  have S := S.go hb2
  clear hb2 c0 c1 c2 c3 z0 z1 z2 z3 k0 k1 k2 k3
  obtain ⟨⟨c0, c1, c2, c3⟩, ⟨z0, z1, z2, z3⟩, k0, k1, k2, k3⟩ := S.cells
  cases hl2 : levelF A.ths t q2 with
  | none =>
    simp only [Option.getD_none, Option.isSome_none]
    go_wp2_with fail
    rw [← HP.out]
    exact JoinPOut.bad HA.out (by decide) (hJE.out.trans (by rw [hl2]; exact joinL2 _ _ _)) rfl S.bel
  | some l2 =>
  have HL2 : Hid (levelF A.ths t q2 = some l2) := hl2
  clear hl2
  simp only [Option.getD_some, Option.isSome_some]
  go_wp2_with fail
  have S := S.set2 l2
  generalize w2.setCell ⟨w.heap.size + 1, 2, none⟩ (.int .i64 l2) = W2 at *
  clear c0 c1 c2 c3 z0 z1 z2 z3 k0 k1 k2 k3
  obtain ⟨⟨c0, c1, c2, c3⟩, ⟨z0, z1, z2, z3⟩, k0, k1, k2, k3⟩ := S.cells
  rw [rounds_succ]
  go_wp2_with fail
  refine (hlv _ (h.below S.bel) q3 hq3).mono ?_
  rintro e w3 ⟨rfl, hb3⟩
  have S := S.go hb3
  clear hb3 c0 c1 c2 c3 z0 z1 z2 z3 k0 k1 k2 k3
  obtain ⟨⟨c0, c1, c2, c3⟩, ⟨z0, z1, z2, z3⟩, k0, k1, k2, k3⟩ := S.cells
  cases hl3 : levelF A.ths t q3 with
  | none =>
    simp only [Option.getD_none, Option.isSome_none]
    go_wp2_with fail
    rw [← HP.out]
    exact JoinPOut.bad HA.out (by decide) (hJE.out.trans (by rw [hl3]; exact joinL3 _ _ _)) rfl S.bel
  | some l3 =>
  have HL3 : Hid (levelF A.ths t q3 = some l3) := hl3
  clear hl3
  simp only [Option.getD_some, Option.isSome_some]
  go_wp2_with fail
  have S := S.set3 l3
  generalize w3.setCell ⟨w.heap.size + 1, 3, none⟩ (.int .i64 l3) = W3 at *
  clear c0 c1 c2 c3 z0 z1 z2 z3 k0 k1 k2 k3
  obtain ⟨⟨c0, c1, c2, c3⟩, ⟨z0, z1, z2, z3⟩, k0, k1, k2, k3⟩ := S.cells
  rw [rounds_succ]
  go_wp2_with fail
  have j0 := Tryz.at0 (.int .i64 l0) (.int .i64 l1) (.int .i64 l2) (.int .i64 l3)
  have j1 := Tryz.at1 (.int .i64 l0) (.int .i64 l1) (.int .i64 l2) (.int .i64 l3)
  have j2 := Tryz.at2 (.int .i64 l0) (.int .i64 l1) (.int .i64 l2) (.int .i64 l3)
  have j3 := Tryz.at3 (.int .i64 l0) (.int .i64 l1) (.int .i64 l2) (.int .i64 l3)
  have HJ : Hid (joinE A t q0 q1 q2 q3 = if l0 < 44 ∧ l1 = l0 ∧ l2 = l0 ∧ l3 = l0 then (0, l0) else (8, 0)) := hJE.out.trans (by rw [HL0.out, HL1.out, HL2.out, HL3.out]; exact joinL4 _ _ _ _)
  clear hJE
  refine wp_loop_rounds 5 ?_
  rw [rounds_succ]
  by_cases hlt : l0 < 44
  · have hlt' : ¬ (44 : Int) ≤ l0 := by omega
    by_cases e1 : l1 = l0
    · subst e1
      by_cases e2 : l2 = l1
      · subst e2
        by_cases e3 : l3 = l2
        · subst e3
          have HJ2 : Hid (joinE A t q0 q1 q2 q3 = (0, l3)) := HJ.out.trans (if_pos ⟨hlt, rfl, rfl, rfl⟩)
          have hlow := hlo l3 HL0.out
          go_wp2_with fail
          rw [rounds_succ]
          go_wp2_with fail
          rw [rounds_succ]
          go_wp2_with fail
          rw [rounds_succ]
          go_wp2_with fail
          rw [rounds_succ]
          go_wp2_with fail
          refine (HB.out _ l3 hlow.1 hlt (h.below S.bel)).mono ?_
          rintro e w5 ⟨rfl, h5⟩
          go_wp2_with fail
          rw [← HP.out]
          unfold JoinPOut Ar.joinP
          rw [HJ2.out, if_pos rfl]
          exact ⟨rfl, led_join (fun k hk => .inl hk) (HA.out.below S.bel) (Apart.of S.bel) h5⟩
        · have e3' : (l3 != l2) = true := by simpa using e3
          go_wp2_with fail
          rw [rounds_succ]
          go_wp2_with fail
          rw [rounds_succ]
          go_wp2_with fail
          rw [rounds_succ]
          go_wp2_with fail
          rw [← HP.out]
          exact JoinPOut.bad HA.out (by decide) (HJ.out.trans (if_neg (by omega))) rfl S.bel
      · have e2' : (l2 != l1) = true := by simpa using e2
        go_wp2_with fail
        rw [rounds_succ]
        go_wp2_with fail
        rw [rounds_succ]
        go_wp2_with fail
        rw [← HP.out]
        exact JoinPOut.bad HA.out (by decide) (HJ.out.trans (if_neg (by omega))) rfl S.bel
    · have e1' : (l1 != l0) = true := by simpa using e1
      go_wp2_with fail
      rw [rounds_succ]
      go_wp2_with fail
      rw [← HP.out]
      exact JoinPOut.bad HA.out (by decide) (HJ.out.trans (if_neg (by omega))) rfl S.bel
  · have hlt' : (44 : Int) ≤ l0 := by omega
    go_wp2_with fail
    rw [← HP.out]
    exact JoinPOut.bad HA.out (by decide) (HJ.out.trans (if_neg (by omega))) rfl S.bel
end Go.Proofs.YtofbcngcblleaabGreat.A
