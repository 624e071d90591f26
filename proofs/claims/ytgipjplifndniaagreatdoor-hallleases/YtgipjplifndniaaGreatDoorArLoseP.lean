/- What a tenant loses, in plain words. -/
import Derived.Test.YtgipjplifndniaaGreatDoorArBecoW
import Derived.LoopN
namespace Go.Proofs.YtgipjplifndniaaGreatDoor.A
open Go.RowKit Go.Maps

def quad4 (q0 q1 q2 q3 : Int) : Value := .agg #[.int .i64 q0, .int .i64 q1, .int .i64 q2, .int .i64 q3]
theorem Tryz.at0 (a b c d : Value) (w : World) : (Instr.index 69 (.agg #[a, b, c, d]) (.int .i64 0)).run Tryz.prog w = .ok a w := by kernel_rfl
theorem Tryz.at1 (a b c d : Value) (w : World) : (Instr.index 69 (.agg #[a, b, c, d]) (.int .i64 1)).run Tryz.prog w = .ok b w := by kernel_rfl
theorem Tryz.at2 (a b c d : Value) (w : World) : (Instr.index 69 (.agg #[a, b, c, d]) (.int .i64 2)).run Tryz.prog w = .ok c w := by kernel_rfl
theorem Tryz.at3 (a b c d : Value) (w : World) : (Instr.index 69 (.agg #[a, b, c, d]) (.int .i64 3)).run Tryz.prog w = .ok d w := by kernel_rfl

structure JS (w W : World) (q0 q1 q2 q3 a0 a1 a2 a3 : Int) : Prop where
  bel : Below w.heap.size w W
  hq : W.heap[w.heap.size]? = some (.cells #[.int .i64 q0, .int .i64 q1, .int .i64 q2, .int .i64 q3] 69 (0, 0))
  hj : W.heap[w.heap.size + 1]? = some (.cells #[.int .i64 a0, .int .i64 a1, .int .i64 a2, .int .i64 a3] 69 (0, 0))
theorem JS.born (w : World) (q0 q1 q2 q3 : Int) : JS w ((w.alloc (.cells #[.int .i64 q0, .int .i64 q1, .int .i64 q2, .int .i64 q3] 69)).alloc (.cells #[.int .i64 0, .int .i64 0, .int .i64 0, .int .i64 0] 69)) q0 q1 q2 q3 0 0 0 0 := by
  refine ⟨((Below.refl _ _).alloc (Nat.le_refl _) _).alloc (by simp) _, heap_alloc2_old w _ _, heap_alloc2_new w _ _⟩
section
variable {w W W' : World} {q0 q1 q2 q3 a0 a1 a2 a3 : Int}
theorem JS.go (h : JS w W q0 q1 q2 q3 a0 a1 a2 a3) (hb : Below W.heap.size W W') : JS w W' q0 q1 q2 q3 a0 a1 a2 a3 :=
  ⟨h.bel.trans (hb.mono h.bel.size), (hb.block _ (Array.getElem?_eq_some_iff.1 h.hq).1).trans h.hq, (hb.block _ (Array.getElem?_eq_some_iff.1 h.hj).1).trans h.hj⟩
theorem JS.cells (h : JS w W q0 q1 q2 q3 a0 a1 a2 a3) : (W.cell? ⟨w.heap.size + 1, 0, none⟩ = some (.int .i64 a0) ∧ W.cell? ⟨w.heap.size + 1, 1, none⟩ = some (.int .i64 a1) ∧ W.cell? ⟨w.heap.size + 1, 2, none⟩ = some (.int .i64 a2) ∧ W.cell? ⟨w.heap.size + 1, 3, none⟩ = some (.int .i64 a3)) ∧
    (W.frozen? ⟨w.heap.size + 1, 0, none⟩ = false ∧ W.frozen? ⟨w.heap.size + 1, 1, none⟩ = false ∧ W.frozen? ⟨w.heap.size + 1, 2, none⟩ = false ∧ W.frozen? ⟨w.heap.size + 1, 3, none⟩ = false) ∧
    W.cell? ⟨w.heap.size, 0, none⟩ = some (.int .i64 q0) ∧ W.cell? ⟨w.heap.size, 1, none⟩ = some (.int .i64 q1) ∧ W.cell? ⟨w.heap.size, 2, none⟩ = some (.int .i64 q2) ∧ W.cell? ⟨w.heap.size, 3, none⟩ = some (.int .i64 q3) :=
  ⟨⟨Lib.cell_of_heap h.hj 0, Lib.cell_of_heap h.hj 1, Lib.cell_of_heap h.hj 2, Lib.cell_of_heap h.hj 3⟩, ⟨Lib.frozen_of_heap h.hj 0, Lib.frozen_of_heap h.hj 1, Lib.frozen_of_heap h.hj 2, Lib.frozen_of_heap h.hj 3⟩, Lib.cell_of_heap h.hq 0, Lib.cell_of_heap h.hq 1, Lib.cell_of_heap h.hq 2, Lib.cell_of_heap h.hq 3⟩
theorem JS.set0 (h : JS w W q0 q1 q2 q3 a0 a1 a2 a3) (z : Int) : JS w (W.setCell ⟨w.heap.size + 1, 0, none⟩ (.int .i64 z)) q0 q1 q2 q3 z a1 a2 a3 := ⟨h.bel.setCell (p := ⟨w.heap.size + 1, 0, none⟩) (Nat.le_succ _) _, (heap_set (by omega)).trans h.hq, Go.Joins.block_setCell h.hj _⟩
theorem JS.set1 (h : JS w W q0 q1 q2 q3 a0 a1 a2 a3) (z : Int) : JS w (W.setCell ⟨w.heap.size + 1, 1, none⟩ (.int .i64 z)) q0 q1 q2 q3 a0 z a2 a3 := ⟨h.bel.setCell (p := ⟨w.heap.size + 1, 1, none⟩) (Nat.le_succ _) _, (heap_set (by omega)).trans h.hq, Go.Joins.block_setCell h.hj _⟩
theorem JS.set2 (h : JS w W q0 q1 q2 q3 a0 a1 a2 a3) (z : Int) : JS w (W.setCell ⟨w.heap.size + 1, 2, none⟩ (.int .i64 z)) q0 q1 q2 q3 a0 a1 z a3 := ⟨h.bel.setCell (p := ⟨w.heap.size + 1, 2, none⟩) (Nat.le_succ _) _, (heap_set (by omega)).trans h.hq, Go.Joins.block_setCell h.hj _⟩
theorem JS.set3 (h : JS w W q0 q1 q2 q3 a0 a1 a2 a3) (z : Int) : JS w (W.setCell ⟨w.heap.size + 1, 3, none⟩ (.int .i64 z)) q0 q1 q2 q3 a0 a1 a2 z := ⟨h.bel.setCell (p := ⟨w.heap.size + 1, 3, none⟩) (Nat.le_succ _) _, (heap_set (by omega)).trans h.hq, Go.Joins.block_setCell h.hj _⟩
end

def joinL (l0 l1 l2 l3 : Option Int) : Int × Int := match l0, l1, l2, l3 with
  | some a, some b, some c, some d => if a < 44 ∧ b = a ∧ c = a ∧ d = a then (0, a) else (8, 0)
  | _, _, _, _ => (6, 0)
theorem joinL0 (l1 l2 l3 : Option Int) : joinL none l1 l2 l3 = (6, 0) := rfl
theorem joinL1 (l0 l2 l3 : Option Int) : joinL l0 none l2 l3 = (6, 0) := by cases l0 <;> rfl
theorem joinL2 (l0 l1 l3 : Option Int) : joinL l0 l1 none l3 = (6, 0) := by cases l0 <;> cases l1 <;> rfl
theorem joinL3 (l0 l1 l2 : Option Int) : joinL l0 l1 l2 none = (6, 0) := by cases l0 <;> cases l1 <;> cases l2 <;> rfl
theorem joinL4 (a b c d : Int) : joinL (some a) (some b) (some c) (some d) = if a < 44 ∧ b = a ∧ c = a ∧ d = a then (0, a) else (8, 0) := rfl
def sqTh (q0 q1 q2 q3 a : Int) : Th := ⟨1, q0, q1, q2, q3, a + 1, 0, 0⟩
def joinE (A : Ar) (t : Nat) (q0 q1 q2 q3 : Int) : Int × Int := joinL (levelF A.ths t q0) (levelF A.ths t q1) (levelF A.ths t q2) (levelF A.ths t q3)
def Ar.joinP (A : Ar) (t : Nat) (q0 q1 q2 q3 : Int) : Ar × Int × Int := if (joinE A t q0 q1 q2 q3).1 = 0 then A.beco t (sqTh q0 q1 q2 q3 (joinE A t q0 q1 q2 q3).2) else (A, 0, (joinE A t q0 q1 q2 q3).1)
def JoinPOut (A : Ar) (t : Nat) (q0 q1 q2 q3 : Int) (b : Nat) (F : Nat → Prop) (w : World) (e : Ending) (w' : World) : Prop :=
  e = .returned (.tuple #[.int .i64 (A.joinP t q0 q1 q2 q3).2.1, .int .i64 (A.joinP t q0 q1 q2 q3).2.2]) ∧ Led w b F (A.joinP t q0 q1 q2 q3).1 w'
theorem JoinPOut.bad {A : Ar} {t : Nat} {q0 q1 q2 q3 : Int} {b : Nat} {F : Nat → Prop} {w w' : World} {e : Ending} {c : Int} (hA : AtP w b F A) (hc : c ≠ 0) (h : joinE A t q0 q1 q2 q3 = (c, 0)) (he : e = .returned (.tuple #[.int .i64 0, .int .i64 c])) (hb : Below w.heap.size w w') : JoinPOut A t q0 q1 q2 q3 b F w e w' := by
  unfold JoinPOut Ar.joinP
  rw [h, if_neg hc]
  exact ⟨he, hA.ledB hb⟩
theorem level_lo {A : Ar} (hS : Sound A) {t : Nat} {id l : Int} (h : levelF A.ths t id = some l) : 0 ≤ l ∧ l ≤ 44 := by
  unfold levelF at h
  split at h
  · obtain rfl := Option.some.inj h; decide
  · unfold ownF at h
    split at h
    · rename_i x hx
      split at hx
      · rw [Option.filter_eq_some_iff] at hx
        split at h
        · obtain rfl := Option.some.inj h
          exact hS.lv x (List.mem_of_getElem? hx.1)
        · cases h
      · cases hx
    · cases h

theorem levelP_any (b t : Nat) (F : Nat → Prop) (id : Int) (A : Ar) (w : World) (h : AtP w b F A) (hS : Sound A) (ht : t < 64) (hid : Fits id) :
    Calls Tryz.prog 46 #[.pointer (some ⟨b, 0, none⟩), .int .i64 t, .int .i64 id] w fun e w' => e = .returned (.tuple #[.int .i64 ((levelF A.ths t id).getD 0), .bool (levelF A.ths t id).isSome]) ∧ Below w.heap.size w w' := by
  obtain ⟨L, r, D, h, _⟩ := h
  exact level_any b 0 t id r A.ths w h.raw h.ths ht hS.mask hid

set_option maxRecDepth 20000 in
set_option maxHeartbeats 8000000 in
theorem joinP_any (b t : Nat) (q0 q1 q2 q3 : Int) (F : Nat → Prop) (A : Ar) (w : World) (h : AtP w b F A) (hS : Sound A) (ht : t < 64) (hq0 : Fits q0) (hq1 : Fits q1) (hq2 : Fits q2) (hq3 : Fits q3) :
    Calls Tryz.prog 24 #[.pointer (some ⟨b, 0, none⟩), .int .i64 t, quad4 q0 q1 q2 q3] w (JoinPOut A t q0 q1 q2 q3 b F w) := by
  have hi := fun W => tenant_yes t ht W
  have hlo : ∀ l, levelF A.ths t q0 = some l → 0 ≤ l ∧ l ≤ 44 := fun l hl => level_lo hS hl
  have hlv := fun W (hW : AtP W b F A) id (hid : Fits id) => levelP_any b t F id A W hW hS ht hid
  have HB : Hid (∀ W (l : Int), 0 ≤ l → l < 44 → AtP W b F A → _) := fun W l hl0 hl1 hW => beco_any b t F A (sqTh q0 q1 q2 q3 l) W hW hS ht ⟨⟨by show (_ : Int) ≤ 1; omega, by show (1 : Int) ≤ _; omega⟩, hq0, hq1, hq2, hq3⟩ (by show (1 : Int) ≠ 0; omega) (by show 0 ≤ l + 1 ∧ l + 1 ≤ 44; omega) fits_zero rfl
  have HA : Hid (AtP w b F A) := h
  have S := JS.born w q0 q1 q2 q3
  have hJE : Hid (joinE A t q0 q1 q2 q3 = joinL (levelF A.ths t q0) (levelF A.ths t q1) (levelF A.ths t q2) (levelF A.ths t q3)) := rfl
  generalize hPost : JoinPOut A t q0 q1 q2 q3 b F w = Post
  have HP : Hid (JoinPOut A t q0 q1 q2 q3 b F w = Post) := hPost
  clear hPost
  unfold quad4
  go_enter Tryz.func24, Tryz.ntmps24
  go_wp2_with fail
  refine (hi _).mono ?_
  rintro e w0 ⟨rfl, rfl⟩
  obtain ⟨⟨c0, c1, c2, c3⟩, ⟨z0, z1, z2, z3⟩, k0, k1, k2, k3⟩ := S.cells
  go_wp2_with fail
  have i0 := Tryz.at0 (.int .i64 q0) (.int .i64 q1) (.int .i64 q2) (.int .i64 q3)
  have i1 := Tryz.at1 (.int .i64 q0) (.int .i64 q1) (.int .i64 q2) (.int .i64 q3)
  have i2 := Tryz.at2 (.int .i64 q0) (.int .i64 q1) (.int .i64 q2) (.int .i64 q3)
  have i3 := Tryz.at3 (.int .i64 q0) (.int .i64 q1) (.int .i64 q2) (.int .i64 q3)
  refine wp_loop_rounds 5 ?_
  rw [rounds_succ]
  go_wp2_with fail
  refine (hlv _ (h.below S.bel) q0 hq0).mono ?_
  rintro e w0 ⟨rfl, hb0⟩
  have S := S.go hb0
  clear hb0 c0 c1 c2 c3 z0 z1 z2 z3 k0 k1 k2 k3
  obtain ⟨⟨c0, c1, c2, c3⟩, ⟨z0, z1, z2, z3⟩, k0, k1, k2, k3⟩ := S.cells
  cases hl0 : levelF A.ths t q0 with
  | none =>
    simp only [Option.getD_none, Option.isSome_none]
    go_wp2_with fail
    rw [← HP.out]
    exact JoinPOut.bad HA.out (by decide) (hJE.out.trans (by rw [hl0]; exact joinL0 _ _ _)) rfl S.bel
  | some l0 =>
  have HL0 : Hid (levelF A.ths t q0 = some l0) := hl0
  clear hl0
  simp only [Option.getD_some, Option.isSome_some]
  go_wp2_with fail
  have S := S.set0 l0
  generalize w0.setCell ⟨w.heap.size + 1, 0, none⟩ (.int .i64 l0) = W0 at *
  clear c0 c1 c2 c3 z0 z1 z2 z3 k0 k1 k2 k3
  obtain ⟨⟨c0, c1, c2, c3⟩, ⟨z0, z1, z2, z3⟩, k0, k1, k2, k3⟩ := S.cells
  rw [rounds_succ]
  go_wp2_with fail
  refine (hlv _ (h.below S.bel) q1 hq1).mono ?_
  rintro e w1 ⟨rfl, hb1⟩
  have S := S.go hb1
  clear hb1 c0 c1 c2 c3 z0 z1 z2 z3 k0 k1 k2 k3
  obtain ⟨⟨c0, c1, c2, c3⟩, ⟨z0, z1, z2, z3⟩, k0, k1, k2, k3⟩ := S.cells
  cases hl1 : levelF A.ths t q1 with
  | none =>
    simp only [Option.getD_none, Option.isSome_none]
    go_wp2_with fail
    rw [← HP.out]
    exact JoinPOut.bad HA.out (by decide) (hJE.out.trans (by rw [hl1]; exact joinL1 _ _ _)) rfl S.bel
  | some l1 =>
  have HL1 : Hid (levelF A.ths t q1 = some l1) := hl1
  clear hl1
  simp only [Option.getD_some, Option.isSome_some]
  go_wp2_with fail
  have S := S.set1 l1
  generalize w1.setCell ⟨w.heap.size + 1, 1, none⟩ (.int .i64 l1) = W1 at *
  clear c0 c1 c2 c3 z0 z1 z2 z3 k0 k1 k2 k3
  obtain ⟨⟨c0, c1, c2, c3⟩, ⟨z0, z1, z2, z3⟩, k0, k1, k2, k3⟩ := S.cells
  rw [rounds_succ]
  go_wp2_with fail
  refine (hlv _ (h.below S.bel) q2 hq2).mono ?_
  rintro e w2 ⟨rfl, hb2⟩
  have S := S.go hb2
  clear hb2 c0 c1 c2 c3 z0 z1 z2 z3 k0 k1 k2 k3
  obtain ⟨⟨c0, c1, c2, c3⟩, ⟨z0, z1, z2, z3⟩, k0, k1, k2, k3⟩ := S.cells
  cases hl2 : levelF A.ths t q2 with
  | none =>
    simp only [Option.getD_none, Option.isSome_none]
    go_wp2_with fail
    rw [← HP.out]
    exact JoinPOut.bad HA.out (by decide) (hJE.out.trans (by rw [hl2]; exact joinL2 _ _ _)) rfl S.bel
  | some l2 =>
  have HL2 : Hid (levelF A.ths t q2 = some l2) := hl2
  clear hl2
  simp only [Option.getD_some, Option.isSome_some]
  go_wp2_with fail
  have S := S.set2 l2
  generalize w2.setCell ⟨w.heap.size + 1, 2, none⟩ (.int .i64 l2) = W2 at *
  clear c0 c1 c2 c3 z0 z1 z2 z3 k0 k1 k2 k3
  obtain ⟨⟨c0, c1, c2, c3⟩, ⟨z0, z1, z2, z3⟩, k0, k1, k2, k3⟩ := S.cells
  rw [rounds_succ]
  go_wp2_with fail
  refine (hlv _ (h.below S.bel) q3 hq3).mono ?_
  rintro e w3 ⟨rfl, hb3⟩
  have S := S.go hb3
  clear hb3 c0 c1 c2 c3 z0 z1 z2 z3 k0 k1 k2 k3
  obtain ⟨⟨c0, c1, c2, c3⟩, ⟨z0, z1, z2, z3⟩, k0, k1, k2, k3⟩ := S.cells
  cases hl3 : levelF A.ths t q3 with
  | none =>
    simp only [Option.getD_none, Option.isSome_none]
    go_wp2_with fail
    rw [← HP.out]
    exact JoinPOut.bad HA.out (by decide) (hJE.out.trans (by rw [hl3]; exact joinL3 _ _ _)) rfl S.bel
  | some l3 =>
  have HL3 : Hid (levelF A.ths t q3 = some l3) := hl3
  clear hl3
  simp only [Option.getD_some, Option.isSome_some]
  go_wp2_with fail
  have S := S.set3 l3
  generalize w3.setCell ⟨w.heap.size + 1, 3, none⟩ (.int .i64 l3) = W3 at *
  clear c0 c1 c2 c3 z0 z1 z2 z3 k0 k1 k2 k3
  obtain ⟨⟨c0, c1, c2, c3⟩, ⟨z0, z1, z2, z3⟩, k0, k1, k2, k3⟩ := S.cells
  rw [rounds_succ]
  go_wp2_with fail
  have j0 := Tryz.at0 (.int .i64 l0) (.int .i64 l1) (.int .i64 l2) (.int .i64 l3)
  have j1 := Tryz.at1 (.int .i64 l0) (.int .i64 l1) (.int .i64 l2) (.int .i64 l3)
  have j2 := Tryz.at2 (.int .i64 l0) (.int .i64 l1) (.int .i64 l2) (.int .i64 l3)
  have j3 := Tryz.at3 (.int .i64 l0) (.int .i64 l1) (.int .i64 l2) (.int .i64 l3)
  have HJ : Hid (joinE A t q0 q1 q2 q3 = if l0 < 44 ∧ l1 = l0 ∧ l2 = l0 ∧ l3 = l0 then (0, l0) else (8, 0)) := hJE.out.trans (by rw [HL0.out, HL1.out, HL2.out, HL3.out]; exact joinL4 _ _ _ _)
  clear hJE
  refine wp_loop_rounds 5 ?_
  rw [rounds_succ]
  by_cases hlt : l0 < 44
  · have hlt' : ¬ (44 : Int) ≤ l0 := by omega
    by_cases e1 : l1 = l0
    · subst e1
      by_cases e2 : l2 = l1
      · subst e2
        by_cases e3 : l3 = l2
        · subst e3
          have HJ2 : Hid (joinE A t q0 q1 q2 q3 = (0, l3)) := HJ.out.trans (if_pos ⟨hlt, rfl, rfl, rfl⟩)
          have hlow := hlo l3 HL0.out
          go_wp2_with fail
          rw [rounds_succ]
          go_wp2_with fail
          rw [rounds_succ]
          go_wp2_with fail
          rw [rounds_succ]
          go_wp2_with fail
          rw [rounds_succ]
          go_wp2_with fail
          refine (HB.out _ l3 hlow.1 hlt (h.below S.bel)).mono ?_
          rintro e w5 ⟨rfl, h5⟩
          go_wp2_with fail
          rw [← HP.out]
          unfold JoinPOut Ar.joinP
          rw [HJ2.out, if_pos rfl]
          exact ⟨rfl, led_join (fun k hk => .inl hk) (HA.out.below S.bel) (Apart.of S.bel) h5⟩
        · have e3' : (l3 != l2) = true := by simpa using e3
          go_wp2_with fail
          rw [rounds_succ]
          go_wp2_with fail
          rw [rounds_succ]
          go_wp2_with fail
          rw [rounds_succ]
          go_wp2_with fail
          rw [← HP.out]
          exact JoinPOut.bad HA.out (by decide) (HJ.out.trans (if_neg (by omega))) rfl S.bel
      · have e2' : (l2 != l1) = true := by simpa using e2
        go_wp2_with fail
        rw [rounds_succ]
        go_wp2_with fail
        rw [rounds_succ]
        go_wp2_with fail
        rw [← HP.out]
        exact JoinPOut.bad HA.out (by decide) (HJ.out.trans (if_neg (by omega))) rfl S.bel
    · have e1' : (l1 != l0) = true := by simpa using e1
      go_wp2_with fail
      rw [rounds_succ]
      go_wp2_with fail
      rw [← HP.out]
      exact JoinPOut.bad HA.out (by decide) (HJ.out.trans (if_neg (by omega))) rfl S.bel
  · have hlt' : (44 : Int) ≤ l0 := by omega
    go_wp2_with fail
    rw [← HP.out]
    exact JoinPOut.bad HA.out (by decide) (HJ.out.trans (if_neg (by omega))) rfl S.bel
end Go.Proofs.YtgipjplifndniaaGreatDoor.A

namespace Go.Proofs.YtgipjplifndniaaGreatDoor.A
open Go.RowKit Go.Maps

theorem below_drew {w w1 : World} (h : Below w.drew.heap.size w.drew w1) : Below w.heap.size w w1 := ⟨h.os, h.tape, h.output, h.size, h.block⟩

end Go.Proofs.YtgipjplifndniaaGreatDoor.A

namespace Go.Proofs.YtgipjplifndniaaGreatDoor.A
open Go.RowKit Go.Maps

def Ar.lose (A : Ar) (t : Nat) (ids f : List Int) : Ar := { A.takes t ids with fresh := upd A.fresh t f }
def OwnIds (l : List Th) (t : Nat) (ids : List Int) : Prop := ids.Nodup ∧ ∀ id ∈ ids, 2 ≤ id ∧ ∃ x, l[(id - 2).toNat]? = some x ∧ x.mask.testBit t = true
theorem takes_cons (A : Ar) (t : Nat) (id : Int) (l : List Int) : A.takes t (id :: l) = (A.take t (id - 2).toNat (thAt A.ths id)).takes t l := rfl
theorem takes_own (t : Nat) (ht : t < 64) (u : Nat) : ∀ (ids : List Int) (A : Ar), OwnIds A.ths t ids → (∀ x ∈ A.ths, x.mask < 18446744073709551616) → ownN (A.takes t ids).ths u + (if u = t then ids.length else 0) = ownN A.ths u
  | [], A, _, _ => by simp [Ar.takes]
  | id :: l, A, h, hm => by
    obtain ⟨h2, x, hx, hb⟩ := h.2 id (by simp)
    have hth : thAt A.ths id = x := by unfold thAt; rw [hx]; rfl
    have hxm := hm x (List.mem_of_getElem? hx)
    have e := set_count (y := { x with mask := clr x.mask t }) (fun z => z.mask.testBit u) hx
    have hnd := List.nodup_cons.1 h.1
    have hi := (List.getElem?_eq_some_iff.1 hx).1
    have ih := takes_own t ht u l (A.take t (id - 2).toNat x) ⟨hnd.2, fun k hk => by
      obtain ⟨k2, y, hy, hyb⟩ := h.2 k (by simp [hk])
      refine ⟨k2, y, ?_, hyb⟩
      show (A.ths.set _ _)[_]? = _
      rw [List.getElem?_set, if_neg (fun e => hnd.1 (by rw [show id = k by omega]; exact hk))]
      exact hy⟩ (fun z hz => by
      rcases List.mem_or_eq_of_mem_set (show z ∈ A.ths.set _ _ from hz) with h1 | h1
      · exact hm z h1
      · rw [h1]; exact clr_lt _ _ hxm)
    rw [takes_cons, hth]
    have e2 : ownN (A.take t (id - 2).toNat x).ths u = (A.ths.set (id - 2).toNat { x with mask := clr x.mask t }).countP fun z => z.mask.testBit u := rfl
    rw [e2] at ih
    generalize (A.ths.set (id - 2).toNat { x with mask := clr x.mask t }).countP (fun z => z.mask.testBit u) = N at *
    simp only [clr_bit x.mask t u hxm ht] at e
    unfold ownN at ih ⊢
    by_cases eu : u = t
    · subst eu
      rw [hb] at e
      simp at e ih ⊢
      omega
    · rw [if_neg eu] at ih ⊢
      simp [eu] at e
      omega
theorem takes_back {t : Nat} (ht : t < 64) {A : Ar} {ids : List Int} (h : OwnIds A.ths t ids) (hm : ∀ x ∈ A.ths, x.mask < 18446744073709551616) {j : Nat} {y : Th} (hy : (A.takes t ids).ths[j]? = some y) : ∃ x, A.ths[j]? = some x ∧ y.key = x.key ∧ y.lv = x.lv ∧ y.va = x.va ∧ y.mask < 18446744073709551616 ∧ ∀ u, y.mask.testBit u = true ↔ x.mask.testBit u = true ∧ ¬ (u = t ∧ (j : Int) + 2 ∈ ids) := by
  have hj := (List.getElem?_eq_some_iff.1 hy).1
  rw [takes_len] at hj
  obtain ⟨y', h1, h2⟩ := takes_get t ht ids A (fun id hid => by
    obtain ⟨a, x, hx, _⟩ := h.2 id hid
    exact ⟨a, (List.getElem?_eq_some_iff.1 hx).1⟩) hm j _ (List.getElem?_eq_getElem hj)
  rw [hy] at h1
  obtain rfl := Option.some.inj h1
  exact ⟨_, List.getElem?_eq_getElem hj, h2⟩
theorem lose_sound {A : Ar} {t : Nat} {ids f : List Int} (hS : Sound A) (ht : t < 64) (h : OwnIds A.ths t ids) (hf : OwnIds A.ths t f) (hd : ∀ id ∈ f, id ∉ ids) : Sound (A.lose t ids f) := by
  obtain ⟨r1, r2, r3, r4⟩ := takes_rest A t ids
  have back := fun j y => takes_back ht h hS.mask (j := j) (y := y)
  have bm : ∀ y ∈ (A.lose t ids f).ths, ∃ (j : Nat) (x : Th), A.ths[j]? = some x ∧ y.key = x.key ∧ y.lv = x.lv ∧ y.va = x.va ∧ y.mask < 18446744073709551616 ∧ ∀ u, y.mask.testBit u = true ↔ x.mask.testBit u = true ∧ ¬ (u = t ∧ (j : Int) + 2 ∈ ids) := fun y hy => by
    obtain ⟨j, hj⟩ := List.getElem?_of_mem hy
    obtain ⟨x, hx⟩ := back j y hj
    exact ⟨j, x, hx⟩
  have keep : ∀ (u : Nat) (id : Int) (x : Th), A.ths[(id - 2).toNat]? = some x → 2 ≤ id → x.mask.testBit u = true → ¬ (u = t ∧ id ∈ ids) → ∃ y, (A.lose t ids f).ths[(id - 2).toNat]? = some y ∧ y.mask.testBit u = true := fun u id x hx h2 hb hn => by
    obtain ⟨y, h1, _, _, _, _, h6⟩ := takes_get t ht ids A (fun id hid => by
      obtain ⟨a, x, hx, _⟩ := h.2 id hid
      exact ⟨a, (List.getElem?_eq_some_iff.1 hx).1⟩) hS.mask _ x hx
    refine ⟨y, h1, (h6 u).2 ⟨hb, ?_⟩⟩
    rw [show (((id - 2).toNat : Nat) : Int) + 2 = id by omega]
    exact hn
  exact {
    free := r4.trans hS.free
    room0 := by show 0 ≤ (A.takes t ids).room; rw [r3]; exact hS.room0
    room1 := by show (A.takes t ids).room ≤ _; rw [r3]; exact hS.room1
    len := by show ((A.takes t ids).ths.length : Int) ≤ (A.takes t ids).room; rw [r3, takes_len]; exact hS.len
    mask := fun y hy => let ⟨_, _, _, _, _, _, h, _⟩ := bm y hy; h
    zero := fun y hy h0 => by
      obtain ⟨j, x, hx, e1, e2, e3, _, e5⟩ := bm y hy
      have hx0 : x = noTh := hS.zero x (List.mem_of_getElem? hx) (by rw [← key_k e1]; exact h0)
      subst hx0
      have hm0 : y.mask = 0 := Nat.eq_of_testBit_eq fun u => by
        rw [Nat.zero_testBit]
        cases hu : y.mask.testBit u with
        | false => rfl
        | true => have := ((e5 u).1 hu).1; simp [noTh] at this
      obtain ⟨k, p0, p1, p2, p3, lv, va, mask⟩ := y
      simp only [Th.key, Ky.mk.injEq] at e1
      simp only at e2 e3 hm0
      obtain ⟨rfl, rfl, rfl, rfl, rfl⟩ := e1
      subst e2 e3 hm0
      rfl
    fit := fun y hy => by
      obtain ⟨j, x, hx, e1, _⟩ := bm y hy
      rw [e1]; exact hS.fit x (List.mem_of_getElem? hx)
    lv := fun y hy => by
      obtain ⟨j, x, hx, _, e2, _⟩ := bm y hy
      rw [e2]; exact hS.lv x (List.mem_of_getElem? hx)
    va := fun y hy => by
      obtain ⟨j, x, hx, _, _, e3, _⟩ := bm y hy
      rw [e3]; exact hS.va x (List.mem_of_getElem? hx)
    uniq := fun i j y z hy hz h0 he => by
      obtain ⟨x, hx, e1, _⟩ := back i y hy
      obtain ⟨x', hx', e1', _⟩ := back j z hz
      exact hS.uniq i j x x' hx hx' (by rw [← key_k e1]; exact h0) (by rw [← e1, ← e1']; exact he)
    lim := fun u hu => by
      show 0 ≤ (A.takes t ids).lim u ∧ (A.takes t ids).lim u ≤ (A.takes t ids).room
      rw [r2, r3]; exact hS.lim u hu
    cnt := fun u hu => by
      show (A.takes t ids).cnt u = (ownN (A.takes t ids).ths u : Int)
      have e := takes_own t ht u ids A h hS.mask
      have hc := hS.cnt u hu
      rw [takes_cnt]
      unfold upd
      by_cases eu : u = t
      · subst eu
        rw [if_pos rfl] at e ⊢
        omega
      · rw [if_neg eu] at e ⊢
        omega
    fresh := fun u hu => by
      show (upd A.fresh t f u).Nodup ∧ ∀ id ∈ upd A.fresh t f u, _
      unfold upd
      by_cases eu : u = t
      · subst eu
        rw [if_pos rfl]
        exact ⟨hf.1, fun id hid => by
          obtain ⟨h2, x, hx, hb⟩ := hf.2 id hid
          exact ⟨h2, keep u id x hx h2 hb fun e => hd id hid e.2⟩⟩
      · rw [if_neg eu]
        exact ⟨(hS.fresh u hu).1, fun id hid => by
          obtain ⟨h2, x, hx, hb⟩ := (hS.fresh u hu).2 id hid
          exact ⟨h2, keep u id x hx h2 hb fun e => eu e.1⟩⟩ }
theorem takes_free (L : List Int) (t : Nat) : ∀ (l : List Int) (B : Ar), ({ B with free := L } : Ar).takes t l = { B.takes t l with free := L }
  | [], B => rfl
  | id :: l, B => by
    rw [takes_cons, takes_cons]
    exact takes_free L t l (B.take t (id - 2).toNat (thAt B.ths id))
theorem own_nil (l : List Th) (t : Nat) : OwnIds l t [] := ⟨List.nodup_nil, fun _ h => by cases h⟩
theorem live_takes {A : Ar} {t : Nat} (ht : t < 64) {ids : List Int} (h : OwnIds A.ths t ids) (hm : ∀ x ∈ A.ths, x.mask < 18446744073709551616) : freeIds (A.takes t ids).ths = freeIds A.ths ∧ liveN (A.takes t ids).ths = liveN A.ths := by
  have e : freeIds (A.takes t ids).ths = freeIds A.ths := sel_congr 0 _ _ (takes_len _ _ _) fun j x y hx hy => by
    obtain ⟨z, hz, e1, _⟩ := takes_back ht h hm hx
    rw [hy] at hz
    obtain rfl := Option.some.inj hz
    simp [isNo, key_k e1]
  have h1 := free_live (A.takes t ids).ths
  have h2 := free_live A.ths
  rw [e, takes_len] at h1
  exact ⟨e, by omega⟩
theorem fresh_own {A : Ar} (hS : Sound A) {t : Nat} (ht : t < 64) : OwnIds A.ths t (A.fresh t) := hS.fresh t ht
set_option maxHeartbeats 1000000 in
theorem undoP_any (b t : Nat) (F : Nat → Prop) (A : Ar) (w : World) (h : AtP w b F A) (hS : Sound A) (ht : t < 64) :
    Calls Tryz.prog 16 #[.pointer (some ⟨b, 0, none⟩), .int .i64 t] w fun e w' => e = .returned (.int .i64 ((A.fresh t).length : Int)) ∧ Led w b F (A.lose t (A.fresh t) []) w' := by
  obtain ⟨L, r, D, h, hp, hH⟩ := h
  have hl := hS.len
  have hrm := hS.room1
  have hfl := hS.freshLe ht
  have hc := hS.cnt t ht
  have hon : ownN A.ths t ≤ A.ths.length := List.countP_le_length
  have ho := takes_own t ht t (A.fresh t) A (fresh_own hS ht) hS.mask
  rw [if_pos rfl] at ho
  have c := back_any b t _ F { A with free := L } r D w h ht (by show (A.fresh t).length < _; omega) (fun id hid => by
    obtain ⟨h2, x, hx, _⟩ := (hS.fresh t ht).2 id hid
    exact ⟨h2, (List.getElem?_eq_some_iff.1 hx).1⟩) hS.mask (by show A.ths.length < _; omega) (by show ((A.fresh t).length : Int) ≤ A.cnt t ∧ A.cnt t < _; omega)
  have c : Calls Tryz.prog 39 #[.pointer (some ⟨b, 0, none⟩), .int .i64 t, .int .i64 0] w fun e w' => e = .returned (.int .i64 ((A.fresh t).length : Int)) ∧ Led w b F (A.lose t (A.fresh t) []) w' := by
    refine c.mono ?_
    rintro e w' ⟨rfl, ⟨r', D', h'⟩, P⟩
    refine ⟨rfl, F, fun k hk => .inl hk, ⟨L, r', D', ?_, ?_, hH⟩, P⟩
    · have e1 := (live_takes ht (fresh_own hS ht) hS.mask).2
      have e2 : ({ A.lose t (A.fresh t) [] with free := L } : Ar) = ({ A with free := L } : Ar).undo t := by
        unfold Ar.lose Ar.undo
        rw [takes_free L t (({ A with free := L } : Ar).fresh t) A]
      show ArRaw w' b F (liveN (A.takes t (A.fresh t)).ths) _ _ _
      rw [e1, e2]; exact h'
    · show L.Perm (freeIds (A.takes t (A.fresh t)).ths)
      rw [(live_takes ht (fresh_own hS ht) hS.mask).1]; exact hp
  clear hl hrm hfl hc hon ho hp hH h
  go_enter Tryz.func16, Tryz.ntmps16
  go_wp2_with fail
  refine c.mono ?_
  rintro e w1 ⟨rfl, h1⟩
  go_wp2_with fail
  go_ret
  exact ⟨rfl, h1⟩
theorem markP_any (b t : Nat) (F : Nat → Prop) (A : Ar) (w : World) (h : AtP w b F A) (ht : t < 64) :
    Calls Tryz.prog 14 #[.pointer (some ⟨b, 0, none⟩), .int .i64 t] w fun e w' => e = .returned (.int .i64 0) ∧ Led w b F (A.lose t [] []) w' := by
  obtain ⟨L, r, D, h, hp, hH⟩ := h
  refine (mark_any b t _ F { A with free := L } r D w h ht).mono ?_
  rintro e w' ⟨rfl, h', P⟩
  exact ⟨rfl, F, fun k hk => .inl hk, ⟨L, _, _, h', hp, hH⟩, P⟩
theorem mark_sound {A : Ar} (hS : Sound A) {t : Nat} (ht : t < 64) : Sound (A.lose t [] []) := lose_sound hS ht (own_nil _ _) (own_nil _ _) (fun _ h => by cases h)
theorem countP_any (b t : Nat) (F : Nat → Prop) (A : Ar) (w : World) (h : AtP w b F A) (ht : t < 64) :
    Calls Tryz.prog 25 #[.pointer (some ⟨b, 0, none⟩), .int .i64 t] w fun e w' => e = .returned (.int .i64 (A.cnt t)) ∧ w' = w := by
  obtain ⟨L, r, D, h, hp, hH⟩ := h
  have := count_any b r t w h.raw ht
  rw [show (r.tn t).cnt = A.cnt t from h.cnt t ht] at this
  exact this
end Go.Proofs.YtgipjplifndniaaGreatDoor.A
