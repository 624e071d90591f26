/- A leaper's checkReach, where all that lives is near enough. -/
import Derived.Test.YtofbcngcblleaaaGreatLpPw
import Derived.Lib.MinMax
namespace Go.Proofs.YtofbcngcblleaaaGreat.A
open Go.RowKit Go.Maps Go.Proofs.YtofbcngcblleaaaGreat.L

variable {w : World} {o : Nat → Nat} {lb b t : Nat} {rb rl e : Int} {A : Ar} {PR : (Bool → Nat → Bool) → Int → Prop} {q : Nat → Int}
theorem lpReach_dead (h : LS w o lb b t rb rl e A) (he : e ≠ 0) (id : Int) :
    Calls Tryz.prog 81 #[.pointer (some ⟨lb, 0, none⟩), .int .i64 id] w fun r w' => r = .returned (.tuple #[]) ∧ Kp o w lb b t rb rl e A w' := by
  obtain ⟨_, _, _, _, c4, _⟩ := h.cells
  go_enter Tryz.func81, Tryz.ntmps81
  go_wp2_with fail
  refine bodyPost_ret (v := .tuple #[]) ?_ rfl ⟨rfl, Kp.of h (Below.refl _ _)⟩
  simp [results, Tryz.results81]
/-- Box over any arena -/
theorem box_rel (hA : ArL w o b A) (hst : NxSt PR t q A) (ht : t < 64) (id : Int) (lv : Nat) (h1 : 1 ≤ lv) (h44 : lv ≤ 44) (hl : levV (view A t).V id = some (lv : Int)) (hbig : (cellsF A.ths lv id).length < 4611686018427387904) :
    Calls Tryz.prog 97 #[.pointer (some ⟨b, 0, none⟩), .int .i64 t, .int .i64 id] w fun x w' => ∃ x0 y0 x1 y1 s, x = .returned (.tuple #[.agg #[.int .i64 x0, .int .i64 y0, .int .i64 x1, .int .i64 y1], .bool s, .int .i64 0]) ∧ BoxOr (absC A.ths lv id) x0 y0 x1 y1 ∧ Below w.heap.size w w' := by
  obtain ⟨F, hFA, hF1⟩ := hA
  obtain ⟨L, hat⟩ := hFA.ar
  have hI := inv_of hst.s hst.g L
  refine (Box_root b _ t lv id F _ w hat hI ht hst.s.mask (by have := hst.s.len; have := hst.s.room1; show A.ths.length < 1000000; omega) (by show levelF A.ths t id = _; rw [levelF_V]; exact hl) h1 h44 hbig).mono ?_
  rintro x w' ⟨x0, y0, x1, y1, rfl, h2, h3⟩
  exact ⟨x0, y0, x1, y1, _, rfl, h2, h3⟩
def AgB (w : World) (p : Nat) (x0 y0 x1 y1 : Int) : Prop := w.heap[p]? = some (.cells #[.int .i64 x0, .int .i64 y0, .int .i64 x1, .int .i64 y1] 68 (0, 0))
set_option maxRecDepth 20000 in
set_option maxHeartbeats 2000000 in
theorem lpReach_ok (h : LS w o lb b t rb rl 0 A) (hst : NxSt PR t q A) (ht : t < 64) (id : Int) (lv : Nat) (h1 : 1 ≤ lv) (h44 : lv ≤ 44) (hl : levV (view A t).V id = some (lv : Int)) (hbig : (cellsF A.ths lv id).length < 4611686018427387904) (hfit : fitsLv 42 (absC A.ths lv id)) :
    Calls Tryz.prog 81 #[.pointer (some ⟨lb, 0, none⟩), .int .i64 id] w fun r w' => r = .returned (.tuple #[]) ∧ Kp o w lb b t rb rl 0 A w' := by
  obtain ⟨c0, c1, _, _, c4, z4⟩ := h.cells
  have hbox : ∀ V, Below w.heap.size w V → Calls Tryz.prog 97 #[.pointer (some ⟨b, 0, none⟩), .int .i64 t, .int .i64 id] V fun x w' => ∃ x0 y0 x1 y1 s, x = .returned (.tuple #[.agg #[.int .i64 x0, .int .i64 y0, .int .i64 x1, .int .i64 y1], .bool s, .int .i64 0]) ∧ (-2199023255552 ≤ x0 ∧ -2199023255552 ≤ y0 ∧ x1 < 2199023255552 ∧ y1 < 2199023255552) ∧ Below V.heap.size V w' := fun V hV => by
    refine (box_rel (h.below hV).ar hst ht id lv h1 h44 hl hbig).mono ?_
    rintro x w' ⟨x0, y0, x1, y1, s, rfl, hb, h3⟩
    have hr := (reach_fits hb (n := 42) (by omega)).2 hfit
    unfold reachB at hr
    rw [decide_eq_true_iff] at hr
    have e : (halfN 42 : Int) = 2199023255552 := by decide
    rw [e] at hr
    exact ⟨x0, y0, x1, y1, s, rfl, by omega, h3⟩
  have HX : Hid (LS w o lb b t rb rl 0 A) := h
  have hWA : Below w.heap.size w (w.alloc (.cells #[.int .i64 0, .int .i64 0, .int .i64 0, .int .i64 0] 68)) := (Below.refl _ _).alloc (Nat.le_refl _) _
  have HWA : Hid (Below w.heap.size w (w.alloc (.cells #[.int .i64 0, .int .i64 0, .int .i64 0, .int .i64 0] 68))) := hWA
  obtain ⟨cA0, cA1, _, _, _, _⟩ := (h.below hWA).cells
  have HXA : Hid ((w.alloc (.cells #[.int .i64 0, .int .i64 0, .int .i64 0, .int .i64 0] 68)).heap[w.heap.size]? = some (.cells #[.int .i64 0, .int .i64 0, .int .i64 0, .int .i64 0] 68 (0, 0))) := heap_alloc_new w _
  clear h hst hl hbig hfit hWA
  go_enter Tryz.func81, Tryz.ntmps81
  go_wp2_with fail
  go_cut [4, 6] from 12 to 25 (fun s4 s6 wc => ∃ (p : Nat) (x0 y0 x1 y1 : Int), s4 = .pointer (some ⟨p, 0, none⟩) ∧ s6 = .int .i64 0 ∧ AgB wc p x0 y0 x1 y1 ∧ w.heap.size ≤ p ∧ (-2199023255552 ≤ x0 ∧ -2199023255552 ≤ y0 ∧ x1 < 2199023255552 ∧ y1 < 2199023255552) ∧ Below w.heap.size w wc)
  case first =>
    go_region_with (first
      | (go_at_call 97; refine (hbox _ HWA.out.drew).mono ?_; rintro e w1 ⟨x0, y0, x1, y1, s, rfl, hbd, hbx⟩; have hX1 := ((below_dr hbx).block w.heap.size (by simp)).trans HXA.out; have hc0 := Lib.cell_of_heap hX1 0; have hc1 := Lib.cell_of_heap hX1 1; have hc2 := Lib.cell_of_heap hX1 2; have hc3 := Lib.cell_of_heap hX1 3; have hz0 := Lib.frozen_of_heap hX1 0; have hz1 := Lib.frozen_of_heap hX1 1; have hz2 := Lib.frozen_of_heap hX1 2; have hz3 := Lib.frozen_of_heap hX1 3)
      | (go_at_call 97; refine (hbox _ (Below.refl _ _).drew).mono ?_; rintro e w1 ⟨x0, y0, x1, y1, s, rfl, hbd, hby⟩)
      | fail)
    all_goals
      go_wp2_with fail
      go_meet
      case rel =>
        first
        | (have hX2 := hX1; exact ⟨_, x0, y0, x1, y1, rfl, rfl, Go.Joins.block_setCell (Go.Joins.block_setCell (Go.Joins.block_setCell (Go.Joins.block_setCell hX1 _) _) _) _, Nat.le_refl _, hbd, ((((HWA.out.trans ((below_dr hbx).mono (by simp))).setCell (p := ⟨w.heap.size, 0, none⟩) (Nat.le_refl _) _).setCell (p := ⟨w.heap.size, 1, none⟩) (Nat.le_refl _) _).setCell (p := ⟨w.heap.size, 2, none⟩) (Nat.le_refl _) _).setCell (p := ⟨w.heap.size, 3, none⟩) (Nat.le_refl _) _⟩)
        | (have hb2 := hby; exact ⟨_, x0, y0, x1, y1, rfl, rfl, heap_alloc_new w1 _, (below_dr hby).size, hbd, (below_dr hby).alloc (below_dr hby).size _⟩)
        | fail
  case rest =>
  obtain ⟨p, x0, y0, x1, y1, rfl, rfl, hag, hp, ⟨g0, g1, g2, g3⟩, hbc⟩ := hcut
  have h1 := HX.out.below hbc
  obtain ⟨_, _, _, _, e4, y4⟩ := h1.cells
  have hlt := HX.out.lt
  have k0 : wc.cell? ⟨p, 0, none⟩ = some (.int .i64 x0) := Lib.cell_of_heap hag 0
  have k1 : wc.cell? ⟨p, 1, none⟩ = some (.int .i64 y0) := Lib.cell_of_heap hag 1
  have k2 : wc.cell? ⟨p, 2, none⟩ = some (.int .i64 x1) := Lib.cell_of_heap hag 2
  have k3 : wc.cell? ⟨p, 3, none⟩ = some (.int .i64 y1) := Lib.cell_of_heap hag 3
  have hne : p ≠ lb := by omega
  have hmin : ¬ min x0 y0 < -2199023255552 := by omega
  have hmax : ¬ 2199023255552 ≤ max x1 y1 := by omega
  have dmin : decide (min x0 y0 < -2199023255552) = false := decide_eq_false hmin
  have dmax : decide (2199023255552 ≤ max x1 y1) = false := decide_eq_false hmax
  have HE : Hid (Kp o w lb b t rb rl 0 A (wc.setCell ⟨lb, 4, none⟩ (.int .i64 0))) := by
    obtain ⟨a1, a2⟩ := h1.setE 0
    exact ⟨_, a1, Ch.trans (Ch.ofBelow hbc 0) a2⟩
  clear hbox HXA HWA c0 c1 c4 z4 cA0 cA1 h1 hbc hag hp
  go_wp2_with fail
  all_goals
    go_end0
    exact ⟨rfl, HE.out⟩
end Go.Proofs.YtofbcngcblleaaaGreat.A
