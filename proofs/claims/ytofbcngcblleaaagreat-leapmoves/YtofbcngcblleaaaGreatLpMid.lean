/- A leaper's kids and join, failed or not; middle. -/
import Derived.Test.YtofbcngcblleaaaGreatLpDead
namespace Go.Proofs.YtofbcngcblleaaaGreat.A
open Go.RowKit Go.Proofs.YtofbcngcblleaaaGreat.L

variable {w w1 : World} {o : Nat → Nat} {lb b t : Nat} {rb rl e : Int} {A : Ar}
theorem Kp.trans {w2 : World} {o1 : Nat → Nat} {e' : Int} {A' : Ar} (k : Ch AL o w o1 w1) (h : Kp o1 w1 lb b t rb rl e' A' w2) : Kp o w lb b t rb rl e' A' w2 := by
  obtain ⟨o2, h1, h2⟩ := h
  exact ⟨o2, h1, k.trans h2⟩
/-- the quarters, or, for a leaper that has failed, nothing -/
def KidR (e : Int) (A : Ar) (t : Nat) (id : Int) (k : Int × Int × Int × Int) : Prop := (e = 0 ∧ Fits id ∧ QV (view A t) id = some k) ∨ (e ≠ 0 ∧ k = (0, 0, 0, 0))
theorem lpKids_any (h : LS w o lb b t rb rl e A) (hS : Sound A) (ht : t < 64) (id : Int) (k0 k1 k2 k3 : Int) (hk : KidR e A t id (k0, k1, k2, k3)) :
    Calls Tryz.prog 131 #[.pointer (some ⟨lb, 0, none⟩), .int .i64 id] w fun r w' => r = .returned (quad4 k0 k1 k2 k3) ∧ Kp o w lb b t rb rl e A w' := by
  rcases hk with ⟨rfl, h1, h2⟩ | ⟨h1, h2⟩
  · exact lpKids_ok h hS ht id h1 k0 k1 k2 k3 h2
  · simp only [Prod.mk.injEq] at h2
    obtain ⟨rfl, rfl, rfl, rfl⟩ := h2
    exact lpKids_dead h h1 id
/-- what join leads to -/
def jn (e : Int) (A : Ar) (t : Nat) (q0 q1 q2 q3 : Int) : Ar × Int × Int := if e = 0 then A.joinP t q0 q1 q2 q3 else (A, 0, e)
theorem lpJoin_any (h : LS w o lb b t rb rl e A) (hS : Sound A) (ht : t < 64) (q0 q1 q2 q3 : Int) (hf : e = 0 → Fits q0 ∧ Fits q1 ∧ Fits q2 ∧ Fits q3) :
    Calls Tryz.prog 120 #[.pointer (some ⟨lb, 0, none⟩), quad4 q0 q1 q2 q3] w fun r w' => r = .returned (.int .i64 (jn e A t q0 q1 q2 q3).2.1) ∧ Kp o w lb b t rb rl (jn e A t q0 q1 q2 q3).2.2 (jn e A t q0 q1 q2 q3).1 w' := by
  unfold jn
  by_cases he : e = 0
  · subst he
    rw [if_pos rfl]
    obtain ⟨f0, f1, f2, f3⟩ := hf rfl
    exact lpJoin_ok h hS ht q0 q1 q2 q3 f0 f1 f2 f3
  · rw [if_neg he]
    exact lpJoin_dead h he q0 q1 q2 q3
/-- a row of four -/
def Q4 (w : World) (qb : Nat) (a b c d : Int) : Prop := w.heap[qb]? = some (.cells #[.int .i64 a, .int .i64 b, .int .i64 c, .int .i64 d] 76 (0, 0))
theorem Q4.cells {qb : Nat} {a b c d : Int} (h : Q4 w qb a b c d) : (w.cell? ⟨qb, 0, none⟩ = some (.int .i64 a) ∧ w.cell? ⟨qb, 1, none⟩ = some (.int .i64 b) ∧ w.cell? ⟨qb, 2, none⟩ = some (.int .i64 c) ∧ w.cell? ⟨qb, 3, none⟩ = some (.int .i64 d)) ∧ (w.frozen? ⟨qb, 0, none⟩ = false ∧ w.frozen? ⟨qb, 1, none⟩ = false ∧ w.frozen? ⟨qb, 2, none⟩ = false ∧ w.frozen? ⟨qb, 3, none⟩ = false) :=
  ⟨⟨Lib.cell_of_heap h 0, Lib.cell_of_heap h 1, Lib.cell_of_heap h 2, Lib.cell_of_heap h 3⟩, Lib.frozen_of_heap h 0, Lib.frozen_of_heap h 1, Lib.frozen_of_heap h 2, Lib.frozen_of_heap h 3⟩
theorem Q4.lt {qb : Nat} {a b c d : Int} (h : Q4 w qb a b c d) : qb < w.heap.size := (Array.getElem?_eq_some_iff.1 h).1
theorem Q4.ch {qb : Nat} {a b c d : Int} {o1 : Nat → Nat} (h : Q4 w qb a b c d) (hl : o qb = 0) (k : Ch AL o w o1 w1) : Q4 w1 qb a b c d ∧ o1 qb = 0 :=
  ⟨(k.at h.lt hl (by unfold AL; omega)).1.trans h, (k.at h.lt hl (by unfold AL; omega)).2⟩
/-- a leaper and a row of four of a deed's own -/
structure MI (o1 : Nat → Nat) (W : World) (lb b t : Nat) (rb rl e : Int) (A : Ar) (qb : Nat) (x0 x1 x2 x3 : Int) (w : World) (o : Nat → Nat) : Prop where
  ls : LS w o lb b t rb rl e A
  ch : Ch AL o1 W o w
  q : Q4 w qb x0 x1 x2 x3
  lab : o qb = 0
  new : W.heap.size ≤ qb
theorem MI.kp {o1 : Nat → Nat} {W : World} {qb : Nat} {x0 x1 x2 x3 : Int} (h : MI o1 W lb b t rb rl e A qb x0 x1 x2 x3 w o) (k : Kp o w lb b t rb rl e A w1) : ∃ o', MI o1 W lb b t rb rl e A qb x0 x1 x2 x3 w1 o' := by
  obtain ⟨o', h1, h2⟩ := k
  obtain ⟨q1, q2⟩ := h.q.ch h.lab h2
  exact ⟨o', h1, h.ch.trans h2, q1, q2, h.new⟩
theorem MI.set {o1 : Nat → Nat} {W : World} {qb : Nat} {x0 x1 x2 x3 : Int} (h : MI o1 W lb b t rb rl e A qb x0 x1 x2 x3 w o) (i : Nat) (v : Int) (y0 y1 y2 y3 : Int) (hq : Q4 (w.setCell ⟨qb, i, none⟩ (.int .i64 v)) qb y0 y1 y2 y3) : MI o1 W lb b t rb rl e A qb y0 y1 y2 y3 (w.setCell ⟨qb, i, none⟩ (.int .i64 v)) o := by
  refine ⟨h.ls.ch (Ch.set (L := fun l => l = 0) o w ⟨qb, i, none⟩ _ h.lab) (fun l hl => by unfold AL; omega), ?_, hq, h.lab, h.new⟩
  exact ⟨h.ch.os, h.ch.tape, h.ch.output, by simpa [World.setCell] using h.ch.size, h.ch.lab, fun k hk hn => (Below.heap_setCell _ _ _ _ (by have := h.new; show k ≠ qb; omega)).trans (h.ch.block k hk hn)⟩
theorem idx_four (a b c d : Int) : (∀ w, (Instr.index 76 (.agg #[.int .i64 a, .int .i64 b, .int .i64 c, .int .i64 d]) (.int .i64 0)).run Tryz.prog w = .ok (.int .i64 a) w) ∧ (∀ w, (Instr.index 76 (.agg #[.int .i64 a, .int .i64 b, .int .i64 c, .int .i64 d]) (.int .i64 1)).run Tryz.prog w = .ok (.int .i64 b) w) ∧ (∀ w, (Instr.index 76 (.agg #[.int .i64 a, .int .i64 b, .int .i64 c, .int .i64 d]) (.int .i64 2)).run Tryz.prog w = .ok (.int .i64 c) w) ∧ (∀ w, (Instr.index 76 (.agg #[.int .i64 a, .int .i64 b, .int .i64 c, .int .i64 d]) (.int .i64 3)).run Tryz.prog w = .ok (.int .i64 d) w) :=
  ⟨fun _ => by kernel_rfl, fun _ => by kernel_rfl, fun _ => by kernel_rfl, fun _ => by kernel_rfl⟩
def kf (k i : Nat) (m q : Int) : Int := if i < k then m else q
set_option maxRecDepth 20000 in
set_option maxHeartbeats 2000000 in
/-- the square in the middle of four -/
theorem lpMiddle_any (h : LS w o lb b t rb rl e A) (hS : Sound A) (ht : t < 64) (q0 q1 q2 q3 a0 a1 a2 a3 b0 b1 b2 b3 c0 c1 c2 c3 d0 d1 d2 d3 : Int)
    (ka : KidR e A t q0 (a0, a1, a2, a3)) (kb : KidR e A t q1 (b0, b1, b2, b3)) (kc : KidR e A t q2 (c0, c1, c2, c3)) (kd : KidR e A t q3 (d0, d1, d2, d3)) (hf : e = 0 → Fits a3 ∧ Fits b2 ∧ Fits c1 ∧ Fits d0) :
    Calls Tryz.prog 122 #[.pointer (some ⟨lb, 0, none⟩), quad4 q0 q1 q2 q3] w fun r w' => r = .returned (.int .i64 (jn e A t a3 b2 c1 d0).2.1) ∧ Kp o w lb b t rb rl (jn e A t a3 b2 c1 d0).2.2 (jn e A t a3 b2 c1 d0).1 w' := by
  have hbx : Below w.heap.size w (w.alloc (.cells #[.int .i64 q0, .int .i64 q1, .int .i64 q2, .int .i64 q3] 76)) := (Below.refl _ _).alloc (Nat.le_refl _) _
  have M0 : Hid (MI o w lb b t rb rl e A w.heap.size q0 q1 q2 q3 (w.alloc (.cells #[.int .i64 q0, .int .i64 q1, .int .i64 q2, .int .i64 q3] 76)) (ext o w.heap.size 0)) := ⟨h.below hbx, Ch.ofBelow hbx 0, heap_alloc_new w _, ext_new (Nat.le_refl _), Nat.le_refl _⟩
  have KA : Hid (KidR e A t q0 (a0, a1, a2, a3) ∧ KidR e A t q1 (b0, b1, b2, b3) ∧ KidR e A t q2 (c0, c1, c2, c3) ∧ KidR e A t q3 (d0, d1, d2, d3) ∧ (e = 0 → Fits a3 ∧ Fits b2 ∧ Fits c1 ∧ Fits d0)) := ⟨ka, kb, kc, kd, hf⟩
  clear h hbx ka kb kc kd hf
  unfold quad4
  go_enter Tryz.func122, Tryz.ntmps122
  go_wp2_with fail
  go_loopg [6] 4 (fun g s6 wr => ∃ k : Nat, k + g = 4 ∧ s6 = .int .i64 k ∧ ∃ o', MI o w lb b t rb rl e A w.heap.size (kf k 0 a3 q0) (kf k 1 b2 q1) (kf k 2 c1 q2) (kf k 3 d0 q3) wr o')
  case atStart => exact ⟨0, by omega, rfl, _, M0.out⟩
  case round =>
    obtain ⟨k, hkg, rfl, o', M⟩ := hrel
    have HI : Hid (k + gk = 4) := hkg
    have HM : Hid (MI o w lb b t rb rl e A w.heap.size (kf k 0 a3 q0) (kf k 1 b2 q1) (kf k 2 c1 q2) (kf k 3 d0 q3) wr o') := M
    clear M0 M
    have hk : k = 0 ∨ k = 1 ∨ k = 2 ∨ k = 3 ∨ k = 4 := by omega
    clear hkg
    rcases hk with rfl | rfl | rfl | rfl | rfl
    · have M : MI o w lb b t rb rl e A w.heap.size q0 q1 q2 q3 wr o' := HM.out
      clear HM
      have hkid := lpKids_any M.ls hS ht q0 a0 a1 a2 a3 KA.out.1
      have HM : Hid (MI o w lb b t rb rl e A w.heap.size q0 q1 q2 q3 wr o') := M
      obtain ⟨⟨g, _, _, _⟩, _⟩ := M.q.cells
      clear M
      go_wp2_with fail
      refine hkid.mono ?_
      rintro r w2 ⟨rfl, hkp⟩
      obtain ⟨o2, M2⟩ := HM.out.kp hkp
      obtain ⟨⟨g, _, _, _⟩, z, _, _, _⟩ := M2.q.cells
      have HM2 : Hid (MI o w lb b t rb rl e A w.heap.size q0 q1 q2 q3 w2 o2) := M2
      obtain ⟨_, _, _, ix⟩ := idx_four a0 a1 a2 a3
      clear M2 hkp
      unfold quad4
      go_wp2_with fail
      go_roundg (gk - 1)
      case measure => have := HI.out; omega
      case rel => exact ⟨1, by have := HI.out; omega, by go_num, o2, HM2.out.set 0 _ a3 q1 q2 q3 (Go.Joins.block_setCell HM2.out.q _)⟩
    · have M : MI o w lb b t rb rl e A w.heap.size a3 q1 q2 q3 wr o' := HM.out
      clear HM
      have hkid := lpKids_any M.ls hS ht q1 b0 b1 b2 b3 KA.out.2.1
      have HM : Hid (MI o w lb b t rb rl e A w.heap.size a3 q1 q2 q3 wr o') := M
      obtain ⟨⟨_, g, _, _⟩, _⟩ := M.q.cells
      clear M
      go_wp2_with fail
      refine hkid.mono ?_
      rintro r w2 ⟨rfl, hkp⟩
      obtain ⟨o2, M2⟩ := HM.out.kp hkp
      obtain ⟨⟨_, g, _, _⟩, _, z, _, _⟩ := M2.q.cells
      have HM2 : Hid (MI o w lb b t rb rl e A w.heap.size a3 q1 q2 q3 w2 o2) := M2
      obtain ⟨_, _, ix, _⟩ := idx_four b0 b1 b2 b3
      clear M2 hkp
      unfold quad4
      go_wp2_with fail
      go_roundg (gk - 1)
      case measure => have := HI.out; omega
      case rel => exact ⟨2, by have := HI.out; omega, by go_num, o2, HM2.out.set 1 _ a3 b2 q2 q3 (Go.Joins.block_setCell HM2.out.q _)⟩
    · have M : MI o w lb b t rb rl e A w.heap.size a3 b2 q2 q3 wr o' := HM.out
      clear HM
      have hkid := lpKids_any M.ls hS ht q2 c0 c1 c2 c3 KA.out.2.2.1
      have HM : Hid (MI o w lb b t rb rl e A w.heap.size a3 b2 q2 q3 wr o') := M
      obtain ⟨⟨_, _, g, _⟩, _⟩ := M.q.cells
      clear M
      go_wp2_with fail
      refine hkid.mono ?_
      rintro r w2 ⟨rfl, hkp⟩
      obtain ⟨o2, M2⟩ := HM.out.kp hkp
      obtain ⟨⟨_, _, g, _⟩, _, _, z, _⟩ := M2.q.cells
      have HM2 : Hid (MI o w lb b t rb rl e A w.heap.size a3 b2 q2 q3 w2 o2) := M2
      obtain ⟨_, ix, _, _⟩ := idx_four c0 c1 c2 c3
      clear M2 hkp
      unfold quad4
      go_wp2_with fail
      go_roundg (gk - 1)
      case measure => have := HI.out; omega
      case rel => exact ⟨3, by have := HI.out; omega, by go_num, o2, HM2.out.set 2 _ a3 b2 c1 q3 (Go.Joins.block_setCell HM2.out.q _)⟩
    · have M : MI o w lb b t rb rl e A w.heap.size a3 b2 c1 q3 wr o' := HM.out
      clear HM
      have hkid := lpKids_any M.ls hS ht q3 d0 d1 d2 d3 KA.out.2.2.2.1
      have HM : Hid (MI o w lb b t rb rl e A w.heap.size a3 b2 c1 q3 wr o') := M
      obtain ⟨⟨_, _, _, g⟩, _⟩ := M.q.cells
      clear M
      go_wp2_with fail
      refine hkid.mono ?_
      rintro r w2 ⟨rfl, hkp⟩
      obtain ⟨o2, M2⟩ := HM.out.kp hkp
      obtain ⟨⟨_, _, _, g⟩, _, _, _, z⟩ := M2.q.cells
      have HM2 : Hid (MI o w lb b t rb rl e A w.heap.size a3 b2 c1 q3 w2 o2) := M2
      obtain ⟨ix, _, _, _⟩ := idx_four d0 d1 d2 d3
      clear M2 hkp
      unfold quad4
      go_wp2_with fail
      go_roundg (gk - 1)
      case measure => have := HI.out; omega
      case rel => exact ⟨4, by have := HI.out; omega, by go_num, o2, HM2.out.set 3 _ a3 b2 c1 d0 (Go.Joins.block_setCell HM2.out.q _)⟩
    · have M : MI o w lb b t rb rl e A w.heap.size a3 b2 c1 d0 wr o' := HM.out
      have hj := lpJoin_any M.ls hS ht a3 b2 c1 d0 KA.out.2.2.2.2
      unfold quad4 at hj
      have HC : Hid (Ch AL o w o' wr) := M.ch
      obtain ⟨⟨g0, g1, g2, g3⟩, _⟩ := M.q.cells
      clear HM M
      go_wp2_with fail
      refine hj.mono ?_
      rintro r w2 ⟨rfl, hkp⟩
      go_wp2_with fail
      go_ret
      exact ⟨rfl, Kp.trans HC.out hkp⟩
end Go.Proofs.YtofbcngcblleaaaGreat.A
