/- rule.Good. -/
import Derived.Test.YtofbcngcblleaabGreatArBud
import Derived.BigRegion
namespace Go.Proofs.YtofbcngcblleaabGreat.A
open Go.RowKit Go.Proofs.YtofbcngcblleaabGreat.L
variable {w w1 : World} {o : Nat → Nat} {lb b t : Nat} {rb rl e : Int} {A : Ar}
theorem Kp.trans {w2 : World} {o1 : Nat → Nat} {e' : Int} {A' : Ar} (k : Ch AL o w o1 w1) (h : Kp o1 w1 lb b t rb rl e' A' w2) : Kp o w lb b t rb rl e' A' w2 := by
  obtain ⟨o2, h1, h2⟩ := h
  exact ⟨o2, h1, k.trans h2⟩
def KidR (e : Int) (A : Ar) (t : Nat) (id : Int) (k : Int × Int × Int × Int) : Prop := (e = 0 ∧ Fits id ∧ QV (view A t) id = some k) ∨ (e ≠ 0 ∧ k = (0, 0, 0, 0))
theorem lpKids_any (h : LS w o lb b t rb rl e A) (hS : Sound A) (ht : t < 64) (id : Int) (k0 k1 k2 k3 : Int) (hk : KidR e A t id (k0, k1, k2, k3)) :
    Calls Tryz.prog 106 #[.pointer (some ⟨lb, 0, none⟩), .int .i64 id] w fun r w' => r = .returned (quad4 k0 k1 k2 k3) ∧ Kp o w lb b t rb rl e A w' := by
  rcases hk with ⟨rfl, h1, h2⟩ | ⟨h1, h2⟩
  · exact lpKids_ok h hS ht id h1 k0 k1 k2 k3 h2
  · simp only [Prod.mk.injEq] at h2
    obtain ⟨rfl, rfl, rfl, rfl⟩ := h2
    exact lpKids_dead h h1 id
def jn (e : Int) (A : Ar) (t : Nat) (q0 q1 q2 q3 : Int) : Ar × Int × Int := if e = 0 then A.joinP t q0 q1 q2 q3 else (A, 0, e)
theorem lpJoin_any (h : LS w o lb b t rb rl e A) (hS : Sound A) (ht : t < 64) (q0 q1 q2 q3 : Int) (hf : e = 0 → Fits q0 ∧ Fits q1 ∧ Fits q2 ∧ Fits q3) :
    Calls Tryz.prog 100 #[.pointer (some ⟨lb, 0, none⟩), quad4 q0 q1 q2 q3] w fun r w' => r = .returned (.int .i64 (jn e A t q0 q1 q2 q3).2.1) ∧ Kp o w lb b t rb rl (jn e A t q0 q1 q2 q3).2.2 (jn e A t q0 q1 q2 q3).1 w' := by
  unfold jn
  by_cases he : e = 0
  · subst he
    rw [if_pos rfl]
    obtain ⟨f0, f1, f2, f3⟩ := hf rfl
    exact lpJoin_ok h hS ht q0 q1 q2 q3 f0 f1 f2 f3
  · rw [if_neg he]
    exact lpJoin_dead h he q0 q1 q2 q3
def Q4 (w : World) (qb : Nat) (a b c d : Int) : Prop := w.heap[qb]? = some (.cells #[.int .i64 a, .int .i64 b, .int .i64 c, .int .i64 d] 41 (0, 0))
theorem Q4.cells {qb : Nat} {a b c d : Int} (h : Q4 w qb a b c d) : (w.cell? ⟨qb, 0, none⟩ = some (.int .i64 a) ∧ w.cell? ⟨qb, 1, none⟩ = some (.int .i64 b) ∧ w.cell? ⟨qb, 2, none⟩ = some (.int .i64 c) ∧ w.cell? ⟨qb, 3, none⟩ = some (.int .i64 d)) ∧ (w.frozen? ⟨qb, 0, none⟩ = false ∧ w.frozen? ⟨qb, 1, none⟩ = false ∧ w.frozen? ⟨qb, 2, none⟩ = false ∧ w.frozen? ⟨qb, 3, none⟩ = false) :=
  ⟨⟨Lib.cell_of_heap h 0, Lib.cell_of_heap h 1, Lib.cell_of_heap h 2, Lib.cell_of_heap h 3⟩, Lib.frozen_of_heap h 0, Lib.frozen_of_heap h 1, Lib.frozen_of_heap h 2, Lib.frozen_of_heap h 3⟩
theorem Q4.lt {qb : Nat} {a b c d : Int} (h : Q4 w qb a b c d) : qb < w.heap.size := (Array.getElem?_eq_some_iff.1 h).1
theorem Q4.ch {qb : Nat} {a b c d : Int} {o1 : Nat → Nat} (h : Q4 w qb a b c d) (hl : o qb = 0) (k : Ch AL o w o1 w1) : Q4 w1 qb a b c d ∧ o1 qb = 0 :=
  ⟨(k.at h.lt hl (by unfold AL; omega)).1.trans h, (k.at h.lt hl (by unfold AL; omega)).2⟩
structure MI (o1 : Nat → Nat) (W : World) (lb b t : Nat) (rb rl e : Int) (A : Ar) (qb : Nat) (x0 x1 x2 x3 : Int) (w : World) (o : Nat → Nat) : Prop where
  ls : LS w o lb b t rb rl e A
  ch : Ch AL o1 W o w
  q : Q4 w qb x0 x1 x2 x3
  lab : o qb = 0
  new : W.heap.size ≤ qb
theorem MI.kp {o1 : Nat → Nat} {W : World} {qb : Nat} {x0 x1 x2 x3 : Int} (h : MI o1 W lb b t rb rl e A qb x0 x1 x2 x3 w o) (k : Kp o w lb b t rb rl e A w1) : ∃ o', MI o1 W lb b t rb rl e A qb x0 x1 x2 x3 w1 o' := by
  obtain ⟨o', h1, h2⟩ := k
  obtain ⟨q1, q2⟩ := h.q.ch h.lab h2
  exact ⟨o', h1, h.ch.trans h2, q1, q2, h.new⟩
theorem MI.set {o1 : Nat → Nat} {W : World} {qb : Nat} {x0 x1 x2 x3 : Int} (h : MI o1 W lb b t rb rl e A qb x0 x1 x2 x3 w o) (i : Nat) (v : Int) (y0 y1 y2 y3 : Int) (hq : Q4 (w.setCell ⟨qb, i, none⟩ (.int .i64 v)) qb y0 y1 y2 y3) : MI o1 W lb b t rb rl e A qb y0 y1 y2 y3 (w.setCell ⟨qb, i, none⟩ (.int .i64 v)) o := by
  refine ⟨h.ls.ch (Ch.set (L := fun l => l = 0) o w ⟨qb, i, none⟩ _ h.lab) (fun l hl => by unfold AL; omega), ?_, hq, h.lab, h.new⟩
  exact ⟨h.ch.os, h.ch.tape, h.ch.output, by simpa [World.setCell] using h.ch.size, h.ch.lab, fun k hk hn => (Below.heap_setCell _ _ _ _ (by have := h.new; show k ≠ qb; omega)).trans (h.ch.block k hk hn)⟩
theorem idx_four (a b c d : Int) : (∀ w, (Instr.index 41 (.agg #[.int .i64 a, .int .i64 b, .int .i64 c, .int .i64 d]) (.int .i64 0)).run Tryz.prog w = .ok (.int .i64 a) w) ∧ (∀ w, (Instr.index 41 (.agg #[.int .i64 a, .int .i64 b, .int .i64 c, .int .i64 d]) (.int .i64 1)).run Tryz.prog w = .ok (.int .i64 b) w) ∧ (∀ w, (Instr.index 41 (.agg #[.int .i64 a, .int .i64 b, .int .i64 c, .int .i64 d]) (.int .i64 2)).run Tryz.prog w = .ok (.int .i64 c) w) ∧ (∀ w, (Instr.index 41 (.agg #[.int .i64 a, .int .i64 b, .int .i64 c, .int .i64 d]) (.int .i64 3)).run Tryz.prog w = .ok (.int .i64 d) w) :=
  ⟨fun _ => by kernel_rfl, fun _ => by kernel_rfl, fun _ => by kernel_rfl, fun _ => by kernel_rfl⟩
def kf (k i : Nat) (m q : Int) : Int := if i < k then m else q
set_option maxRecDepth 20000 in
set_option maxHeartbeats 2000000 in
theorem lpMiddle_any (h : LS w o lb b t rb rl e A) (hS : Sound A) (ht : t < 64) (q0 q1 q2 q3 a0 a1 a2 a3 b0 b1 b2 b3 c0 c1 c2 c3 d0 d1 d2 d3 : Int)
    (ka : KidR e A t q0 (a0, a1, a2, a3)) (kb : KidR e A t q1 (b0, b1, b2, b3)) (kc : KidR e A t q2 (c0, c1, c2, c3)) (kd : KidR e A t q3 (d0, d1, d2, d3)) (hf : e = 0 → Fits a3 ∧ Fits b2 ∧ Fits c1 ∧ Fits d0) :
    Calls Tryz.prog 102 #[.pointer (some ⟨lb, 0, none⟩), quad4 q0 q1 q2 q3] w fun r w' => r = .returned (.int .i64 (jn e A t a3 b2 c1 d0).2.1) ∧ Kp o w lb b t rb rl (jn e A t a3 b2 c1 d0).2.2 (jn e A t a3 b2 c1 d0).1 w' := by
  have hbx : Below w.heap.size w (w.alloc (.cells #[.int .i64 q0, .int .i64 q1, .int .i64 q2, .int .i64 q3] 41)) := (Below.refl _ _).alloc (Nat.le_refl _) _
  have M0 : Hid (MI o w lb b t rb rl e A w.heap.size q0 q1 q2 q3 (w.alloc (.cells #[.int .i64 q0, .int .i64 q1, .int .i64 q2, .int .i64 q3] 41)) (ext o w.heap.size 0)) := ⟨h.below hbx, Ch.ofBelow hbx 0, heap_alloc_new w _, ext_new (Nat.le_refl _), Nat.le_refl _⟩
  have KA : Hid (KidR e A t q0 (a0, a1, a2, a3) ∧ KidR e A t q1 (b0, b1, b2, b3) ∧ KidR e A t q2 (c0, c1, c2, c3) ∧ KidR e A t q3 (d0, d1, d2, d3) ∧ (e = 0 → Fits a3 ∧ Fits b2 ∧ Fits c1 ∧ Fits d0)) := ⟨ka, kb, kc, kd, hf⟩
  clear h hbx ka kb kc kd hf
  unfold quad4
  go_enter Tryz.func102, Tryz.ntmps102
  go_wp2_with fail
  go_loopg [6] 4 (fun g s6 wr => ∃ k : Nat, k + g = 4 ∧ s6 = .int .i64 k ∧ ∃ o', MI o w lb b t rb rl e A w.heap.size (kf k 0 a3 q0) (kf k 1 b2 q1) (kf k 2 c1 q2) (kf k 3 d0 q3) wr o')
  case atStart => exact ⟨0, by omega, rfl, _, M0.out⟩
  case round =>
    obtain ⟨k, hkg, rfl, o', M⟩ := hrel
    have HI : Hid (k + gk = 4) := hkg
    have HM : Hid (MI o w lb b t rb rl e A w.heap.size (kf k 0 a3 q0) (kf k 1 b2 q1) (kf k 2 c1 q2) (kf k 3 d0 q3) wr o') := M
    clear M0 M
    have hk : k = 0 ∨ k = 1 ∨ k = 2 ∨ k = 3 ∨ k = 4 := by omega
    clear hkg
    rcases hk with rfl | rfl | rfl | rfl | rfl
    · have M : MI o w lb b t rb rl e A w.heap.size q0 q1 q2 q3 wr o' := HM.out
      clear HM
      have hkid := lpKids_any M.ls hS ht q0 a0 a1 a2 a3 KA.out.1
      have HM : Hid (MI o w lb b t rb rl e A w.heap.size q0 q1 q2 q3 wr o') := M
      obtain ⟨⟨g, _, _, _⟩, _⟩ := M.q.cells
      clear M
      go_wp2_with fail
      refine hkid.mono ?_
      rintro r w2 ⟨rfl, hkp⟩
      obtain ⟨o2, M2⟩ := HM.out.kp hkp
      obtain ⟨⟨g, _, _, _⟩, z, _, _, _⟩ := M2.q.cells
      have HM2 : Hid (MI o w lb b t rb rl e A w.heap.size q0 q1 q2 q3 w2 o2) := M2
      obtain ⟨_, _, _, ix⟩ := idx_four a0 a1 a2 a3
      clear M2 hkp
      unfold quad4
      go_wp2_with fail
      go_roundg (gk - 1)
      case measure => have := HI.out; omega
      case rel => exact ⟨1, by have := HI.out; omega, by go_num, o2, HM2.out.set 0 _ a3 q1 q2 q3 (Go.Joins.block_setCell HM2.out.q _)⟩
    · have M : MI o w lb b t rb rl e A w.heap.size a3 q1 q2 q3 wr o' := HM.out
      clear HM
      have hkid := lpKids_any M.ls hS ht q1 b0 b1 b2 b3 KA.out.2.1
      have HM : Hid (MI o w lb b t rb rl e A w.heap.size a3 q1 q2 q3 wr o') := M
      obtain ⟨⟨_, g, _, _⟩, _⟩ := M.q.cells
      clear M
      go_wp2_with fail
      refine hkid.mono ?_
      rintro r w2 ⟨rfl, hkp⟩
      obtain ⟨o2, M2⟩ := HM.out.kp hkp
      obtain ⟨⟨_, g, _, _⟩, _, z, _, _⟩ := M2.q.cells
      have HM2 : Hid (MI o w lb b t rb rl e A w.heap.size a3 q1 q2 q3 w2 o2) := M2
      obtain ⟨_, _, ix, _⟩ := idx_four b0 b1 b2 b3
      clear M2 hkp
      unfold quad4
      go_wp2_with fail
      go_roundg (gk - 1)
      case measure => have := HI.out; omega
      case rel => exact ⟨2, by have := HI.out; omega, by go_num, o2, HM2.out.set 1 _ a3 b2 q2 q3 (Go.Joins.block_setCell HM2.out.q _)⟩
    · have M : MI o w lb b t rb rl e A w.heap.size a3 b2 q2 q3 wr o' := HM.out
      clear HM
      have hkid := lpKids_any M.ls hS ht q2 c0 c1 c2 c3 KA.out.2.2.1
      have HM : Hid (MI o w lb b t rb rl e A w.heap.size a3 b2 q2 q3 wr o') := M
      obtain ⟨⟨_, _, g, _⟩, _⟩ := M.q.cells
      clear M
      go_wp2_with fail
      refine hkid.mono ?_
      rintro r w2 ⟨rfl, hkp⟩
      obtain ⟨o2, M2⟩ := HM.out.kp hkp
      obtain ⟨⟨_, _, g, _⟩, _, _, z, _⟩ := M2.q.cells
      have HM2 : Hid (MI o w lb b t rb rl e A w.heap.size a3 b2 q2 q3 w2 o2) := M2
      obtain ⟨_, ix, _, _⟩ := idx_four c0 c1 c2 c3
      clear M2 hkp
      unfold quad4
      go_wp2_with fail
      go_roundg (gk - 1)
      case measure => have := HI.out; omega
      case rel => exact ⟨3, by have := HI.out; omega, by go_num, o2, HM2.out.set 2 _ a3 b2 c1 q3 (Go.Joins.block_setCell HM2.out.q _)⟩
    · have M : MI o w lb b t rb rl e A w.heap.size a3 b2 c1 q3 wr o' := HM.out
      clear HM
      have hkid := lpKids_any M.ls hS ht q3 d0 d1 d2 d3 KA.out.2.2.2.1
      have HM : Hid (MI o w lb b t rb rl e A w.heap.size a3 b2 c1 q3 wr o') := M
      obtain ⟨⟨_, _, _, g⟩, _⟩ := M.q.cells
      clear M
      go_wp2_with fail
      refine hkid.mono ?_
      rintro r w2 ⟨rfl, hkp⟩
      obtain ⟨o2, M2⟩ := HM.out.kp hkp
      obtain ⟨⟨_, _, _, g⟩, _, _, _, z⟩ := M2.q.cells
      have HM2 : Hid (MI o w lb b t rb rl e A w.heap.size a3 b2 c1 q3 w2 o2) := M2
      obtain ⟨ix, _, _, _⟩ := idx_four d0 d1 d2 d3
      clear M2 hkp
      unfold quad4
      go_wp2_with fail
      go_roundg (gk - 1)
      case measure => have := HI.out; omega
      case rel => exact ⟨4, by have := HI.out; omega, by go_num, o2, HM2.out.set 3 _ a3 b2 c1 d0 (Go.Joins.block_setCell HM2.out.q _)⟩
    · have M : MI o w lb b t rb rl e A w.heap.size a3 b2 c1 d0 wr o' := HM.out
      have hj := lpJoin_any M.ls hS ht a3 b2 c1 d0 KA.out.2.2.2.2
      unfold quad4 at hj
      have HC : Hid (Ch AL o w o' wr) := M.ch
      obtain ⟨⟨g0, g1, g2, g3⟩, _⟩ := M.q.cells
      clear HM M
      go_wp2_with fail
      refine hj.mono ?_
      rintro r w2 ⟨rfl, hkp⟩
      go_wp2_with fail
      go_ret
      exact ⟨rfl, Kp.trans HC.out hkp⟩
end Go.Proofs.YtofbcngcblleaabGreat.A

namespace Go.Proofs.YtofbcngcblleaabGreat.A
open Go.RowKit Go.Proofs.YtofbcngcblleaabGreat.L
theorem bits_one (a : Int) : bits .and .i64 a 1 = a % 2 := by
  have h : (BitVec.ofInt 64 a &&& BitVec.ofInt 64 1).toNat = (a % 2).toNat := by
    rw [BitVec.toNat_and, BitVec.toNat_ofInt, BitVec.toNat_ofInt]
    rw [show ((1 : Int) % ((2 ^ 64 : Nat) : Int)).toNat = 1 by decide, Nat.and_one_is_mod]
    have e : ((2 ^ 64 : Nat) : Int) = 18446744073709551616 := by decide
    rw [e]
    omega
  show IntKind.i64.wrap ((BitVec.ofInt 64 a &&& BitVec.ofInt 64 1).toNat : Int) = a % 2
  rw [h]
  obtain h | h : a % 2 = 0 ∨ a % 2 = 1 := by omega
  all_goals rw [h]; decide
def hasB (x : Int) (n : Nat) : Bool := decide (x / 2 ^ n % 2 = 1)
set_option maxHeartbeats 400000 in
theorem has_any (x : Int) (n : Nat) (w : World) (hn : n ≤ 8) : Calls Tryz.prog 38 #[.int .i64 x, .int .i64 n] w fun e w' => e = .returned (.bool (hasB x n)) ∧ w' = w := by
  go_enter Tryz.func38, Tryz.ntmps38
  go_wp2
  go_ret
  rw [bits_one]
  refine ⟨?_, rfl⟩
  by_cases h : x / 2 ^ n % 2 = 1 <;> simp [hasB, h]
def livesB (b l : Int) (now : Bool) (n : Int) : Bool := if n < 0 ∨ n > 8 then false else if now then hasB l n.toNat else hasB b n.toNat
set_option maxHeartbeats 400000 in
theorem lives_any (b l : Int) (now : Bool) (n : Int) (w : World) : Calls Tryz.prog 107 #[.agg #[.int .i64 b, .int .i64 l], .bool now, .int .i64 n] w fun e w' => e = .returned (.bool (livesB b l now n)) ∧ Below w.heap.size w w' := by
  by_cases h0 : n < 0
  · go_enter Tryz.func107, Tryz.ntmps107
    go_wp2
    go_ret
    exact ⟨by simp [livesB, h0], (Below.refl _ _).alloc (Nat.le_refl _) _⟩
  · by_cases h8 : n > 8
    · go_enter Tryz.func107, Tryz.ntmps107
      go_wp2
      go_ret
      exact ⟨by simp [livesB, h8], (Below.refl _ _).alloc (Nat.le_refl _) _⟩
    · obtain ⟨m, rfl⟩ := Int.eq_ofNat_of_zero_le (show 0 ≤ n by omega)
      have e : livesB b l now m = if now then hasB l m else hasB b m := by unfold livesB; rw [if_neg (by omega)]; simp
      rw [e]
      cases now
      · go_enter Tryz.func107, Tryz.ntmps107
        go_wp2_with fail
        refine (has_any b m _ (by omega)).mono ?_
        rintro e w' ⟨rfl, hw⟩
        have hw2 := hw.symm
        subst hw2
        go_wp2_with fail
        go_ret
        exact ⟨rfl, (Below.refl _ _).alloc (Nat.le_refl _) _⟩
      · go_enter Tryz.func107, Tryz.ntmps107
        go_wp2_with fail
        refine (has_any l m _ (by omega)).mono ?_
        rintro e w' ⟨rfl, hw⟩
        have hw2 := hw.symm
        subst hw2
        go_wp2_with fail
        go_ret
        exact ⟨rfl, (Below.refl _ _).alloc (Nat.le_refl _) _⟩
end Go.Proofs.YtofbcngcblleaabGreat.A

namespace Go.Proofs.YtofbcngcblleaabGreat.A
open Go.RowKit Go.Proofs.YtofbcngcblleaabGreat.L
variable {w : World}
set_option maxRecDepth 20000 in
set_option maxHeartbeats 2000000 in
theorem window_any (pb o0 o1 n x : Nat) (hx : x + 1 < n) (hn : n ≤ 4) (a b c d : Int) (hl : pb < w.heap.size) (ha : w.cell? ⟨pb, o0 + x, none⟩ = some (.int .i64 a)) (hb : w.cell? ⟨pb, o0 + (x + 1), none⟩ = some (.int .i64 b)) (hc : w.cell? ⟨pb, o1 + x, none⟩ = some (.int .i64 c)) (hd : w.cell? ⟨pb, o1 + (x + 1), none⟩ = some (.int .i64 d)) :
    Calls Tryz.prog 101 #[.slice (some ⟨pb, o0, none⟩) n n, .slice (some ⟨pb, o1, none⟩) n n, .int .i64 x] w fun r w' => r = .returned (quad4 a b c d) ∧ Below w.heap.size w w' := by
  have hbx : Below w.heap.size w (w.alloc (.cells #[.int .i64 0, .int .i64 0, .int .i64 0, .int .i64 0] 41)) := (Below.refl _ _).alloc (Nat.le_refl _) _
  have Q : Hid (Q4 (w.alloc (.cells #[.int .i64 0, .int .i64 0, .int .i64 0, .int .i64 0] 41)) w.heap.size 0 0 0 0 ∧ Below w.heap.size w (w.alloc (.cells #[.int .i64 0, .int .i64 0, .int .i64 0, .int .i64 0] 41))) := ⟨heap_alloc_new w _, hbx⟩
  have ka := (hbx.cell (p := ⟨pb, o0 + x, none⟩) hl).trans ha
  have kb := (hbx.cell (p := ⟨pb, o0 + (x + 1), none⟩) hl).trans hb
  have kc := (hbx.cell (p := ⟨pb, o1 + x, none⟩) hl).trans hc
  have kd := (hbx.cell (p := ⟨pb, o1 + (x + 1), none⟩) hl).trans hd
  obtain ⟨⟨r0, r1, r2, r3⟩, z0, z1, z2, z3⟩ := Q.out.1.cells
  generalize hW : w.alloc (.cells #[.int .i64 0, .int .i64 0, .int .i64 0, .int .i64 0] 41) = W at *
  clear ha hb hc hd hbx
  go_enter Tryz.func101, Tryz.ntmps101
  go_wp2_with fail
  (try rw [hW])
  clear hW
  go_region
  all_goals
    go_wp2_with fail
    have hQ : Q4 ((((W.setCell ⟨w.heap.size, 0, none⟩ (.int .i64 a)).setCell ⟨w.heap.size, 1, none⟩ (.int .i64 b)).setCell ⟨w.heap.size, 2, none⟩ (.int .i64 c)).setCell ⟨w.heap.size, 3, none⟩ (.int .i64 d)).drew w.heap.size a b c d := Go.Joins.block_setCell (Go.Joins.block_setCell (Go.Joins.block_setCell (Go.Joins.block_setCell Q.out.1 _) _) _) _
    refine bodyPost_ret (v := quad4 a b c d) ?_ rfl ⟨rfl, ((((Q.out.2.setCell (p := ⟨w.heap.size, 0, none⟩) (Nat.le_refl _) _).setCell (p := ⟨w.heap.size, 1, none⟩) (Nat.le_refl _) _).setCell (p := ⟨w.heap.size, 2, none⟩) (Nat.le_refl _) _).setCell (p := ⟨w.heap.size, 3, none⟩) (Nat.le_refl _) _).drew⟩
    simp [results, Tryz.results101, go_sem, Lib.cell_of_heap (show _ = _ from hQ), quad4]
end Go.Proofs.YtofbcngcblleaabGreat.A

namespace Go.Proofs.YtofbcngcblleaabGreat.A
open Go.RowKit Go.Proofs.YtofbcngcblleaabGreat.L
def withinB (x : Int) : Bool := decide (0 ≤ x) && decide (x < 512)
def goodB (b l : Int) : Bool := withinB b && withinB l && !hasB b 0
set_option maxHeartbeats 400000 in
theorem within_any (x : Int) (w : World) : Calls Tryz.prog 37 #[.int .i64 x] w fun e w' => e = .returned (.bool (withinB x)) ∧ w' = w := by
  by_cases h0 : 0 ≤ x
  · by_cases h1 : x < 512
    · go_enter Tryz.func37, Tryz.ntmps37
      go_wp2
      go_ret
      exact ⟨by simp [withinB, h0, h1], rfl⟩
    · go_enter Tryz.func37, Tryz.ntmps37
      go_wp2
      go_ret
      exact ⟨by simp [withinB, h1], rfl⟩
  · go_enter Tryz.func37, Tryz.ntmps37
    go_wp2
    go_ret
    exact ⟨by simp [withinB]; omega, rfl⟩
set_option maxHeartbeats 1000000 in
theorem good_any (b l : Int) (w : World) : Calls Tryz.prog 20 #[.agg #[.int .i64 b, .int .i64 l]] w fun e w' => e = .returned (.bool (goodB b l)) ∧ Below w.heap.size w w' := by
  have hw1 := fun W => within_any b W
  have hw2 := fun W => within_any l W
  have hw3 := fun W => has_any b 0 W (by omega)
  have hg : goodB b l = (withinB b && withinB l && !hasB b 0) := rfl
  generalize goodB b l = g at hg
  generalize withinB b = p at *
  generalize withinB l = q at *
  generalize hasB b 0 = r at *
  cases p <;> cases q <;> cases r
  all_goals
    simp at hg
    subst hg
    go_enter Tryz.func20, Tryz.ntmps20
    go_wp2_with (first | (go_at_call_of 37 b; refine (hw1 _).mono ?_; rintro e w' ⟨rfl, hw⟩; have hw2 := hw.symm; subst hw2) | (go_at_call 37; refine (hw2 _).mono ?_; rintro e w' ⟨rfl, hw⟩; have hw2 := hw.symm; subst hw2) | (go_at_call 38; refine (hw3 _).mono ?_; rintro e w' ⟨rfl, hw⟩; have hw2 := hw.symm; subst hw2))
  all_goals go_ret
  all_goals exact ⟨rfl, (Below.refl _ _).alloc (Nat.le_refl _) _⟩
end Go.Proofs.YtofbcngcblleaabGreat.A
