/- A leaper's step: the four cells in the middle of sixteen, one step later. -/
import Derived.Test.YtofbcngcblleaabGreatLpGrid
import Derived.Test.YtofbcngcblleaabGreatLpGood
namespace Go.Proofs.YtofbcngcblleaabGreat.A
open Go.RowKit Go.Proofs.YtofbcngcblleaabGreat.L
variable {w w1 W : World} {o o1 : Nat → Nat} {lb b t : Nat} {rb rl e : Int} {A : Ar} {f : Nat → Int} {cb qb : Nat} {x0 x1 x2 x3 : Int}
structure SI (o1 : Nat → Nat) (W : World) (lb b t : Nat) (rb rl e : Int) (A : Ar) (cb qb : Nat) (f : Nat → Int) (x0 x1 x2 x3 : Int) (w : World) (o : Nat → Nat) : Prop where
  ls : LS w o lb b t rb rl e A
  ch : Ch AL o1 W o w
  c : G16 w cb f
  q : Q4 w qb x0 x1 x2 x3
  lc : o cb = 0
  lq : o qb = 0
  nc : W.heap.size ≤ cb
  nq : W.heap.size ≤ qb
  ne : cb ≠ qb
theorem SI.below (h : SI o1 W lb b t rb rl e A cb qb f x0 x1 x2 x3 w o) (hb : Below w.heap.size w w1) : SI o1 W lb b t rb rl e A cb qb f x0 x1 x2 x3 w1 (ext o w.heap.size 0) :=
  ⟨h.ls.below hb, h.ch.trans (Ch.ofBelow hb 0), (hb.block cb h.c.lt).trans h.c, (hb.block qb h.q.lt).trans h.q, by rw [ext_old h.c.lt]; exact h.lc, by rw [ext_old h.q.lt]; exact h.lq, h.nc, h.nq, h.ne⟩
theorem SI.set {y0 y1 y2 y3 : Int} (h : SI o1 W lb b t rb rl e A cb qb f x0 x1 x2 x3 w o) (i : Nat) (v : Int) (hq : Q4 (w.setCell ⟨qb, i, none⟩ (.int .i64 v)) qb y0 y1 y2 y3) : SI o1 W lb b t rb rl e A cb qb f y0 y1 y2 y3 (w.setCell ⟨qb, i, none⟩ (.int .i64 v)) o := by
  refine ⟨h.ls.ch (Ch.set (L := fun l => l = 0) o w ⟨qb, i, none⟩ _ h.lq) (fun l hl => by unfold AL; omega), ?_, (Below.heap_setCell _ _ _ _ h.ne).trans h.c, hq, h.lc, h.lq, h.nc, h.nq, h.ne⟩
  exact ⟨h.ch.os, h.ch.tape, h.ch.output, by simpa [World.setCell] using h.ch.size, h.ch.lab, fun k hk hn => (Below.heap_setCell _ _ _ _ (by have := h.nq; show k ≠ qb; omega)).trans (h.ch.block k hk hn)⟩
def nrow (f : Nat → Int) (p i : Nat) : Int := f (4 * i + p - 5) + f (4 * i + p - 4) + f (4 * i + p - 3)
def nsm (f : Nat → Int) (p : Nat) : Nat → Int
  | 0 => -(f p)
  | i + 1 => nsm f p i + nrow f p i
def stq (rb rl : Int) (f : Nat → Int) (p : Nat) : Int := if livesB rb rl (f p == 1) (nsm f p 3) then 1 else 0
set_option maxRecDepth 20000 in
set_option maxHeartbeats 4000000 in
theorem lpStep_any (h : LS w o lb b t rb rl e A) (hS : Sound A) (ht : t < 64) (f : Nat → Int) (hf : ∀ p, 0 ≤ f p ∧ f p ≤ 1) :
    Calls Tryz.prog 99 #[.pointer (some ⟨lb, 0, none⟩), gridV f] w fun r w' => r = .returned (.int .i64 (jn e A t (stq rb rl f 5) (stq rb rl f 6) (stq rb rl f 9) (stq rb rl f 10)).2.1) ∧ Kp o w lb b t rb rl (jn e A t (stq rb rl f 5) (stq rb rl f 6) (stq rb rl f 9) (stq rb rl f 10)).2.2 (jn e A t (stq rb rl f 5) (stq rb rl f 6) (stq rb rl f 9) (stq rb rl f 10)).1 w' := by
  have hbx : Below w.heap.size w ((w.alloc (.cells (Sx f) 148)).alloc (.cells #[.int .i64 0, .int .i64 0, .int .i64 0, .int .i64 0] 41)) := ((Below.refl _ _).alloc (Nat.le_refl _) _).alloc (by simp) _
  have M0 : Hid (SI o w lb b t rb rl e A w.heap.size (w.heap.size + 1) f 0 0 0 0 ((w.alloc (.cells (Sx f) 148)).alloc (.cells #[.int .i64 0, .int .i64 0, .int .i64 0, .int .i64 0] 41)) (ext o w.heap.size 0)) := ⟨h.below hbx, Ch.ofBelow hbx 0, heap_alloc2_old w _ _, heap_alloc2_new w _ _, ext_new (Nat.le_refl _), ext_new (by omega), Nat.le_refl _, by omega, by omega⟩
  have hqf : ∀ p, Fits (stq rb rl f p) := fun p => by unfold stq; split <;> (unfold Fits; omega)
  have HJ : Hid (∀ p, Fits (stq rb rl f p)) := hqf
  have HF : Hid (∀ p, 0 ≤ f p ∧ f p ≤ 1) := hf
  have HN : Hid (∀ p i, -1 ≤ nsm f p i ∧ nsm f p i ≤ 3 * i) := fun p i => by
    induction i with
    | zero => have := hf p; simp only [nsm]; omega
    | succ i ih => have h1 := hf (4 * i + p - 5); have h2 := hf (4 * i + p - 4); have h3 := hf (4 * i + p - 3); simp only [nsm, nrow]; omega
  clear h hbx hqf hf
  unfold gridV Sx
  go_enter Tryz.func99, Tryz.ntmps99
  go_wp2_with fail
  go_loopg [12] 4 (fun g s12 wr => ∃ k : Nat, k + g = 4 ∧ s12 = .int .i64 k ∧ ∃ o', SI o w lb b t rb rl e A w.heap.size (w.heap.size + 1) f (kf k 0 (stq rb rl f 5) 0) (kf k 1 (stq rb rl f 6) 0) (kf k 2 (stq rb rl f 9) 0) (kf k 3 (stq rb rl f 10) 0) wr o')
  case atStart => exact ⟨0, by omega, rfl, _, M0.out⟩
  case round =>
    clear M0
    obtain ⟨k, hkg, rfl, o', M⟩ := hrel
    obtain ⟨GK, hGK⟩ : ∃ a, a = gk := ⟨_, rfl⟩
    subst hGK
    have HI : Hid (k + GK = 4) := hkg
    have HM : Hid (SI o w lb b t rb rl e A w.heap.size (w.heap.size + 1) f (kf k 0 (stq rb rl f 5) 0) (kf k 1 (stq rb rl f 6) 0) (kf k 2 (stq rb rl f 9) 0) (kf k 3 (stq rb rl f 10) 0) wr o') := M
    clear M
    have hk : k = 0 ∨ k = 1 ∨ k = 2 ∨ k = 3 ∨ k = 4 := by omega
    clear hkg
    rcases hk with rfl | rfl | rfl | rfl | rfl
    · have M : SI o w lb b t rb rl e A w.heap.size (w.heap.size + 1) f 0 0 0 0 wr o' := HM.out
      clear HM
      have HM : Hid (SI o w lb b t rb rl e A w.heap.size (w.heap.size + 1) f 0 0 0 0 wr o') := M
      have hc := M.c.cell 5 (by omega)
      have hb0 := HF.out 5
      clear M
      go_wp2_with fail
      go_loopg [9, 33] 3 (fun g s9 s33 wr => ∃ i : Nat, i + g = 3 ∧ s33 = .int .i64 i ∧ s9 = .int .i64 (nsm f 5 i) ∧ ∃ o', SI o w lb b t rb rl e A w.heap.size (w.heap.size + 1) f 0 0 0 0 wr o')
      case atStart => exact ⟨0, by omega, rfl, rfl, _, HM.out⟩
      case round =>
        clear HM
        obtain ⟨i, hig, rfl, rfl, o', M⟩ := hrel
        have HK : Hid (i + gk = 3) := hig
        have HM : Hid (SI o w lb b t rb rl e A w.heap.size (w.heap.size + 1) f 0 0 0 0 wr o') := M
        clear M
        have hi : i = 0 ∨ i = 1 ∨ i = 2 ∨ i = 3 := by omega
        clear hig
        rcases hi with rfl | rfl | rfl | rfl
        · have ⟨n1, n2⟩ := HN.out 5 0
          have hc0 := HM.out.c.cell 0 (by omega)
          have hc1 := HM.out.c.cell 1 (by omega)
          have hc2 := HM.out.c.cell 2 (by omega)
          have hc3 := HM.out.c.cell 3 (by omega)
          have ⟨u0, v0⟩ := HF.out 0
          have ⟨u1, v1⟩ := HF.out 1
          have ⟨u2, v2⟩ := HF.out 2
          obtain ⟨m, hm⟩ : ∃ m, m = nsm f 5 0 := ⟨_, rfl⟩
          rw [← hm] at n1 n2 ⊢
          have HE : Hid (m = nsm f 5 0) := hm
          clear hm
          go_wp2_with fail
          go_region
          all_goals
            go_wp2_with fail
            go_roundg (gk - 1)
            case measure => have := HK.out; omega
            case rel => exact ⟨1, by have := HK.out; omega, by go_num, by rw [HE.out]; rfl, _, HM.out.below (by repeat (first | exact Below.refl _ _ | refine Below.drew ?_ | refine Below.setCell ?_ (Nat.le_refl _) _ | refine Below.alloc ?_ (Nat.le_refl _) _))⟩
        · have ⟨n1, n2⟩ := HN.out 5 1
          have hc0 := HM.out.c.cell 4 (by omega)
          have hc1 := HM.out.c.cell 5 (by omega)
          have hc2 := HM.out.c.cell 6 (by omega)
          have hc3 := HM.out.c.cell 7 (by omega)
          have ⟨u0, v0⟩ := HF.out 4
          have ⟨u1, v1⟩ := HF.out 5
          have ⟨u2, v2⟩ := HF.out 6
          obtain ⟨m, hm⟩ : ∃ m, m = nsm f 5 1 := ⟨_, rfl⟩
          rw [← hm] at n1 n2 ⊢
          have HE : Hid (m = nsm f 5 1) := hm
          clear hm
          go_wp2_with fail
          go_region
          all_goals
            go_wp2_with fail
            go_roundg (gk - 1)
            case measure => have := HK.out; omega
            case rel => exact ⟨2, by have := HK.out; omega, by go_num, by rw [HE.out]; rfl, _, HM.out.below (by repeat (first | exact Below.refl _ _ | refine Below.drew ?_ | refine Below.setCell ?_ (Nat.le_refl _) _ | refine Below.alloc ?_ (Nat.le_refl _) _))⟩
        · have ⟨n1, n2⟩ := HN.out 5 2
          have hc0 := HM.out.c.cell 8 (by omega)
          have hc1 := HM.out.c.cell 9 (by omega)
          have hc2 := HM.out.c.cell 10 (by omega)
          have hc3 := HM.out.c.cell 11 (by omega)
          have ⟨u0, v0⟩ := HF.out 8
          have ⟨u1, v1⟩ := HF.out 9
          have ⟨u2, v2⟩ := HF.out 10
          obtain ⟨m, hm⟩ : ∃ m, m = nsm f 5 2 := ⟨_, rfl⟩
          rw [← hm] at n1 n2 ⊢
          have HE : Hid (m = nsm f 5 2) := hm
          clear hm
          go_wp2_with fail
          go_region
          all_goals
            go_wp2_with fail
            go_roundg (gk - 1)
            case measure => have := HK.out; omega
            case rel => exact ⟨3, by have := HK.out; omega, by go_num, by rw [HE.out]; rfl, _, HM.out.below (by repeat (first | exact Below.refl _ _ | refine Below.drew ?_ | refine Below.setCell ?_ (Nat.le_refl _) _ | refine Below.alloc ?_ (Nat.le_refl _) _))⟩
        · have ⟨n1, n2⟩ := HN.out 5 3
          have ⟨u0, v0⟩ := HF.out 5
          have hc := HM.out.c.cell 5 (by omega)
          obtain ⟨⟨q0, q1, q2, q3⟩, z0, z1, z2, z3⟩ := HM.out.q.cells
          obtain ⟨_, _, r2, r3, _, _⟩ := HM.out.ls.cells
          have HQ : Hid (SI o w lb b t rb rl e A w.heap.size (w.heap.size + 1) f 0 0 0 0 (wr.setCell ⟨w.heap.size + 1, 0, none⟩ (.int .i64 0)) o') := HM.out.set 0 0 (Go.Joins.block_setCell HM.out.q _)
          have hne : w.heap.size + 1 ≠ lb := fun e1 => by have := HM.out.ls.lab; have := HM.out.lq; rw [e1] at this; omega
          clear HM
          go_wp2_with fail
          go_region_with (go_at_call 107; refine (lives_any rb rl (f 5 == 1) (nsm f 5 3) _).mono ?_; rintro e w2 ⟨rfl, hb2⟩)
          all_goals
            have HM2 : Hid (SI o w lb b t rb rl e A w.heap.size (w.heap.size + 1) f 0 0 0 0 w2 (ext o' (wr.setCell ⟨w.heap.size + 1, 0, none⟩ (.int .i64 0)).heap.size 0)) := HQ.out.below (below_dr hb2)
            obtain ⟨⟨p0, p1, p2, p3⟩, y0, y1, y2, y3⟩ := HM2.out.q.cells
            clear HQ hc q0 q1 q2 q3 z0 z1 z2 z3
            cases hB : livesB rb rl (f 5 == 1) (nsm f 5 3) with
            | false =>
              have HE : Hid (stq rb rl f 5 = 0) := by unfold stq; rw [hB]; rfl
              clear hB
              go_wp2_with fail
              go_roundg (GK - 1)
              case measure => have := HI.out; omega
              case rel => exact ⟨1, by have := HI.out; omega, by go_num, _, by rw [HE.out]; exact HM2.out⟩
            | true =>
              have HE : Hid (stq rb rl f 5 = 1) := by unfold stq; rw [hB]; rfl
              clear hB
              go_wp2_with fail
              go_roundg (GK - 1)
              case measure => have := HI.out; omega
              case rel => exact ⟨1, by have := HI.out; omega, by go_num, _, by rw [HE.out]; exact HM2.out.set 0 _ (Go.Joins.block_setCell HM2.out.q _)⟩
    · have M : SI o w lb b t rb rl e A w.heap.size (w.heap.size + 1) f (stq rb rl f 5) 0 0 0 wr o' := HM.out
      clear HM
      have HM : Hid (SI o w lb b t rb rl e A w.heap.size (w.heap.size + 1) f (stq rb rl f 5) 0 0 0 wr o') := M
      have hc := M.c.cell 6 (by omega)
      have hb0 := HF.out 6
      clear M
      go_wp2_with fail
      go_loopg [9, 33] 3 (fun g s9 s33 wr => ∃ i : Nat, i + g = 3 ∧ s33 = .int .i64 i ∧ s9 = .int .i64 (nsm f 6 i) ∧ ∃ o', SI o w lb b t rb rl e A w.heap.size (w.heap.size + 1) f (stq rb rl f 5) 0 0 0 wr o')
      case atStart => exact ⟨0, by omega, rfl, rfl, _, HM.out⟩
      case round =>
        clear HM
        obtain ⟨i, hig, rfl, rfl, o', M⟩ := hrel
        have HK : Hid (i + gk = 3) := hig
        have HM : Hid (SI o w lb b t rb rl e A w.heap.size (w.heap.size + 1) f (stq rb rl f 5) 0 0 0 wr o') := M
        clear M
        have hi : i = 0 ∨ i = 1 ∨ i = 2 ∨ i = 3 := by omega
        clear hig
        rcases hi with rfl | rfl | rfl | rfl
        · have ⟨n1, n2⟩ := HN.out 6 0
          have hc0 := HM.out.c.cell 0 (by omega)
          have hc1 := HM.out.c.cell 1 (by omega)
          have hc2 := HM.out.c.cell 2 (by omega)
          have hc3 := HM.out.c.cell 3 (by omega)
          have ⟨u0, v0⟩ := HF.out 1
          have ⟨u1, v1⟩ := HF.out 2
          have ⟨u2, v2⟩ := HF.out 3
          obtain ⟨m, hm⟩ : ∃ m, m = nsm f 6 0 := ⟨_, rfl⟩
          rw [← hm] at n1 n2 ⊢
          have HE : Hid (m = nsm f 6 0) := hm
          clear hm
          go_wp2_with fail
          go_region
          all_goals
            go_wp2_with fail
            go_roundg (gk - 1)
            case measure => have := HK.out; omega
            case rel => exact ⟨1, by have := HK.out; omega, by go_num, by rw [HE.out]; rfl, _, HM.out.below (by repeat (first | exact Below.refl _ _ | refine Below.drew ?_ | refine Below.setCell ?_ (Nat.le_refl _) _ | refine Below.alloc ?_ (Nat.le_refl _) _))⟩
        · have ⟨n1, n2⟩ := HN.out 6 1
          have hc0 := HM.out.c.cell 4 (by omega)
          have hc1 := HM.out.c.cell 5 (by omega)
          have hc2 := HM.out.c.cell 6 (by omega)
          have hc3 := HM.out.c.cell 7 (by omega)
          have ⟨u0, v0⟩ := HF.out 5
          have ⟨u1, v1⟩ := HF.out 6
          have ⟨u2, v2⟩ := HF.out 7
          obtain ⟨m, hm⟩ : ∃ m, m = nsm f 6 1 := ⟨_, rfl⟩
          rw [← hm] at n1 n2 ⊢
          have HE : Hid (m = nsm f 6 1) := hm
          clear hm
          go_wp2_with fail
          go_region
          all_goals
            go_wp2_with fail
            go_roundg (gk - 1)
            case measure => have := HK.out; omega
            case rel => exact ⟨2, by have := HK.out; omega, by go_num, by rw [HE.out]; rfl, _, HM.out.below (by repeat (first | exact Below.refl _ _ | refine Below.drew ?_ | refine Below.setCell ?_ (Nat.le_refl _) _ | refine Below.alloc ?_ (Nat.le_refl _) _))⟩
        · have ⟨n1, n2⟩ := HN.out 6 2
          have hc0 := HM.out.c.cell 8 (by omega)
          have hc1 := HM.out.c.cell 9 (by omega)
          have hc2 := HM.out.c.cell 10 (by omega)
          have hc3 := HM.out.c.cell 11 (by omega)
          have ⟨u0, v0⟩ := HF.out 9
          have ⟨u1, v1⟩ := HF.out 10
          have ⟨u2, v2⟩ := HF.out 11
          obtain ⟨m, hm⟩ : ∃ m, m = nsm f 6 2 := ⟨_, rfl⟩
          rw [← hm] at n1 n2 ⊢
          have HE : Hid (m = nsm f 6 2) := hm
          clear hm
          go_wp2_with fail
          go_region
          all_goals
            go_wp2_with fail
            go_roundg (gk - 1)
            case measure => have := HK.out; omega
            case rel => exact ⟨3, by have := HK.out; omega, by go_num, by rw [HE.out]; rfl, _, HM.out.below (by repeat (first | exact Below.refl _ _ | refine Below.drew ?_ | refine Below.setCell ?_ (Nat.le_refl _) _ | refine Below.alloc ?_ (Nat.le_refl _) _))⟩
        · have ⟨n1, n2⟩ := HN.out 6 3
          have ⟨u0, v0⟩ := HF.out 6
          have hc := HM.out.c.cell 6 (by omega)
          obtain ⟨⟨q0, q1, q2, q3⟩, z0, z1, z2, z3⟩ := HM.out.q.cells
          obtain ⟨_, _, r2, r3, _, _⟩ := HM.out.ls.cells
          have HQ : Hid (SI o w lb b t rb rl e A w.heap.size (w.heap.size + 1) f (stq rb rl f 5) 0 0 0 (wr.setCell ⟨w.heap.size + 1, 1, none⟩ (.int .i64 0)) o') := HM.out.set 1 0 (Go.Joins.block_setCell HM.out.q _)
          have hne : w.heap.size + 1 ≠ lb := fun e1 => by have := HM.out.ls.lab; have := HM.out.lq; rw [e1] at this; omega
          clear HM
          go_wp2_with fail
          go_region_with (go_at_call 107; refine (lives_any rb rl (f 6 == 1) (nsm f 6 3) _).mono ?_; rintro e w2 ⟨rfl, hb2⟩)
          all_goals
            have HM2 : Hid (SI o w lb b t rb rl e A w.heap.size (w.heap.size + 1) f (stq rb rl f 5) 0 0 0 w2 (ext o' (wr.setCell ⟨w.heap.size + 1, 1, none⟩ (.int .i64 0)).heap.size 0)) := HQ.out.below (below_dr hb2)
            obtain ⟨⟨p0, p1, p2, p3⟩, y0, y1, y2, y3⟩ := HM2.out.q.cells
            clear HQ hc q0 q1 q2 q3 z0 z1 z2 z3
            cases hB : livesB rb rl (f 6 == 1) (nsm f 6 3) with
            | false =>
              have HE : Hid (stq rb rl f 6 = 0) := by unfold stq; rw [hB]; rfl
              clear hB
              go_wp2_with fail
              go_roundg (GK - 1)
              case measure => have := HI.out; omega
              case rel => exact ⟨2, by have := HI.out; omega, by go_num, _, by rw [HE.out]; exact HM2.out⟩
            | true =>
              have HE : Hid (stq rb rl f 6 = 1) := by unfold stq; rw [hB]; rfl
              clear hB
              go_wp2_with fail
              go_roundg (GK - 1)
              case measure => have := HI.out; omega
              case rel => exact ⟨2, by have := HI.out; omega, by go_num, _, by rw [HE.out]; exact HM2.out.set 1 _ (Go.Joins.block_setCell HM2.out.q _)⟩
    · have M : SI o w lb b t rb rl e A w.heap.size (w.heap.size + 1) f (stq rb rl f 5) (stq rb rl f 6) 0 0 wr o' := HM.out
      clear HM
      have HM : Hid (SI o w lb b t rb rl e A w.heap.size (w.heap.size + 1) f (stq rb rl f 5) (stq rb rl f 6) 0 0 wr o') := M
      have hc := M.c.cell 9 (by omega)
      have hb0 := HF.out 9
      clear M
      go_wp2_with fail
      go_loopg [9, 33] 3 (fun g s9 s33 wr => ∃ i : Nat, i + g = 3 ∧ s33 = .int .i64 i ∧ s9 = .int .i64 (nsm f 9 i) ∧ ∃ o', SI o w lb b t rb rl e A w.heap.size (w.heap.size + 1) f (stq rb rl f 5) (stq rb rl f 6) 0 0 wr o')
      case atStart => exact ⟨0, by omega, rfl, rfl, _, HM.out⟩
      case round =>
        clear HM
        obtain ⟨i, hig, rfl, rfl, o', M⟩ := hrel
        have HK : Hid (i + gk = 3) := hig
        have HM : Hid (SI o w lb b t rb rl e A w.heap.size (w.heap.size + 1) f (stq rb rl f 5) (stq rb rl f 6) 0 0 wr o') := M
        clear M
        have hi : i = 0 ∨ i = 1 ∨ i = 2 ∨ i = 3 := by omega
        clear hig
        rcases hi with rfl | rfl | rfl | rfl
        · have ⟨n1, n2⟩ := HN.out 9 0
          have hc0 := HM.out.c.cell 4 (by omega)
          have hc1 := HM.out.c.cell 5 (by omega)
          have hc2 := HM.out.c.cell 6 (by omega)
          have hc3 := HM.out.c.cell 7 (by omega)
          have ⟨u0, v0⟩ := HF.out 4
          have ⟨u1, v1⟩ := HF.out 5
          have ⟨u2, v2⟩ := HF.out 6
          obtain ⟨m, hm⟩ : ∃ m, m = nsm f 9 0 := ⟨_, rfl⟩
          rw [← hm] at n1 n2 ⊢
          have HE : Hid (m = nsm f 9 0) := hm
          clear hm
          go_wp2_with fail
          go_region
          all_goals
            go_wp2_with fail
            go_roundg (gk - 1)
            case measure => have := HK.out; omega
            case rel => exact ⟨1, by have := HK.out; omega, by go_num, by rw [HE.out]; rfl, _, HM.out.below (by repeat (first | exact Below.refl _ _ | refine Below.drew ?_ | refine Below.setCell ?_ (Nat.le_refl _) _ | refine Below.alloc ?_ (Nat.le_refl _) _))⟩
        · have ⟨n1, n2⟩ := HN.out 9 1
          have hc0 := HM.out.c.cell 8 (by omega)
          have hc1 := HM.out.c.cell 9 (by omega)
          have hc2 := HM.out.c.cell 10 (by omega)
          have hc3 := HM.out.c.cell 11 (by omega)
          have ⟨u0, v0⟩ := HF.out 8
          have ⟨u1, v1⟩ := HF.out 9
          have ⟨u2, v2⟩ := HF.out 10
          obtain ⟨m, hm⟩ : ∃ m, m = nsm f 9 1 := ⟨_, rfl⟩
          rw [← hm] at n1 n2 ⊢
          have HE : Hid (m = nsm f 9 1) := hm
          clear hm
          go_wp2_with fail
          go_region
          all_goals
            go_wp2_with fail
            go_roundg (gk - 1)
            case measure => have := HK.out; omega
            case rel => exact ⟨2, by have := HK.out; omega, by go_num, by rw [HE.out]; rfl, _, HM.out.below (by repeat (first | exact Below.refl _ _ | refine Below.drew ?_ | refine Below.setCell ?_ (Nat.le_refl _) _ | refine Below.alloc ?_ (Nat.le_refl _) _))⟩
        · have ⟨n1, n2⟩ := HN.out 9 2
          have hc0 := HM.out.c.cell 12 (by omega)
          have hc1 := HM.out.c.cell 13 (by omega)
          have hc2 := HM.out.c.cell 14 (by omega)
          have hc3 := HM.out.c.cell 15 (by omega)
          have ⟨u0, v0⟩ := HF.out 12
          have ⟨u1, v1⟩ := HF.out 13
          have ⟨u2, v2⟩ := HF.out 14
          obtain ⟨m, hm⟩ : ∃ m, m = nsm f 9 2 := ⟨_, rfl⟩
          rw [← hm] at n1 n2 ⊢
          have HE : Hid (m = nsm f 9 2) := hm
          clear hm
          go_wp2_with fail
          go_region
          all_goals
            go_wp2_with fail
            go_roundg (gk - 1)
            case measure => have := HK.out; omega
            case rel => exact ⟨3, by have := HK.out; omega, by go_num, by rw [HE.out]; rfl, _, HM.out.below (by repeat (first | exact Below.refl _ _ | refine Below.drew ?_ | refine Below.setCell ?_ (Nat.le_refl _) _ | refine Below.alloc ?_ (Nat.le_refl _) _))⟩
        · have ⟨n1, n2⟩ := HN.out 9 3
          have ⟨u0, v0⟩ := HF.out 9
          have hc := HM.out.c.cell 9 (by omega)
          obtain ⟨⟨q0, q1, q2, q3⟩, z0, z1, z2, z3⟩ := HM.out.q.cells
          obtain ⟨_, _, r2, r3, _, _⟩ := HM.out.ls.cells
          have HQ : Hid (SI o w lb b t rb rl e A w.heap.size (w.heap.size + 1) f (stq rb rl f 5) (stq rb rl f 6) 0 0 (wr.setCell ⟨w.heap.size + 1, 2, none⟩ (.int .i64 0)) o') := HM.out.set 2 0 (Go.Joins.block_setCell HM.out.q _)
          have hne : w.heap.size + 1 ≠ lb := fun e1 => by have := HM.out.ls.lab; have := HM.out.lq; rw [e1] at this; omega
          clear HM
          go_wp2_with fail
          go_region_with (go_at_call 107; refine (lives_any rb rl (f 9 == 1) (nsm f 9 3) _).mono ?_; rintro e w2 ⟨rfl, hb2⟩)
          all_goals
            have HM2 : Hid (SI o w lb b t rb rl e A w.heap.size (w.heap.size + 1) f (stq rb rl f 5) (stq rb rl f 6) 0 0 w2 (ext o' (wr.setCell ⟨w.heap.size + 1, 2, none⟩ (.int .i64 0)).heap.size 0)) := HQ.out.below (below_dr hb2)
            obtain ⟨⟨p0, p1, p2, p3⟩, y0, y1, y2, y3⟩ := HM2.out.q.cells
            clear HQ hc q0 q1 q2 q3 z0 z1 z2 z3
            cases hB : livesB rb rl (f 9 == 1) (nsm f 9 3) with
            | false =>
              have HE : Hid (stq rb rl f 9 = 0) := by unfold stq; rw [hB]; rfl
              clear hB
              go_wp2_with fail
              go_roundg (GK - 1)
              case measure => have := HI.out; omega
              case rel => exact ⟨3, by have := HI.out; omega, by go_num, _, by rw [HE.out]; exact HM2.out⟩
            | true =>
              have HE : Hid (stq rb rl f 9 = 1) := by unfold stq; rw [hB]; rfl
              clear hB
              go_wp2_with fail
              go_roundg (GK - 1)
              case measure => have := HI.out; omega
              case rel => exact ⟨3, by have := HI.out; omega, by go_num, _, by rw [HE.out]; exact HM2.out.set 2 _ (Go.Joins.block_setCell HM2.out.q _)⟩
    · have M : SI o w lb b t rb rl e A w.heap.size (w.heap.size + 1) f (stq rb rl f 5) (stq rb rl f 6) (stq rb rl f 9) 0 wr o' := HM.out
      clear HM
      have HM : Hid (SI o w lb b t rb rl e A w.heap.size (w.heap.size + 1) f (stq rb rl f 5) (stq rb rl f 6) (stq rb rl f 9) 0 wr o') := M
      have hc := M.c.cell 10 (by omega)
      have hb0 := HF.out 10
      clear M
      go_wp2_with fail
      go_loopg [9, 33] 3 (fun g s9 s33 wr => ∃ i : Nat, i + g = 3 ∧ s33 = .int .i64 i ∧ s9 = .int .i64 (nsm f 10 i) ∧ ∃ o', SI o w lb b t rb rl e A w.heap.size (w.heap.size + 1) f (stq rb rl f 5) (stq rb rl f 6) (stq rb rl f 9) 0 wr o')
      case atStart => exact ⟨0, by omega, rfl, rfl, _, HM.out⟩
      case round =>
        clear HM
        obtain ⟨i, hig, rfl, rfl, o', M⟩ := hrel
        have HK : Hid (i + gk = 3) := hig
        have HM : Hid (SI o w lb b t rb rl e A w.heap.size (w.heap.size + 1) f (stq rb rl f 5) (stq rb rl f 6) (stq rb rl f 9) 0 wr o') := M
        clear M
        have hi : i = 0 ∨ i = 1 ∨ i = 2 ∨ i = 3 := by omega
        clear hig
        rcases hi with rfl | rfl | rfl | rfl
        · have ⟨n1, n2⟩ := HN.out 10 0
          have hc0 := HM.out.c.cell 4 (by omega)
          have hc1 := HM.out.c.cell 5 (by omega)
          have hc2 := HM.out.c.cell 6 (by omega)
          have hc3 := HM.out.c.cell 7 (by omega)
          have ⟨u0, v0⟩ := HF.out 5
          have ⟨u1, v1⟩ := HF.out 6
          have ⟨u2, v2⟩ := HF.out 7
          obtain ⟨m, hm⟩ : ∃ m, m = nsm f 10 0 := ⟨_, rfl⟩
          rw [← hm] at n1 n2 ⊢
          have HE : Hid (m = nsm f 10 0) := hm
          clear hm
          go_wp2_with fail
          go_region
          all_goals
            go_wp2_with fail
            go_roundg (gk - 1)
            case measure => have := HK.out; omega
            case rel => exact ⟨1, by have := HK.out; omega, by go_num, by rw [HE.out]; rfl, _, HM.out.below (by repeat (first | exact Below.refl _ _ | refine Below.drew ?_ | refine Below.setCell ?_ (Nat.le_refl _) _ | refine Below.alloc ?_ (Nat.le_refl _) _))⟩
        · have ⟨n1, n2⟩ := HN.out 10 1
          have hc0 := HM.out.c.cell 8 (by omega)
          have hc1 := HM.out.c.cell 9 (by omega)
          have hc2 := HM.out.c.cell 10 (by omega)
          have hc3 := HM.out.c.cell 11 (by omega)
          have ⟨u0, v0⟩ := HF.out 9
          have ⟨u1, v1⟩ := HF.out 10
          have ⟨u2, v2⟩ := HF.out 11
          obtain ⟨m, hm⟩ : ∃ m, m = nsm f 10 1 := ⟨_, rfl⟩
          rw [← hm] at n1 n2 ⊢
          have HE : Hid (m = nsm f 10 1) := hm
          clear hm
          go_wp2_with fail
          go_region
          all_goals
            go_wp2_with fail
            go_roundg (gk - 1)
            case measure => have := HK.out; omega
            case rel => exact ⟨2, by have := HK.out; omega, by go_num, by rw [HE.out]; rfl, _, HM.out.below (by repeat (first | exact Below.refl _ _ | refine Below.drew ?_ | refine Below.setCell ?_ (Nat.le_refl _) _ | refine Below.alloc ?_ (Nat.le_refl _) _))⟩
        · have ⟨n1, n2⟩ := HN.out 10 2
          have hc0 := HM.out.c.cell 12 (by omega)
          have hc1 := HM.out.c.cell 13 (by omega)
          have hc2 := HM.out.c.cell 14 (by omega)
          have hc3 := HM.out.c.cell 15 (by omega)
          have ⟨u0, v0⟩ := HF.out 13
          have ⟨u1, v1⟩ := HF.out 14
          have ⟨u2, v2⟩ := HF.out 15
          obtain ⟨m, hm⟩ : ∃ m, m = nsm f 10 2 := ⟨_, rfl⟩
          rw [← hm] at n1 n2 ⊢
          have HE : Hid (m = nsm f 10 2) := hm
          clear hm
          go_wp2_with fail
          go_region
          all_goals
            go_wp2_with fail
            go_roundg (gk - 1)
            case measure => have := HK.out; omega
            case rel => exact ⟨3, by have := HK.out; omega, by go_num, by rw [HE.out]; rfl, _, HM.out.below (by repeat (first | exact Below.refl _ _ | refine Below.drew ?_ | refine Below.setCell ?_ (Nat.le_refl _) _ | refine Below.alloc ?_ (Nat.le_refl _) _))⟩
        · have ⟨n1, n2⟩ := HN.out 10 3
          have ⟨u0, v0⟩ := HF.out 10
          have hc := HM.out.c.cell 10 (by omega)
          obtain ⟨⟨q0, q1, q2, q3⟩, z0, z1, z2, z3⟩ := HM.out.q.cells
          obtain ⟨_, _, r2, r3, _, _⟩ := HM.out.ls.cells
          have HQ : Hid (SI o w lb b t rb rl e A w.heap.size (w.heap.size + 1) f (stq rb rl f 5) (stq rb rl f 6) (stq rb rl f 9) 0 (wr.setCell ⟨w.heap.size + 1, 3, none⟩ (.int .i64 0)) o') := HM.out.set 3 0 (Go.Joins.block_setCell HM.out.q _)
          have hne : w.heap.size + 1 ≠ lb := fun e1 => by have := HM.out.ls.lab; have := HM.out.lq; rw [e1] at this; omega
          clear HM
          go_wp2_with fail
          go_region_with (go_at_call 107; refine (lives_any rb rl (f 10 == 1) (nsm f 10 3) _).mono ?_; rintro e w2 ⟨rfl, hb2⟩)
          all_goals
            have HM2 : Hid (SI o w lb b t rb rl e A w.heap.size (w.heap.size + 1) f (stq rb rl f 5) (stq rb rl f 6) (stq rb rl f 9) 0 w2 (ext o' (wr.setCell ⟨w.heap.size + 1, 3, none⟩ (.int .i64 0)).heap.size 0)) := HQ.out.below (below_dr hb2)
            obtain ⟨⟨p0, p1, p2, p3⟩, y0, y1, y2, y3⟩ := HM2.out.q.cells
            clear HQ hc q0 q1 q2 q3 z0 z1 z2 z3
            cases hB : livesB rb rl (f 10 == 1) (nsm f 10 3) with
            | false =>
              have HE : Hid (stq rb rl f 10 = 0) := by unfold stq; rw [hB]; rfl
              clear hB
              go_wp2_with fail
              go_roundg (GK - 1)
              case measure => have := HI.out; omega
              case rel => exact ⟨4, by have := HI.out; omega, by go_num, _, by rw [HE.out]; exact HM2.out⟩
            | true =>
              have HE : Hid (stq rb rl f 10 = 1) := by unfold stq; rw [hB]; rfl
              clear hB
              go_wp2_with fail
              go_roundg (GK - 1)
              case measure => have := HI.out; omega
              case rel => exact ⟨4, by have := HI.out; omega, by go_num, _, by rw [HE.out]; exact HM2.out.set 3 _ (Go.Joins.block_setCell HM2.out.q _)⟩
    · have M : SI o w lb b t rb rl e A w.heap.size (w.heap.size + 1) f (stq rb rl f 5) (stq rb rl f 6) (stq rb rl f 9) (stq rb rl f 10) wr o' := HM.out
      have hj := lpJoin_any M.ls hS ht _ _ _ _ (fun _ => ⟨HJ.out 5, HJ.out 6, HJ.out 9, HJ.out 10⟩)
      unfold quad4 at hj
      have HC : Hid (Ch AL o w o' wr) := M.ch
      obtain ⟨⟨g0, g1, g2, g3⟩, _⟩ := M.q.cells
      clear HM M
      go_wp2_with fail
      refine hj.mono ?_
      rintro r w2 ⟨rfl, hkp⟩
      go_wp2_with fail
      go_ret
      exact ⟨rfl, Kp.trans HC.out hkp⟩
end Go.Proofs.YtofbcngcblleaabGreat.A
