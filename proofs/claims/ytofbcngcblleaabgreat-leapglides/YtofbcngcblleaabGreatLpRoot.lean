/- Roots: a plane that is dead outside a square around its middle. -/
import Derived.Test.YtofbcngcblleaabGreatLpFindF
import Derived.Test.YtofbcngcblleaabGreatLpFindP
import Derived.Test.YtofbcngcblleaabGreatLpWrap
import Derived.Test.YtofbcngcblleaabGreatLpPeel
import Derived.Lib.MinMax
namespace Go.Proofs.YtofbcngcblleaabGreat.A
open Go.RowKit Go.Proofs.YtofbcngcblleaabGreat.L
theorem next_all : ∀ n : Nat, NxC n
  | 0 => next_of_find find_zero
  | m + 1 => next_of_find fun PR S w o lb b t rb rl q A id j h hst ht h0 h1 hn hl hj hcl => by
    by_cases e : j = m + 1
    · exact find_full (next_all m) w o lb b t rb rl q A id j h hst ht h0 h1 hn hl e hcl
    · exact find_part (next_all m) w o lb b t rb rl q A id j h hst ht h0 h1 hn hl (by omega) hcl
end Go.Proofs.YtofbcngcblleaabGreat.A

namespace Go.Proofs.YtofbcngcblleaabGreat.A
open Go.RowKit Go.Maps Go.Proofs.YtofbcngcblleaabGreat.L
variable {w : World} {o : Nat → Nat} {lb b t : Nat} {rb rl e : Int} {A : Ar} {PR : (Bool → Nat → Bool) → Int → Prop} {q : Nat → Int}
def OutE (PR : (Bool → Nat → Bool) → Int → Prop) (rb rl : Int) (t : Nat) (q : Nat → Int) (A : Ar) (o : Nat → Nat) (w : World) (lb b : Nat) (e : Int) (D : Item → Prop) (G : Ar → Prop) (w' : World) : Prop :=
  ∃ e' A', Kp o w lb b t rb rl e' A' w' ∧ NxSt PR t q A' ∧ Gx t A A' e e' D ∧ (Er e' ∨ (e' = 0 ∧ e = 0 ∧ G A'))
def WrapG (t m : Nat) (id x : Int) (A' : Ar) : Prop := levV (view A' t).V x = some ((m + 2 : Nat) : Int) ∧ WrapS (QV (view A' t)) m id x
def PeelG (A : Ar) (t m : Nat) (id x : Int) (A' : Ar) : Prop := ∃ n, LeastLv (n + 1) (absC A.ths (m + 1) id) ∧ n ≤ m ∧ levV (view A' t).V x = some ((n + 1 : Nat) : Int) ∧ PeelS (QV (view A' t)) m n id x
theorem lpWrap_dead (h : LS w o lb b t rb rl e A) (he : e ≠ 0) (id : Int) :
    Calls Tryz.prog 61 #[.pointer (some ⟨lb, 0, none⟩), .int .i64 id] w fun r w' => r = .returned (.int .i64 0) ∧ Kp o w lb b t rb rl e A w' := by
  obtain ⟨_, _, _, _, c4, _⟩ := h.cells
  go_enter Tryz.func61, Tryz.ntmps61
  go_wp2_with fail
  go_ret
  all_goals exact ⟨rfl, Kp.of h (Below.refl _ _)⟩
set_option maxRecDepth 20000 in
set_option maxHeartbeats 2000000 in
theorem lpWrap_rel (h : LS w o lb b t rb rl e A) (hst : NxSt PR t q A) (ht : t < 64) (he : e = 0 ∨ Er e) (id : Int) (m : Nat) (hm : m + 1 ≤ 43) (hl : e = 0 → levV (view A t).V id = some ((m + 1 : Nat) : Int)) :
    Calls Tryz.prog 61 #[.pointer (some ⟨lb, 0, none⟩), .int .i64 id] w fun r w' => ∃ x, r = .returned (.int .i64 x) ∧ OutE PR rb rl t q A o w lb b e (WrapD m (ctr m (picQ (QV (view A t)) (m + 1) id))) (WrapG t m id x) w' := by
  rcases he with rfl | he
  · obtain ⟨c0, c1, _, _, c4, z4⟩ := h.cells
    have hw := wrap_rel h.drew.ar hst ht id m hm (hl rfl)
    have HX : Hid (LS w o lb b t rb rl 0 A) := h
    clear h
    go_enter Tryz.func61, Tryz.ntmps61
    go_wp2_with fail
    go_region_with (go_at_call 82; refine hw.mono ?_; rintro e w1 ⟨x, e', rfl, A', o1, a1, k1, s1, g1, d1⟩; have hs1 := HX.out.drew.setA k1 a1; obtain ⟨_, _, _, _, q4, q5⟩ := hs1.cells)
    all_goals
      have HD : Hid (NxSt PR t q A' ∧ Gx t A A' 0 e' (WrapD m (ctr m (picQ (QV (view A t)) (m + 1) id))) ∧ (Er e' ∨ (e' = 0 ∧ WrapG t m id x A'))) := ⟨s1, g1, d1⟩
      clear s1 g1 d1 hw
      go_wp2_with fail
      go_ret
      obtain ⟨h2, k2⟩ := hs1.setE e'
      obtain ⟨s1, g1, d1⟩ := HD.out
      exact ⟨_, rfl, e', A', ⟨_, h2, ((Ch.refl AL o w).drew.trans (k1.mono one_AL)).trans k2⟩, s1, g1, by rcases d1 with d1 | ⟨d1, d2⟩; exact .inl d1; exact .inr ⟨d1, rfl, d2⟩⟩
  · refine (lpWrap_dead h he.ne id).mono ?_
    rintro r w' ⟨rfl, hk⟩
    exact ⟨_, rfl, _, _, hk, hst, Gx.no he t A _, .inl he⟩
theorem lpPeel_dead (h : LS w o lb b t rb rl e A) (he : e ≠ 0) (id : Int) :
    Calls Tryz.prog 41 #[.pointer (some ⟨lb, 0, none⟩), .int .i64 id] w fun r w' => r = .returned (.int .i64 0) ∧ Kp o w lb b t rb rl e A w' := by
  obtain ⟨_, _, _, _, c4, _⟩ := h.cells
  go_enter Tryz.func41, Tryz.ntmps41
  go_wp2_with fail
  go_ret
  all_goals exact ⟨rfl, Kp.of h (Below.refl _ _)⟩
set_option maxRecDepth 20000 in
set_option maxHeartbeats 2000000 in
theorem lpPeel_rel (h : LS w o lb b t rb rl e A) (hst : NxSt PR t q A) (ht : t < 64) (he : e = 0 ∨ Er e) (id : Int) (m : Nat) (hm1 : 1 ≤ m) (hm44 : m + 1 ≤ 44) (hl : e = 0 → levV (view A t).V id = some ((m + 1 : Nat) : Int)) (hbig : e = 0 → (cellsF A.ths (m + 1) id).length < 4611686018427387904) :
    Calls Tryz.prog 41 #[.pointer (some ⟨lb, 0, none⟩), .int .i64 id] w fun r w' => ∃ x, r = .returned (.int .i64 x) ∧ OutE PR rb rl t q A o w lb b e (PeelD m (picQ (QV (view A t)) (m + 1) id) (absC A.ths (m + 1) id)) (PeelG A t m id x) w' := by
  rcases he with rfl | he
  · obtain ⟨c0, c1, _, _, c4, z4⟩ := h.cells
    have hw := peel_rel h.drew.ar hst ht id m hm1 hm44 (hl rfl) (hbig rfl)
    have HX : Hid (LS w o lb b t rb rl 0 A) := h
    clear h
    go_enter Tryz.func41, Tryz.ntmps41
    go_wp2_with fail
    go_region_with (go_at_call 63; refine hw.mono ?_; rintro e w1 ⟨x, e', rfl, A', o1, a1, k1, s1, g1, d1⟩; have hs1 := HX.out.drew.setA k1 a1; obtain ⟨_, _, _, _, q4, q5⟩ := hs1.cells)
    all_goals
      have HD : Hid (NxSt PR t q A' ∧ Gx t A A' 0 e' (PeelD m (picQ (QV (view A t)) (m + 1) id) (absC A.ths (m + 1) id)) ∧ (Er e' ∨ (e' = 0 ∧ PeelG A t m id x A'))) := ⟨s1, g1, d1⟩
      clear s1 g1 d1 hw
      go_wp2_with fail
      go_ret
      obtain ⟨h2, k2⟩ := hs1.setE e'
      obtain ⟨s1, g1, d1⟩ := HD.out
      exact ⟨_, rfl, e', A', ⟨_, h2, ((Ch.refl AL o w).drew.trans (k1.mono one_AL)).trans k2⟩, s1, g1, by rcases d1 with d1 | ⟨d1, d2⟩; exact .inl d1; exact .inr ⟨d1, rfl, d2⟩⟩
  · refine (lpPeel_dead h he.ne id).mono ?_
    rintro r w' ⟨rfl, hk⟩
    exact ⟨_, rfl, _, _, hk, hst, Gx.no he t A _, .inl he⟩
theorem lpLevel_rel (h : LS w o lb b t rb rl e A) (hst : NxSt PR t q A) (ht : t < 64) (he : e = 0 ∨ Er e) (id : Int) (n : Nat) (hl : e = 0 → levV (view A t).V id = some (n : Int)) :
    Calls Tryz.prog 60 #[.pointer (some ⟨lb, 0, none⟩), .int .i64 id] w fun r w' => ∃ l : Int, r = .returned (.int .i64 l) ∧ Kp o w lb b t rb rl e A w' ∧ (e = 0 → l = n) ∧ (Er e → l = 2) := by
  rcases he with rfl | he
  · have hf : levelF A.ths t id = some (n : Int) := by rw [levelF_V]; exact hl rfl
    refine (lpLevel_ok h hst.s ht id (lev_fits hst.s (hl rfl))).mono ?_
    rintro r w' ⟨rfl, o', h1, h2⟩
    rw [hf] at h1 ⊢
    exact ⟨_, rfl, ⟨o', h1, h2⟩, fun _ => rfl, fun e => absurd rfl e.ne⟩
  · refine (lpLevel_dead h he.ne id).mono ?_
    rintro r w' ⟨rfl, hk⟩
    exact ⟨_, rfl, hk, fun e => absurd e he.ne, fun _ => rfl⟩
end Go.Proofs.YtofbcngcblleaabGreat.A

namespace Go.Proofs.YtofbcngcblleaabGreat.A
open Go.RowKit Go.Maps Go.Proofs.YtofbcngcblleaabGreat.L
variable {w : World} {o : Nat → Nat} {lb b t : Nat} {rb rl e : Int} {A : Ar} {PR : (Bool → Nat → Bool) → Int → Prop} {q : Nat → Int}
theorem lpReach_dead (h : LS w o lb b t rb rl e A) (he : e ≠ 0) (id : Int) :
    Calls Tryz.prog 59 #[.pointer (some ⟨lb, 0, none⟩), .int .i64 id] w fun r w' => r = .returned (.tuple #[]) ∧ Kp o w lb b t rb rl e A w' := by
  obtain ⟨_, _, _, _, c4, _⟩ := h.cells
  go_enter Tryz.func59, Tryz.ntmps59
  go_wp2_with fail
  refine bodyPost_ret (v := .tuple #[]) ?_ rfl ⟨rfl, Kp.of h (Below.refl _ _)⟩
  simp [results, Tryz.results59]
theorem box_rel (hA : ArL w o b A) (hst : NxSt PR t q A) (ht : t < 64) (id : Int) (lv : Nat) (h1 : 1 ≤ lv) (h44 : lv ≤ 44) (hl : levV (view A t).V id = some (lv : Int)) (hbig : (cellsF A.ths lv id).length < 4611686018427387904) :
    Calls Tryz.prog 81 #[.pointer (some ⟨b, 0, none⟩), .int .i64 t, .int .i64 id] w fun x w' => ∃ x0 y0 x1 y1 s, x = .returned (.tuple #[.agg #[.int .i64 x0, .int .i64 y0, .int .i64 x1, .int .i64 y1], .bool s, .int .i64 0]) ∧ BoxOr (absC A.ths lv id) x0 y0 x1 y1 ∧ Below w.heap.size w w' := by
  obtain ⟨F, hFA, hF1⟩ := hA
  obtain ⟨L, hat⟩ := hFA.ar
  have hI := inv_of hst.s hst.g L
  refine (Box_root b _ t lv id F _ w hat hI ht hst.s.mask (by have := hst.s.len; have := hst.s.room1; show A.ths.length < 1000000; omega) (by show levelF A.ths t id = _; rw [levelF_V]; exact hl) h1 h44 hbig).mono ?_
  rintro x w' ⟨x0, y0, x1, y1, rfl, h2, h3⟩
  exact ⟨x0, y0, x1, y1, _, rfl, h2, h3⟩
def AgB (w : World) (p : Nat) (x0 y0 x1 y1 : Int) : Prop := w.heap[p]? = some (.cells #[.int .i64 x0, .int .i64 y0, .int .i64 x1, .int .i64 y1] 49 (0, 0))
set_option maxRecDepth 20000 in
set_option maxHeartbeats 2000000 in
theorem lpReach_ok (h : LS w o lb b t rb rl 0 A) (hst : NxSt PR t q A) (ht : t < 64) (id : Int) (lv : Nat) (h1 : 1 ≤ lv) (h44 : lv ≤ 44) (hl : levV (view A t).V id = some (lv : Int)) (hbig : (cellsF A.ths lv id).length < 4611686018427387904) (hfit : fitsLv 42 (absC A.ths lv id)) :
    Calls Tryz.prog 59 #[.pointer (some ⟨lb, 0, none⟩), .int .i64 id] w fun r w' => r = .returned (.tuple #[]) ∧ Kp o w lb b t rb rl 0 A w' := by
  obtain ⟨c0, c1, _, _, c4, z4⟩ := h.cells
  have hbox : ∀ V, Below w.heap.size w V → Calls Tryz.prog 81 #[.pointer (some ⟨b, 0, none⟩), .int .i64 t, .int .i64 id] V fun x w' => ∃ x0 y0 x1 y1 s, x = .returned (.tuple #[.agg #[.int .i64 x0, .int .i64 y0, .int .i64 x1, .int .i64 y1], .bool s, .int .i64 0]) ∧ (-2199023255552 ≤ x0 ∧ -2199023255552 ≤ y0 ∧ x1 < 2199023255552 ∧ y1 < 2199023255552) ∧ Below V.heap.size V w' := fun V hV => by
    refine (box_rel (h.below hV).ar hst ht id lv h1 h44 hl hbig).mono ?_
    rintro x w' ⟨x0, y0, x1, y1, s, rfl, hb, h3⟩
    have hr := (reach_fits hb (n := 42) (by omega)).2 hfit
    unfold reachB at hr
    rw [decide_eq_true_iff] at hr
    have e : (halfN 42 : Int) = 2199023255552 := by decide
    rw [e] at hr
    exact ⟨x0, y0, x1, y1, s, rfl, by omega, h3⟩
  have HX : Hid (LS w o lb b t rb rl 0 A) := h
  have hWA : Below w.heap.size w (w.alloc (.cells #[.int .i64 0, .int .i64 0, .int .i64 0, .int .i64 0] 49)) := (Below.refl _ _).alloc (Nat.le_refl _) _
  have HWA : Hid (Below w.heap.size w (w.alloc (.cells #[.int .i64 0, .int .i64 0, .int .i64 0, .int .i64 0] 49))) := hWA
  obtain ⟨cA0, cA1, _, _, _, _⟩ := (h.below hWA).cells
  have HXA : Hid ((w.alloc (.cells #[.int .i64 0, .int .i64 0, .int .i64 0, .int .i64 0] 49)).heap[w.heap.size]? = some (.cells #[.int .i64 0, .int .i64 0, .int .i64 0, .int .i64 0] 49 (0, 0))) := heap_alloc_new w _
  clear h hst hl hbig hfit hWA
  go_enter Tryz.func59, Tryz.ntmps59
  go_wp2_with fail
  go_cut [4, 6] from 12 to 25 (fun s4 s6 wc => ∃ (p : Nat) (x0 y0 x1 y1 : Int), s4 = .pointer (some ⟨p, 0, none⟩) ∧ s6 = .int .i64 0 ∧ AgB wc p x0 y0 x1 y1 ∧ w.heap.size ≤ p ∧ (-2199023255552 ≤ x0 ∧ -2199023255552 ≤ y0 ∧ x1 < 2199023255552 ∧ y1 < 2199023255552) ∧ Below w.heap.size w wc)
  case first =>
    go_region_with (first
      | (go_at_call 81; refine (hbox _ HWA.out.drew).mono ?_; rintro e w1 ⟨x0, y0, x1, y1, s, rfl, hbd, hbx⟩; have hX1 := ((below_dr hbx).block w.heap.size (by simp)).trans HXA.out; have hc0 := Lib.cell_of_heap hX1 0; have hc1 := Lib.cell_of_heap hX1 1; have hc2 := Lib.cell_of_heap hX1 2; have hc3 := Lib.cell_of_heap hX1 3; have hz0 := Lib.frozen_of_heap hX1 0; have hz1 := Lib.frozen_of_heap hX1 1; have hz2 := Lib.frozen_of_heap hX1 2; have hz3 := Lib.frozen_of_heap hX1 3)
      | (go_at_call 81; refine (hbox _ (Below.refl _ _).drew).mono ?_; rintro e w1 ⟨x0, y0, x1, y1, s, rfl, hbd, hby⟩)
      | fail)
    all_goals
      go_wp2_with fail
      go_meet
      case rel =>
        first
        | (have hX2 := hX1; exact ⟨_, x0, y0, x1, y1, rfl, rfl, Go.Joins.block_setCell (Go.Joins.block_setCell (Go.Joins.block_setCell (Go.Joins.block_setCell hX1 _) _) _) _, Nat.le_refl _, hbd, ((((HWA.out.trans ((below_dr hbx).mono (by simp))).setCell (p := ⟨w.heap.size, 0, none⟩) (Nat.le_refl _) _).setCell (p := ⟨w.heap.size, 1, none⟩) (Nat.le_refl _) _).setCell (p := ⟨w.heap.size, 2, none⟩) (Nat.le_refl _) _).setCell (p := ⟨w.heap.size, 3, none⟩) (Nat.le_refl _) _⟩)
        | (have hb2 := hby; exact ⟨_, x0, y0, x1, y1, rfl, rfl, heap_alloc_new w1 _, (below_dr hby).size, hbd, (below_dr hby).alloc (below_dr hby).size _⟩)
        | fail
  case rest =>
  obtain ⟨p, x0, y0, x1, y1, rfl, rfl, hag, hp, ⟨g0, g1, g2, g3⟩, hbc⟩ := hcut
  have h1 := HX.out.below hbc
  obtain ⟨_, _, _, _, e4, y4⟩ := h1.cells
  have hlt := HX.out.lt
  have k0 : wc.cell? ⟨p, 0, none⟩ = some (.int .i64 x0) := Lib.cell_of_heap hag 0
  have k1 : wc.cell? ⟨p, 1, none⟩ = some (.int .i64 y0) := Lib.cell_of_heap hag 1
  have k2 : wc.cell? ⟨p, 2, none⟩ = some (.int .i64 x1) := Lib.cell_of_heap hag 2
  have k3 : wc.cell? ⟨p, 3, none⟩ = some (.int .i64 y1) := Lib.cell_of_heap hag 3
  have hne : p ≠ lb := by omega
  have hmin : ¬ min x0 y0 < -2199023255552 := by omega
  have hmax : ¬ 2199023255552 ≤ max x1 y1 := by omega
  have dmin : decide (min x0 y0 < -2199023255552) = false := decide_eq_false hmin
  have dmax : decide (2199023255552 ≤ max x1 y1) = false := decide_eq_false hmax
  have HE : Hid (Kp o w lb b t rb rl 0 A (wc.setCell ⟨lb, 4, none⟩ (.int .i64 0))) := by
    obtain ⟨a1, a2⟩ := h1.setE 0
    exact ⟨_, a1, Ch.trans (Ch.ofBelow hbc 0) a2⟩
  clear hbox HXA HWA c0 c1 c4 z4 cA0 cA1 h1 hbc hag hp
  go_wp2_with fail
  all_goals
    go_end0
    exact ⟨rfl, HE.out⟩
end Go.Proofs.YtofbcngcblleaabGreat.A

namespace Go.Proofs.YtofbcngcblleaabGreat.A
open Go.RowKit Go.Maps Go.Proofs.YtofbcngcblleaabGreat.L
variable {t : Nat} {A A' : Ar} {R : Bool → Nat → Bool} {PR : (Bool → Nat → Bool) → Int → Prop} {q : Nat → Int} {g : Gr} {id : Int}
structure Rt (A : Ar) (t n : Nat) (id : Int) (g : Gr) : Prop where
  lev : levV (view A t).V id = some ((n + 1 : Nat) : Int)
  shows : Shows (QV (view A t)) (n + 1) id g (-(2 ^ n)) (-(2 ^ n))
  out : ∀ X Y, g X Y = true → -(2 ^ n) ≤ X ∧ X < 2 ^ n ∧ -(2 ^ n) ≤ Y ∧ Y < 2 ^ n
theorem Rt.go {n : Nat} (h : Rt A t n id g) (hst : NxSt PR t q A) (ht : t < 64) (k : Goes1 t A A') : Rt A' t n id g :=
  ⟨k.sees.lev h.lev, h.shows.ext (isSq_of_lev (hst.g.wel t ht) hst.p _ _ h.lev) k.sees.ext, h.out⟩
theorem Rt.cells {n : Nat} (h : Rt A t n id g) (hst : NxSt PR t q A) (ht : t < 64) (p : Int × Int) : p ∈ absC A.ths (n + 1) id ↔ g p.1 p.2 = true := by
  have hs := isSq_of_lev (hst.g.wel t ht) hst.p _ _ h.lev
  have hI := powI n
  have hp := two_powI n
  rw [mem_abs, halfN_succ, cells_shows (n + 1) (hs.ext (view_QG A t)) (h.shows.ext hs (view_QG A t))]
  simp only
  rw [hI, show -(2 ^ n : Int) + (p.1 + 2 ^ n) = p.1 by omega, show -(2 ^ n : Int) + (p.2 + 2 ^ n) = p.2 by omega, hp]
  constructor
  · exact fun a => a.2.2.2.2
  · intro a
    have := h.out p.1 p.2 a
    exact ⟨by omega, by omega, by omega, by omega, a⟩
theorem Rt.wrap {n : Nat} {x : Int} (h : Rt A t n id g) (hl : levV (view A t).V x = some ((n + 2 : Nat) : Int)) (hw : WrapS (QV (view A t)) n id x) : Rt A t (n + 1) x g := by
  have hp := two_powI n
  have hpos : (0 : Int) < 2 ^ n := by have := powI n; have : 0 < 2 ^ n := Nat.pow_pos (by omega); omega
  refine ⟨hl, shows_mv (hw g _ _ h.shows fun X Y hg => ?_) (by omega) (by omega), fun X Y hg => ?_⟩
  · have := h.out X Y hg
    omega
  · have := h.out X Y hg
    omega
theorem Rt.peel {m n : Nat} {x : Int} (h0 : Rt A t m id g) (hst : NxSt PR t q A) (ht : t < 64) (h : Rt A' t m id g) (hn : LeastLv (n + 1) (absC A.ths (m + 1) id)) (hl : levV (view A' t).V x = some ((n + 1 : Nat) : Int)) (hw : PeelS (QV (view A' t)) m n id x) : Rt A' t n x g := by
  refine ⟨hl, hw g h.shows, fun X Y hg => ?_⟩
  have := hn.fits (X, Y) ((h0.cells hst ht (X, Y)).2 hg)
  rw [halfN_succ, powI] at this
  exact this
theorem Rt.plane {n : Nat} (h : Rt A t n id g) : ctr n (picQ (QV (view A t)) (n + 1) id) = g := by
  have hp := two_powI n
  have hI := powI (n + 1)
  funext X Y
  unfold ctr
  rw [pic_shows h.shows]
  by_cases hin : -(2 ^ n) ≤ X ∧ X < 2 ^ n ∧ -(2 ^ n) ≤ Y ∧ Y < 2 ^ n
  · unfold pic
    rw [if_pos (by omega), show -(2 ^ n) + (X + 2 ^ n) = X by omega, show -(2 ^ n) + (Y + 2 ^ n) = Y by omega]
  · unfold pic
    rw [if_neg (by omega)]
    cases hg : g X Y with
    | false => rfl
    | true => exact absurd (h.out X Y hg) hin
structure LeastG (N : Nat) (g : Gr) : Prop where
  two : 2 ≤ N
  fits : ∀ X Y, g X Y = true → -(2 ^ (N - 1)) ≤ X ∧ X < 2 ^ (N - 1) ∧ -(2 ^ (N - 1)) ≤ Y ∧ Y < 2 ^ (N - 1)
  least : ∀ j, 2 ≤ j → j < N → ¬ ∀ X Y, g X Y = true → -(2 ^ (j - 1)) ≤ X ∧ X < 2 ^ (j - 1) ∧ -(2 ^ (j - 1)) ≤ Y ∧ Y < 2 ^ (j - 1)
theorem LeastG.unique {N M : Nat} (h : LeastG N g) (k : LeastG M g) : N = M := by
  rcases Nat.lt_trichotomy N M with e | e | e
  · exact absurd h.fits (k.least N h.two e)
  · exact e
  · exact absurd k.fits (h.least M k.two e)
theorem Rt.fits {n N : Nat} (h : Rt A t n id g) (hst : NxSt PR t q A) (ht : t < 64) (hN : 2 ≤ N) : fitsLv N (absC A.ths (n + 1) id) ↔ ∀ X Y, g X Y = true → -(2 ^ (N - 1)) ≤ X ∧ X < 2 ^ (N - 1) ∧ -(2 ^ (N - 1)) ≤ Y ∧ Y < 2 ^ (N - 1) := by
  obtain ⟨M, rfl⟩ : ∃ M, N = M + 1 := ⟨N - 1, by omega⟩
  unfold fitsLv
  rw [halfN_succ, powI, Nat.add_sub_cancel]
  constructor
  · exact fun a X Y hg => a (X, Y) ((h.cells hst ht (X, Y)).2 hg)
  · exact fun a p hp => a p.1 p.2 ((h.cells hst ht p).1 hp)
theorem Rt.least {n N : Nat} (h : Rt A t n id g) (hst : NxSt PR t q A) (ht : t < 64) : LeastLv N (absC A.ths (n + 1) id) ↔ LeastG N g := by
  constructor
  · exact fun k => ⟨k.two, (h.fits hst ht k.two).1 k.fits, fun j h2 hj hf => k.least j h2 hj ((h.fits hst ht h2).2 hf)⟩
  · exact fun k => ⟨k.two, (h.fits hst ht k.two).2 k.fits, fun j h2 hj hf => k.least j h2 hj ((h.fits hst ht h2).1 hf)⟩
theorem spread (hR : R false 0 = false) {K : Int} (hg : ∀ X Y, g X Y = true → -K ≤ X ∧ X < K ∧ -K ≤ Y ∧ Y < K) : ∀ (s : Nat) (X Y : Int), iter R s g X Y = true → -(K + s) ≤ X ∧ X < K + s ∧ -(K + s) ≤ Y ∧ Y < K + s
  | 0, X, Y, h => by have := hg X Y h; omega
  | s + 1, X, Y, h => by
    have h1 : iter R 1 (iter R s g) X Y = true := by rw [iter_add]; exact h
    have h2 : L.stepG R (iter R s g) X Y = true := h1
    have off : ∀ X' Y' : Int, ¬ (-(K + s) ≤ X' ∧ X' < K + s ∧ -(K + s) ≤ Y' ∧ Y' < K + s) → iter R s g X' Y' = false := fun X' Y' hn => by
      cases hv : iter R s g X' Y' with
      | false => rfl
      | true => exact absurd (spread hR hg s X' Y' hv) hn
    by_cases hin : -(K + ((s + 1 : Nat) : Int)) ≤ X ∧ X < K + ((s + 1 : Nat) : Int) ∧ -(K + ((s + 1 : Nat) : Int)) ≤ Y ∧ Y < K + ((s + 1 : Nat) : Int)
    · exact hin
    · exfalso
      unfold L.stepG nbr at h2
      rw [off X Y (by omega), off (X - 1) (Y - 1) (by omega), off X (Y - 1) (by omega), off (X + 1) (Y - 1) (by omega), off (X - 1) Y (by omega), off (X + 1) Y (by omega), off (X - 1) (Y + 1) (by omega), off X (Y + 1) (by omega), off (X + 1) (Y + 1) (by omega)] at h2
      have h3 : R false 0 = true := h2
      rw [hR] at h3
      cases h3
theorem Rt.next {n j k : Nat} {v : Int} (h : Rt A t (n + 1) id g) (hR : R false 0 = false) (hn : Nx R (QV (view A t)) n id j v) (hl : levV (view A t).V v = some ((n + 1 : Nat) : Int)) (hg : ∀ X Y, g X Y = true → -(2 ^ k) ≤ X ∧ X < 2 ^ k ∧ -(2 ^ k) ≤ Y ∧ Y < 2 ^ k) (hk : (2 : Int) ^ k + ((2 ^ j : Nat) : Int) ≤ 2 ^ n) : Rt A t n v (iter R (2 ^ j) g) := by
  have hp := two_powI n
  refine ⟨hl, shows_mv (hn.2 g _ _ h.shows) (by omega) (by omega), fun X Y hv => ?_⟩
  have := spread hR hg (2 ^ j) X Y hv
  omega
end Go.Proofs.YtofbcngcblleaabGreat.A
