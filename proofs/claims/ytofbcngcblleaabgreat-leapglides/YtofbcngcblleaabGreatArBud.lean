/- Joins that are made: room enough, and what is made. -/
import Derived.Test.YtofbcngcblleaabGreatLpOps
import Derived.Test.YtofbcngcblleaabGreatLpNotes
import Derived.Test.YtofbcngcblleaabGreatArHand
import Derived.Test.YtofbcngcblleaabGreatLpStep
import Derived.Deep.CutBlock
import Derived.Test.YtofbcngcblleaabGreatArTh
namespace Go.Proofs.YtofbcngcblleaabGreat.A
open Go.RowKit Go.Proofs.YtofbcngcblleaabGreat.L
variable {w : World} {o : Nat → Nat} {lb b t : Nat} {rb rl e : Int} {A : Ar}
theorem square_QV {id : Int} {k : Int × Int × Int × Int} (h : QV (view A t) id = some k) : ∃ x, squareF A.ths t id = some x ∧ k = (x.p0, x.p1, x.p2, x.p3) := by
  unfold QV at h
  cases hv : (view A t).V id with
  | none => rw [hv] at h; cases h
  | some f =>
    rw [hv] at h
    simp only at h
    split at h
    · rename_i hk
      unfold view ownV at hv
      obtain ⟨x, hx, e⟩ := Option.map_eq_some_iff.1 hv
      subst e
      refine ⟨x, ?_, (Option.some.inj h).symm⟩
      unfold squareF
      rw [hx, Option.filter_some, if_pos (by simpa using (show x.k = 1 from hk))]
    · cases h
theorem below_dr {w w1 : World} (h : Below w.drew.heap.size w.drew w1) : Below w.heap.size w w1 := ⟨h.os, h.tape, h.output, h.size, h.block⟩
set_option maxRecDepth 20000 in
set_option maxHeartbeats 2000000 in
theorem lpKids_ok (h : LS w o lb b t rb rl 0 A) (hS : Sound A) (ht : t < 64) (id : Int) (hid : Fits id) (k0 k1 k2 k3 : Int) (hq : QV (view A t) id = some (k0, k1, k2, k3)) :
    Calls Tryz.prog 106 #[.pointer (some ⟨lb, 0, none⟩), .int .i64 id] w fun e w' => e = .returned (quad4 k0 k1 k2 k3) ∧ ∃ o', LS w' o' lb b t rb rl 0 A ∧ Ch AL o w o' w' := by
  obtain ⟨x, hx, hk⟩ := square_QV hq
  simp only [Prod.mk.injEq] at hk
  obtain ⟨rfl, rfl, rfl, rfl⟩ := hk
  obtain ⟨F, ha, hF⟩ := h.ar
  have hlv : ∀ V, Below w.heap.size w V → Calls Tryz.prog 80 #[.pointer (some ⟨b, 0, none⟩), .int .i64 t, .int .i64 id] V fun e w' => e = .returned (.tuple #[.agg #[.int .i64 x.p0, .int .i64 x.p1, .int .i64 x.p2, .int .i64 x.p3], .int .i64 0]) ∧ Below V.heap.size V w' := fun V hV => by
    obtain ⟨LL, r, D, hr, _⟩ := ha.below hV
    have := Kids_any b 0 t id r A.ths V hr.raw hr.ths ht hS.mask hid
    rw [hx] at this
    exact this
  have hb0 : Below w.heap.size w (w.alloc (.cells #[.int .i64 0, .int .i64 0, .int .i64 0, .int .i64 0] 41)) := (Below.refl _ _).alloc (Nat.le_refl _) _
  have hs0 := hb0.size
  have hX0 : (w.alloc (.cells #[.int .i64 0, .int .i64 0, .int .i64 0, .int .i64 0] 41)).heap[w.heap.size]? = some (.cells #[.int .i64 0, .int .i64 0, .int .i64 0, .int .i64 0] 41 (0, 0)) := heap_alloc_new w _
  obtain ⟨c0, c1, _, _, c4, z4⟩ := (h.below hb0).cells
  have HH : Hid (LS w o lb b t rb rl 0 A) := h
  clear ha hF hx hq
  go_enter Tryz.func106, Tryz.ntmps106
  go_wp2_with fail
  go_cut [5, 6] from 13 to 25 (fun s5 s6 wc => ∃ p : Nat, s5 = .pointer (some ⟨p, 0, none⟩) ∧ s6 = .int .i64 0 ∧ wc.heap[p]? = some (.cells #[.int .i64 x.p0, .int .i64 x.p1, .int .i64 x.p2, .int .i64 x.p3] 41 (0, 0)) ∧ w.heap.size + 1 ≤ p ∧ Below (w.heap.size + 1) (w.alloc (.cells #[.int .i64 0, .int .i64 0, .int .i64 0, .int .i64 0] 41)) wc)
  case first =>
    have hWA : Below w.heap.size w ((w.alloc (.cells #[.int .i64 0, .int .i64 0, .int .i64 0, .int .i64 0] 41)).alloc (.cells #[.int .i64 0, .int .i64 0, .int .i64 0, .int .i64 0] 41)) := hb0.alloc hs0 _
    have hxA : ((w.alloc (.cells #[.int .i64 0, .int .i64 0, .int .i64 0, .int .i64 0] 41)).alloc (.cells #[.int .i64 0, .int .i64 0, .int .i64 0, .int .i64 0] 41)).heap[w.heap.size + 1]? = some (.cells #[.int .i64 0, .int .i64 0, .int .i64 0, .int .i64 0] 41 (0, 0)) := heap_alloc2_new w _ _
    obtain ⟨cA0, cA1, _, _, _, _⟩ := (HH.out.below hWA).cells
    go_region_with (first
      | (go_at_call 80; refine (hlv _ hWA.drew).mono ?_; rintro e w1 ⟨rfl, hbx⟩; have hX1 := ((below_dr hbx).block (w.heap.size + 1) (by simp)).trans hxA; have hc0 := Lib.cell_of_heap hX1 0; have hc1 := Lib.cell_of_heap hX1 1; have hc2 := Lib.cell_of_heap hX1 2; have hc3 := Lib.cell_of_heap hX1 3; have hz0 := Lib.frozen_of_heap hX1 0; have hz1 := Lib.frozen_of_heap hX1 1; have hz2 := Lib.frozen_of_heap hX1 2; have hz3 := Lib.frozen_of_heap hX1 3)
      | (go_at_call 80; refine (hlv _ hb0.drew).mono ?_; rintro e w1 ⟨rfl, hbx⟩))
    all_goals
      go_wp2_with fail
      go_meet
      case rel =>
        first
        | (have hX2 := hX1; exact ⟨_, rfl, rfl, Go.Joins.block_setCell (Go.Joins.block_setCell (Go.Joins.block_setCell (Go.Joins.block_setCell hX1 _) _) _) _, Nat.le_refl _, (((((((Below.refl _ _).alloc (by simp) _).trans ((below_dr hbx).mono (by simp))).setCell (p := ⟨w.heap.size + 1, 0, none⟩) (Nat.le_refl _) _).setCell (p := ⟨w.heap.size + 1, 1, none⟩) (Nat.le_refl _) _).setCell (p := ⟨w.heap.size + 1, 2, none⟩) (Nat.le_refl _) _).setCell (p := ⟨w.heap.size + 1, 3, none⟩) (Nat.le_refl _) _)⟩)
        | exact ⟨_, rfl, rfl, heap_alloc_new w1 _, by have := (below_dr hbx).size; simp at this; omega, ((below_dr hbx).mono (by simp)).alloc (by have := (below_dr hbx).size; simp at this; omega) _⟩
  case rest =>
  obtain ⟨p, rfl, rfl, hp, hpl, hbc⟩ := hcut
  have bc : Below w.heap.size w wc := hb0.trans (hbc.mono (by omega))
  have h1 := HH.out.below bc
  have hlt := HH.out.lt
  have hplt : p < wc.heap.size := (Array.getElem?_eq_some_iff.1 hp).1
  have hr1 := (hbc.block w.heap.size (by omega)).trans hX0
  have hr1l : w.heap.size < wc.heap.size := (Array.getElem?_eq_some_iff.1 hr1).1
  obtain ⟨_, _, _, _, e4, y4⟩ := h1.cells
  have g0 : wc.cell? ⟨p, 0, none⟩ = some (.int .i64 x.p0) := Lib.cell_of_heap hp 0
  have g1 : wc.cell? ⟨p, 1, none⟩ = some (.int .i64 x.p1) := Lib.cell_of_heap hp 1
  have g2 : wc.cell? ⟨p, 2, none⟩ = some (.int .i64 x.p2) := Lib.cell_of_heap hp 2
  have g3 : wc.cell? ⟨p, 3, none⟩ = some (.int .i64 x.p3) := Lib.cell_of_heap hp 3
  have j0 : wc.cell? ⟨w.heap.size, 0, none⟩ = some (.int .i64 0) := Lib.cell_of_heap hr1 0
  have j1 : wc.cell? ⟨w.heap.size, 1, none⟩ = some (.int .i64 0) := Lib.cell_of_heap hr1 1
  have j2 : wc.cell? ⟨w.heap.size, 2, none⟩ = some (.int .i64 0) := Lib.cell_of_heap hr1 2
  have j3 : wc.cell? ⟨w.heap.size, 3, none⟩ = some (.int .i64 0) := Lib.cell_of_heap hr1 3
  have z0 := Lib.frozen_of_heap hr1 0
  have z1 := Lib.frozen_of_heap hr1 1
  have z2 := Lib.frozen_of_heap hr1 2
  have z3 := Lib.frozen_of_heap hr1 3
  have hne1 : p ≠ lb := by omega
  have hne2 : w.heap.size ≠ lb := by omega
  have hne3 : w.heap.size ≠ p := by omega
  have HB : Hid (LpB wc lb b t rb rl 0 ∧ OnlyL lb w wc ∧ lb < w.heap.size ∧ wc.heap[w.heap.size]? = some (.cells #[.int .i64 0, .int .i64 0, .int .i64 0, .int .i64 0] 41 (0, 0))) := ⟨h1.blk, OnlyL.of bc, hlt, hr1⟩
  clear c0 c1 c4 z4 hlv hX0 hb0 hs0 hp hbc bc h1 hr1
  go_wp2_with fail
  have hfin : ∀ v0 v1 v2 v3 : Value, OnlyL lb w (((((wc.setCell ⟨lb, 4, none⟩ (.int .i64 0)).setCell ⟨w.heap.size, 0, none⟩ v0).setCell ⟨w.heap.size, 1, none⟩ v1).setCell ⟨w.heap.size, 2, none⟩ v2).setCell ⟨w.heap.size, 3, none⟩ v3) ∧ LpB (((((wc.setCell ⟨lb, 4, none⟩ (.int .i64 0)).setCell ⟨w.heap.size, 0, none⟩ v0).setCell ⟨w.heap.size, 1, none⟩ v1).setCell ⟨w.heap.size, 2, none⟩ v2).setCell ⟨w.heap.size, 3, none⟩ v3) lb b t rb rl 0 := fun v0 v1 v2 v3 =>
    ⟨((((HB.out.2.1.set ⟨lb, 4, none⟩ _ (.inl rfl)).set ⟨w.heap.size, 0, none⟩ _ (.inr (Nat.le_refl _))).set ⟨w.heap.size, 1, none⟩ _ (.inr (Nat.le_refl _))).set ⟨w.heap.size, 2, none⟩ _ (.inr (Nat.le_refl _))).set ⟨w.heap.size, 3, none⟩ _ (.inr (Nat.le_refl _)),
      ((((HB.out.1.set 0).far ⟨w.heap.size, 0, none⟩ _ hne2.symm).far ⟨w.heap.size, 1, none⟩ _ hne2.symm).far ⟨w.heap.size, 2, none⟩ _ hne2.symm).far ⟨w.heap.size, 3, none⟩ _ hne2.symm⟩
  have hR : (((((wc.setCell ⟨lb, 4, none⟩ (.int .i64 0)).setCell ⟨w.heap.size, 0, none⟩ (.int .i64 x.p0)).setCell ⟨w.heap.size, 1, none⟩ (.int .i64 x.p1)).setCell ⟨w.heap.size, 2, none⟩ (.int .i64 x.p2)).setCell ⟨w.heap.size, 3, none⟩ (.int .i64 x.p3)).heap[w.heap.size]? = some (.cells #[.int .i64 x.p0, .int .i64 x.p1, .int .i64 x.p2, .int .i64 x.p3] 41 (0, 0)) :=
    Go.Joins.block_setCell (Go.Joins.block_setCell (Go.Joins.block_setCell (Go.Joins.block_setCell ((Below.heap_setCell _ _ _ _ (by exact hne2)).trans HB.out.2.2.2) _) _) _) _
  refine bodyPost_ret (v := quad4 x.p0 x.p1 x.p2 x.p3) ?_ rfl ⟨rfl, ?_⟩
  · simp [results, Tryz.results106, go_sem, Lib.cell_of_heap hR, quad4]
  · obtain ⟨f1, f2⟩ := hfin (.int .i64 x.p0) (.int .i64 x.p1) (.int .i64 x.p2) (.int .i64 x.p3)
    obtain ⟨a1, a2⟩ := HH.out.after f1 f2
    exact ⟨_, a1, a2⟩
end Go.Proofs.YtofbcngcblleaabGreat.A

namespace Go.Proofs.YtofbcngcblleaabGreat.A
open Go.RowKit Go.Maps
def Ar.join (A : Ar) (t : Nat) (q0 q1 q2 q3 : Int) : Ar × Int × Int := if (joinE A t q0 q1 q2 q3).1 ≠ 0 then (A, 0, (joinE A t q0 q1 q2 q3).1) else A.become t (sqTh q0 q1 q2 q3 (joinE A t q0 q1 q2 q3).2)
def With (F : Nat → Prop) (hb : Nat) : Nat → Prop := fun k => F k ∨ k = hb
theorem four_any (id : Int) (w : World) : Calls Tryz.prog 55 #[.int .i64 id] w fun x w' => x = .returned (quad4 id id id id) ∧ Below w.heap.size w w' := by
  go_enter Tryz.func55, Tryz.ntmps55
  go_wp2_with fail
  refine bodyPost_ret (v := quad4 id id id id) ?_ rfl ⟨rfl, ?_⟩
  · simp [results, Tryz.results55, go_sem, quad4]
  · exact (Below.refl _ _).alloc (Nat.le_refl _) _
end Go.Proofs.YtofbcngcblleaabGreat.A

namespace Go.Proofs.YtofbcngcblleaabGreat.A
open Go.RowKit Go.Proofs.YtofbcngcblleaabGreat.L
variable {w w1 : World} {o o1 : Nat → Nat} {hb b t : Nat} {e : Int} {v : Value} {A A' : Ar} {PR : (Bool → Nat → Bool) → Int → Prop} {q : Nat → Int} {L : Nat → Prop}
structure HA (w : World) (o : Nat → Nat) (hb b t : Nat) (e : Int) (v : Value) (A : Ar) : Prop where
  hand : HandAt w hb b t e v
  lab : o hb = 3
  ar : ArL w o b A
def HL (l : Nat) : Prop := l = 1 ∨ l = 3
def HKp (o : Nat → Nat) (w : World) (hb b t : Nat) (e : Int) (v : Value) (A : Ar) (w' : World) : Prop := ∃ o', HA w' o' hb b t e v A ∧ Ch HL o w o' w'
theorem HA.ch (h : HA w o hb b t e v A) (k : Ch L o w o1 w1) (hn : ∀ l, L l → ¬ HL l) : HA w1 o1 hb b t e v A :=
  ⟨h.hand.go (k.at h.hand.lt h.lab fun e => hn 3 e (.inr rfl)).1, (k.at h.hand.lt h.lab fun e => hn 3 e (.inr rfl)).2, h.ar.ch k fun e => hn 1 e (.inl rfl)⟩
theorem HA.below (h : HA w o hb b t e v A) (k : Below w.heap.size w w1) : HA w1 (ext o w.heap.size 0) hb b t e v A := h.ch (L := fun _ => False) (Ch.ofBelow k 0) fun _ h => h.elim
theorem HA.drew (h : HA w o hb b t e v A) : HA w.drew o hb b t e v A := h.ch ((Ch.refl (fun _ => False) o w).drew) fun _ h => h.elim
theorem HA.setA (h : HA w o hb b t e v A) (k : Ch (fun l => l = 1) o w o1 w1) (hA : ArL w1 o1 b A') : HA w1 o1 hb b t e v A' :=
  ⟨h.hand.go (k.at h.hand.lt h.lab (by omega)).1, (k.at h.hand.lt h.lab (by omega)).2, hA⟩
theorem HA.grown {e' : Int} {v' : Value} (h : HA w o hb b t e v A) (h1 : HandAt w1 hb b t e' v') (g : w.grownBy w1 (some hb)) : HA w1 (ext o w.heap.size 0) hb b t e' v' A ∧ Ch HL o w (ext o w.heap.size 0) w1 := by
  have k : Ch (fun l => l = 3) o w (ext o w.heap.size 0) w1 := ⟨g.os, g.tape, g.output, g.size, fun _ hk => ext_old hk, fun i hi hn => g.block i hi fun e => hn (by cases e; exact h.lab)⟩
  exact ⟨⟨h1, by rw [ext_old h.hand.lt]; exact h.lab, h.ar.ch k (by omega)⟩, k.mono fun _ h => .inr h⟩
theorem one_HL : ∀ l, l = 1 → HL l := fun _ h => .inl h
set_option maxRecDepth 20000 in
set_option maxHeartbeats 2000000 in
theorem hdJoin_ok (h : HA w o hb b t 0 v A) (hS : Sound A) (ht : t < 64) (q0 q1 q2 q3 : Int) (h0 : Fits q0) (h1 : Fits q1) (h2 : Fits q2) (h3 : Fits q3) :
    Calls Tryz.prog 54 #[.pointer (some ⟨hb, 0, none⟩), quad4 q0 q1 q2 q3] w fun r w' => r = .returned (.int .i64 (A.joinP t q0 q1 q2 q3).2.1) ∧ HKp o w hb b t (A.joinP t q0 q1 q2 q3).2.2 v (A.joinP t q0 q1 q2 q3).1 w' := by
  have hbx : Below w.heap.size w (w.alloc (.cells #[.int .i64 q0, .int .i64 q1, .int .i64 q2, .int .i64 q3] 41)) := (Below.refl _ _).alloc (Nat.le_refl _) _
  have hx := h.below hbx
  have c0 := hx.hand.c0
  have c1 := hx.hand.c1
  have c2 := hx.hand.c2
  have HK : Hid (Ch HL o w (ext o w.heap.size 0) (w.alloc (.cells #[.int .i64 q0, .int .i64 q1, .int .i64 q2, .int .i64 q3] 41))) := Ch.ofBelow hbx 0
  generalize ext o w.heap.size 0 = o1 at *
  generalize hwx : w.alloc (.cells #[.int .i64 q0, .int .i64 q1, .int .i64 q2, .int .i64 q3] 41) = wx at *
  have d0 : wx.cell? ⟨w.heap.size, 0, none⟩ = some (.int .i64 q0) := by rw [← hwx]; simp
  have d1 : wx.cell? ⟨w.heap.size, 1, none⟩ = some (.int .i64 q1) := by rw [← hwx]; simp
  have d2 : wx.cell? ⟨w.heap.size, 2, none⟩ = some (.int .i64 q2) := by rw [← hwx]; simp
  have d3 : wx.cell? ⟨w.heap.size, 3, none⟩ = some (.int .i64 q3) := by rw [← hwx]; simp
  obtain ⟨F, ha, hF⟩ := hx.drew.ar
  have hj := joinP_any b t q0 q1 q2 q3 F A wx.drew ha hS ht h0 h1 h2 h3
  have HX : Hid (HA wx o1 hb b t 0 v A ∧ ∀ k, F k → o1 k = 1) := ⟨hx, hF⟩
  unfold JoinPOut at hj
  obtain ⟨P, hP⟩ : ∃ P, P = A.joinP t q0 q1 q2 q3 := ⟨_, rfl⟩
  rw [← hP] at hj ⊢
  clear hP h hbx hx ha hF
  unfold quad4 at hj ⊢
  go_enter Tryz.func54, Tryz.ntmps54
  go_wp2_with fail
  (try rw [hwx])
  clear hwx
  go_region_with (go_at_call 10; refine hj.mono ?_; rintro e w1 ⟨rfl, hled⟩; obtain ⟨a1, k1⟩ := led_ch HX.out.2 hled; have hs1 := HX.out.1.drew.setA k1 a1)
  all_goals
    have hk := keep_any hb b t 0 P.2.2 v _ hs1.hand
    have HS1 : Hid (HA w1 (ext o1 wx.drew.heap.size 1) hb b t 0 v P.1 ∧ Ch HL o w (ext o1 wx.drew.heap.size 1) w1) := ⟨hs1, HK.out.drew.trans (k1.mono one_HL)⟩
    clear hs1 k1 a1 hled
    go_wp2_with fail
    refine hk.mono ?_
    rintro x w3 ⟨rfl, h3, g3⟩
    go_wp2_with fail
    go_ret
    obtain ⟨h4, k4⟩ := HS1.out.1.grown h3 g3
    exact ⟨rfl, _, h4, HS1.out.2.trans k4⟩
theorem hdJoin_dead (h : HA w o hb b t e v A) (he : e ≠ 0) (q0 q1 q2 q3 : Int) :
    Calls Tryz.prog 54 #[.pointer (some ⟨hb, 0, none⟩), quad4 q0 q1 q2 q3] w fun r w' => r = .returned (.int .i64 0) ∧ HKp o w hb b t e v A w' := by
  have hbx : Below w.heap.size w (w.alloc (.cells #[.int .i64 q0, .int .i64 q1, .int .i64 q2, .int .i64 q3] 41)) := (Below.refl _ _).alloc (Nat.le_refl _) _
  have c2 := (h.below hbx).hand.c2
  unfold quad4
  go_enter Tryz.func54, Tryz.ntmps54
  go_wp2_with fail
  go_ret
  all_goals exact ⟨rfl, _, h.below hbx, Ch.ofBelow hbx 0⟩
end Go.Proofs.YtofbcngcblleaabGreat.A

namespace Go.Proofs.YtofbcngcblleaabGreat.A
open Go.RowKit Go.Proofs.YtofbcngcblleaabGreat.L
variable {w w1 : World} {o : Nat → Nat} {lb b t : Nat} {rb rl e : Int} {A : Ar}
def Kp (o : Nat → Nat) (w : World) (lb b t : Nat) (rb rl e : Int) (A : Ar) (w' : World) : Prop := ∃ o', LS w' o' lb b t rb rl e A ∧ Ch AL o w o' w'
theorem Kp.of (h : LS w o lb b t rb rl e A) (hb : Below w.heap.size w w1) : Kp o w lb b t rb rl e A w1 := ⟨_, h.below hb, Ch.ofBelow hb 0⟩
theorem lpLevel_dead (h : LS w o lb b t rb rl e A) (he : e ≠ 0) (id : Int) :
    Calls Tryz.prog 60 #[.pointer (some ⟨lb, 0, none⟩), .int .i64 id] w fun r w' => r = .returned (.int .i64 2) ∧ Kp o w lb b t rb rl e A w' := by
  obtain ⟨_, _, _, _, c4, _⟩ := h.cells
  go_enter Tryz.func60, Tryz.ntmps60
  go_wp2_with fail
  go_ret
  all_goals exact ⟨rfl, Kp.of h (Below.refl _ _)⟩
theorem lpNote_dead (h : LS w o lb b t rb rl e A) (he : e ≠ 0) (id j v : Int) :
    Calls Tryz.prog 86 #[.pointer (some ⟨lb, 0, none⟩), .int .i64 id, .int .i64 j, .int .i64 v] w fun r w' => r = .returned (.tuple #[]) ∧ Kp o w lb b t rb rl e A w' := by
  obtain ⟨_, _, _, _, c4, _⟩ := h.cells
  go_enter Tryz.func86, Tryz.ntmps86
  go_wp2_with fail
  go_end0
  all_goals exact ⟨rfl, Kp.of h (Below.refl _ _)⟩
theorem lpNext_dead (h : LS w o lb b t rb rl e A) (he : e ≠ 0) (id lev j : Int) :
    Calls Tryz.prog 62 #[.pointer (some ⟨lb, 0, none⟩), .int .i64 id, .int .i64 lev, .int .i64 j] w fun r w' => r = .returned (.int .i64 0) ∧ Kp o w lb b t rb rl e A w' := by
  obtain ⟨_, _, _, _, c4, _⟩ := h.cells
  go_enter Tryz.func62, Tryz.ntmps62
  go_wp2_with fail
  go_ret
  all_goals exact ⟨rfl, Kp.of h (Below.refl _ _)⟩
theorem lpJoin_dead (h : LS w o lb b t rb rl e A) (he : e ≠ 0) (q0 q1 q2 q3 : Int) :
    Calls Tryz.prog 100 #[.pointer (some ⟨lb, 0, none⟩), quad4 q0 q1 q2 q3] w fun r w' => r = .returned (.int .i64 0) ∧ Kp o w lb b t rb rl e A w' := by
  have hbx : Below w.heap.size w (w.alloc (.cells #[.int .i64 q0, .int .i64 q1, .int .i64 q2, .int .i64 q3] 41)) := (Below.refl _ _).alloc (Nat.le_refl _) _
  obtain ⟨_, _, _, _, c4, _⟩ := (h.below hbx).cells
  unfold quad4
  go_enter Tryz.func100, Tryz.ntmps100
  go_wp2_with fail
  go_ret
  all_goals exact ⟨rfl, Kp.of h hbx⟩
theorem lpKids_dead (h : LS w o lb b t rb rl e A) (he : e ≠ 0) (id : Int) :
    Calls Tryz.prog 106 #[.pointer (some ⟨lb, 0, none⟩), .int .i64 id] w fun r w' => r = .returned (quad4 0 0 0 0) ∧ Kp o w lb b t rb rl e A w' := by
  have hbx : Below w.heap.size w (w.alloc (.cells #[.int .i64 0, .int .i64 0, .int .i64 0, .int .i64 0] 41)) := (Below.refl _ _).alloc (Nat.le_refl _) _
  obtain ⟨_, _, _, _, c4, _⟩ := (h.below hbx).cells
  go_enter Tryz.func106, Tryz.ntmps106
  go_wp2_with fail
  refine bodyPost_ret (v := quad4 0 0 0 0) ?_ rfl ⟨rfl, Kp.of h hbx⟩
  simp [results, Tryz.results106, go_sem, quad4]
set_option maxRecDepth 20000 in
set_option maxHeartbeats 2000000 in
theorem lpNote_ok (h : LS w o lb b t rb rl 0 A) (hS : Sound A) (ht : t < 64) (h0 : 0 ≤ rb) (h1 : rb ≤ 511) (id j v : Int) (fi : Fits id) (fj : Fits j) (fv : Fits v) :
    Calls Tryz.prog 86 #[.pointer (some ⟨lb, 0, none⟩), .int .i64 id, .int .i64 j, .int .i64 v] w fun r w' => r = .returned (.tuple #[]) ∧ Kp o w lb b t rb rl (A.noteP t id (rnum rb rl) j v).2 (A.noteP t id (rnum rb rl) j v).1 w' := by
  obtain ⟨c0, c1, _, _, c4, z4⟩ := h.cells
  have hnum := number_any h.drew h0 h1
  obtain ⟨F, ha, hF⟩ := h.ar
  have hno := fun n => noteP_any b t F id (rnum rb rl) j v A (w.drewN n) (ha.other (Nat.le_refl _) fun _ _ => rfl) hS ht fi (rnum_fits rb rl) fj fv
  unfold NoteOut at hno
  have HX : Hid (LS w o lb b t rb rl 0 A ∧ ∀ k, F k → o k = 1) := ⟨h, hF⟩
  generalize rnum rb rl = rn at *
  obtain ⟨P, hP⟩ : ∃ P, P = A.noteP t id rn j v := ⟨_, rfl⟩
  rw [← hP] at hno ⊢
  clear hP h ha hF
  go_enter Tryz.func86, Tryz.ntmps86
  go_wp2_with fail
  go_region_with (first
    | (go_at_call 84; refine hnum.mono ?_; rintro e w1 ⟨rfl, n, rfl⟩)
    | (go_at_call 103; refine (hno _).mono ?_; rintro e w2 ⟨rfl, hled⟩; obtain ⟨a1, k1⟩ := led_ch HX.out.2 hled; have hs1 := (HX.out.1.ch ((Ch.refl (fun _ => False) o w).drewN _) fun _ h => h.elim).setA k1 a1; obtain ⟨_, _, _, _, q4, q5⟩ := hs1.cells))
  all_goals
    go_wp2_with fail
    go_end0
    obtain ⟨h2, k2⟩ := hs1.setE P.2
    exact ⟨rfl, _, h2, (((Ch.refl AL o w).drewN _).trans (k1.mono one_AL)).trans k2⟩
end Go.Proofs.YtofbcngcblleaabGreat.A

namespace Go.Proofs.YtofbcngcblleaabGreat.A
open Go.RowKit Go.Maps
def HandIn (w : World) (hb b t : Nat) (e : Int) (E : List Int) (H : Nat → Prop) : Prop := ∃ v, HandAt w hb b t e v ∧ IntRow w v E ∧ H hb ∧ (∀ k, v.ownBlock = some k → H k) ∧ v.ownBlock ≠ some hb ∧ ∀ k, H k → k < w.heap.size
def emptyS (t : Nat) (s : Ar × List Int) : Ar × List Int := ((s.1.join t s.2.getLast! s.2.getLast! s.2.getLast! s.2.getLast!).1, s.2 ++ [(s.1.join t s.2.getLast! s.2.getLast! s.2.getLast! s.2.getLast!).2.1])
structure StepOk (t : Nat) (s : Ar × List Int) : Prop where
  young : Young s.1
  fits : Fits s.2.getLast!
  ok : (s.1.join t s.2.getLast! s.2.getLast! s.2.getLast! s.2.getLast!).2.2 = 0
  lo : ∀ l, levelF s.1.ths t s.2.getLast! = some l → 0 ≤ l
def RoundOut (w : World) (hb b n t : Nat) (F H : Nat → Prop) (s : Ar × List Int) (w' : World) : Prop :=
  ∃ F' H', ArAt w' b F' n s.1 ∧ HandIn w' hb b t 0 s.2 H' ∧ (∀ k, F' k → ¬ H' k) ∧ (∀ k, F' k ∨ H' k → (F k ∨ H k) ∨ w.heap.size ≤ k) ∧ Apart (fun k => F k ∨ H k) w w'
theorem HandAt.setV {w : World} {hb b t : Nat} {e : Int} {v : Value} (h : HandAt w hb b t e v) (u : Value) : HandAt (w.setCell ⟨hb, 3, none⟩ u) hb b t e u := by
  have f : ∀ i, (w.setCell ⟨hb, 3, none⟩ u).frozen? ⟨hb, i, none⟩ = w.frozen? ⟨hb, i, none⟩ := fun i => by simp
  refine ⟨(cell_set_other (by omega)).trans h.c0, (cell_set_other (by omega)).trans h.c1, (cell_set_other (by omega)).trans h.c2, ?_, (f 2).trans h.z2, (f 3).trans h.z3⟩
  have hc := h.c3
  simp [go_sem, hc]
theorem push_old {w : World} {o : Obj} {k : Nat} (h : k < w.heap.size) : (w.alloc o).heap[k]? = w.heap[k]? := by
  show (w.heap.push o)[k]? = _
  rw [Array.getElem?_push, if_neg (by omega)]
def nth (l : List Int) (i : Nat) : Int := l[i]!
def emptyN (t : Nat) (s : Ar × List Int) : Nat → Ar × List Int
  | 0 => s
  | i + 1 => emptyS t (emptyN t s i)
end Go.Proofs.YtofbcngcblleaabGreat.A

namespace Go.Proofs.YtofbcngcblleaabGreat.A
open Go.RowKit Go.Maps
def Ext (l l' : List Th) : Prop := ∀ (j : Nat) (x : Th), l[j]? = some x → ∃ x' : Th, l'[j]? = some x' ∧ x'.key = x.key ∧ x'.lv = x.lv ∧ x'.va = x.va ∧ ∀ u, x.mask.testBit u = true → x'.mask.testBit u = true
theorem Ext.trans {l l' l'' : List Th} (h : Ext l l') (k : Ext l' l'') : Ext l l'' := fun j x hx => by
  obtain ⟨x', h1, h2, h3, h4, h5⟩ := h j x hx
  obtain ⟨x'', k1, k2, k3, k4, k5⟩ := k j x' h1
  exact ⟨x'', k1, k2.trans h2, k3.trans h3, k4.trans h4, fun u hu => k5 u (h5 u hu)⟩
theorem own_some {l : List Th} {t : Nat} {id : Int} {x : Th} (h : ownF l t id = some x) : 2 ≤ id ∧ l[(id - 2).toNat]? = some x ∧ x.mask.testBit t = true := by
  unfold ownF at h
  split at h
  · rename_i h2
    rw [Option.filter_eq_some_iff] at h
    exact ⟨h2, h.1, h.2⟩
  · cases h
theorem level_some {l : List Th} {t : Nat} {id m : Int} (h : levelF l t id = some m) : (id = 0 ∨ id = 1) ∧ m = 0 ∨ ∃ x, ownF l t id = some x ∧ x.k = 1 ∧ x.lv = m := by
  unfold levelF at h
  split at h
  · rename_i h0
    exact Or.inl ⟨h0, by cases h; rfl⟩
  · cases ho : ownF l t id with
    | none => rw [ho] at h; cases h
    | some x =>
      rw [ho] at h
      simp only at h
      split at h
      · rename_i hk
        exact Or.inr ⟨x, rfl, hk, by cases h; rfl⟩
      · cases h
theorem level_fits {l : List Th} {t : Nat} {id m : Int} (h : levelF l t id = some m) (hl : l.length < 1000000) : 0 ≤ id ∧ id < 1000002 := by
  rcases level_some h with ⟨h0, _⟩ | ⟨x, h1, _⟩
  · omega
  · obtain ⟨h2, h3, _⟩ := own_some h1
    have := (List.getElem?_eq_some_iff.1 h3).1
    omega
def glevel (l : List Th) (id : Int) : Option Int := if id = 0 ∨ id = 1 then some 0 else if 2 ≤ id then (match l[(id - 2).toNat]? with | some x => if x.k = 1 then some x.lv else none | none => none) else none
theorem glevel_of {l : List Th} {t : Nat} {id m : Int} (h : levelF l t id = some m) : glevel l id = some m := by
  rcases level_some h with ⟨h0, rfl⟩ | ⟨x, h1, h2, h3⟩
  · unfold glevel; rw [if_pos h0]
  · obtain ⟨g2, g3, _⟩ := own_some h1
    unfold glevel
    rw [if_neg (by omega), if_pos g2, g3]
    simp only
    rw [if_pos h2, h3]
structure Good (l : List Th) : Prop where
  lv : ∀ x ∈ l, x.k = 1 → 1 ≤ x.lv ∧ x.lv ≤ 44 ∧ glevel l x.p0 = some (x.lv - 1) ∧ glevel l x.p1 = some (x.lv - 1) ∧ glevel l x.p2 = some (x.lv - 1) ∧ glevel l x.p3 = some (x.lv - 1)
structure Grew (t : Nat) (A A' : Ar) : Prop where
  ext : Ext A.ths A'.ths
  len : A'.ths.length ≤ A.ths.length + 1
  lim : A'.lim = A.lim
  room : A'.room = A.room
  free : A'.free = A.free
  cnt : ∀ u, A.cnt u ≤ A'.cnt u ∧ A'.cnt u ≤ A.cnt u + 1
  fresh : ∀ u, (A'.fresh u).length ≤ (A.fresh u).length + 1
  mask : t < 64 → (∀ x ∈ A.ths, x.mask < 18446744073709551616) → ∀ x ∈ A'.ths, x.mask < 18446744073709551616
  other : ∀ u, u ≠ t → ∀ x' ∈ A'.ths, x'.mask.testBit u = true → ∃ x ∈ A.ths, x.mask.testBit u = true
end Go.Proofs.YtofbcngcblleaabGreat.A

namespace Go.Proofs.YtofbcngcblleaabGreat.A
open Go.RowKit Go.Maps
structure Bud (A : Ar) (k : Nat) : Prop where
  free : A.free = []
  mask : ∀ z ∈ A.ths, z.mask < 18446744073709551616
  few : A.ths.length + k < 1000000
  room : (A.ths.length : Int) + k < A.room
  cnt : ∀ t, t < 64 → 0 ≤ A.cnt t ∧ A.cnt t + k < 4611686018427387904
  fresh : ∀ t, t < 64 → (A.fresh t).length + k < 10000000
structure Made (t : Nat) (A : Ar) (q0 q1 q2 q3 m : Int) (R : Ar × Int × Int) : Prop where
  ok : R.2.2 = 0
  grew : Grew t A R.1
  good : Good R.1.ths
  own : ∃ y, ownF R.1.ths t R.2.1 = some y ∧ y.key = ⟨1, q0, q1, q2, q3⟩ ∧ y.lv = m + 1
structure Emp (l : List Th) (t : Nat) (E : List Int) : Prop where
  zero : E[0]? = some 0
  lv : ∀ (i : Nat) (e : Int), E[i]? = some e → levelF l t e = some (i : Int)
  parts : ∀ (i : Nat) (e e' : Int), E[i]? = some e → E[i + 1]? = some e' → ∃ y, ownF l t e' = some y ∧ y.key = ⟨1, e, e, e, e⟩
end Go.Proofs.YtofbcngcblleaabGreat.A
