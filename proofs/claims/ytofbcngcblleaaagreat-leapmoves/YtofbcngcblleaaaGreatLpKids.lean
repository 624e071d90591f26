/- A leaper's kids and note. -/
import Derived.Test.YtofbcngcblleaaaGreatLpOps
import Derived.Test.YtofbcngcblleaaaGreatArBackG
namespace Go.Proofs.YtofbcngcblleaaaGreat.A
open Go.RowKit Go.Proofs.YtofbcngcblleaaaGreat.L

variable {w : World} {o : Nat → Nat} {lb b t : Nat} {rb rl e : Int} {A : Ar}
theorem square_QV {id : Int} {k : Int × Int × Int × Int} (h : QV (view A t) id = some k) : ∃ x, squareF A.ths t id = some x ∧ k = (x.p0, x.p1, x.p2, x.p3) := by
  unfold QV at h
  cases hv : (view A t).V id with
  | none => rw [hv] at h; cases h
  | some f =>
    rw [hv] at h
    simp only at h
    split at h
    · rename_i hk
      unfold view ownV at hv
      obtain ⟨x, hx, e⟩ := Option.map_eq_some_iff.1 hv
      subst e
      refine ⟨x, ?_, (Option.some.inj h).symm⟩
      unfold squareF
      rw [hx, Option.filter_some, if_pos (by simpa using (show x.k = 1 from hk))]
    · cases h
theorem below_dr {w w1 : World} (h : Below w.drew.heap.size w.drew w1) : Below w.heap.size w w1 := ⟨h.os, h.tape, h.output, h.size, h.block⟩
set_option maxRecDepth 20000 in
set_option maxHeartbeats 2000000 in
/-- the four quarters of a square -/
theorem lpKids_ok (h : LS w o lb b t rb rl 0 A) (hS : Sound A) (ht : t < 64) (id : Int) (hid : Fits id) (k0 k1 k2 k3 : Int) (hq : QV (view A t) id = some (k0, k1, k2, k3)) :
    Calls Tryz.prog 131 #[.pointer (some ⟨lb, 0, none⟩), .int .i64 id] w fun e w' => e = .returned (quad4 k0 k1 k2 k3) ∧ ∃ o', LS w' o' lb b t rb rl 0 A ∧ Ch AL o w o' w' := by
  obtain ⟨x, hx, hk⟩ := square_QV hq
  simp only [Prod.mk.injEq] at hk
  obtain ⟨rfl, rfl, rfl, rfl⟩ := hk
  obtain ⟨F, ha, hF⟩ := h.ar
  have hlv : ∀ V, Below w.heap.size w V → Calls Tryz.prog 73 #[.pointer (some ⟨b, 0, none⟩), .int .i64 t, .int .i64 id] V fun e w' => e = .returned (.tuple #[.agg #[.int .i64 x.p0, .int .i64 x.p1, .int .i64 x.p2, .int .i64 x.p3], .int .i64 0]) ∧ Below V.heap.size V w' := fun V hV => by
    obtain ⟨LL, r, D, hr, _⟩ := ha.below hV
    have := Kids_any b 0 t id r A.ths V hr.raw hr.ths ht hS.mask hid
    rw [hx] at this
    exact this
  have hb0 : Below w.heap.size w (w.alloc (.cells #[.int .i64 0, .int .i64 0, .int .i64 0, .int .i64 0] 76)) := (Below.refl _ _).alloc (Nat.le_refl _) _
  have hs0 := hb0.size
  have hX0 : (w.alloc (.cells #[.int .i64 0, .int .i64 0, .int .i64 0, .int .i64 0] 76)).heap[w.heap.size]? = some (.cells #[.int .i64 0, .int .i64 0, .int .i64 0, .int .i64 0] 76 (0, 0)) := heap_alloc_new w _
  obtain ⟨c0, c1, _, _, c4, z4⟩ := (h.below hb0).cells
  have HH : Hid (LS w o lb b t rb rl 0 A) := h
  clear ha hF hx hq
  go_enter Tryz.func131, Tryz.ntmps131
  go_wp2_with fail
  go_cut [5, 6] from 13 to 25 (fun s5 s6 wc => ∃ p : Nat, s5 = .pointer (some ⟨p, 0, none⟩) ∧ s6 = .int .i64 0 ∧ wc.heap[p]? = some (.cells #[.int .i64 x.p0, .int .i64 x.p1, .int .i64 x.p2, .int .i64 x.p3] 76 (0, 0)) ∧ w.heap.size + 1 ≤ p ∧ Below (w.heap.size + 1) (w.alloc (.cells #[.int .i64 0, .int .i64 0, .int .i64 0, .int .i64 0] 76)) wc)
  case first =>
    have hWA : Below w.heap.size w ((w.alloc (.cells #[.int .i64 0, .int .i64 0, .int .i64 0, .int .i64 0] 76)).alloc (.cells #[.int .i64 0, .int .i64 0, .int .i64 0, .int .i64 0] 76)) := hb0.alloc hs0 _
    have hxA : ((w.alloc (.cells #[.int .i64 0, .int .i64 0, .int .i64 0, .int .i64 0] 76)).alloc (.cells #[.int .i64 0, .int .i64 0, .int .i64 0, .int .i64 0] 76)).heap[w.heap.size + 1]? = some (.cells #[.int .i64 0, .int .i64 0, .int .i64 0, .int .i64 0] 76 (0, 0)) := heap_alloc2_new w _ _
    obtain ⟨cA0, cA1, _, _, _, _⟩ := (HH.out.below hWA).cells
    go_region_with (first
      | (go_at_call 73; refine (hlv _ hWA.drew).mono ?_; rintro e w1 ⟨rfl, hbx⟩; have hX1 := ((below_dr hbx).block (w.heap.size + 1) (by simp)).trans hxA; have hc0 := Lib.cell_of_heap hX1 0; have hc1 := Lib.cell_of_heap hX1 1; have hc2 := Lib.cell_of_heap hX1 2; have hc3 := Lib.cell_of_heap hX1 3; have hz0 := Lib.frozen_of_heap hX1 0; have hz1 := Lib.frozen_of_heap hX1 1; have hz2 := Lib.frozen_of_heap hX1 2; have hz3 := Lib.frozen_of_heap hX1 3)
      | (go_at_call 73; refine (hlv _ hb0.drew).mono ?_; rintro e w1 ⟨rfl, hbx⟩))
    all_goals
      go_wp2_with fail
      go_meet
      case rel =>
        first
        | (have hX2 := hX1; exact ⟨_, rfl, rfl, Go.Joins.block_setCell (Go.Joins.block_setCell (Go.Joins.block_setCell (Go.Joins.block_setCell hX1 _) _) _) _, Nat.le_refl _, (((((((Below.refl _ _).alloc (by simp) _).trans ((below_dr hbx).mono (by simp))).setCell (p := ⟨w.heap.size + 1, 0, none⟩) (Nat.le_refl _) _).setCell (p := ⟨w.heap.size + 1, 1, none⟩) (Nat.le_refl _) _).setCell (p := ⟨w.heap.size + 1, 2, none⟩) (Nat.le_refl _) _).setCell (p := ⟨w.heap.size + 1, 3, none⟩) (Nat.le_refl _) _)⟩)
        | exact ⟨_, rfl, rfl, heap_alloc_new w1 _, by have := (below_dr hbx).size; simp at this; omega, ((below_dr hbx).mono (by simp)).alloc (by have := (below_dr hbx).size; simp at this; omega) _⟩
  case rest =>
  obtain ⟨p, rfl, rfl, hp, hpl, hbc⟩ := hcut
  have bc : Below w.heap.size w wc := hb0.trans (hbc.mono (by omega))
  have h1 := HH.out.below bc
  have hlt := HH.out.lt
  have hplt : p < wc.heap.size := (Array.getElem?_eq_some_iff.1 hp).1
  have hr1 := (hbc.block w.heap.size (by omega)).trans hX0
  have hr1l : w.heap.size < wc.heap.size := (Array.getElem?_eq_some_iff.1 hr1).1
  obtain ⟨_, _, _, _, e4, y4⟩ := h1.cells
  have g0 : wc.cell? ⟨p, 0, none⟩ = some (.int .i64 x.p0) := Lib.cell_of_heap hp 0
  have g1 : wc.cell? ⟨p, 1, none⟩ = some (.int .i64 x.p1) := Lib.cell_of_heap hp 1
  have g2 : wc.cell? ⟨p, 2, none⟩ = some (.int .i64 x.p2) := Lib.cell_of_heap hp 2
  have g3 : wc.cell? ⟨p, 3, none⟩ = some (.int .i64 x.p3) := Lib.cell_of_heap hp 3
  have j0 : wc.cell? ⟨w.heap.size, 0, none⟩ = some (.int .i64 0) := Lib.cell_of_heap hr1 0
  have j1 : wc.cell? ⟨w.heap.size, 1, none⟩ = some (.int .i64 0) := Lib.cell_of_heap hr1 1
  have j2 : wc.cell? ⟨w.heap.size, 2, none⟩ = some (.int .i64 0) := Lib.cell_of_heap hr1 2
  have j3 : wc.cell? ⟨w.heap.size, 3, none⟩ = some (.int .i64 0) := Lib.cell_of_heap hr1 3
  have z0 := Lib.frozen_of_heap hr1 0
  have z1 := Lib.frozen_of_heap hr1 1
  have z2 := Lib.frozen_of_heap hr1 2
  have z3 := Lib.frozen_of_heap hr1 3
  have hne1 : p ≠ lb := by omega
  have hne2 : w.heap.size ≠ lb := by omega
  have hne3 : w.heap.size ≠ p := by omega
  have HB : Hid (LpB wc lb b t rb rl 0 ∧ OnlyL lb w wc ∧ lb < w.heap.size ∧ wc.heap[w.heap.size]? = some (.cells #[.int .i64 0, .int .i64 0, .int .i64 0, .int .i64 0] 76 (0, 0))) := ⟨h1.blk, OnlyL.of bc, hlt, hr1⟩
  clear c0 c1 c4 z4 hlv hX0 hb0 hs0 hp hbc bc h1 hr1
  go_wp2_with fail
  have hfin : ∀ v0 v1 v2 v3 : Value, OnlyL lb w (((((wc.setCell ⟨lb, 4, none⟩ (.int .i64 0)).setCell ⟨w.heap.size, 0, none⟩ v0).setCell ⟨w.heap.size, 1, none⟩ v1).setCell ⟨w.heap.size, 2, none⟩ v2).setCell ⟨w.heap.size, 3, none⟩ v3) ∧ LpB (((((wc.setCell ⟨lb, 4, none⟩ (.int .i64 0)).setCell ⟨w.heap.size, 0, none⟩ v0).setCell ⟨w.heap.size, 1, none⟩ v1).setCell ⟨w.heap.size, 2, none⟩ v2).setCell ⟨w.heap.size, 3, none⟩ v3) lb b t rb rl 0 := fun v0 v1 v2 v3 =>
    ⟨((((HB.out.2.1.set ⟨lb, 4, none⟩ _ (.inl rfl)).set ⟨w.heap.size, 0, none⟩ _ (.inr (Nat.le_refl _))).set ⟨w.heap.size, 1, none⟩ _ (.inr (Nat.le_refl _))).set ⟨w.heap.size, 2, none⟩ _ (.inr (Nat.le_refl _))).set ⟨w.heap.size, 3, none⟩ _ (.inr (Nat.le_refl _)),
      ((((HB.out.1.set 0).far ⟨w.heap.size, 0, none⟩ _ hne2.symm).far ⟨w.heap.size, 1, none⟩ _ hne2.symm).far ⟨w.heap.size, 2, none⟩ _ hne2.symm).far ⟨w.heap.size, 3, none⟩ _ hne2.symm⟩
  have hR : (((((wc.setCell ⟨lb, 4, none⟩ (.int .i64 0)).setCell ⟨w.heap.size, 0, none⟩ (.int .i64 x.p0)).setCell ⟨w.heap.size, 1, none⟩ (.int .i64 x.p1)).setCell ⟨w.heap.size, 2, none⟩ (.int .i64 x.p2)).setCell ⟨w.heap.size, 3, none⟩ (.int .i64 x.p3)).heap[w.heap.size]? = some (.cells #[.int .i64 x.p0, .int .i64 x.p1, .int .i64 x.p2, .int .i64 x.p3] 76 (0, 0)) :=
    Go.Joins.block_setCell (Go.Joins.block_setCell (Go.Joins.block_setCell (Go.Joins.block_setCell ((Below.heap_setCell _ _ _ _ (by exact hne2)).trans HB.out.2.2.2) _) _) _) _
  refine bodyPost_ret (v := quad4 x.p0 x.p1 x.p2 x.p3) ?_ rfl ⟨rfl, ?_⟩
  · simp [results, Tryz.results131, go_sem, Lib.cell_of_heap hR, quad4]
  · obtain ⟨f1, f2⟩ := hfin (.int .i64 x.p0) (.int .i64 x.p1) (.int .i64 x.p2) (.int .i64 x.p3)
    obtain ⟨a1, a2⟩ := HH.out.after f1 f2
    exact ⟨_, a1, a2⟩
end Go.Proofs.YtofbcngcblleaaaGreat.A
