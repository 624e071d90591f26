/- hand.kids of an own square. -/
import Derived.Test.YtofbcngcblleaaaGreatQuQuart
namespace Go.Proofs.YtofbcngcblleaaaGreat.A
open Go.RowKit Go.Maps Go.ChangeMaps Go.WideElems

theorem keep_zero (hb b t : Nat) (v : Value) (w : World) (h : HandAt w hb b t 0 v) :
    Calls Tryz.prog 37 #[.pointer (some ⟨hb, 0, none⟩), .int .i64 0] w fun x w' => x = .returned (.tuple #[]) ∧ HandAt w' hb b t 0 v ∧ w.grownBy w' (some hb) ∧ w'.cell? ⟨hb, 4, none⟩ = w.cell? ⟨hb, 4, none⟩ := by
  have c2 := h.c2
  have z2 := h.z2
  go_enter Tryz.func37, Tryz.ntmps37
  go_wp2_with fail
  go_end0
  exact ⟨rfl, h.setE 0, set_grown _ _ _ _, cell_set_other (by omega)⟩

set_option maxRecDepth 20000 in
set_option maxHeartbeats 4000000 in
/-- hand.kids -/
theorem handKids_any (hb b n t : Nat) (id : Int) (x : Th) (v : Value) (F : Nat → Prop) (A : Ar) (w : World) (h : HandAt w hb b t 0 v) (hA : ArAt w b F n A) (ht : t < 64) (hm : ∀ x ∈ A.ths, x.mask < 18446744073709551616) (hr : Fits id) (hx : squareF A.ths t id = some x) :
    Calls Tryz.prog 41 #[.pointer (some ⟨hb, 0, none⟩), .int .i64 id] w fun e w' => e = .returned (.agg #[.int .i64 x.p0, .int .i64 x.p1, .int .i64 x.p2, .int .i64 x.p3]) ∧ HandAt w' hb b t 0 v ∧ w.grownBy w' (some hb) ∧ w'.cell? ⟨hb, 4, none⟩ = w.cell? ⟨hb, 4, none⟩ := by
  obtain ⟨r, D, hA⟩ := hA
  have hlv := fun W (hW : ArRaw W b F n A r D) => Kids_any b 0 t id r A.ths W hW.raw hW.ths ht hm hr
  rw [hx] at hlv
  have hb0 : Below w.heap.size w (w.alloc (.cells #[.int .i64 0, .int .i64 0, .int .i64 0, .int .i64 0] 76)) := (Below.refl _ _).alloc (Nat.le_refl _) _
  have hs0 := hb0.size
  have hX0 : (w.alloc (.cells #[.int .i64 0, .int .i64 0, .int .i64 0, .int .i64 0] 76)).heap[w.heap.size]? = some (.cells #[.int .i64 0, .int .i64 0, .int .i64 0, .int .i64 0] 76 (0, 0)) := heap_alloc_new w _
  have h0 := h.below hb0
  have hA0 := hA.below hb0
  have c2 := h0.c2
  have c0 := h0.c0
  have c1 := h0.c1
  simp only [kidsV, lack] at hlv
  go_enter Tryz.func41, Tryz.ntmps41
  go_wp2_with fail
  go_cut [5, 6] from 13 to 26 (fun s5 s6 wc => ∃ p : Nat, s5 = .pointer (some ⟨p, 0, none⟩) ∧ s6 = .int .i64 0 ∧ wc.heap[p]? = some (.cells #[.int .i64 x.p0, .int .i64 x.p1, .int .i64 x.p2, .int .i64 x.p3] 76 (0, 0)) ∧ w.heap.size + 1 ≤ p ∧ Below (w.heap.size + 1) (w.alloc (.cells #[.int .i64 0, .int .i64 0, .int .i64 0, .int .i64 0] 76)) wc)
  case first =>
    have hWA : Below w.heap.size w ((w.alloc (.cells #[.int .i64 0, .int .i64 0, .int .i64 0, .int .i64 0] 76)).alloc (.cells #[.int .i64 0, .int .i64 0, .int .i64 0, .int .i64 0] 76)) := hb0.alloc hs0 _
    have hxA : ((w.alloc (.cells #[.int .i64 0, .int .i64 0, .int .i64 0, .int .i64 0] 76)).alloc (.cells #[.int .i64 0, .int .i64 0, .int .i64 0, .int .i64 0] 76)).heap[w.heap.size + 1]? = some (.cells #[.int .i64 0, .int .i64 0, .int .i64 0, .int .i64 0] 76 (0, 0)) := heap_alloc2_new w _ _
    have cA0 := (h.below hWA).c0
    have cA1 := (h.below hWA).c1
    go_region_with (first
      | (go_at_call 73; refine (hlv _ (hA.below hWA).drew).mono ?_; rintro e w1 ⟨rfl, hbx⟩; have hb1 := hWA.trans ((below_drew hbx).mono hWA.size); have hX1 := ((below_drew hbx).block (w.heap.size + 1) (by simp)).trans hxA; have hc0 := Lib.cell_of_heap hX1 0; have hc1 := Lib.cell_of_heap hX1 1; have hc2 := Lib.cell_of_heap hX1 2; have hc3 := Lib.cell_of_heap hX1 3; have hz0 := Lib.frozen_of_heap hX1 0; have hz1 := Lib.frozen_of_heap hX1 1; have hz2 := Lib.frozen_of_heap hX1 2; have hz3 := Lib.frozen_of_heap hX1 3)
      | (go_at_call 73; refine (hlv _ hA0.drew).mono ?_; rintro e w1 ⟨rfl, hbx⟩; have hb1 := hb0.trans ((below_drew hbx).mono hb0.size)))
    all_goals
      go_wp2_with fail
      go_meet
      case rel =>
        first
        | exact ⟨_, rfl, rfl, heap_alloc_new w1 _, by have := (below_drew hbx).size; simp at this; omega, ((below_drew hbx).mono (by simp)).alloc (by have := (below_drew hbx).size; simp at this; omega) _⟩
        | exact ⟨_, rfl, rfl, Go.Joins.block_setCell (Go.Joins.block_setCell (Go.Joins.block_setCell (Go.Joins.block_setCell hX1 _) _) _) _, Nat.le_refl _, (((((((Below.refl _ _).alloc (by simp) _).trans ((below_drew hbx).mono (by simp))).setCell (p := ⟨w.heap.size + 1, 0, none⟩) (Nat.le_refl _) _).setCell (p := ⟨w.heap.size + 1, 1, none⟩) (Nat.le_refl _) _).setCell (p := ⟨w.heap.size + 1, 2, none⟩) (Nat.le_refl _) _).setCell (p := ⟨w.heap.size + 1, 3, none⟩) (Nat.le_refl _) _)⟩
  case rest =>
  obtain ⟨p, rfl, rfl, hp, hpl, hbc⟩ := hcut
  have bc : Below w.heap.size w wc := hb0.trans (hbc.mono (by omega))
  have h1 := h.below bc
  have hlt := h.lt
  have hplt : p < wc.heap.size := (Array.getElem?_eq_some_iff.1 hp).1
  have hr1 := (hbc.block w.heap.size (by omega)).trans hX0
  have hr1l : w.heap.size < wc.heap.size := (Array.getElem?_eq_some_iff.1 hr1).1
  clear c0 c1 c2 hlv hX0 hb0 hA0 h0 hs0
  go_wp2_with fail
  refine (keep_zero hb b t v _ h1).mono ?_
  rintro e w2 ⟨rfl, h2, g2, h24⟩
  have hp2 := (g2.block p hplt (by simp; omega)).trans hp
  have k0 := Lib.cell_of_heap hp2 0
  have k1 := Lib.cell_of_heap hp2 1
  have k2 := Lib.cell_of_heap hp2 2
  have k3 := Lib.cell_of_heap hp2 3
  have hr2 := (g2.block w.heap.size hr1l (by simp; omega)).trans hr1
  have j0 : w2.cell? ⟨w.heap.size, 0, none⟩ = some (.int .i64 0) := Lib.cell_of_heap hr2 0
  have j1 : w2.cell? ⟨w.heap.size, 1, none⟩ = some (.int .i64 0) := Lib.cell_of_heap hr2 1
  have j2 : w2.cell? ⟨w.heap.size, 2, none⟩ = some (.int .i64 0) := Lib.cell_of_heap hr2 2
  have j3 : w2.cell? ⟨w.heap.size, 3, none⟩ = some (.int .i64 0) := Lib.cell_of_heap hr2 3
  have z0 := Lib.frozen_of_heap hr2 0
  have z1 := Lib.frozen_of_heap hr2 1
  have z2 := Lib.frozen_of_heap hr2 2
  have z3 := Lib.frozen_of_heap hr2 3
  go_wp2_with fail
  have hR : ((((w2.setCell ⟨w.heap.size, 0, none⟩ (.int .i64 x.p0)).setCell ⟨w.heap.size, 1, none⟩ (.int .i64 x.p1)).setCell ⟨w.heap.size, 2, none⟩ (.int .i64 x.p2)).setCell ⟨w.heap.size, 3, none⟩ (.int .i64 x.p3)).heap[w.heap.size]? = some (.cells #[.int .i64 x.p0, .int .i64 x.p1, .int .i64 x.p2, .int .i64 x.p3] 76 (0, 0)) := Go.Joins.block_setCell (Go.Joins.block_setCell (Go.Joins.block_setCell (Go.Joins.block_setCell hr2 _) _) _) _
  have hlr : w.heap.size < w2.heap.size := (Array.getElem?_eq_some_iff.1 hr2).1
  have gg := grown_tr (grown_bl bc (some hb)) g2
  have ho : ∀ k, k ≠ w.heap.size → ((((w2.setCell ⟨w.heap.size, 0, none⟩ (.int .i64 x.p0)).setCell ⟨w.heap.size, 1, none⟩ (.int .i64 x.p1)).setCell ⟨w.heap.size, 2, none⟩ (.int .i64 x.p2)).setCell ⟨w.heap.size, 3, none⟩ (.int .i64 x.p3)).heap[k]? = w2.heap[k]? := fun k hk => by
    rw [Below.heap_setCell _ _ _ _ hk, Below.heap_setCell _ _ _ _ hk, Below.heap_setCell _ _ _ _ hk, Below.heap_setCell _ _ _ _ hk]
  refine bodyPost_ret (v := .agg #[.int .i64 x.p0, .int .i64 x.p1, .int .i64 x.p2, .int .i64 x.p3]) ?_ rfl ⟨rfl, ?_, ?_, ?_⟩
  · simp [results, Tryz.results41, go_sem, Lib.cell_of_heap hR]
  · exact h2.go (ho hb (by omega))
  · exact ⟨gg.os, gg.tape, gg.output, by simpa [World.setCell] using gg.size, fun k hk hn => (ho k (by omega)).trans (gg.block k hk hn)⟩
  · exact (World.cell?_of_block (ho hb (by omega))).trans (h24.trans (World.cell?_of_block (bc.block hb hlt)))
end Go.Proofs.YtofbcngcblleaaaGreat.A
