/- hand.kids of an own square. -/
import Derived.Test.YtplnnlfmehfaiaaQuRefuse
namespace Go.Proofs.Ytplnnlfmehfaiaa.A
open Go.RowKit Go.Maps Go.ChangeMaps Go.WideElems

abbrev zeroT : Value := .agg #[.int .i64 0, .int .i64 0, .int .i64 0, .int .i64 0, .int .i64 0]
abbrev oneT : Value := .agg #[.int .i64 1, .int .i64 0, .int .i64 0, .int .i64 0, .int .i64 0]
theorem zero_ne_one : oneT ≠ zeroT := by intro h; simp [oneT, zeroT] at h
abbrev zd : DataW Unit := .lit (.bool false)
open Classical in
/-- how what is known of a square reads: nothing, or one cell -/
noncomputable def talR (v : Value) : Option (DataW Unit × List MemPlace) := if v = zeroT then some (zd, []) else if v = oneT then some (.lit (.bool true), []) else none
theorem talR_zero : talR zeroT = some (zd, []) := by unfold talR; rw [if_pos rfl]
theorem talR_one : talR oneT = some (.lit (.bool true), []) := by unfold talR; rw [if_neg zero_ne_one, if_pos rfl]
theorem talR_inv {v : Value} {ps : List MemPlace} (h : talR v = some (zd, ps)) : v = zeroT := by
  unfold talR at h
  split at h
  · assumption
  · split at h
    · simp [zd] at h
    · cases h
theorem zero135 (w : World) : (zeroValue 138).run Try.prog w = .ok zeroT w := by kernel_rfl

/-- what a walker knows: of none but the live cell that anything lives in it -/
structure Known (D : DataW Unit) : Prop where
  zs : ∀ i, Fits i → i ≠ 1 → D.atKey (.int .i64 i) zd = zd
  zero : Maps.has D (.int .i64 0) = true
theorem tal_look {w : World} {m n : Nat} {D : DataW Unit} {i : Int} (h : w.ownsMap Try.prog 3 talR m n D) (hk : Known D) (hi : Fits i) (h1 : i ≠ 1) :
    (Instr.lookup 132 (.map (some m)) (.int .i64 i) true).run Try.prog w = .ok (.tuple #[zeroT, .bool (Maps.has D (.int .i64 i))]) w := by
  obtain ⟨v, ps, hrun, hv⟩ := h.look_ok (int_keyed Try.underlying3) Try.underlying132 (zero135 w) talR_zero (keyOf_int_mk Try.underlying3 (wf_of_fits hi))
  rw [hk.zs i hi h1] at hv
  rw [hrun, talR_inv hv]
theorem tal_put {w : World} {m n : Nat} {D : DataW Unit} {i : Int} (h : w.ownsMap Try.prog 3 talR m n D) (hk : Known D) (hi : Fits i) (hn : n < 1000) :
    ∃ w' D', (Instr.mapUpdate 132 (.map (some m)) (.int .i64 i) zeroT).run Try.prog w = .ok () w' ∧ w'.ownsMap Try.prog 3 talR m (n + 1) D' ∧ Known D' ∧ Maps.has D' (.int .i64 i) = true ∧ w.mapTurned w' m := by
  obtain ⟨w', h1, h2, h3⟩ := h.store (int_keyed Try.underlying3) Try.underlying132 (show n < maxLen by unfold maxLen; omega) (keyOf_int_mk Try.underlying3 (wf_of_fits hi)) talR_zero
  have hs : Maps.has (D.put (.int .i64 i) zd) (.int .i64 i) = true := has_put_same h.isMap (by unfold WideAt.IsKeyLit; trivial) _
  refine ⟨w', _, h1, h2, ⟨fun j hj hj1 => ?_, ?_⟩, hs, h3⟩
  · by_cases e : (Lit.int .i64 j) = .int .i64 i
    · rw [e]; exact atKey_put_same h.isMap (by unfold WideAt.IsKeyLit; trivial) _ _
    · rw [atKey_put_other e]; exact hk.zs j hj hj1
  · by_cases e : (Lit.int .i64 0) = .int .i64 i
    · rw [e]; exact hs
    · rw [has_put_other e]; exact hk.zero

theorem own_other {w w' : World} {m n : Nat} {D : DataW Unit} (h : w.ownsMap Try.prog 3 talR m n D) (hb : w'.heap[m]? = w.heap[m]?) : w'.ownsMap Try.prog 3 talR m n D := by
  obtain ⟨es, clock, h1, h2⟩ := h
  exact ⟨es, clock, hb.trans h1, h2⟩
theorem cell_lt {w : World} {k o : Nat} {v : Value} (h : w.cell? ⟨k, o, none⟩ = some v) : k < w.heap.size := by
  rcases Nat.lt_or_ge k w.heap.size with hl | hl
  · exact hl
  · exfalso
    simp [World.cell?, Array.getElem?_eq_none hl] at h
set_option maxRecDepth 20000 in
set_option maxHeartbeats 4000000 in
/-- a square that is known -/
theorem tally_known (wb m n : Nat) (id level : Int) (D : DataW Unit) (w : World) (h : w.ownsMap Try.prog 3 talR m n D) (hk : Known D) (hi : Fits id) (h1 : id ≠ 1) (hc : w.cell? ⟨wb, 4, none⟩ = some (.map (some m))) (hh : Maps.has D (.int .i64 id) = true) :
    Calls Try.prog 87 #[.pointer (some ⟨wb, 0, none⟩), .int .i64 id, .int .i64 level] w fun x w' => x = .returned zeroT ∧ Below w.heap.size w w' := by
  have hm0 : w.heap[m]? ≠ none := by obtain ⟨es, c, he, _⟩ := h; rw [he]; simp
  have hml : m < w.heap.size := by rw [Ne, Array.getElem?_eq_none_iff] at hm0; omega
  have hwl : wb < w.heap.size := cell_lt hc
  have hlook := tal_look (own_other (w' := w.alloc (.cells #[.int .i64 0, .int .i64 0, .int .i64 0, .int .i64 0, .int .i64 0] 138)) h (push_old hml)) hk hi h1
  have hc' : (w.alloc (.cells #[.int .i64 0, .int .i64 0, .int .i64 0, .int .i64 0, .int .i64 0] 138)).cell? ⟨wb, 4, none⟩ = some (.map (some m)) := (World.cell?_of_block (push_old hwl)).trans hc
  rw [hh] at hlook
  go_enter Try.func87, Try.ntmps87
  go_wp2_with fail
  refine bodyPost_ret (v := zeroT) ?_ rfl ⟨rfl, ((Below.refl _ _).alloc (Nat.le_refl _) _).alloc (by simp) _⟩
  simp [results, Try.results87, go_sem]

end Go.Proofs.Ytplnnlfmehfaiaa.A

namespace Go.Proofs.Ytplnnlfmehfaiaa.A
open Go.RowKit Go.Maps Go.ChangeMaps Go.WideElems

theorem keep_zero (hb b t : Nat) (v : Value) (w : World) (h : HandAt w hb b t 0 v) :
    Calls Try.prog 88 #[.pointer (some ⟨hb, 0, none⟩), .int .i64 0] w fun x w' => x = .returned (.tuple #[]) ∧ HandAt w' hb b t 0 v ∧ w.grownBy w' (some hb) ∧ w'.cell? ⟨hb, 4, none⟩ = w.cell? ⟨hb, 4, none⟩ := by
  have c2 := h.c2
  have z2 := h.z2
  go_enter Try.func88, Try.ntmps88
  go_wp2_with fail
  go_end0
  exact ⟨rfl, h.setE 0, set_grown _ _ _ _, cell_set_other (by omega)⟩

set_option maxRecDepth 20000 in
set_option maxHeartbeats 4000000 in
/-- hand.kids -/
theorem handKids_any (hb b n t : Nat) (id : Int) (x : Th) (v : Value) (F : Nat → Prop) (A : Ar) (w : World) (h : HandAt w hb b t 0 v) (hA : ArAt w b F n A) (ht : t < 64) (hm : ∀ x ∈ A.ths, x.mask < 18446744073709551616) (hr : Fits id) (hx : squareF A.ths t id = some x) :
    Calls Try.prog 93 #[.pointer (some ⟨hb, 0, none⟩), .int .i64 id] w fun e w' => e = .returned (.agg #[.int .i64 x.p0, .int .i64 x.p1, .int .i64 x.p2, .int .i64 x.p3]) ∧ HandAt w' hb b t 0 v ∧ w.grownBy w' (some hb) ∧ w'.cell? ⟨hb, 4, none⟩ = w.cell? ⟨hb, 4, none⟩ := by
  obtain ⟨r, D, hA⟩ := hA
  have hlv := fun W (hW : ArRaw W b F n A r D) => Kids_any b 0 t id r A.ths W hW.raw hW.ths ht hm hr
  rw [hx] at hlv
  have hb0 : Below w.heap.size w (w.alloc (.cells #[.int .i64 0, .int .i64 0, .int .i64 0, .int .i64 0] 35)) := (Below.refl _ _).alloc (Nat.le_refl _) _
  have hs0 := hb0.size
  have hX0 : (w.alloc (.cells #[.int .i64 0, .int .i64 0, .int .i64 0, .int .i64 0] 35)).heap[w.heap.size]? = some (.cells #[.int .i64 0, .int .i64 0, .int .i64 0, .int .i64 0] 35 (0, 0)) := heap_alloc_new w _
  have h0 := h.below hb0
  have hA0 := hA.below hb0
  have c2 := h0.c2
  have c0 := h0.c0
  have c1 := h0.c1
  simp only [kidsV, lack] at hlv
  go_enter Try.func93, Try.ntmps93
  go_wp2_with fail
  go_cut [5, 6] from 13 to 26 (fun s5 s6 wc => ∃ p : Nat, s5 = .pointer (some ⟨p, 0, none⟩) ∧ s6 = .int .i64 0 ∧ wc.heap[p]? = some (.cells #[.int .i64 x.p0, .int .i64 x.p1, .int .i64 x.p2, .int .i64 x.p3] 35 (0, 0)) ∧ w.heap.size + 1 ≤ p ∧ Below (w.heap.size + 1) (w.alloc (.cells #[.int .i64 0, .int .i64 0, .int .i64 0, .int .i64 0] 35)) wc)
  case first =>
    have hWA : Below w.heap.size w ((w.alloc (.cells #[.int .i64 0, .int .i64 0, .int .i64 0, .int .i64 0] 35)).alloc (.cells #[.int .i64 0, .int .i64 0, .int .i64 0, .int .i64 0] 35)) := hb0.alloc hs0 _
    have hxA : ((w.alloc (.cells #[.int .i64 0, .int .i64 0, .int .i64 0, .int .i64 0] 35)).alloc (.cells #[.int .i64 0, .int .i64 0, .int .i64 0, .int .i64 0] 35)).heap[w.heap.size + 1]? = some (.cells #[.int .i64 0, .int .i64 0, .int .i64 0, .int .i64 0] 35 (0, 0)) := heap_alloc2_new w _ _
    have cA0 := (h.below hWA).c0
    have cA1 := (h.below hWA).c1
    go_region_with (first
      | (go_at_call 26; refine (hlv _ (hA.below hWA).drew).mono ?_; rintro e w1 ⟨rfl, hbx⟩; have hb1 := hWA.trans ((below_drew hbx).mono hWA.size); have hX1 := ((below_drew hbx).block (w.heap.size + 1) (by simp)).trans hxA; have hc0 := Lib.cell_of_heap hX1 0; have hc1 := Lib.cell_of_heap hX1 1; have hc2 := Lib.cell_of_heap hX1 2; have hc3 := Lib.cell_of_heap hX1 3; have hz0 := Lib.frozen_of_heap hX1 0; have hz1 := Lib.frozen_of_heap hX1 1; have hz2 := Lib.frozen_of_heap hX1 2; have hz3 := Lib.frozen_of_heap hX1 3)
      | (go_at_call 26; refine (hlv _ hA0.drew).mono ?_; rintro e w1 ⟨rfl, hbx⟩; have hb1 := hb0.trans ((below_drew hbx).mono hb0.size)))
    all_goals
      go_wp2_with fail
      go_meet
      case rel =>
        first
        | exact ⟨_, rfl, rfl, heap_alloc_new w1 _, by have := (below_drew hbx).size; simp at this; omega, ((below_drew hbx).mono (by simp)).alloc (by have := (below_drew hbx).size; simp at this; omega) _⟩
        | exact ⟨_, rfl, rfl, Go.Joins.block_setCell (Go.Joins.block_setCell (Go.Joins.block_setCell (Go.Joins.block_setCell hX1 _) _) _) _, Nat.le_refl _, (((((((Below.refl _ _).alloc (by simp) _).trans ((below_drew hbx).mono (by simp))).setCell (p := ⟨w.heap.size + 1, 0, none⟩) (Nat.le_refl _) _).setCell (p := ⟨w.heap.size + 1, 1, none⟩) (Nat.le_refl _) _).setCell (p := ⟨w.heap.size + 1, 2, none⟩) (Nat.le_refl _) _).setCell (p := ⟨w.heap.size + 1, 3, none⟩) (Nat.le_refl _) _)⟩
  case rest =>
  obtain ⟨p, rfl, rfl, hp, hpl, hbc⟩ := hcut
  have bc : Below w.heap.size w wc := hb0.trans (hbc.mono (by omega))
  have h1 := h.below bc
  have hlt := h.lt
  have hplt : p < wc.heap.size := (Array.getElem?_eq_some_iff.1 hp).1
  have hr1 := (hbc.block w.heap.size (by omega)).trans hX0
  have hr1l : w.heap.size < wc.heap.size := (Array.getElem?_eq_some_iff.1 hr1).1
  clear c0 c1 c2 hlv hX0 hb0 hA0 h0 hs0
  go_wp2_with fail
  refine (keep_zero hb b t v _ h1).mono ?_
  rintro e w2 ⟨rfl, h2, g2, h24⟩
  have hp2 := (g2.block p hplt (by simp; omega)).trans hp
  have k0 := Lib.cell_of_heap hp2 0
  have k1 := Lib.cell_of_heap hp2 1
  have k2 := Lib.cell_of_heap hp2 2
  have k3 := Lib.cell_of_heap hp2 3
  have hr2 := (g2.block w.heap.size hr1l (by simp; omega)).trans hr1
  have j0 : w2.cell? ⟨w.heap.size, 0, none⟩ = some (.int .i64 0) := Lib.cell_of_heap hr2 0
  have j1 : w2.cell? ⟨w.heap.size, 1, none⟩ = some (.int .i64 0) := Lib.cell_of_heap hr2 1
  have j2 : w2.cell? ⟨w.heap.size, 2, none⟩ = some (.int .i64 0) := Lib.cell_of_heap hr2 2
  have j3 : w2.cell? ⟨w.heap.size, 3, none⟩ = some (.int .i64 0) := Lib.cell_of_heap hr2 3
  have z0 := Lib.frozen_of_heap hr2 0
  have z1 := Lib.frozen_of_heap hr2 1
  have z2 := Lib.frozen_of_heap hr2 2
  have z3 := Lib.frozen_of_heap hr2 3
  go_wp2_with fail
  have hR : ((((w2.setCell ⟨w.heap.size, 0, none⟩ (.int .i64 x.p0)).setCell ⟨w.heap.size, 1, none⟩ (.int .i64 x.p1)).setCell ⟨w.heap.size, 2, none⟩ (.int .i64 x.p2)).setCell ⟨w.heap.size, 3, none⟩ (.int .i64 x.p3)).heap[w.heap.size]? = some (.cells #[.int .i64 x.p0, .int .i64 x.p1, .int .i64 x.p2, .int .i64 x.p3] 35 (0, 0)) := Go.Joins.block_setCell (Go.Joins.block_setCell (Go.Joins.block_setCell (Go.Joins.block_setCell hr2 _) _) _) _
  have hlr : w.heap.size < w2.heap.size := (Array.getElem?_eq_some_iff.1 hr2).1
  have gg := grown_tr (grown_bl bc (some hb)) g2
  have ho : ∀ k, k ≠ w.heap.size → ((((w2.setCell ⟨w.heap.size, 0, none⟩ (.int .i64 x.p0)).setCell ⟨w.heap.size, 1, none⟩ (.int .i64 x.p1)).setCell ⟨w.heap.size, 2, none⟩ (.int .i64 x.p2)).setCell ⟨w.heap.size, 3, none⟩ (.int .i64 x.p3)).heap[k]? = w2.heap[k]? := fun k hk => by
    rw [Below.heap_setCell _ _ _ _ hk, Below.heap_setCell _ _ _ _ hk, Below.heap_setCell _ _ _ _ hk, Below.heap_setCell _ _ _ _ hk]
  refine bodyPost_ret (v := .agg #[.int .i64 x.p0, .int .i64 x.p1, .int .i64 x.p2, .int .i64 x.p3]) ?_ rfl ⟨rfl, ?_, ?_, ?_⟩
  · simp [results, Try.results93, go_sem, Lib.cell_of_heap hR]
  · exact h2.go (ho hb (by omega))
  · exact ⟨gg.os, gg.tape, gg.output, by simpa [World.setCell] using gg.size, fun k hk hn => (ho k (by omega)).trans (gg.block k hk hn)⟩
  · exact (World.cell?_of_block (ho hb (by omega))).trans (h24.trans (World.cell?_of_block (bc.block hb hlt)))
end Go.Proofs.Ytplnnlfmehfaiaa.A
