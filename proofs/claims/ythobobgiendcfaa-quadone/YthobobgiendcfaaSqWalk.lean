/- walker.tally: the memory, and a square that is known. -/
import Derived.Test.YthobobgiendcfaaQuRefuse
import Derived.Test.YthobobgiendcfaaSqFrom
namespace Go.Proofs.Ythobobgiendcfaa.A
open Go.RowKit Go.Maps Go.ChangeMaps Go.WideElems

abbrev zeroT : Value := .agg #[.int .i64 0, .int .i64 0, .int .i64 0, .int .i64 0, .int .i64 0]
abbrev oneT : Value := .agg #[.int .i64 1, .int .i64 0, .int .i64 0, .int .i64 0, .int .i64 0]
theorem zero_ne_one : oneT ≠ zeroT := by intro h; simp [oneT, zeroT] at h
abbrev zd : DataW Unit := .lit (.bool false)
open Classical in
/-- how what is known of a square reads: nothing, or one cell -/
noncomputable def talR (v : Value) : Option (DataW Unit × List MemPlace) := if v = zeroT then some (zd, []) else if v = oneT then some (.lit (.bool true), []) else none
theorem talR_zero : talR zeroT = some (zd, []) := by unfold talR; rw [if_pos rfl]
theorem talR_one : talR oneT = some (.lit (.bool true), []) := by unfold talR; rw [if_neg zero_ne_one, if_pos rfl]
theorem talR_inv {v : Value} {ps : List MemPlace} (h : talR v = some (zd, ps)) : v = zeroT := by
  unfold talR at h
  split at h
  · assumption
  · split at h
    · simp [zd] at h
    · cases h
theorem zero135 (w : World) : (zeroValue 138).run Try.prog w = .ok zeroT w := by kernel_rfl

/-- what a walker knows: of none but the live cell that anything lives in it -/
structure Known (D : DataW Unit) : Prop where
  zs : ∀ i, Fits i → i ≠ 1 → D.atKey (.int .i64 i) zd = zd
  zero : Maps.has D (.int .i64 0) = true
theorem tal_look {w : World} {m n : Nat} {D : DataW Unit} {i : Int} (h : w.ownsMap Try.prog 3 talR m n D) (hk : Known D) (hi : Fits i) (h1 : i ≠ 1) :
    (Instr.lookup 132 (.map (some m)) (.int .i64 i) true).run Try.prog w = .ok (.tuple #[zeroT, .bool (Maps.has D (.int .i64 i))]) w := by
  obtain ⟨v, ps, hrun, hv⟩ := h.look_ok (int_keyed Try.underlying3) Try.underlying132 (zero135 w) talR_zero (keyOf_int_mk Try.underlying3 (wf_of_fits hi))
  rw [hk.zs i hi h1] at hv
  rw [hrun, talR_inv hv]
theorem tal_put {w : World} {m n : Nat} {D : DataW Unit} {i : Int} (h : w.ownsMap Try.prog 3 talR m n D) (hk : Known D) (hi : Fits i) (hn : n < 1000) :
    ∃ w' D', (Instr.mapUpdate 132 (.map (some m)) (.int .i64 i) zeroT).run Try.prog w = .ok () w' ∧ w'.ownsMap Try.prog 3 talR m (n + 1) D' ∧ Known D' ∧ Maps.has D' (.int .i64 i) = true ∧ w.mapTurned w' m := by
  obtain ⟨w', h1, h2, h3⟩ := h.store (int_keyed Try.underlying3) Try.underlying132 (show n < maxLen by unfold maxLen; omega) (keyOf_int_mk Try.underlying3 (wf_of_fits hi)) talR_zero
  have hs : Maps.has (D.put (.int .i64 i) zd) (.int .i64 i) = true := has_put_same h.isMap (by unfold WideAt.IsKeyLit; trivial) _
  refine ⟨w', _, h1, h2, ⟨fun j hj hj1 => ?_, ?_⟩, hs, h3⟩
  · by_cases e : (Lit.int .i64 j) = .int .i64 i
    · rw [e]; exact atKey_put_same h.isMap (by unfold WideAt.IsKeyLit; trivial) _ _
    · rw [atKey_put_other e]; exact hk.zs j hj hj1
  · by_cases e : (Lit.int .i64 0) = .int .i64 i
    · rw [e]; exact hs
    · rw [has_put_other e]; exact hk.zero

theorem own_other {w w' : World} {m n : Nat} {D : DataW Unit} (h : w.ownsMap Try.prog 3 talR m n D) (hb : w'.heap[m]? = w.heap[m]?) : w'.ownsMap Try.prog 3 talR m n D := by
  obtain ⟨es, clock, h1, h2⟩ := h
  exact ⟨es, clock, hb.trans h1, h2⟩
theorem cell_lt {w : World} {k o : Nat} {v : Value} (h : w.cell? ⟨k, o, none⟩ = some v) : k < w.heap.size := by
  rcases Nat.lt_or_ge k w.heap.size with hl | hl
  · exact hl
  · exfalso
    simp [World.cell?, Array.getElem?_eq_none hl] at h
set_option maxRecDepth 20000 in
set_option maxHeartbeats 4000000 in
/-- a square that is known -/
theorem tally_known (wb m n : Nat) (id level : Int) (D : DataW Unit) (w : World) (h : w.ownsMap Try.prog 3 talR m n D) (hk : Known D) (hi : Fits id) (h1 : id ≠ 1) (hc : w.cell? ⟨wb, 4, none⟩ = some (.map (some m))) (hh : Maps.has D (.int .i64 id) = true) :
    Calls Try.prog 87 #[.pointer (some ⟨wb, 0, none⟩), .int .i64 id, .int .i64 level] w fun x w' => x = .returned zeroT ∧ Below w.heap.size w w' := by
  have hm0 : w.heap[m]? ≠ none := by obtain ⟨es, c, he, _⟩ := h; rw [he]; simp
  have hml : m < w.heap.size := by rw [Ne, Array.getElem?_eq_none_iff] at hm0; omega
  have hwl : wb < w.heap.size := cell_lt hc
  have hlook := tal_look (own_other (w' := w.alloc (.cells #[.int .i64 0, .int .i64 0, .int .i64 0, .int .i64 0, .int .i64 0] 138)) h (push_old hml)) hk hi h1
  have hc' : (w.alloc (.cells #[.int .i64 0, .int .i64 0, .int .i64 0, .int .i64 0, .int .i64 0] 138)).cell? ⟨wb, 4, none⟩ = some (.map (some m)) := (World.cell?_of_block (push_old hwl)).trans hc
  rw [hh] at hlook
  go_enter Try.func87, Try.ntmps87
  go_wp2_with fail
  refine bodyPost_ret (v := zeroT) ?_ rfl ⟨rfl, ((Below.refl _ _).alloc (Nat.le_refl _) _).alloc (by simp) _⟩
  simp [results, Try.results87, go_sem]

end Go.Proofs.Ythobobgiendcfaa.A

namespace Go.Proofs.Ythobobgiendcfaa.A
open Go.RowKit Go.Maps Go.ChangeMaps Go.WideElems

theorem keep_zero (hb b t : Nat) (v : Value) (w : World) (h : HandAt w hb b t 0 v) :
    Calls Try.prog 88 #[.pointer (some ⟨hb, 0, none⟩), .int .i64 0] w fun x w' => x = .returned (.tuple #[]) ∧ HandAt w' hb b t 0 v ∧ w.grownBy w' (some hb) ∧ w'.cell? ⟨hb, 4, none⟩ = w.cell? ⟨hb, 4, none⟩ := by
  have c2 := h.c2
  have z2 := h.z2
  go_enter Try.func88, Try.ntmps88
  go_wp2_with fail
  go_end0
  exact ⟨rfl, h.setE 0, set_grown _ _ _ _, cell_set_other (by omega)⟩

set_option maxRecDepth 20000 in
set_option maxHeartbeats 4000000 in
/-- hand.kids -/
theorem handKids_any (hb b n t : Nat) (id : Int) (x : Th) (v : Value) (F : Nat → Prop) (A : Ar) (w : World) (h : HandAt w hb b t 0 v) (hA : ArAt w b F n A) (ht : t < 64) (hm : ∀ x ∈ A.ths, x.mask < 18446744073709551616) (hr : Fits id) (hx : squareF A.ths t id = some x) :
    Calls Try.prog 93 #[.pointer (some ⟨hb, 0, none⟩), .int .i64 id] w fun e w' => e = .returned (.agg #[.int .i64 x.p0, .int .i64 x.p1, .int .i64 x.p2, .int .i64 x.p3]) ∧ HandAt w' hb b t 0 v ∧ w.grownBy w' (some hb) ∧ w'.cell? ⟨hb, 4, none⟩ = w.cell? ⟨hb, 4, none⟩ := by
  obtain ⟨r, D, hA⟩ := hA
  have hlv := fun W (hW : ArRaw W b F n A r D) => Kids_any b 0 t id r A.ths W hW.raw hW.ths ht hm hr
  rw [hx] at hlv
  have hb0 : Below w.heap.size w (w.alloc (.cells #[.int .i64 0, .int .i64 0, .int .i64 0, .int .i64 0] 35)) := (Below.refl _ _).alloc (Nat.le_refl _) _
  have hs0 := hb0.size
  have hX0 : (w.alloc (.cells #[.int .i64 0, .int .i64 0, .int .i64 0, .int .i64 0] 35)).heap[w.heap.size]? = some (.cells #[.int .i64 0, .int .i64 0, .int .i64 0, .int .i64 0] 35 (0, 0)) := heap_alloc_new w _
  have h0 := h.below hb0
  have hA0 := hA.below hb0
  have c2 := h0.c2
  have c0 := h0.c0
  have c1 := h0.c1
  simp only [kidsV, lack] at hlv
  go_enter Try.func93, Try.ntmps93
  go_wp2_with fail
  go_cut [5, 6] from 13 to 26 (fun s5 s6 wc => ∃ p : Nat, s5 = .pointer (some ⟨p, 0, none⟩) ∧ s6 = .int .i64 0 ∧ wc.heap[p]? = some (.cells #[.int .i64 x.p0, .int .i64 x.p1, .int .i64 x.p2, .int .i64 x.p3] 35 (0, 0)) ∧ w.heap.size + 1 ≤ p ∧ Below (w.heap.size + 1) (w.alloc (.cells #[.int .i64 0, .int .i64 0, .int .i64 0, .int .i64 0] 35)) wc)
  case first =>
    have hWA : Below w.heap.size w ((w.alloc (.cells #[.int .i64 0, .int .i64 0, .int .i64 0, .int .i64 0] 35)).alloc (.cells #[.int .i64 0, .int .i64 0, .int .i64 0, .int .i64 0] 35)) := hb0.alloc hs0 _
    have hxA : ((w.alloc (.cells #[.int .i64 0, .int .i64 0, .int .i64 0, .int .i64 0] 35)).alloc (.cells #[.int .i64 0, .int .i64 0, .int .i64 0, .int .i64 0] 35)).heap[w.heap.size + 1]? = some (.cells #[.int .i64 0, .int .i64 0, .int .i64 0, .int .i64 0] 35 (0, 0)) := heap_alloc2_new w _ _
    have cA0 := (h.below hWA).c0
    have cA1 := (h.below hWA).c1
    go_region_with (first
      | (go_at_call 26; refine (hlv _ (hA.below hWA).drew).mono ?_; rintro e w1 ⟨rfl, hbx⟩; have hb1 := hWA.trans ((below_drew hbx).mono hWA.size); have hX1 := ((below_drew hbx).block (w.heap.size + 1) (by simp)).trans hxA; have hc0 := Lib.cell_of_heap hX1 0; have hc1 := Lib.cell_of_heap hX1 1; have hc2 := Lib.cell_of_heap hX1 2; have hc3 := Lib.cell_of_heap hX1 3; have hz0 := Lib.frozen_of_heap hX1 0; have hz1 := Lib.frozen_of_heap hX1 1; have hz2 := Lib.frozen_of_heap hX1 2; have hz3 := Lib.frozen_of_heap hX1 3)
      | (go_at_call 26; refine (hlv _ hA0.drew).mono ?_; rintro e w1 ⟨rfl, hbx⟩; have hb1 := hb0.trans ((below_drew hbx).mono hb0.size)))
    all_goals
      go_wp2_with fail
      go_meet
      case rel =>
        first
        | exact ⟨_, rfl, rfl, heap_alloc_new w1 _, by have := (below_drew hbx).size; simp at this; omega, ((below_drew hbx).mono (by simp)).alloc (by have := (below_drew hbx).size; simp at this; omega) _⟩
        | exact ⟨_, rfl, rfl, Go.Joins.block_setCell (Go.Joins.block_setCell (Go.Joins.block_setCell (Go.Joins.block_setCell hX1 _) _) _) _, Nat.le_refl _, (((((((Below.refl _ _).alloc (by simp) _).trans ((below_drew hbx).mono (by simp))).setCell (p := ⟨w.heap.size + 1, 0, none⟩) (Nat.le_refl _) _).setCell (p := ⟨w.heap.size + 1, 1, none⟩) (Nat.le_refl _) _).setCell (p := ⟨w.heap.size + 1, 2, none⟩) (Nat.le_refl _) _).setCell (p := ⟨w.heap.size + 1, 3, none⟩) (Nat.le_refl _) _)⟩
  case rest =>
  obtain ⟨p, rfl, rfl, hp, hpl, hbc⟩ := hcut
  have bc : Below w.heap.size w wc := hb0.trans (hbc.mono (by omega))
  have h1 := h.below bc
  have hlt := h.lt
  have hplt : p < wc.heap.size := (Array.getElem?_eq_some_iff.1 hp).1
  have hr1 := (hbc.block w.heap.size (by omega)).trans hX0
  have hr1l : w.heap.size < wc.heap.size := (Array.getElem?_eq_some_iff.1 hr1).1
  clear c0 c1 c2 hlv hX0 hb0 hA0 h0 hs0
  go_wp2_with fail
  refine (keep_zero hb b t v _ h1).mono ?_
  rintro e w2 ⟨rfl, h2, g2, h24⟩
  have hp2 := (g2.block p hplt (by simp; omega)).trans hp
  have k0 := Lib.cell_of_heap hp2 0
  have k1 := Lib.cell_of_heap hp2 1
  have k2 := Lib.cell_of_heap hp2 2
  have k3 := Lib.cell_of_heap hp2 3
  have hr2 := (g2.block w.heap.size hr1l (by simp; omega)).trans hr1
  have j0 : w2.cell? ⟨w.heap.size, 0, none⟩ = some (.int .i64 0) := Lib.cell_of_heap hr2 0
  have j1 : w2.cell? ⟨w.heap.size, 1, none⟩ = some (.int .i64 0) := Lib.cell_of_heap hr2 1
  have j2 : w2.cell? ⟨w.heap.size, 2, none⟩ = some (.int .i64 0) := Lib.cell_of_heap hr2 2
  have j3 : w2.cell? ⟨w.heap.size, 3, none⟩ = some (.int .i64 0) := Lib.cell_of_heap hr2 3
  have z0 := Lib.frozen_of_heap hr2 0
  have z1 := Lib.frozen_of_heap hr2 1
  have z2 := Lib.frozen_of_heap hr2 2
  have z3 := Lib.frozen_of_heap hr2 3
  go_wp2_with fail
  have hR : ((((w2.setCell ⟨w.heap.size, 0, none⟩ (.int .i64 x.p0)).setCell ⟨w.heap.size, 1, none⟩ (.int .i64 x.p1)).setCell ⟨w.heap.size, 2, none⟩ (.int .i64 x.p2)).setCell ⟨w.heap.size, 3, none⟩ (.int .i64 x.p3)).heap[w.heap.size]? = some (.cells #[.int .i64 x.p0, .int .i64 x.p1, .int .i64 x.p2, .int .i64 x.p3] 35 (0, 0)) := Go.Joins.block_setCell (Go.Joins.block_setCell (Go.Joins.block_setCell (Go.Joins.block_setCell hr2 _) _) _) _
  have hlr : w.heap.size < w2.heap.size := (Array.getElem?_eq_some_iff.1 hr2).1
  have gg := grown_tr (grown_bl bc (some hb)) g2
  have ho : ∀ k, k ≠ w.heap.size → ((((w2.setCell ⟨w.heap.size, 0, none⟩ (.int .i64 x.p0)).setCell ⟨w.heap.size, 1, none⟩ (.int .i64 x.p1)).setCell ⟨w.heap.size, 2, none⟩ (.int .i64 x.p2)).setCell ⟨w.heap.size, 3, none⟩ (.int .i64 x.p3)).heap[k]? = w2.heap[k]? := fun k hk => by
    rw [Below.heap_setCell _ _ _ _ hk, Below.heap_setCell _ _ _ _ hk, Below.heap_setCell _ _ _ _ hk, Below.heap_setCell _ _ _ _ hk]
  refine bodyPost_ret (v := .agg #[.int .i64 x.p0, .int .i64 x.p1, .int .i64 x.p2, .int .i64 x.p3]) ?_ rfl ⟨rfl, ?_, ?_, ?_⟩
  · simp [results, Try.results93, go_sem, Lib.cell_of_heap hR]
  · exact h2.go (ho hb (by omega))
  · exact ⟨gg.os, gg.tape, gg.output, by simpa [World.setCell] using gg.size, fun k hk hn => (ho k (by omega)).trans (gg.block k hk hn)⟩
  · exact (World.cell?_of_block (ho hb (by omega))).trans (h24.trans (World.cell?_of_block (bc.block hb hlt)))
end Go.Proofs.Ythobobgiendcfaa.A

namespace Go.Proofs.Ythobobgiendcfaa.A
open Go.RowKit Go.Maps Go.ChangeMaps Go.WideElems

abbrev tv (c x0 y0 x1 y1 : Int) : Value := .agg #[.int .i64 c, .int .i64 x0, .int .i64 y0, .int .i64 x1, .int .i64 y1]
abbrev td (c x0 y0 x1 y1 : Int) : DataW Unit := .agg [.lit (.int .i64 c), .lit (.int .i64 x0), .lit (.int .i64 y0), .lit (.int .i64 x1), .lit (.int .i64 y1)]
open Classical in
/-- how a tally reads -/
noncomputable def talG (v : Value) : Option (DataW Unit × List MemPlace) := if h : ∃ q : Int × Int × Int × Int × Int, v = tv q.1 q.2.1 q.2.2.1 q.2.2.2.1 q.2.2.2.2 then some (td h.choose.1 h.choose.2.1 h.choose.2.2.1 h.choose.2.2.2.1 h.choose.2.2.2.2, []) else none
theorem tv_inj {c x0 y0 x1 y1 d u0 v0 u1 v1 : Int} (h : tv c x0 y0 x1 y1 = tv d u0 v0 u1 v1) : c = d ∧ x0 = u0 ∧ y0 = v0 ∧ x1 = u1 ∧ y1 = v1 := by
  simpa [tv] using h
theorem talG_tv (c x0 y0 x1 y1 : Int) : talG (tv c x0 y0 x1 y1) = some (td c x0 y0 x1 y1, []) := by
  have h : ∃ q : Int × Int × Int × Int × Int, tv c x0 y0 x1 y1 = tv q.1 q.2.1 q.2.2.1 q.2.2.2.1 q.2.2.2.2 := ⟨(c, x0, y0, x1, y1), rfl⟩
  unfold talG
  rw [dif_pos h]
  obtain ⟨e0, e1, e2, e3, e4⟩ := tv_inj h.choose_spec
  rw [← e0, ← e1, ← e2, ← e3, ← e4]
theorem talG_some {v : Value} {d : DataW Unit} {ps : List MemPlace} (h : talG v = some (d, ps)) : ∃ c x0 y0 x1 y1, v = tv c x0 y0 x1 y1 ∧ d = td c x0 y0 x1 y1 := by
  unfold talG at h
  split at h
  · rename_i hq
    have e := (Prod.mk.inj (Option.some.inj h)).1
    exact ⟨_, _, _, _, _, hq.choose_spec, e.symm⟩
  · cases h
theorem talG_inv {v : Value} {c x0 y0 x1 y1 : Int} {ps : List MemPlace} (h : talG v = some (td c x0 y0 x1 y1, ps)) : v = tv c x0 y0 x1 y1 := by
  obtain ⟨d, u0, v0, u1, v1, e, e2⟩ := talG_some h
  simp [td] at e2
  obtain ⟨rfl, rfl, rfl, rfl, rfl⟩ := e2
  exact e

/-- a count and a box, of cells -/
def Tal (zs : List (Int × Int)) (c x0 y0 x1 y1 : Int) : Prop := c = (zs.length : Int) ∧ BoxOr zs x0 y0 x1 y1
theorem Tal.nil : Tal [] 0 0 0 0 0 := ⟨rfl, Or.inl ⟨rfl, rfl, rfl, rfl, rfl⟩⟩
theorem Tal.one : Tal [(0, 0)] 1 0 0 0 0 := ⟨rfl, Or.inr ⟨fun p hp => by simp at hp; subst hp; simp, ⟨(0, 0), by simp⟩, ⟨(0, 0), by simp⟩, ⟨(0, 0), by simp⟩, ⟨(0, 0), by simp⟩⟩⟩
theorem BoxOr.unique {ys : List (Int × Int)} {x0 y0 x1 y1 u0 v0 u1 v1 : Int} (h : BoxOr ys x0 y0 x1 y1) (k : BoxOr ys u0 v0 u1 v1) : x0 = u0 ∧ y0 = v0 ∧ x1 = u1 ∧ y1 = v1 := by
  rcases h with ⟨h0, rfl, rfl, rfl, rfl⟩ | h <;> rcases k with ⟨k0, rfl, rfl, rfl, rfl⟩ | k
  · exact ⟨rfl, rfl, rfl, rfl⟩
  · obtain ⟨p, hp, _⟩ := k.a0; rw [h0] at hp; cases hp
  · obtain ⟨p, hp, _⟩ := h.a0; rw [k0] at hp; cases hp
  · exact h.unique k
theorem Tal.unique {ys : List (Int × Int)} {c x0 y0 x1 y1 d u0 v0 u1 v1 : Int} (h : Tal ys c x0 y0 x1 y1) (k : Tal ys d u0 v0 u1 v1) : c = d ∧ x0 = u0 ∧ y0 = v0 ∧ x1 = u1 ∧ y1 = v1 := ⟨h.1.trans k.1.symm, h.2.unique k.2⟩

/-- corners that span cells -/
structure Spans (cs zs : List (Int × Int)) : Prop where
  x : ∀ c ∈ cs, ∃ p ∈ zs, p.1 = c.1
  y : ∀ c ∈ cs, ∃ p ∈ zs, p.2 = c.2
  x0 : ∀ p ∈ zs, ∃ c ∈ cs, c.1 ≤ p.1
  x1 : ∀ p ∈ zs, ∃ c ∈ cs, p.1 ≤ c.1
  y0 : ∀ p ∈ zs, ∃ c ∈ cs, c.2 ≤ p.2
  y1 : ∀ p ∈ zs, ∃ c ∈ cs, p.2 ≤ c.2
theorem Spans.nil : Spans [] [] := ⟨fun _ h => by (cases h), fun _ h => by (cases h), fun _ h => by (cases h), fun _ h => by (cases h), fun _ h => by (cases h), fun _ h => by (cases h)⟩
theorem Spans.append {cs zs ds ys : List (Int × Int)} (h : Spans cs zs) (k : Spans ds ys) : Spans (cs ++ ds) (zs ++ ys) := by
  refine ⟨fun c hc => ?_, fun c hc => ?_, fun p hp => ?_, fun p hp => ?_, fun p hp => ?_, fun p hp => ?_⟩
  · rcases List.mem_append.1 hc with hc | hc
    · obtain ⟨p, hp, e⟩ := h.x c hc; exact ⟨p, List.mem_append_left _ hp, e⟩
    · obtain ⟨p, hp, e⟩ := k.x c hc; exact ⟨p, List.mem_append_right _ hp, e⟩
  · rcases List.mem_append.1 hc with hc | hc
    · obtain ⟨p, hp, e⟩ := h.y c hc; exact ⟨p, List.mem_append_left _ hp, e⟩
    · obtain ⟨p, hp, e⟩ := k.y c hc; exact ⟨p, List.mem_append_right _ hp, e⟩
  · rcases List.mem_append.1 hp with hp | hp
    · obtain ⟨c, hc, e⟩ := h.x0 p hp; exact ⟨c, List.mem_append_left _ hc, e⟩
    · obtain ⟨c, hc, e⟩ := k.x0 p hp; exact ⟨c, List.mem_append_right _ hc, e⟩
  · rcases List.mem_append.1 hp with hp | hp
    · obtain ⟨c, hc, e⟩ := h.x1 p hp; exact ⟨c, List.mem_append_left _ hc, e⟩
    · obtain ⟨c, hc, e⟩ := k.x1 p hp; exact ⟨c, List.mem_append_right _ hc, e⟩
  · rcases List.mem_append.1 hp with hp | hp
    · obtain ⟨c, hc, e⟩ := h.y0 p hp; exact ⟨c, List.mem_append_left _ hc, e⟩
    · obtain ⟨c, hc, e⟩ := k.y0 p hp; exact ⟨c, List.mem_append_right _ hc, e⟩
  · rcases List.mem_append.1 hp with hp | hp
    · obtain ⟨c, hc, e⟩ := h.y1 p hp; exact ⟨c, List.mem_append_left _ hc, e⟩
    · obtain ⟨c, hc, e⟩ := k.y1 p hp; exact ⟨c, List.mem_append_right _ hc, e⟩
theorem Spans.box {zs : List (Int × Int)} {x0 y0 x1 y1 : Int} (dx dy : Int) (h : IsBox zs x0 y0 x1 y1) : Spans [(dx + x0, dy + y0), (dx + x1, dy + y1)] (shiftL dx dy zs) := by
  have hm : ∀ p ∈ zs, (p.1 + dx, p.2 + dy) ∈ shiftL dx dy zs := fun p hp => mem_shift.2 (by simpa using hp)
  refine ⟨fun c hc => ?_, fun c hc => ?_, fun p hp => ?_, fun p hp => ?_, fun p hp => ?_, fun p hp => ?_⟩
  · simp at hc
    rcases hc with rfl | rfl
    · obtain ⟨p, hp, e⟩ := h.a0; exact ⟨_, hm p hp, by show p.1 + dx = dx + x0; omega⟩
    · obtain ⟨p, hp, e⟩ := h.a1; exact ⟨_, hm p hp, by show p.1 + dx = dx + x1; omega⟩
  · simp at hc
    rcases hc with rfl | rfl
    · obtain ⟨p, hp, e⟩ := h.b0; exact ⟨_, hm p hp, by show p.2 + dy = dy + y0; omega⟩
    · obtain ⟨p, hp, e⟩ := h.b1; exact ⟨_, hm p hp, by show p.2 + dy = dy + y1; omega⟩
  · have := h.all _ (mem_shift.1 hp); exact ⟨(dx + x0, dy + y0), by simp, by show dx + x0 ≤ _; simp only at this; omega⟩
  · have := h.all _ (mem_shift.1 hp); exact ⟨(dx + x1, dy + y1), by simp, by show _ ≤ dx + x1; simp only at this; omega⟩
  · have := h.all _ (mem_shift.1 hp); exact ⟨(dx + x0, dy + y0), by simp, by show dy + y0 ≤ _; simp only at this; omega⟩
  · have := h.all _ (mem_shift.1 hp); exact ⟨(dx + x1, dy + y1), by simp, by show _ ≤ dy + y1; simp only at this; omega⟩
theorem Spans.isBox {cs zs : List (Int × Int)} {x0 y0 x1 y1 : Int} (h : Spans cs zs) (k : IsBox cs x0 y0 x1 y1) : IsBox zs x0 y0 x1 y1 := by
  refine ⟨fun p hp => ?_, ?_, ?_, ?_, ?_⟩
  · obtain ⟨c, hc, e⟩ := h.x0 p hp
    obtain ⟨d, hd, f⟩ := h.x1 p hp
    obtain ⟨c', hc', e'⟩ := h.y0 p hp
    obtain ⟨d', hd', f'⟩ := h.y1 p hp
    have := k.all c hc; have := k.all d hd; have := k.all c' hc'; have := k.all d' hd'
    omega
  · obtain ⟨c, hc, e⟩ := k.a0; obtain ⟨p, hp, f⟩ := h.x c hc; exact ⟨p, hp, f.trans e⟩
  · obtain ⟨c, hc, e⟩ := k.b0; obtain ⟨p, hp, f⟩ := h.y c hc; exact ⟨p, hp, f.trans e⟩
  · obtain ⟨c, hc, e⟩ := k.a1; obtain ⟨p, hp, f⟩ := h.x c hc; exact ⟨p, hp, f.trans e⟩
  · obtain ⟨c, hc, e⟩ := k.b1; obtain ⟨p, hp, f⟩ := h.y c hc; exact ⟨p, hp, f.trans e⟩
theorem Spans.boxOr {cs zs : List (Int × Int)} {x0 y0 x1 y1 : Int} (h : Spans cs zs) (k : BoxOr cs x0 y0 x1 y1) : BoxOr zs x0 y0 x1 y1 := by
  rcases k with ⟨rfl, h1, h2, h3, h4⟩ | k
  · refine Or.inl ⟨?_, h1, h2, h3, h4⟩
    rcases List.eq_nil_or_concat zs with e | ⟨l, p, e⟩
    · exact e
    · obtain ⟨c, hc, _⟩ := h.x0 p (by rw [e]; simp)
      cases hc
  · exact Or.inr (h.isBox k)

/-- squares of which a walker does not know yet -/
def unk (D : DataW Unit) : Nat → Nat
  | 0 => 0
  | n + 1 => unk D n + if Maps.has D (.int .i64 ((n : Int) + 2)) = true then 0 else 1
theorem unk_put {D : DataW Unit} (hD : IsMap D) (d : DataW Unit) {i : Nat} (hi : Maps.has D (.int .i64 ((i : Int) + 2)) = false) : ∀ n, unk (D.put (.int .i64 ((i : Int) + 2)) d) n + (if i < n then 1 else 0) = unk D n
  | 0 => by simp [unk]
  | n + 1 => by
    have ih := unk_put hD d hi n
    unfold unk
    by_cases e : i = n
    · subst e
      rw [has_put_same hD (by unfold WideAt.IsKeyLit; trivial), hi]
      simp at ih ⊢
      omega
    · rw [has_put_other (by intro h; cases h; omega)]
      split <;> split at ih <;> split <;> omega
theorem unk_le (D : DataW Unit) : ∀ n, unk D n ≤ n
  | 0 => Nat.le_refl _
  | n + 1 => by
    have := unk_le D n
    unfold unk
    split <;> omega

/-- what a walker knows is right -/
structure KnownG (D : DataW Unit) (l : List Th) (t : Nat) : Prop where
  zero : Maps.has D (.int .i64 0) = true
  one : Maps.has D (.int .i64 1) = true
  tal : ∀ id, Fits id → Maps.has D (.int .i64 id) = true → ∃ (n : Nat) (c x0 y0 x1 y1 : Int), levelF l t id = some (n : Int) ∧ Tal (cellsF l n id) c x0 y0 x1 y1 ∧ D.atKey (.int .i64 id) (td 0 0 0 0 0) = td c x0 y0 x1 y1
theorem zeroG (w : World) : (zeroValue 138).run Try.prog w = .ok (tv 0 0 0 0 0) w := by kernel_rfl
/-- a square that is known -/
theorem tal_yes {w : World} {m k n t : Nat} {D : DataW Unit} {l : List Th} {i : Int} (h : w.ownsMap Try.prog 3 talG m k D) (hk : KnownG D l t) (hi : Fits i) (hl : levelF l t i = some (n : Int)) (hh : Maps.has D (.int .i64 i) = true) :
    ∃ c x0 y0 x1 y1, Tal (cellsF l n i) c x0 y0 x1 y1 ∧ (Instr.lookup 132 (.map (some m)) (.int .i64 i) true).run Try.prog w = .ok (.tuple #[tv c x0 y0 x1 y1, .bool true]) w := by
  obtain ⟨v, ps, hrun, hv⟩ := h.look_ok (int_keyed Try.underlying3) Try.underlying132 (zeroG w) (talG_tv 0 0 0 0 0) (keyOf_int_mk Try.underlying3 (wf_of_fits hi))
  obtain ⟨n', c, x0, y0, x1, y1, h1, h2, h3⟩ := hk.tal i hi hh
  rw [hl] at h1
  obtain rfl : n = n' := by have := Option.some.inj h1; omega
  rw [h3] at hv
  rw [hh] at hrun
  exact ⟨c, x0, y0, x1, y1, h2, by rw [hrun, talG_inv hv]⟩
/-- a square that is not -/
theorem tal_no {w : World} {m k : Nat} {D : DataW Unit} {i : Int} (h : w.ownsMap Try.prog 3 talG m k D) (hi : Fits i) (hh : Maps.has D (.int .i64 i) = false) :
    (Instr.lookup 132 (.map (some m)) (.int .i64 i) true).run Try.prog w = .ok (.tuple #[tv 0 0 0 0 0, .bool false]) w := by
  obtain ⟨v, ps, hrun, hv⟩ := h.look_ok (int_keyed Try.underlying3) Try.underlying132 (zeroG w) (talG_tv 0 0 0 0 0) (keyOf_int_mk Try.underlying3 (wf_of_fits hi))
  rw [atKey_of_not_has hh] at hv
  rw [hh] at hrun
  rw [hrun, talG_inv hv]
/-- one square more is known -/
theorem tal_learn {w : World} {m k n t : Nat} {D : DataW Unit} {l : List Th} {i c x0 y0 x1 y1 : Int} (h : w.ownsMap Try.prog 3 talG m k D) (hk : KnownG D l t) (hi : Fits i) (h2 : 2 ≤ i) (hlt : (i - 2).toNat < l.length) (hl : levelF l t i = some (n : Int)) (hT : Tal (cellsF l n i) c x0 y0 x1 y1) (hh : Maps.has D (.int .i64 i) = false) (hn : k + unk D l.length ≤ 2000000) :
    ∃ w' D', (Instr.mapUpdate 132 (.map (some m)) (.int .i64 i) (tv c x0 y0 x1 y1)).run Try.prog w = .ok () w' ∧ w'.ownsMap Try.prog 3 talG m (k + 1) D' ∧ KnownG D' l t ∧ k + 1 + unk D' l.length ≤ 2000000 ∧ w.mapTurned w' m ∧ ∀ j, Maps.has D' (.int .i64 j) = true → j = i ∨ Maps.has D (.int .i64 j) = true := by
  obtain ⟨w', h1, h3, h4⟩ := h.store (int_keyed Try.underlying3) Try.underlying132 (show k < maxLen by unfold maxLen; omega) (keyOf_int_mk Try.underlying3 (wf_of_fits hi)) (talG_tv c x0 y0 x1 y1)
  have hkl : WideAt.IsKeyLit (.int .i64 i) := by unfold WideAt.IsKeyLit; trivial
  refine ⟨w', _, h1, h3, ⟨?_, ?_, fun j hj hhj => ?_⟩, ?_, h4, fun j hhj => ?_⟩
  · rw [has_put_other (by intro e; cases e; omega)]; exact hk.zero
  · rw [has_put_other (by intro e; cases e; omega)]; exact hk.one
  · by_cases e : j = i
    · subst e
      exact ⟨n, c, x0, y0, x1, y1, hl, hT, atKey_put_same h.isMap hkl _ _⟩
    · have ne : (Lit.int .i64 j) ≠ .int .i64 i := by intro h; cases h; exact e rfl
      rw [has_put_other ne] at hhj
      obtain ⟨n', c', a, b, c'', d, f1, f2, f3⟩ := hk.tal j hj hhj
      exact ⟨n', c', a, b, c'', d, f1, f2, by rw [atKey_put_other ne]; exact f3⟩
  · obtain ⟨q, hq⟩ : ∃ q : Nat, i = (q : Int) + 2 := ⟨(i - 2).toNat, by omega⟩
    subst hq
    have := unk_put h.isMap (td c x0 y0 x1 y1) hh l.length
    rw [if_pos (by omega)] at this
    omega
  · by_cases e : j = i
    · exact Or.inl e
    · have ne : (Lit.int .i64 j) ≠ .int .i64 i := by intro h; cases h; exact e rfl
      rw [has_put_other ne] at hhj
      exact Or.inr hhj
end Go.Proofs.Ythobobgiendcfaa.A

namespace Go.Proofs.Ythobobgiendcfaa.A
open Go.RowKit Go.Maps Go.ChangeMaps Go.WideElems

theorem talG_other {w w' : World} {m n : Nat} {D : DataW Unit} (h : w.ownsMap Try.prog 3 talG m n D) (hb : w'.heap[m]? = w.heap[m]?) : w'.ownsMap Try.prog 3 talG m n D := by
  obtain ⟨es, clock, h1, h2⟩ := h
  exact ⟨es, clock, hb.trans h1, h2⟩
/-- what a walker has in memory -/
structure WG (w : World) (wb m b nn t k : Nat) (v : Value) (F : Nat → Prop) (A : Ar) (D : DataW Unit) : Prop where
  hand : HandAt w wb b t 0 v
  ar : ArAt w b F nn A
  map : w.ownsMap Try.prog 3 talG m k D
  known : KnownG D A.ths t
  cap : k + unk D A.ths.length ≤ 2000000
  c4 : w.cell? ⟨wb, 4, none⟩ = some (.map (some m))
  ne : wb ≠ m
  nF : ¬ F m
  nFw : ¬ F wb
section
variable {w w' : World} {wb m b nn t k : Nat} {v : Value} {F : Nat → Prop} {A : Ar} {D : DataW Unit}
theorem WG.lt (h : WG w wb m b nn t k v F A D) : m < w.heap.size := by
  have hm0 : w.heap[m]? ≠ none := by obtain ⟨es, c, he, _⟩ := h.map; rw [he]; simp
  rw [Ne, Array.getElem?_eq_none_iff] at hm0; omega
theorem WG.other (h : WG w wb m b nn t k v F A D) (hs : w.heap.size ≤ w'.heap.size) (hb : ∀ j, j = wb ∨ j = m ∨ F j → w'.heap[j]? = w.heap[j]?) : WG w' wb m b nn t k v F A D :=
  ⟨h.hand.go (hb wb (Or.inl rfl)), h.ar.other hs fun j hj => hb j (Or.inr (Or.inr hj)), talG_other h.map (hb m (Or.inr (Or.inl rfl))), h.known, h.cap, (World.cell?_of_block (hb wb (Or.inl rfl))).trans h.c4, h.ne, h.nF, h.nFw⟩
theorem WG.flt (h : WG w wb m b nn t k v F A D) {j : Nat} (hj : j = wb ∨ j = m ∨ F j) : j < w.heap.size := by
  rcases hj with rfl | rfl | hj
  · exact h.hand.lt
  · exact h.lt
  · exact h.ar.flt j hj
theorem WG.below (h : WG w wb m b nn t k v F A D) (hb : Below w.heap.size w w') : WG w' wb m b nn t k v F A D := h.other hb.size fun _ hj => hb.block _ (h.flt hj)
theorem WG.kids (h : WG w wb m b nn t k v F A D) (h2 : HandAt w' wb b t 0 v) (hg : w.grownBy w' (some wb)) (h4 : w'.cell? ⟨wb, 4, none⟩ = some (.map (some m))) : WG w' wb m b nn t k v F A D :=
  ⟨h2, h.ar.other hg.size fun j hj => hg.block j (h.ar.flt j hj) (fun e => h.nFw (by cases e; exact hj)), talG_other h.map (hg.block _ h.lt (fun e => h.ne (by cases e; rfl))), h.known, h.cap, h4, h.ne, h.nF, h.nFw⟩
end
/-- what may be known behind a call: what was, and squares of a level or below -/
def Kn (D : DataW Unit) (l : List Th) (t n : Nat) (j : Int) : Prop := Maps.has D (.int .i64 j) = true ∨ ∃ q : Nat, q ≤ n ∧ levelF l t j = some (q : Int)
/-- what a walker's call leaves -/
structure TG (w : World) (wb m b nn t : Nat) (v : Value) (F : Nat → Prop) (A : Ar) (K : Int → Prop) (w' : World) : Prop where
  wg : ∃ k D, WG w' wb m b nn t k v F A D ∧ ∀ j, Fits j → Maps.has D (.int .i64 j) = true → K j
  size : w.heap.size ≤ w'.heap.size
  os : w'.os = w.os
  tape : w'.tape = w.tape
  output : w'.output = w.output
  block : ∀ j, j < w.heap.size → j ≠ wb → j ≠ m → w'.heap[j]? = w.heap[j]?
section
variable {w w1 w2 : World} {wb m b nn t k : Nat} {v : Value} {F : Nat → Prop} {A : Ar} {D : DataW Unit} {K K1 K2 : Int → Prop}
theorem TG.trans (h : TG w wb m b nn t v F A K1 w1) (k : TG w1 wb m b nn t v F A K2 w2) : TG w wb m b nn t v F A K2 w2 :=
  ⟨k.wg, Nat.le_trans h.size k.size, k.os.trans h.os, k.tape.trans h.tape, k.output.trans h.output, fun j h1 h2 h3 => (k.block j (Nat.lt_of_lt_of_le h1 h.size) h2 h3).trans (h.block j h1 h2 h3)⟩
theorem TG.mono (h : TG w wb m b nn t v F A K1 w1) (hk : ∀ j, K1 j → K2 j) : TG w wb m b nn t v F A K2 w1 := by
  obtain ⟨⟨k, D, h1, h2⟩, a, b, c, d, e⟩ := h
  exact ⟨⟨k, D, h1, fun j hj hh => hk j (h2 j hj hh)⟩, a, b, c, d, e⟩
theorem TG.of (h : WG w wb m b nn t k v F A D) (hb : Below w.heap.size w w1) (hk : ∀ j, Fits j → Maps.has D (.int .i64 j) = true → K j) : TG w wb m b nn t v F A K w1 :=
  ⟨⟨k, D, h.below hb, hk⟩, hb.size, hb.os, hb.tape, hb.output, fun j h1 _ _ => hb.block j h1⟩
end

set_option maxRecDepth 20000 in
set_option maxHeartbeats 4000000 in
theorem tally_yes (wb m b nn t k n : Nat) (id level : Int) (v : Value) (F : Nat → Prop) (A : Ar) (D : DataW Unit) (w : World) (hw : WG w wb m b nn t k v F A D) (hi : Fits id) (hl : levelF A.ths t id = some (n : Int)) (hh : Maps.has D (.int .i64 id) = true) :
    Calls Try.prog 87 #[.pointer (some ⟨wb, 0, none⟩), .int .i64 id, .int .i64 level] w fun x w' => ∃ c x0 y0 x1 y1, x = .returned (tv c x0 y0 x1 y1) ∧ Tal (cellsF A.ths n id) c x0 y0 x1 y1 ∧ TG w wb m b nn t v F A (Kn D A.ths t n) w' := by
  have b1 : Below w.heap.size w (w.alloc (.cells #[.int .i64 0, .int .i64 0, .int .i64 0, .int .i64 0, .int .i64 0] 138)) := (Below.refl _ _).alloc (Nat.le_refl _) _
  have q1 := hw.below b1
  obtain ⟨c, x0, y0, x1, y1, hT, hlook⟩ := tal_yes q1.map q1.known hi hl hh
  have hc' := q1.c4
  have HFIN : Hid (∀ w', Below w.heap.size w w' → TG w wb m b nn t v F A (Kn D A.ths t n) w') := fun w' h => TG.of hw h fun _ _ hh => Or.inl hh
  go_enter Try.func87, Try.ntmps87
  go_wp2_with fail
  refine bodyPost_ret (v := tv c x0 y0 x1 y1) ?_ rfl ⟨c, x0, y0, x1, y1, rfl, hT, HFIN.out _ ?_⟩
  · simp [results, Try.results87, go_sem]
  · exact ((Below.refl _ _).alloc (Nat.le_refl _) _).alloc (by simp) _
end Go.Proofs.Ythobobgiendcfaa.A
