/- lay's walk where a number is free. -/
import Derived.Test.YtfogedmghhacdaaArLayF
namespace Go.Proofs.Ytfogedmghhacdaa.A
open Go.RowKit Go.Maps Go.ChangeMaps Go.WideElems

set_option maxRecDepth 20000 in
set_option maxHeartbeats 1000000 in
theorem lay_free (b n m i : Nat) (F : Nat → Prop) (A : Ar) (r : Raw) (D : DataW Unit) (x : Th) (w : World) (h : ArRaw w b F n A r D) (hm : A.free.length = m + 1) (hb : m < 900000) (hH : Heap A.free (m + 1)) (hx : x.key.Fit) (h0 : spotF A.ths x.key = none) (hi : A.free[0]! = (i : Int) + 2) (hit : A.ths[i]? = some noTh) (hn : n < 1000000000) (hlen : A.ths.length < 1000000) :
    Calls Try.prog 57 #[.pointer (some ⟨b, 0, none⟩), x.val] w fun e w' => e = .returned (.int .i64 ((i : Int) + 2)) ∧ (∃ (L' : List Int) (r' : Raw) (D' : DataW Unit), ArRaw w' b F (n + 1) { A with ths := A.ths.set i x, free := L' } r' D' ∧ (A.free[0]! :: L').Perm A.free ∧ L'.length = m ∧ Heap L' m) ∧ Apart F w w' := by
  have hil : i < A.ths.length := (List.getElem?_eq_some_iff.1 hit).1
  obtain ⟨g, c, hv⟩ := h.ths.shape' (by omega)
  obtain ⟨fg, fc, hfr, hfc⟩ := h.free.shape0 (by omega)
  rw [hm] at hfr hfc
  have c1 := h.raw.at 1 (by omega)
  rw [Raw.c1, hv] at c1
  have c3 := h.raw.at 3 (by omega)
  rw [Raw.c3, hfr] at c3
  have hblt := h.raw.lt
  have hbx : Below w.heap.size w (w.alloc (.cells #[.int .i64 x.k, .int .i64 x.p0, .int .i64 x.p1, .int .i64 x.p2, .int .i64 x.p3, .int .i64 x.lv, .int .i64 x.va, .int .u64 x.mask] 82)) := (Below.refl _ _).alloc (Nat.le_refl _) _
  have hX : (w.alloc (.cells #[.int .i64 x.k, .int .i64 x.p0, .int .i64 x.p1, .int .i64 x.p2, .int .i64 x.p3, .int .i64 x.lv, .int .i64 x.va, .int .u64 x.mask] 82)).heap[w.heap.size]? = some (.cells #[.int .i64 x.k, .int .i64 x.p0, .int .i64 x.p1, .int .i64 x.p2, .int .i64 x.p3, .int .i64 x.lv, .int .i64 x.va, .int .u64 x.mask] 82 (0, 0)) := heap_alloc_new w _
  have hpop := pop_any b n m fg fc F A r D _ (h.below hbx) hfr hm hfc hb hH
  rw [hi] at hpop
  have HX : Hid _ := hX
  have HBX : Hid _ := hbx
  have hta : ∀ w, (Instr.typeAssert (.iface 3 (.int .i64 ((i : Int) + 2))) 20 3 false).run Try.prog w = .ok (.int .i64 ((i : Int) + 2)) w := fun _ => by kernel_rfl
  have hwf : IntKind.i64.wrap (2 + (A.ths.length : Int)) = 2 + (A.ths.length : Int) := by rw [IntKind.wrap_i64]; omega
  clear hX hbx
  unfold Th.val
  go_enter Try.func57, Try.ntmps57
  go_wp2_with fail
  refine hpop.mono ?_
  rintro e w1 ⟨rfl, L', H1, hp1, hl1, hh1, P1⟩
  have hnF : ¬ F w.heap.size := fun e => by have := h.flt _ e; omega
  have hX1 : w1.heap[w.heap.size]? = some (.cells #[.int .i64 x.k, .int .i64 x.p0, .int .i64 x.p1, .int .i64 x.p2, .int .i64 x.p3, .int .i64 x.lv, .int .i64 x.va, .int .u64 x.mask] 82 (0, 0)) := (P1.block w.heap.size (by simp) hnF).trans HX.out
  obtain ⟨e0, e1, e2, e3, e4, e5, e6, e7⟩ := cells8 hX1
  have hth := H1.ths
  rw [show ({ r with vfr := .slice (some ⟨fg, 0, none⟩) m fc } : Raw).vth = .slice (some ⟨g, 0, none⟩) A.ths.length c from hv] at hth
  obtain ⟨d0, d1, d2, d3, d4, d5, d6, d7⟩ := ThRow.cells (l := A.ths) hth hit
  have z0 := World.ownsRow.frozenAt hth (i * 8)
  have z1 := World.ownsRow.frozenAt hth (i * 8 + 1)
  have z2 := World.ownsRow.frozenAt hth (i * 8 + 2)
  have z3 := World.ownsRow.frozenAt hth (i * 8 + 3)
  have z4 := World.ownsRow.frozenAt hth (i * 8 + 4)
  have z5 := World.ownsRow.frozenAt hth (i * 8 + 5)
  have z6 := World.ownsRow.frozenAt hth (i * 8 + 6)
  have z7 := World.ownsRow.frozenAt hth (i * 8 + 7)
  have q1 := H1.raw.at 1 (by omega)
  rw [Raw.c1, show ({ r with vfr := .slice (some ⟨fg, 0, none⟩) m fc } : Raw).vth = .slice (some ⟨g, 0, none⟩) A.ths.length c from hv] at q1
  have k0 : (0 : Int) ≤ (i : Int) := by omega
  have k1 : (i : Int) < (A.ths.length : Int) := by omega
  have hw4 : IntKind.i64.wrap ((i : Int) + 2 - 2) = (i : Int) := by rw [IntKind.wrap_i64]; omega
  clear hpop c1 c3 hX1 hth
  have HC : Hid (w1.heap[w.heap.size]? = some (.cells #[.int .i64 x.k, .int .i64 x.p0, .int .i64 x.p1, .int .i64 x.p2, .int .i64 x.p3, .int .i64 x.lv, .int .i64 x.va, .int .u64 x.mask] 82 (0, 0))) := (P1.block w.heap.size (by simp) hnF).trans HX.out
  go_wp2_with fail
  go_cut [] from 24 to 31 (fun wc => wc = (set8At w1 g (i * 8) x).drew)
  case first =>
    go_region
    all_goals
      go_wp2_with fail
      go_meet
      case rel => exact rfl
  case rest =>
  have hg : r.vth.ownBlock = some g := by rw [hv]; rfl
  have hFg : F g := h.fv g hg
  obtain ⟨W', hW'⟩ : ∃ W', W' = set8At w1 g (i * 8) x := ⟨_, rfl⟩
  rw [← hW'] at hcut
  have hWs' : W'.heap.size = w1.heap.size := by rw [hW', set8At_size]
  have hWh' : ∀ k, k ≠ g → W'.heap[k]? = w1.heap[k]? := fun k hk => by rw [hW']; exact set8At_heap hk
  have hWa' : Apart F w1 W' := by rw [hW']; exact set8At_apart w1 hFg
  have hWt' : ThRow W' 0 r.vth (A.ths.set i x) := by
    have h1 := H1.ths
    rw [show ({ r with vfr := .slice (some ⟨fg, 0, none⟩) m fc } : Raw).vth = .slice (some ⟨g, 0, none⟩) A.ths.length c from hv] at h1
    rw [hW', hv]
    exact ThRow.set8 (l := A.ths) h1 hil x
  clear hW'
  subst hcut
  have hWs : W'.drew.heap.size = w1.heap.size := hWs'
  have hWh : ∀ k, k ≠ g → W'.drew.heap[k]? = w1.heap[k]? := hWh'
  have hWa : Apart F w1 W'.drew := hWa'.drew
  have hWt : ThRow W'.drew 0 r.vth (A.ths.set i x) := hWt'
  clear hWs' hWh' hWa' hWt'
  generalize W'.drew = wc at *
  clear d0 d1 d2 d3 d4 d5 d6 d7 z0 z1 z2 z3 z4 z5 z6 z7 e0 e1 e2 e3 e4 e5 e6 e7 q1
  have hgm : r.mp ≠ g := fun e => h.vm (by rw [hg, e])
  have hgX : w.heap.size ≠ g := fun e => hnF (by rw [e]; exact hFg)
  have hgb : b ≠ g := fun e => h.vb (by rw [hg, e])
  obtain ⟨e0, e1, e2, e3, e4, e5, e6, e7⟩ := cells8 ((hWh _ hgX).trans HC.out)
  have R2 := H1.raw.go (hWh b hgb)
  have c2 := R2.at 2 (by omega)
  rw [Raw.c2] at c2
  simp only at c2
  have hM : wc.ownsMap Try.prog 80 (plainElem Try.prog 3) r.mp n D := map_other H1.map (hWh _ hgm)
  obtain ⟨w6, hrun, hown6, hturn⟩ := World.ownsMap.store (w := wc.drew) hM thLaw Try.underlying63 (show n < maxLen by unfold maxLen; omega) (key_ky hx) (plainElem_int (H := Unit) Try.underlying3 (show (Lit.int .i64 ((i : Int) + 2)).wf = true from wf_of_fits (by unfold Fits; omega)))
  unfold Ky.val Th.key at hrun
  simp only at hrun
  have HE := ArRaw.relay H1 (g := g) (c := c) (i := i) (x := x) hv hit hx h0 hown6 hWs hWh hWt hWa hturn
  have HFIN : Hid ((∃ (L' : List Int) (r' : Raw) (D' : DataW Unit), ArRaw w6 b F (n + 1) { A with ths := A.ths.set i x, free := L' } r' D' ∧ (A.free[0]! :: L').Perm A.free ∧ L'.length = m ∧ Heap L' m) ∧ Apart F w w6) := ⟨⟨L', _, _, HE.1, hp1, hl1, hh1⟩, ((Apart.of (F := F) HBX.out).trans P1 fun k hk => Or.inl hk).trans HE.2 fun k hk => Or.inl hk⟩
  clear HE hown6 hturn hM R2 hWs hWh hWt hWa H1 P1 hp1 hl1 hh1
  go_wp2_with fail
  go_region
  all_goals
    go_wp2_with fail
    go_ret
    exact ⟨rfl, HFIN.out⟩
end Go.Proofs.Ytfogedmghhacdaa.A
