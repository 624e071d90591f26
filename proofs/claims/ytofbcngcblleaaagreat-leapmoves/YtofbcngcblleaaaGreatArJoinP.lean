/- Join, whatever numbers are free. -/
import Derived.Test.YtofbcngcblleaaaGreatArSweepG
import Derived.LoopN
namespace Go.Proofs.YtofbcngcblleaaaGreat.A
open Go.RowKit Go.Maps

theorem IntRow.shape0 {w : World} {v : Value} {l : List Int} (h : IntRow w v l) (h0 : 0 < l.length) : ∃ g c, v = .slice (some ⟨g, 0, none⟩) l.length c ∧ l.length ≤ c := by
  rcases h.2 with ⟨_, h2⟩ | ⟨g, cap, cur, h1, _, _, h4, _⟩
  · omega
  · exact ⟨g, cap, h1, h4⟩
theorem heap_first {L : List Int} {m : Nat} (h : Heap L (m + 1)) (hl : L.length = m + 1) : HeapEx (swapL L 0 m) m 0 := by
  refine ⟨fun k h1 h2 h3 => ?_, fun k _ _ _ h4 => by omega⟩
  rw [swap_get L 0 m k (by omega), swap_get L 0 m ((k - 1) / 2) (by omega), if_neg (by omega), if_neg h3, if_neg (by omega), if_neg (by omega)]
  exact h k h1 (by omega)
theorem last_perm {L : List Int} {m : Nat} (hl : L.length = m + 1) : (L[m]! :: L.take m).Perm L := by
  have h1 : L = L.take m ++ [L[m]!] := by
    have h2 : L.take (m + 1) = L := List.take_of_length_le (by omega)
    have h3 : m < L.length := by omega
    conv => lhs; rw [← h2]
    rw [List.take_add_one, List.getElem?_eq_getElem h3, getElem!_pos L m h3]
    rfl
  have h4 : (L.take m ++ [L[m]!]).Perm ([L[m]!] ++ L.take m) := List.perm_append_comm
  conv => rhs; rw [h1]
  exact h4.symm

/-- what Pop leaves -/
def PopOut (w : World) (b n m g c : Nat) (F : Nat → Prop) (A : Ar) (r : Raw) (D : DataW Unit) (w' : World) : Prop :=
  ∃ L' : List Int, ArRaw w' b F n { A with free := L' } { r with vfr := .slice (some ⟨g, 0, none⟩) m c } D ∧ (A.free[0]! :: L').Perm A.free ∧ L'.length = m ∧ Heap L' m ∧ Apart F w w'

set_option maxRecDepth 20000 in
set_option maxHeartbeats 4000000 in
theorem pop_any (b n m g c : Nat) (F : Nat → Prop) (A : Ar) (r : Raw) (D : DataW Unit) (w : World) (h : ArRaw w b F n A r D) (hv : r.vfr = .slice (some ⟨g, 0, none⟩) (m + 1) c) (hm : A.free.length = m + 1) (hc : m + 1 ≤ c) (hb : m < 900000) (hH : Heap A.free (m + 1)) :
    Calls Tryz.prog 116 #[.iface 157 (.pointer (some ⟨b, 3, none⟩))] w fun e w' => e = .returned (.iface 3 (.int .i64 A.free[0]!)) ∧ PopOut w b n m g c F A r D w' := by
  have hv1 : r.vfr = .slice (some ⟨g, 0, none⟩) A.free.length c := by rw [hm]; exact hv
  have hml := Tryz.mLen' ⟨b, 3, none⟩ _ w (free_cell h hv1)
  have hms := Tryz.mSwap' ⟨b, 3, none⟩ _ w (free_cell h hv1)
  have hsw := lswap_any b n g c 0 m F A r D w h hv1 (by omega) (by omega)
  rw [hm] at hml hms hsw
  have hlen := len_any (some ⟨g, 0, none⟩) (m + 1) c w
  have hw1 : IntKind.i64.wrap (((m + 1 : Nat) : Int) - 1) = (m : Int) := by rw [IntKind.wrap_i64]; omega
  have hmp := fun W => Tryz.mPop ⟨b, 3, none⟩ W
  have HSL : Hid ((swapL A.free 0 m).length = m + 1 ∧ HeapEx (swapL A.free 0 m) m 0 ∧ (swapL A.free 0 m)[m]! = A.free[0]! ∧ (swapL A.free 0 m).Perm A.free) := by
    refine ⟨by rw [swap_len, hm], heap_first hH hm, ?_, swap_mem _ _ _ (by omega) (by omega)⟩
    rw [swap_get _ _ _ _ (by omega), if_pos rfl]
  have HV : Hid (r.vfr = .slice (some ⟨g, 0, none⟩) (m + 1) c) := hv
  obtain ⟨x0, hx0⟩ : ∃ x, x = A.free[0]! := ⟨_, rfl⟩
  rw [← hx0] at HSL ⊢
  have HX0 : Hid (x0 = A.free[0]!) := hx0
  clear hH h hv1 hv hx0
  go_enter Tryz.func116, Tryz.ntmps116
  go_wp2_with fail
  refine hlen.mono ?_
  rintro e w1 ⟨rfl, hw⟩
  have hw' := hw.symm
  subst hw'
  clear hlen hw hml
  go_wp2_with fail
  refine hsw.mono ?_
  rintro e w2 ⟨rfl, H2, P2⟩
  have hdn := down_any b n m g c F { A with free := swapL A.free 0 m } r D w2 H2 (by show r.vfr = .slice (some ⟨g, 0, none⟩) (swapL A.free 0 m).length c; rw [HSL.out.1]; exact HV.out) (by show m ≤ (swapL A.free 0 m).length; rw [HSL.out.1]; omega) (by show (swapL A.free 0 m).length < 1000000; rw [HSL.out.1]; omega) HSL.out.2.1
  clear hsw hms H2
  go_wp2_with fail
  refine hdn.mono ?_
  rintro e w3 ⟨bb, L3, rfl, H3, hp3, hh3, hs3, P3⟩
  have hl3 : L3.length = m + 1 := by rw [hp3.length_eq]; exact HSL.out.1
  have hpo := lpop_any b n g c m F { A with free := L3 } r D w3 H3 HV.out hl3 (by omega) hc
  have HE : Hid (L3[m]! = x0) := (hs3 m (Nat.le_refl _)).trans HSL.out.2.2.1
  have HPP : Hid (L3.Perm A.free ∧ Heap L3 m ∧ L3.length = m + 1 ∧ Apart F w w3) := ⟨hp3.trans HSL.out.2.2.2, hh3, hl3, P2.trans P3 fun k hk => Or.inl hk⟩
  rw [show ({ A with free := L3 } : Ar).free = L3 from rfl, HE.out] at hpo
  have hmp' := hmp w3
  clear hdn hs3 hh3 hp3 H3 hl3 hmp
  go_wp2_with fail
  refine hpo.mono ?_
  rintro e w4 ⟨rfl, H4, P4⟩
  have HR : Hid (PopOut w b n m g c F A r D w4) := by
    refine ⟨L3.take m, H4, ?_, by rw [List.length_take, HPP.out.2.2.1]; omega, fun k h1 h2 => ?_, HPP.out.2.2.2.trans P4 fun k hk => Or.inl hk⟩
    · rw [← HX0.out, ← HE.out]
      exact (last_perm HPP.out.2.2.1).trans HPP.out.1
    · have h3 := HPP.out.2.1 k h1 h2
      have e1 : ∀ j, j < m → (L3.take m)[j]! = L3[j]! := fun j hj => by
        have := HPP.out.2.2.1
        rw [getElem!_pos _ j (by rw [List.length_take]; omega), getElem!_pos L3 j (by omega), List.getElem_take]
      rw [e1 k h2, e1 ((k - 1) / 2) (by omega)]
      exact h3
  clear hpo H4 P4
  go_wp2_with fail
  go_ret
  exact ⟨rfl, HR.out⟩
end Go.Proofs.YtofbcngcblleaaaGreat.A

namespace Go.Proofs.YtofbcngcblleaaaGreat.A
open Go.RowKit Go.Maps Go.ChangeMaps Go.WideElems

/-- a thing in a free place -/
theorem NumIs.fill {D : DataW Unit} {l : List Th} (h : NumIs D l) (hD : IsMap D) {i : Nat} {x : Th} (hi : l[i]? = some noTh) (hx : x.key.Fit) (h0 : spotF l x.key = none) : NumIs (D.put (kl x.key) (.lit (.int .i64 ((i : Int) + 2)))) (l.set i x) := by
  intro q hq hqk
  obtain ⟨h1, h2⟩ := h q hq hqk
  have hil : i < l.length := (List.getElem?_eq_some_iff.1 hi).1
  have hget : ∀ j, (l.set i x)[j]? = if i = j then some x else l[j]? := fun j => by
    rw [List.getElem?_set]
    by_cases e : i = j
    · subst e; simp [hil]
    · simp [e]
  by_cases e : x.key = q
  · subst e
    have hs : spotF (l.set i x) x.key = some i := by
      unfold spotF
      rw [List.findIdx?_eq_some_iff_getElem]
      refine ⟨by rw [List.length_set]; exact hil, by simp, fun j hj => ?_⟩
      have hjl : j < l.length := by omega
      rw [List.getElem_set_ne (by omega)]
      have := spot_none h0 l[j] (List.getElem_mem hjl)
      simpa using this
    unfold numF
    rw [hs]
    exact ⟨has_put_same hD (kl_key _) _, atKey_put_same hD (kl_key _) _ _⟩
  · have hne : kl q ≠ kl x.key := fun k => e (kl_inj hq hx k).symm
    have hno : noTh.key ≠ q := fun e => hqk (by rw [← e]; rfl)
    have : spotF (l.set i x) q = spotF l q := by
      unfold spotF
      clear h1 h2 hget h0 h
      induction l generalizing i with
      | nil => simp at hi
      | cons y l ih =>
        cases i with
        | zero =>
          simp at hi; subst hi
          rw [List.set_cons_zero, List.findIdx?_cons, List.findIdx?_cons]
          rw [decide_eq_false hno, decide_eq_false e]
        | succ i =>
          rw [List.set_cons_succ, List.findIdx?_cons, List.findIdx?_cons, ih (by simpa using hi) (by simpa using hil)]
    unfold numF at *
    rw [this, has_put_other hne, atKey_put_other hne]
    exact ⟨h1, h2⟩

/-- a thing laid into a free place, and into the map -/
theorem ArRaw.relay {w w1 W' : World} {b n : Nat} {F : Nat → Prop} {A : Ar} {r : Raw} {D : DataW Unit} (h : ArRaw w b F n A r D) {g c i : Nat} {x : Th} (hv : r.vth = .slice (some ⟨g, 0, none⟩) A.ths.length c) (hi : A.ths[i]? = some noTh) (hf : x.key.Fit) (h0 : spotF A.ths x.key = none)
    (hm : w1.ownsMap Tryz.prog 120 (plainElem Tryz.prog 3) r.mp (n + 1) (D.put (kl x.key) (.lit (.int .i64 ((i : Int) + 2))))) (hWs : W'.heap.size = w.heap.size) (hWh : ∀ k, k ≠ g → W'.heap[k]? = w.heap[k]?) (hWt : ThRow W' 0 r.vth (A.ths.set i x)) (hWa : Apart F w W') (ht : W'.drew.mapTurned w1 r.mp) :
    ArRaw w1 b F (n + 1) { A with ths := A.ths.set i x } r (D.put (kl x.key) (.lit (.int .i64 ((i : Int) + 2)))) ∧ Apart F w w1 := by
  have hg : r.vth.ownBlock = some g := by rw [hv]; rfl
  have hgb : b ≠ g := fun e => h.vb (by rw [hg, e])
  have hs : w1.heap.size = w.heap.size := (size_of_turned ht).trans hWs
  have hgr := grown_of_turned ht
  have hlk : ∀ k, F k → k ≠ r.mp → k ≠ g → w1.heap[k]? = w.heap[k]? := fun k hk h1 h2 =>
    (hgr.block k (by show k < W'.heap.size; rw [hWs]; exact h.flt k hk) (fun e => h1 (Option.some.inj e))).trans (hWh k h2)
  have hD : IsMap D := World.ownsMap.isMap h.map
  refine ⟨⟨h.raw.go (hlk b h.fb h.mb.symm hgb), h.room, ?_, hm, h.num.fill hD hi hf h0, ?_, h.lim, h.cnt, fun t ht => ?_, h.apf, h.apt, h.fb, h.fm, h.fv, h.ff, h.ft, fun k hk => by rw [hs]; exact h.flt k hk⟩, ?_⟩
  · exact row_other hWt fun k hk => hgr.block k (by show k < W'.heap.size; rw [hWs]; exact h.flt k (h.fv k hk)) (fun e => h.vm (by rw [hk, e]))
  · exact row_other h.free fun k hk => hlk k (h.ff k hk) (fun e => h.fm' (by rw [← e]; exact hk)) (fun e => h.vf hg (by rw [hk, e]))
  · exact row_other (h.fresh t ht) fun k hk => hlk k (h.ft t ht k hk) (fun e => h.tm ht (by rw [← e]; exact hk)) (fun e => h.vt ht hg (by rw [hk, e]))
  · exact hWa.drew.trans (Apart.grown (F := F) hgr fun k hk => by cases hk; exact h.fm) fun k hk => Or.inl hk
end Go.Proofs.YtofbcngcblleaaaGreat.A

namespace Go.Proofs.YtofbcngcblleaaaGreat.A
open Go.RowKit Go.Maps Go.ChangeMaps Go.WideElems

set_option maxRecDepth 20000 in
set_option maxHeartbeats 1000000 in
theorem lay_free (b n m i : Nat) (F : Nat → Prop) (A : Ar) (r : Raw) (D : DataW Unit) (x : Th) (w : World) (h : ArRaw w b F n A r D) (hm : A.free.length = m + 1) (hb : m < 900000) (hH : Heap A.free (m + 1)) (hx : x.key.Fit) (h0 : spotF A.ths x.key = none) (hi : A.free[0]! = (i : Int) + 2) (hit : A.ths[i]? = some noTh) (hn : n < 1000000000) (hlen : A.ths.length < 1000000) :
    Calls Tryz.prog 94 #[.pointer (some ⟨b, 0, none⟩), x.val] w fun e w' => e = .returned (.int .i64 ((i : Int) + 2)) ∧ (∃ (L' : List Int) (r' : Raw) (D' : DataW Unit), ArRaw w' b F (n + 1) { A with ths := A.ths.set i x, free := L' } r' D' ∧ (A.free[0]! :: L').Perm A.free ∧ L'.length = m ∧ Heap L' m) ∧ Apart F w w' := by
  have hil : i < A.ths.length := (List.getElem?_eq_some_iff.1 hit).1
  obtain ⟨g, c, hv⟩ := h.ths.shape' (by omega)
  obtain ⟨fg, fc, hfr, hfc⟩ := h.free.shape0 (by omega)
  rw [hm] at hfr hfc
  have c1 := h.raw.at 1 (by omega)
  rw [Raw.c1, hv] at c1
  have c3 := h.raw.at 3 (by omega)
  rw [Raw.c3, hfr] at c3
  have hblt := h.raw.lt
  have hbx : Below w.heap.size w (w.alloc (.cells #[.int .i64 x.k, .int .i64 x.p0, .int .i64 x.p1, .int .i64 x.p2, .int .i64 x.p3, .int .i64 x.lv, .int .i64 x.va, .int .u64 x.mask] 123)) := (Below.refl _ _).alloc (Nat.le_refl _) _
  have hX : (w.alloc (.cells #[.int .i64 x.k, .int .i64 x.p0, .int .i64 x.p1, .int .i64 x.p2, .int .i64 x.p3, .int .i64 x.lv, .int .i64 x.va, .int .u64 x.mask] 123)).heap[w.heap.size]? = some (.cells #[.int .i64 x.k, .int .i64 x.p0, .int .i64 x.p1, .int .i64 x.p2, .int .i64 x.p3, .int .i64 x.lv, .int .i64 x.va, .int .u64 x.mask] 123 (0, 0)) := heap_alloc_new w _
  have hpop := pop_any b n m fg fc F A r D _ (h.below hbx) hfr hm hfc hb hH
  rw [hi] at hpop
  have HX : Hid _ := hX
  have HBX : Hid _ := hbx
  have hta : ∀ w, (Instr.typeAssert (.iface 3 (.int .i64 ((i : Int) + 2))) 20 3 false).run Tryz.prog w = .ok (.int .i64 ((i : Int) + 2)) w := fun _ => by kernel_rfl
  have hwf : IntKind.i64.wrap (2 + (A.ths.length : Int)) = 2 + (A.ths.length : Int) := by rw [IntKind.wrap_i64]; omega
  clear hX hbx
  unfold Th.val
  go_enter Tryz.func94, Tryz.ntmps94
  go_wp2_with fail
  refine hpop.mono ?_
  rintro e w1 ⟨rfl, L', H1, hp1, hl1, hh1, P1⟩
  have hnF : ¬ F w.heap.size := fun e => by have := h.flt _ e; omega
  have hX1 : w1.heap[w.heap.size]? = some (.cells #[.int .i64 x.k, .int .i64 x.p0, .int .i64 x.p1, .int .i64 x.p2, .int .i64 x.p3, .int .i64 x.lv, .int .i64 x.va, .int .u64 x.mask] 123 (0, 0)) := (P1.block w.heap.size (by simp) hnF).trans HX.out
  obtain ⟨e0, e1, e2, e3, e4, e5, e6, e7⟩ := cells8 hX1
  have hth := H1.ths
  rw [show ({ r with vfr := .slice (some ⟨fg, 0, none⟩) m fc } : Raw).vth = .slice (some ⟨g, 0, none⟩) A.ths.length c from hv] at hth
  obtain ⟨d0, d1, d2, d3, d4, d5, d6, d7⟩ := ThRow.cells (l := A.ths) hth hit
  have z0 := World.ownsRow.frozenAt hth (i * 8)
  have z1 := World.ownsRow.frozenAt hth (i * 8 + 1)
  have z2 := World.ownsRow.frozenAt hth (i * 8 + 2)
  have z3 := World.ownsRow.frozenAt hth (i * 8 + 3)
  have z4 := World.ownsRow.frozenAt hth (i * 8 + 4)
  have z5 := World.ownsRow.frozenAt hth (i * 8 + 5)
  have z6 := World.ownsRow.frozenAt hth (i * 8 + 6)
  have z7 := World.ownsRow.frozenAt hth (i * 8 + 7)
  have q1 := H1.raw.at 1 (by omega)
  rw [Raw.c1, show ({ r with vfr := .slice (some ⟨fg, 0, none⟩) m fc } : Raw).vth = .slice (some ⟨g, 0, none⟩) A.ths.length c from hv] at q1
  have k0 : (0 : Int) ≤ (i : Int) := by omega
  have k1 : (i : Int) < (A.ths.length : Int) := by omega
  have hw4 : IntKind.i64.wrap ((i : Int) + 2 - 2) = (i : Int) := by rw [IntKind.wrap_i64]; omega
  clear hpop c1 c3 hX1 hth
  have HC : Hid (w1.heap[w.heap.size]? = some (.cells #[.int .i64 x.k, .int .i64 x.p0, .int .i64 x.p1, .int .i64 x.p2, .int .i64 x.p3, .int .i64 x.lv, .int .i64 x.va, .int .u64 x.mask] 123 (0, 0))) := (P1.block w.heap.size (by simp) hnF).trans HX.out
  go_wp2_with fail
  go_cut [] from 24 to 31 (fun wc => wc = (set8At w1 g (i * 8) x).drew)
  case first =>
    go_region
    all_goals
      go_wp2_with fail
      go_meet
      case rel => exact rfl
  case rest =>
  have hg : r.vth.ownBlock = some g := by rw [hv]; rfl
  have hFg : F g := h.fv g hg
  obtain ⟨W', hW'⟩ : ∃ W', W' = set8At w1 g (i * 8) x := ⟨_, rfl⟩
  rw [← hW'] at hcut
  have hWs' : W'.heap.size = w1.heap.size := by rw [hW', set8At_size]
  have hWh' : ∀ k, k ≠ g → W'.heap[k]? = w1.heap[k]? := fun k hk => by rw [hW']; exact set8At_heap hk
  have hWa' : Apart F w1 W' := by rw [hW']; exact set8At_apart w1 hFg
  have hWt' : ThRow W' 0 r.vth (A.ths.set i x) := by
    have h1 := H1.ths
    rw [show ({ r with vfr := .slice (some ⟨fg, 0, none⟩) m fc } : Raw).vth = .slice (some ⟨g, 0, none⟩) A.ths.length c from hv] at h1
    rw [hW', hv]
    exact ThRow.set8 (l := A.ths) h1 hil x
  clear hW'
  subst hcut
  have hWs : W'.drew.heap.size = w1.heap.size := hWs'
  have hWh : ∀ k, k ≠ g → W'.drew.heap[k]? = w1.heap[k]? := hWh'
  have hWa : Apart F w1 W'.drew := hWa'.drew
  have hWt : ThRow W'.drew 0 r.vth (A.ths.set i x) := hWt'
  clear hWs' hWh' hWa' hWt'
  generalize W'.drew = wc at *
  clear d0 d1 d2 d3 d4 d5 d6 d7 z0 z1 z2 z3 z4 z5 z6 z7 e0 e1 e2 e3 e4 e5 e6 e7 q1
  have hgm : r.mp ≠ g := fun e => h.vm (by rw [hg, e])
  have hgX : w.heap.size ≠ g := fun e => hnF (by rw [e]; exact hFg)
  have hgb : b ≠ g := fun e => h.vb (by rw [hg, e])
  obtain ⟨e0, e1, e2, e3, e4, e5, e6, e7⟩ := cells8 ((hWh _ hgX).trans HC.out)
  have R2 := H1.raw.go (hWh b hgb)
  have c2 := R2.at 2 (by omega)
  rw [Raw.c2] at c2
  simp only at c2
  have hM : wc.ownsMap Tryz.prog 120 (plainElem Tryz.prog 3) r.mp n D := map_other H1.map (hWh _ hgm)
  obtain ⟨w6, hrun, hown6, hturn⟩ := World.ownsMap.store (w := wc.drew) hM thLaw Tryz.underlying95 (show n < maxLen by unfold maxLen; omega) (key_ky hx) (plainElem_int (H := Unit) Tryz.underlying3 (show (Lit.int .i64 ((i : Int) + 2)).wf = true from wf_of_fits (by unfold Fits; omega)))
  unfold Ky.val Th.key at hrun
  simp only at hrun
  have HE := ArRaw.relay H1 (g := g) (c := c) (i := i) (x := x) hv hit hx h0 hown6 hWs hWh hWt hWa hturn
  have HFIN : Hid ((∃ (L' : List Int) (r' : Raw) (D' : DataW Unit), ArRaw w6 b F (n + 1) { A with ths := A.ths.set i x, free := L' } r' D' ∧ (A.free[0]! :: L').Perm A.free ∧ L'.length = m ∧ Heap L' m) ∧ Apart F w w6) := ⟨⟨L', _, _, HE.1, hp1, hl1, hh1⟩, ((Apart.of (F := F) HBX.out).trans P1 fun k hk => Or.inl hk).trans HE.2 fun k hk => Or.inl hk⟩
  clear HE hown6 hturn hM R2 hWs hWh hWt hWa H1 P1 hp1 hl1 hh1
  go_wp2_with fail
  go_region
  all_goals
    go_wp2_with fail
    go_ret
    exact ⟨rfl, HFIN.out⟩
end Go.Proofs.YtofbcngcblleaaaGreat.A

namespace Go.Proofs.YtofbcngcblleaaaGreat.A
open Go.RowKit Go.Maps

/-- the numbers of those that are such -/
def selFrom (p : Th → Bool) : Nat → List Th → List Int
  | _, [] => []
  | o, x :: r => if p x then ((o : Int) + 2) :: selFrom p (o + 1) r else selFrom p (o + 1) r
theorem sel_append (p : Th → Bool) : ∀ (o : Nat) (l m : List Th), selFrom p o (l ++ m) = selFrom p o l ++ selFrom p (o + l.length) m
  | o, [], m => by simp [selFrom]
  | o, x :: r, m => by
    have ih := sel_append p (o + 1) r m
    have e : o + 1 + r.length = o + (x :: r).length := by simp; omega
    rw [e] at ih
    simp only [List.cons_append, selFrom]
    split
    · rw [ih]; rfl
    · exact ih
theorem sel_length (p : Th → Bool) : ∀ (o : Nat) (l : List Th), (selFrom p o l).length = l.countP p
  | o, [] => rfl
  | o, x :: r => by
    have ih := sel_length p (o + 1) r
    simp only [selFrom]
    by_cases h : p x = true
    · rw [if_pos h, List.length_cons, ih, List.countP_cons_of_pos h]
    · rw [if_neg h, ih, List.countP_cons_of_neg h]
theorem mem_sel {p : Th → Bool} {id : Int} : ∀ {o : Nat} {l : List Th}, id ∈ selFrom p o l ↔ ∃ (j : Nat) (x : Th), l[j]? = some x ∧ p x = true ∧ id = ((o + j : Nat) : Int) + 2
  | o, [] => by simp [selFrom]
  | o, x :: r => by
    have ih := mem_sel (p := p) (id := id) (o := o + 1) (l := r)
    have key : (∃ (j : Nat) (y : Th), (x :: r)[j]? = some y ∧ p y = true ∧ id = ((o + j : Nat) : Int) + 2) ↔ (p x = true ∧ id = (o : Int) + 2) ∨ id ∈ selFrom p (o + 1) r := by
      rw [ih]
      constructor
      · rintro ⟨j, y, h1, h2, h3⟩
        cases j with
        | zero => simp at h1; subst h1; exact .inl ⟨h2, by simpa using h3⟩
        | succ j => exact .inr ⟨j, y, by simpa using h1, h2, by rw [h3]; congr 2; omega⟩
      · rintro (⟨h1, h2⟩ | ⟨j, y, h1, h2, h3⟩)
        · exact ⟨0, x, rfl, h1, by simpa using h2⟩
        · exact ⟨j + 1, y, by simpa using h1, h2, by rw [h3]; congr 2; omega⟩
    rw [key]
    simp only [selFrom]
    by_cases h : p x = true
    · rw [if_pos h, List.mem_cons]; simp [h]
    · rw [if_neg h]; simp [h]
theorem sel_first {p : Th → Bool} {x : Th} (hx : p x = false) : ∀ {o : Nat} {l : List Th} {i : Nat}, l.findIdx? p = some i → selFrom p o l = (((o + i : Nat) : Int) + 2) :: selFrom p o (l.set i x)
  | o, [], i, h => by simp at h
  | o, y :: r, i, h => by
    rw [List.findIdx?_cons] at h
    by_cases hy : p y = true
    · rw [if_pos hy] at h
      obtain rfl := Option.some.inj h
      simp [selFrom, hy, hx]
    · rw [if_neg hy] at h
      cases hr : r.findIdx? p with
      | none => rw [hr] at h; simp at h
      | some k =>
        rw [hr] at h
        obtain rfl := Option.some.inj h
        have ih := sel_first (p := p) hx (o := o + 1) hr
        simp only [List.set_cons_succ, selFrom, if_neg hy]
        rw [ih]
        congr 3
        omega
theorem sel_none {p : Th → Bool} {o : Nat} {l : List Th} (h : l.findIdx? p = none) : selFrom p o l = [] := by
  cases hs : selFrom p o l with
  | nil => rfl
  | cons a r =>
    have : a ∈ selFrom p o l := by rw [hs]; simp
    obtain ⟨j, x, h1, h2, _⟩ := mem_sel.1 this
    rw [List.findIdx?_eq_none_iff] at h
    rw [h x (List.mem_of_getElem? h1)] at h2
    cases h2
theorem sel_map {p p' q : Th → Bool} {f : Th → Th} (h : ∀ x, p' (f x) = (p x || q x)) (hd : ∀ x, p x = true → q x = false) : ∀ (o : Nat) (l : List Th), (selFrom p' o (l.map f)).Perm (selFrom p o l ++ selFrom q o l)
  | o, [] => by simp [selFrom]
  | o, x :: r => by
    have ih := sel_map h hd (o + 1) r
    have hx := h x
    have hdx := hd x
    simp only [List.map_cons, selFrom]
    cases hp : p x with
    | true =>
      rw [hp, hdx hp] at hx
      rw [hx, hdx hp]
      exact List.Perm.cons _ ih
    | false =>
      cases hq : q x with
      | true =>
        rw [hp, hq] at hx
        rw [hx]
        exact (List.Perm.cons _ ih).trans List.perm_middle.symm
      | false =>
        rw [hp, hq] at hx
        rw [hx]
        exact ih
theorem sel_congr {p : Th → Bool} : ∀ (o : Nat) (l m : List Th), l.length = m.length → (∀ (j : Nat) x y, l[j]? = some x → m[j]? = some y → p x = p y) → selFrom p o l = selFrom p o m
  | o, [], [], _, _ => rfl
  | o, [], y :: m, h, _ => by simp at h
  | o, x :: l, [], h, _ => by simp at h
  | o, x :: l, y :: m, h, hp => by
    have ih := sel_congr (p := p) (o + 1) l m (by simpa using h) fun j a b ha hb => hp (j + 1) a b (by simpa using ha) (by simpa using hb)
    have e := hp 0 x y rfl rfl
    simp only [selFrom, e, ih]
theorem fr_sel (l : List Th) : ∀ i, i ≤ l.length → fr l i = selFrom gone 0 (l.take i)
  | 0, _ => rfl
  | i + 1, h => by
    have ih := fr_sel l i (by omega)
    have hx : l[i]? = some (l[i]'(by omega)) := List.getElem?_eq_getElem _
    rw [List.take_add_one, hx, sel_append, ← ih]
    simp only [Option.toList_some, selFrom, List.length_take, Nat.zero_add]
    cases hg : gone (l[i]'(by omega)) with
    | true => rw [fr_gone hx hg, Nat.min_eq_left (by omega)]; rfl
    | false => rw [fr_keep hx hg]; simp
theorem fr_all (l : List Th) : fr l l.length = selFrom gone 0 l := by rw [fr_sel l l.length (Nat.le_refl _), List.take_length]
def clrT (x : Th) : Th := if gone x then noTh else x
/-- all that is nobody's is no more -/
def swL (l : List Th) : List Th := l.map clrT
theorem sw_all (l : List Th) : sw l l.length = swL l := by
  unfold sw swL clrT
  rw [List.take_length, List.drop_length, List.append_nil]
def isNo (x : Th) : Bool := x.k == 0
def freeIds (l : List Th) : List Int := selFrom isNo 0 l
theorem free_swept (l : List Th) : (freeIds (swL l)).Perm (freeIds l ++ fr l l.length) := by
  rw [fr_all]
  refine sel_map (fun x => ?_) (fun x h => ?_) 0 l
  · unfold isNo clrT gone
    by_cases h1 : x.k = 0
    · simp [h1]
    · by_cases h2 : x.mask = 0
      · simp [h1, h2, noTh]
      · simp [h1, h2]
  · unfold isNo at h
    unfold gone
    simp at h
    simp [h]
theorem free_live (l : List Th) : (freeIds l).length + liveN l = l.length := by
  unfold freeIds liveN
  rw [sel_length]
  induction l with
  | nil => rfl
  | cons x r ih =>
    by_cases h : x.k = 0
    · rw [List.countP_cons_of_pos (by simp [isNo, h]), List.countP_cons_of_neg (by simp [h]), List.length_cons]; omega
    · rw [List.countP_cons_of_neg (by simp [isNo, h]), List.countP_cons_of_pos (by simp [h]), List.length_cons]; omega
theorem live_swept (l : List Th) : liveN (swL l) + (fr l l.length).length = liveN l := by
  have h1 := free_live (swL l)
  have h2 := free_live l
  have h3 := (free_swept l).length_eq
  rw [List.length_append] at h3
  have h4 : (swL l).length = l.length := by simp [swL]
  omega
theorem live_append (l : List Th) (x : Th) (hx : x.k ≠ 0) : liveN (l ++ [x]) = liveN l + 1 := by
  unfold liveN
  rw [List.countP_append, List.countP_cons_of_pos (by simpa using hx)]
  rfl
theorem live_set {l : List Th} {i : Nat} {x y : Th} (h : l[i]? = some x) (e : x.k = y.k) : liveN (l.set i y) = liveN l := by
  have hi := (List.getElem?_eq_some_iff.1 h).1
  have hx := (List.getElem?_eq_some_iff.1 h).2
  have a := free_live (l.set i y)
  have b := free_live l
  have c : freeIds (l.set i y) = freeIds l := sel_congr 0 _ _ (by simp) fun j u v hu hv => by
    rw [List.getElem?_set] at hu
    by_cases ej : i = j
    · subst ej
      rw [if_pos rfl, if_pos hi] at hu
      rw [h] at hv
      obtain rfl := Option.some.inj hu
      obtain rfl := Option.some.inj hv
      simp [isNo, e]
    · rw [if_neg ej] at hu
      rw [hu] at hv
      obtain rfl := Option.some.inj hv
      rfl
  rw [c, List.length_set] at a
  omega
theorem free_set {l : List Th} {i : Nat} {x y : Th} (h : l[i]? = some x) (e : x.k = y.k) : freeIds (l.set i y) = freeIds l := by
  have hi := (List.getElem?_eq_some_iff.1 h).1
  refine sel_congr 0 _ _ (by simp) fun j u v hu hv => ?_
  rw [List.getElem?_set] at hu
  by_cases ej : i = j
  · subst ej
    rw [if_pos rfl, if_pos hi] at hu
    rw [h] at hv
    obtain rfl := Option.some.inj hu
    obtain rfl := Option.some.inj hv
    simp [isNo, e]
  · rw [if_neg ej] at hu
    rw [hu] at hv
    obtain rfl := Option.some.inj hv
    rfl

/-- what every arena keeps, whatever is done to it -/
structure Sound (A : Ar) : Prop where
  free : A.free = []
  room0 : 0 ≤ A.room
  room1 : A.room ≤ 200000
  len : (A.ths.length : Int) ≤ A.room
  mask : ∀ x ∈ A.ths, x.mask < 18446744073709551616
  zero : ∀ x ∈ A.ths, x.k = 0 → x = noTh
  fit : ∀ x ∈ A.ths, x.key.Fit
  lv : ∀ x ∈ A.ths, 0 ≤ x.lv ∧ x.lv ≤ 44
  va : ∀ x ∈ A.ths, Fits x.va
  uniq : Uniq A.ths
  lim : ∀ t, t < 64 → 0 ≤ A.lim t ∧ A.lim t ≤ A.room
  cnt : ∀ t, t < 64 → A.cnt t = (ownN A.ths t : Int)
  fresh : ∀ t, t < 64 → (A.fresh t).Nodup ∧ ∀ id ∈ A.fresh t, 2 ≤ id ∧ ∃ x, A.ths[(id - 2).toNat]? = some x ∧ x.mask.testBit t = true
/-- an arena in block b; F: the blocks that it owns -/
def AtP (w : World) (b : Nat) (F : Nat → Prop) (A : Ar) : Prop :=
  ∃ (L : List Int) (r : Raw) (D : DataW Unit), ArRaw w b F (liveN A.ths) { A with free := L } r D ∧ L.Perm (freeIds A.ths) ∧ Heap L L.length
/-- a call has led from one arena to another -/
def Led (w : World) (b : Nat) (F : Nat → Prop) (A : Ar) (w' : World) : Prop := ∃ F', (∀ k, F' k → F k ∨ w.heap.size ≤ k) ∧ AtP w' b F' A ∧ Apart F w w'
theorem AtP.other {w w' : World} {b : Nat} {F : Nat → Prop} {A : Ar} (h : AtP w b F A) (hs : w.heap.size ≤ w'.heap.size) (hb : ∀ k, F k → w'.heap[k]? = w.heap[k]?) : AtP w' b F A :=
  let ⟨L, r, D, h1, h2⟩ := h
  ⟨L, r, D, h1.other hs hb, h2⟩
theorem AtP.flt {w : World} {b : Nat} {F : Nat → Prop} {A : Ar} (h : AtP w b F A) : ∀ k, F k → k < w.heap.size := let ⟨_, _, _, h1, _⟩ := h; h1.flt
theorem AtP.below {w w' : World} {b : Nat} {F : Nat → Prop} {A : Ar} (h : AtP w b F A) (hb : Below w.heap.size w w') : AtP w' b F A := h.other hb.size fun k hk => hb.block k (h.flt k hk)
theorem AtP.led {w : World} {b : Nat} {F : Nat → Prop} {A : Ar} (h : AtP w b F A) : Led w b F A w := ⟨F, fun _ h => .inl h, h, Apart.refl _ _⟩
theorem AtP.ledB {w w' : World} {b : Nat} {F : Nat → Prop} {A : Ar} (h : AtP w b F A) (hb : Below w.heap.size w w') : Led w b F A w' := ⟨F, fun _ h => .inl h, h.below hb, Apart.of hb⟩
end Go.Proofs.YtofbcngcblleaaaGreat.A

namespace Go.Proofs.YtofbcngcblleaaaGreat.A
open Go.RowKit Go.Maps

def Ar.swept (A : Ar) : Ar := { A with ths := swL A.ths }
/-- a thing gets the least number that is free -/
def Ar.laid (A : Ar) (x : Th) : Ar × Nat := match A.ths.findIdx? isNo with
  | some i => ({ A with ths := A.ths.set i x }, i)
  | none => ({ A with ths := A.ths ++ [x] }, A.ths.length)
/-- the arena in which there may be room -/
def Ar.made (A : Ar) : Ar := if A.room ≤ (liveN A.ths : Int) then A.swept else A
/-- a thing becomes a tenant's own -/
def Ar.beco (A : Ar) (t : Nat) (x : Th) : Ar × Int × Int :=
  match spotF A.ths x.key with
  | some i => if (A.ths[i]!).mask.testBit t = true then (A, (i : Int) + 2, 0) else if A.lim t ≤ A.cnt t then (A, 0, 9) else (A.give t i (A.ths[i]!), (i : Int) + 2, 0)
  | none => if A.lim t ≤ A.cnt t then (A, 0, 9) else
    if A.made.room ≤ (liveN A.made.ths : Int) then (A.made, 0, 5) else ((A.made.laid x).1.give t (A.made.laid x).2 x, ((A.made.laid x).2 : Int) + 2, 0)

theorem clrT_keep {x : Th} (h : gone x = false) : clrT x = x := by unfold clrT; rw [h]; rfl
theorem clrT_gone {x : Th} (h : gone x = true) : clrT x = noTh := by unfold clrT; rw [h]; rfl
theorem own_not_gone {x : Th} {t : Nat} (h : x.mask.testBit t = true) : gone x = false := by
  unfold gone
  cases e : (x.mask == 0) with
  | false => simp
  | true =>
    have : x.mask = 0 := by simpa using e
    rw [this] at h
    simp at h
theorem swL_get (l : List Th) (j : Nat) : (swL l)[j]? = (l[j]?).map clrT := by unfold swL; rw [List.getElem?_map]
theorem ownN_swept (l : List Th) (t : Nat) : ownN (swL l) t = ownN l t := by
  unfold ownN swL
  rw [List.countP_map]
  refine List.countP_congr fun x _ => ?_
  simp only [Function.comp_apply]
  cases hg : gone x with
  | false => rw [clrT_keep hg]
  | true =>
    rw [clrT_gone hg]
    constructor
    · intro h; simp [noTh] at h
    · intro h; rw [own_not_gone h] at hg; cases hg
theorem fits_zero : Fits 0 := ⟨by decide, by decide⟩
theorem noTh_fit : noTh.key.Fit := ⟨fits_zero, fits_zero, fits_zero, fits_zero, fits_zero⟩
theorem swept_sound {A : Ar} (h : Sound A) : Sound A.swept where
  free := h.free
  room0 := h.room0
  room1 := h.room1
  len := by show ((swL A.ths).length : Int) ≤ _; simp [swL]; exact h.len
  mask := fun x hx => by
    obtain ⟨y, hy, rfl⟩ := List.mem_map.1 hx
    cases hg : gone y with
    | false => rw [clrT_keep hg]; exact h.mask y hy
    | true => rw [clrT_gone hg]; decide
  zero := fun x hx hk => by
    obtain ⟨y, hy, rfl⟩ := List.mem_map.1 hx
    cases hg : gone y with
    | false => rw [clrT_keep hg] at hk ⊢; exact h.zero y hy hk
    | true => rw [clrT_gone hg]
  fit := fun x hx => by
    obtain ⟨y, hy, rfl⟩ := List.mem_map.1 hx
    cases hg : gone y with
    | false => rw [clrT_keep hg]; exact h.fit y hy
    | true => rw [clrT_gone hg]; exact noTh_fit
  lv := fun x hx => by
    obtain ⟨y, hy, rfl⟩ := List.mem_map.1 hx
    cases hg : gone y with
    | false => rw [clrT_keep hg]; exact h.lv y hy
    | true => rw [clrT_gone hg]; decide
  va := fun x hx => by
    obtain ⟨y, hy, rfl⟩ := List.mem_map.1 hx
    cases hg : gone y with
    | false => rw [clrT_keep hg]; exact h.va y hy
    | true => rw [clrT_gone hg]; exact fits_zero
  uniq := by
    have := sw_uniq h.uniq A.ths.length
    rw [sw_all] at this
    exact this
  lim := h.lim
  cnt := fun t ht => by rw [show ownN A.swept.ths t = ownN A.ths t from ownN_swept _ _]; exact h.cnt t ht
  fresh := fun t ht => by
    refine ⟨(h.fresh t ht).1, fun id hid => ?_⟩
    obtain ⟨h1, x, h2, h3⟩ := (h.fresh t ht).2 id hid
    refine ⟨h1, x, ?_, h3⟩
    show (swL A.ths)[_]? = _
    rw [swL_get, h2, Option.map_some, clrT_keep (own_not_gone h3)]
theorem made_sound {A : Ar} (h : Sound A) : Sound A.made := by
  unfold Ar.made
  split
  · exact swept_sound h
  · exact h
theorem made_rest (A : Ar) : A.made.room = A.room ∧ A.made.lim = A.lim ∧ A.made.cnt = A.cnt ∧ A.made.fresh = A.fresh := by
  unfold Ar.made
  split <;> exact ⟨rfl, rfl, rfl, rfl⟩
theorem spot_swept {l : List Th} {q : Ky} (hq : q.k ≠ 0) (h : spotF l q = none) : spotF (swL l) q = none := by
  unfold spotF
  rw [List.findIdx?_eq_none_iff]
  intro y hy
  obtain ⟨x, hx, rfl⟩ := List.mem_map.1 hy
  simp only [decide_eq_false_iff_not]
  cases hg : gone x with
  | false => rw [clrT_keep hg]; exact spot_none h x hx
  | true =>
    rw [clrT_gone hg]
    exact fun e => hq (by rw [← e]; rfl)
theorem made_spot {A : Ar} {q : Ky} (hq : q.k ≠ 0) (h : spotF A.ths q = none) : spotF A.made.ths q = none := by
  unfold Ar.made
  split
  · exact spot_swept hq h
  · exact h
theorem full_of_none {l : List Th} (h : l.findIdx? isNo = none) : liveN l = l.length := by
  have := free_live l
  unfold freeIds at this
  rw [sel_none h] at this
  simpa using this
theorem first_free {l : List Th} {i : Nat} (h : l.findIdx? isNo = some i) : ∃ x, l[i]? = some x ∧ x.k = 0 := by
  rw [List.findIdx?_eq_some_iff_getElem] at h
  obtain ⟨hi, hp, _⟩ := h
  exact ⟨_, List.getElem?_eq_getElem hi, by simpa [isNo] using hp⟩
theorem laid_at (A : Ar) (x : Th) : (A.laid x).1.ths[(A.laid x).2]? = some x := by
  unfold Ar.laid
  cases h : A.ths.findIdx? isNo with
  | none => simp
  | some i =>
    obtain ⟨y, hy, _⟩ := first_free h
    have := (List.getElem?_eq_some_iff.1 hy).1
    simp [this]
/-- every other number is as it was -/
theorem laid_other (A : Ar) (x : Th) (j : Nat) (y : Th) (h : A.ths[j]? = some y) (hk : y.k ≠ 0) : (A.laid x).1.ths[j]? = some y ∧ j ≠ (A.laid x).2 := by
  unfold Ar.laid
  have hj := (List.getElem?_eq_some_iff.1 h).1
  cases e : A.ths.findIdx? isNo with
  | none =>
    simp only
    rw [List.getElem?_append_left hj]
    exact ⟨h, by omega⟩
  | some i =>
    obtain ⟨z, hz, hz0⟩ := first_free e
    simp only
    have : i ≠ j := fun e' => by
      subst e'
      rw [h] at hz
      obtain rfl := Option.some.inj hz
      exact hk hz0
    rw [List.getElem?_set, if_neg this]
    exact ⟨h, fun e' => this e'.symm⟩
/-- and what is there is that, or was there -/
theorem laid_back (A : Ar) (x : Th) (j : Nat) (y : Th) (h : (A.laid x).1.ths[j]? = some y) : (j = (A.laid x).2 ∧ y = x) ∨ (j ≠ (A.laid x).2 ∧ A.ths[j]? = some y) := by
  by_cases e : j = (A.laid x).2
  · subst e
    rw [laid_at] at h
    exact .inl ⟨rfl, (Option.some.inj h).symm⟩
  · refine .inr ⟨e, ?_⟩
    unfold Ar.laid at h e
    cases f : A.ths.findIdx? isNo with
    | none =>
      rw [f] at h e
      simp only at h e
      rw [List.getElem?_append] at h
      split at h
      · exact h
      · have : (j - A.ths.length) ≠ 0 := by omega
        obtain ⟨k, hk⟩ : ∃ k, j - A.ths.length = k + 1 := ⟨j - A.ths.length - 1, by omega⟩
        rw [hk] at h
        simp at h
    | some i =>
      rw [f] at h e
      simp only at h e
      rw [List.getElem?_set, if_neg (fun e' => e e'.symm)] at h
      exact h
theorem laid_rest (A : Ar) (x : Th) : (A.laid x).1.room = A.room ∧ (A.laid x).1.lim = A.lim ∧ (A.laid x).1.cnt = A.cnt ∧ (A.laid x).1.fresh = A.fresh ∧ (A.laid x).1.free = A.free := by
  unfold Ar.laid
  split <;> exact ⟨rfl, rfl, rfl, rfl, rfl⟩
theorem laid_len (A : Ar) (x : Th) : (A.laid x).1.ths.length ≤ A.ths.length + 1 ∧ A.ths.length ≤ (A.laid x).1.ths.length ∧ ((A.laid x).1.ths.length = A.ths.length ∨ liveN A.ths = A.ths.length) := by
  unfold Ar.laid
  cases f : A.ths.findIdx? isNo with
  | none => simp; exact full_of_none f
  | some i => simp
theorem set_count {l : List Th} {i : Nat} {x y : Th} (p : Th → Bool) (h : l[i]? = some x) : (l.set i y).countP p + (if p x then 1 else 0) = l.countP p + (if p y then 1 else 0) := by
  induction l generalizing i with
  | nil => simp at h
  | cons z r ih =>
    cases i with
    | zero =>
      simp at h; subst h
      rw [List.set_cons_zero, List.countP_cons, List.countP_cons]
      omega
    | succ i =>
      have := ih (i := i) (by simpa using h)
      rw [List.set_cons_succ, List.countP_cons, List.countP_cons]
      omega
theorem ownN_laid {A : Ar} {x : Th} (h : Sound A) (hx : x.mask = 0) (t : Nat) : ownN (A.laid x).1.ths t = ownN A.ths t := by
  unfold Ar.laid
  cases f : A.ths.findIdx? isNo with
  | none =>
    simp only
    unfold ownN
    rw [List.countP_append, List.countP_cons_of_neg (by rw [hx]; simp)]
    rfl
  | some i =>
    obtain ⟨y, hy, hk⟩ := first_free f
    have e := set_count (y := x) (fun z => z.mask.testBit t) hy
    have hy0 := h.zero y (List.mem_of_getElem? hy) hk
    simp only at e ⊢
    rw [hx, hy0] at e
    simp [noTh] at e
    exact e
theorem laid_sound {A : Ar} {x : Th} (h : Sound A) (hlv : 0 ≤ x.lv ∧ x.lv ≤ 44) (hva : Fits x.va) (hx : x.mask = 0) (hk : x.k ≠ 0) (hf : x.key.Fit) (hs : spotF A.ths x.key = none) (hr : (liveN A.ths : Int) < A.room) : Sound (A.laid x).1 := by
  obtain ⟨r1, r2, r3, r4, r5⟩ := laid_rest A x
  obtain ⟨l1, _, l3⟩ := laid_len A x
  have back : ∀ y ∈ (A.laid x).1.ths, y = x ∨ y ∈ A.ths := fun y hy => by
    obtain ⟨j, hj⟩ := List.getElem?_of_mem hy
    rcases laid_back A x j y hj with ⟨_, e⟩ | ⟨_, e⟩
    · exact .inl e
    · exact .inr (List.mem_of_getElem? e)
  exact {
    free := r5.trans h.free
    room0 := by rw [r1]; exact h.room0
    room1 := by rw [r1]; exact h.room1
    len := by
      rw [r1]
      have := h.len
      rcases l3 with e | e
      · omega
      · omega
    mask := fun y hy => by
      rcases back y hy with rfl | e
      · rw [hx]; decide
      · exact h.mask y e
    zero := fun y hy h0 => by
      rcases back y hy with rfl | e
      · exact absurd h0 hk
      · exact h.zero y e h0
    fit := fun y hy => by
      rcases back y hy with rfl | e
      · exact hf
      · exact h.fit y e
    lv := fun y hy => by
      rcases back y hy with rfl | e
      · exact hlv
      · exact h.lv y e
    va := fun y hy => by
      rcases back y hy with rfl | e
      · exact hva
      · exact h.va y e
    uniq := fun i j y z hy hz h0 he => by
      rcases laid_back A x i y hy with ⟨e1, e2⟩ | ⟨e1, e2⟩
      · rcases laid_back A x j z hz with ⟨f1, f2⟩ | ⟨f1, f2⟩
        · rw [e1, f1]
        · subst e2
          exact absurd he.symm (spot_none hs z (List.mem_of_getElem? f2))
      · rcases laid_back A x j z hz with ⟨f1, f2⟩ | ⟨f1, f2⟩
        · subst f2
          exact absurd he (spot_none hs y (List.mem_of_getElem? e2))
        · exact h.uniq i j y z e2 f2 h0 he
    lim := fun t ht => by rw [r1, r2]; exact h.lim t ht
    cnt := fun t ht => by rw [r3, ownN_laid h hx]; exact h.cnt t ht
    fresh := fun t ht => by
      rw [r4]
      refine ⟨(h.fresh t ht).1, fun id hid => ?_⟩
      obtain ⟨h1, y, h2, h3⟩ := (h.fresh t ht).2 id hid
      refine ⟨h1, y, (laid_other A x _ y h2 fun e => ?_).1, h3⟩
      rw [h.zero y (List.mem_of_getElem? h2) e] at h3
      simp [noTh] at h3 }
theorem give_sound {A : Ar} {t i : Nat} {x : Th} (h : Sound A) (ht : t < 64) (hx : A.ths[i]? = some x) (hk : x.k ≠ 0) (hb : x.mask.testBit t = false) : Sound (A.give t i x) := by
  have hi := (List.getElem?_eq_some_iff.1 hx).1
  have hxm := List.mem_of_getElem? hx
  have hget : ∀ j y, (A.give t i x).ths[j]? = some y → (j = i ∧ y = { x with mask := x.mask ||| bitN t }) ∨ (j ≠ i ∧ A.ths[j]? = some y) := fun j y hy => by
    have hy : (A.ths.set i { x with mask := x.mask ||| bitN t })[j]? = some y := hy
    rw [List.getElem?_set] at hy
    by_cases e : i = j
    · subst e
      rw [if_pos rfl, if_pos hi] at hy
      exact .inl ⟨rfl, (Option.some.inj hy).symm⟩
    · rw [if_neg e] at hy
      exact .inr ⟨fun e' => e e'.symm, hy⟩
  have back : ∀ y ∈ (A.give t i x).ths, y = { x with mask := x.mask ||| bitN t } ∨ y ∈ A.ths := fun y hy => by
    obtain ⟨j, hj⟩ := List.getElem?_of_mem hy
    rcases hget j y hj with ⟨_, e⟩ | ⟨_, e⟩
    · exact .inl e
    · exact .inr (List.mem_of_getElem? e)
  exact {
    free := h.free
    room0 := h.room0
    room1 := h.room1
    len := by show ((A.ths.set i _).length : Int) ≤ _; rw [List.length_set]; exact h.len
    mask := fun y hy => by
      rcases back y hy with rfl | e
      · exact Nat.or_lt_two_pow (n := 64) (h.mask x hxm) (bitN_lt t ht)
      · exact h.mask y e
    zero := fun y hy h0 => by
      rcases back y hy with rfl | e
      · exact absurd h0 hk
      · exact h.zero y e h0
    fit := fun y hy => by
      rcases back y hy with rfl | e
      · exact h.fit x hxm
      · exact h.fit y e
    lv := fun y hy => by
      rcases back y hy with rfl | e
      · exact h.lv x hxm
      · exact h.lv y e
    va := fun y hy => by
      rcases back y hy with rfl | e
      · exact h.va x hxm
      · exact h.va y e
    uniq := fun a c y z hy hz h0 he => by
      rcases hget a y hy with ⟨e1, e2⟩ | ⟨e1, e2⟩
      · rcases hget c z hz with ⟨f1, f2⟩ | ⟨f1, f2⟩
        · rw [e1, f1]
        · subst e2
          rw [e1]
          exact h.uniq i c x z hx f2 h0 he
      · rcases hget c z hz with ⟨f1, f2⟩ | ⟨f1, f2⟩
        · subst f2
          rw [f1]
          exact h.uniq a i y x e2 hx h0 he
        · exact h.uniq a c y z e2 f2 h0 he
    lim := h.lim
    cnt := fun u hu => by
      have e := set_count (y := { x with mask := x.mask ||| bitN t }) (fun z => z.mask.testBit u) hx
      have hc := h.cnt u hu
      show upd A.cnt t (A.cnt t + 1) u = ((A.ths.set i { x with mask := x.mask ||| bitN t }).countP fun z => z.mask.testBit u : Nat)
      unfold ownN at hc
      generalize (A.ths.set i { x with mask := x.mask ||| bitN t }).countP (fun z => z.mask.testBit u) = N at *
      simp only [Nat.testBit_or] at e
      unfold upd
      by_cases eu : u = t
      · subst eu
        rw [if_pos rfl, hc]
        rw [hb, bitN, Nat.testBit_two_pow_self] at e
        simp at e
        rw [e]
        simp
      · rw [if_neg eu, hc]
        rw [bitN, Nat.testBit_two_pow_of_ne (fun e' => eu e'.symm), Bool.or_false] at e
        omega
    fresh := fun u hu => by
      have keep : ∀ id ∈ A.fresh u, 2 ≤ id ∧ ∃ y, (A.give t i x).ths[(id - 2).toNat]? = some y ∧ y.mask.testBit u = true := fun id hid => by
        obtain ⟨h1, y, h2, h3⟩ := (h.fresh u hu).2 id hid
        refine ⟨h1, ?_⟩
        show ∃ y, (A.ths.set i { x with mask := x.mask ||| bitN t })[(id - 2).toNat]? = some y ∧ _
        rw [List.getElem?_set]
        by_cases e : i = (id - 2).toNat
        · rw [if_pos e, if_pos hi]
          rw [← e, hx] at h2
          obtain rfl := Option.some.inj h2
          exact ⟨_, rfl, by simp [Nat.testBit_or, h3]⟩
        · rw [if_neg e]
          exact ⟨y, h2, h3⟩
      show (upd A.fresh t (A.fresh t ++ [(i : Int) + 2]) u).Nodup ∧ ∀ id ∈ upd A.fresh t (A.fresh t ++ [(i : Int) + 2]) u, _
      unfold upd
      by_cases eu : u = t
      · subst eu
        rw [if_pos rfl]
        refine ⟨?_, fun id hid => ?_⟩
        · rw [List.nodup_append]
          refine ⟨(h.fresh u hu).1, by simp, ?_⟩
          intro a ha c hc e
          simp at hc
          subst e hc
          obtain ⟨_, y, h2, h3⟩ := (h.fresh u hu).2 _ ha
          rw [show (((i : Int) + 2 - 2).toNat) = i by omega, hx] at h2
          obtain rfl := Option.some.inj h2
          rw [hb] at h3; cases h3
        · rcases List.mem_append.1 hid with e | e
          · exact keep id e
          · simp at e
            subst e
            refine ⟨by omega, { x with mask := x.mask ||| bitN u }, ?_, by simp [Nat.testBit_or, bitN]⟩
            show (A.ths.set i _)[_]? = _
            rw [show (((i : Int) + 2 - 2).toNat) = i by omega, List.getElem?_set, if_pos rfl, if_pos hi]
      · rw [if_neg eu]
        exact ⟨(h.fresh u hu).1, keep⟩ }
theorem spot_at {l : List Th} {q : Ky} {i : Nat} (h : spotF l q = some i) : ∃ x, l[i]? = some x ∧ x.key = q ∧ l[i]! = x := by
  unfold spotF at h
  rw [List.findIdx?_eq_some_iff_getElem] at h
  obtain ⟨hi, hp, _⟩ := h
  exact ⟨_, List.getElem?_eq_getElem hi, of_decide_eq_true hp, by rw [getElem!_pos l i hi]⟩
/-- a thing that becomes a tenant's own leaves all else well -/
theorem beco_sound {A : Ar} {t : Nat} {x : Th} (h : Sound A) (ht : t < 64) (hlv : 0 ≤ x.lv ∧ x.lv ≤ 44) (hva : Fits x.va) (hx : x.mask = 0) (hk : x.k ≠ 0) (hf : x.key.Fit) : Sound (A.beco t x).1 := by
  unfold Ar.beco
  cases hs : spotF A.ths x.key with
  | some i =>
    simp only
    obtain ⟨y, h1, h2, h3⟩ := spot_at hs
    split
    · exact h
    · rename_i hb
      split
      · exact h
      · rw [h3] at hb ⊢
        exact give_sound h ht h1 (by rw [key_k h2]; exact hk) (by simpa using hb)
  | none =>
    simp only
    split
    · exact h
    · split
      · exact made_sound h
      · rename_i hr
        have hm := made_sound h
        refine give_sound (laid_sound hm hlv hva hx hk hf (made_spot hk hs) (by omega)) ht (laid_at _ _) hk (by rw [hx]; simp)
end Go.Proofs.YtofbcngcblleaaaGreat.A

namespace Go.Proofs.YtofbcngcblleaaaGreat.A
open Go.RowKit Go.Maps

theorem heap_least {L : List Int} {l : List Th} {i : Nat} (hp : L.Perm (freeIds l)) (hH : Heap L L.length) (hi : l.findIdx? isNo = some i) : L[0]! = (i : Int) + 2 := by
  have hne : 0 < L.length := by
    rw [hp.length_eq]
    unfold freeIds
    rw [sel_first (x := ⟨1, 0, 0, 0, 0, 0, 0, 0⟩) (by decide) hi]
    simp
  have h0 : L[0]! ∈ L := by rw [getElem!_pos L 0 hne]; exact List.getElem_mem _
  obtain ⟨j, x, h1, h2, h3⟩ := mem_sel.1 (hp.mem_iff.1 h0)
  rw [Nat.zero_add] at h3
  rw [List.findIdx?_eq_some_iff_getElem] at hi
  obtain ⟨g1, g2, g3⟩ := hi
  have hij : i ≤ j := by
    refine Nat.le_of_not_lt fun hlt => ?_
    have := g3 j hlt
    rw [(List.getElem?_eq_some_iff.1 h1).2] at this
    exact this h2
  have hmem : ((i : Int) + 2) ∈ L := hp.mem_iff.2 (mem_sel.2 ⟨i, _, List.getElem?_eq_getElem g1, g2, by simp⟩)
  obtain ⟨k, hk, hk2⟩ := List.getElem_of_mem hmem
  have := heap_min hH k hk
  rw [getElem!_pos L k hk, hk2] at this
  omega
set_option maxHeartbeats 1000000 in
theorem layP_any (b : Nat) (F : Nat → Prop) (A : Ar) (x : Th) (w : World) (h : AtP w b F A) (hS : Sound A) (hx : x.key.Fit) (hk : x.k ≠ 0) (hs : spotF A.ths x.key = none) :
    Calls Tryz.prog 94 #[.pointer (some ⟨b, 0, none⟩), x.val] w fun e w' => e = .returned (.int .i64 (((A.laid x).2 : Int) + 2)) ∧ Led w b F (A.laid x).1 w' := by
  obtain ⟨L, r, D, h, hp, hH⟩ := h
  have hl := hS.len
  have hr := hS.room1
  have hlv := free_live A.ths
  have hLl := hp.length_eq
  unfold Ar.laid
  cases f : A.ths.findIdx? isNo with
  | none =>
    have e0 : freeIds A.ths = [] := sel_none f
    rw [e0] at hp
    obtain rfl := hp.eq_nil
    refine (lay_any b _ F { A with free := [] } r D x w h rfl hx hs (by omega) (by show A.ths.length < _; omega)).mono ?_
    rintro e w' ⟨rfl, ⟨r', D', h'⟩, P⟩
    refine ⟨rfl, More F w w', fun k hk' => ?_, ⟨[], r', D', ?_, ?_, hH⟩, P⟩
    · rcases hk' with e | e
      · exact .inl e
      · exact .inr e.1
    · show ArRaw w' b (More F w w') (liveN (A.ths ++ [x])) _ _ _
      rw [live_append A.ths x hk]; exact h'
    · show List.Perm [] (freeIds (A.ths ++ [x]))
      unfold freeIds
      rw [sel_append, show selFrom isNo 0 A.ths = [] from e0]
      simp [selFrom, isNo, hk]
  | some i =>
    have hno : isNo x = false := by simpa [isNo] using hk
    have e0 := sel_first (o := 0) hno f
    rw [Nat.zero_add] at e0
    have hli := heap_least hp hH f
    obtain ⟨y, hy, hy0⟩ := first_free f
    have hyn := hS.zero y (List.mem_of_getElem? hy) hy0
    subst hyn
    have hne : 0 < L.length := by rw [hLl]; show 0 < (selFrom isNo 0 A.ths).length; rw [e0]; simp
    have hm : L.length = (L.length - 1) + 1 := by omega
    refine (lay_free b _ (L.length - 1) i F { A with free := L } r D x w h hm (by omega) (by rw [← hm]; exact hH) hx hs hli hy (by omega) (by show A.ths.length < _; omega)).mono ?_
    rintro e w' ⟨rfl, ⟨L', r', D', h', hp', hl', hH'⟩, P⟩
    refine ⟨rfl, F, fun k hk => .inl hk, ⟨L', r', D', ?_, ?_, by rw [hl']; exact hH'⟩, P⟩
    · have e1 := set_count (y := x) (fun z : Th => z.k != 0) hy
      have e2 : liveN (A.ths.set i x) = liveN A.ths + 1 := by
        unfold liveN
        simp only [noTh, bne_self_eq_false, Bool.false_eq_true, if_false, Nat.add_zero] at e1
        rw [e1, if_pos (by simpa using hk)]
      show ArRaw w' b F (liveN (A.ths.set i x)) _ _ _
      rw [e2]; exact h'
    · have hq : (L[0]! :: L').Perm (((i : Int) + 2) :: freeIds (A.ths.set i x)) := by
        refine List.Perm.trans hp' ?_
        show L.Perm _
        refine hp.trans ?_
        show (selFrom isNo 0 A.ths).Perm _
        rw [e0]
        exact List.Perm.refl _
      rw [hli] at hq
      exact hq.cons_inv

theorem giveP_any (b t i : Nat) (F : Nat → Prop) (id : Int) (A : Ar) (x : Th) (w : World) (h : AtP w b F A) (hS : Sound A) (hx : A.ths[i]? = some x) (hid : id = (i : Int) + 2) (ht : t < 64) (hlf : (A.fresh t).length ≤ A.ths.length) :
    Calls Tryz.prog 95 #[.pointer (some ⟨b, 0, none⟩), .int .i64 t, .int .i64 id] w fun e w' => e = .returned (.tuple #[]) ∧ Led w b F (A.give t i x) w' := by
  obtain ⟨L, r, D, h, hp, hH⟩ := h
  have hl := hS.len
  have hr := hS.room1
  have hc := hS.cnt t ht
  have hon : ownN A.ths t ≤ A.ths.length := List.countP_le_length
  refine (give_any b t i _ F id { A with free := L } r D x w h hx hid ht (hS.mask x (List.mem_of_getElem? hx)) (by show A.ths.length < _; omega) (by show 0 ≤ A.cnt t ∧ A.cnt t < _; omega) (by show (A.fresh t).length < _; omega)).mono ?_
  rintro e w' ⟨rfl, ⟨r', D', h'⟩, P⟩
  refine ⟨rfl, More F w w', fun k hk => ?_, ⟨L, r', D', ?_, ?_, hH⟩, P⟩
  · rcases hk with e | e
    · exact .inl e
    · exact .inr e.1
  · have e2 : liveN (A.give t i x).ths = liveN A.ths := live_set (y := { x with mask := x.mask ||| bitN t }) hx rfl
    rw [e2]; exact h'
  · have e2 : freeIds (A.give t i x).ths = freeIds A.ths := free_set (y := { x with mask := x.mask ||| bitN t }) hx rfl
    rw [e2]; exact hp

set_option maxHeartbeats 1000000 in
theorem sweepP_any (b : Nat) (F : Nat → Prop) (A : Ar) (w : World) (h : AtP w b F A) (hS : Sound A) :
    Calls Tryz.prog 93 #[.pointer (some ⟨b, 0, none⟩)] w fun e w' => e = .returned (.int .i64 ((liveN A.ths : Int) - (liveN A.swept.ths : Int))) ∧ Led w b F A.swept w' := by
  have hsw := live_swept A.ths
  have hl := hS.len
  have hr := hS.room1
  have hlv := free_live A.ths
  by_cases hpos : 0 < A.ths.length
  · obtain ⟨L, r, D, h, hp, hH⟩ := h
    have hLl := hp.length_eq
    refine (sweepq_any b _ F A L r D w h hH (by omega) hpos hS.uniq (fun x hx _ => hS.fit x hx) (by omega)).mono ?_
    rintro e w' ⟨rfl, F', L', r', D', hF', h', hp', hH', hsz, P⟩
    refine ⟨by show _ = Ending.returned (.int .i64 ((liveN A.ths : Int) - (liveN (swL A.ths) : Int))); congr 2; omega, F', hF', ⟨L', r', D', ?_, ?_, hH'⟩, P⟩
    · have h0 := (ownsMap_size h.map).2
      have h1 := (ownsMap_size h'.map).1
      have e : ({ A.swept with free := L' } : Ar) = A.swq A.ths.length L' := by
        unfold Ar.swept Ar.swq
        rw [sw_all]
      rw [e]
      have hle : size D' ≤ liveN A.swept.ths := by show size D' ≤ liveN (swL A.ths); omega
      exact ⟨h'.raw, h'.room, h'.ths, h1.mono hle, h'.num, h'.free, h'.lim, h'.cnt, h'.fresh, h'.apf, h'.apt, h'.fb, h'.fm, h'.fv, h'.ff, h'.ft, h'.flt⟩
    · exact hp'.trans ((List.Perm.append hp (List.Perm.refl _)).trans (free_swept A.ths).symm)
  · have h0 : A.ths = [] := List.eq_nil_of_length_eq_zero (by omega)
    have hA : A.swept = A := by unfold Ar.swept; rw [h0]; unfold swL; simp only [List.map_nil]; rw [← h0]
    rw [hA]
    have hh := h
    obtain ⟨L, r, D, h, hp, hH⟩ := h
    obtain ⟨va, vc, hv⟩ := h.ths.shape
    have hv : r.vth = .slice va A.ths.length vc := hv
    have c1 := h.raw.at 1 (by omega)
    rw [Raw.c1, hv, h0] at c1
    simp only [List.length_nil] at c1
    have hz : (liveN A.ths : Int) - (liveN A.ths : Int) = 0 := by omega
    rw [hz]
    clear hv hsw hp hH h hA hz hl hr hlv hpos
    go_enter Tryz.func93, Tryz.ntmps93
    go_wp2_with fail
    refine wp_loop_rounds 1 ?_
    rw [rounds_succ]
    go_wp2_with fail
    go_ret
    exact ⟨rfl, hh.led⟩

theorem liveP_any (b : Nat) (F : Nat → Prop) (A : Ar) (w : World) (h : AtP w b F A) (hS : Sound A) :
    Calls Tryz.prog 92 #[.pointer (some ⟨b, 0, none⟩)] w fun e w' => e = .returned (.int .i64 (liveN A.ths : Int)) ∧ ∃ q, w' = w.drewN q := by
  obtain ⟨L, r, D, h, hp, hH⟩ := h
  have hl := hS.len
  have hr := hS.room1
  have hlv := free_live A.ths
  have hLl := hp.length_eq
  refine (live_any b A.ths.length L.length r w h.raw h.ths.shape h.free.shape (by omega) (by omega)).mono ?_
  rintro e w' ⟨rfl, h⟩
  exact ⟨by congr 2; omega, h⟩
end Go.Proofs.YtofbcngcblleaaaGreat.A

namespace Go.Proofs.YtofbcngcblleaaaGreat.A
open Go.RowKit Go.Maps

theorem nodup_le : ∀ (n : Nat) (l : List Int), l.Nodup → (∀ id ∈ l, 2 ≤ id ∧ (id - 2).toNat < n) → l.length ≤ n
  | 0, l, _, h => by
    cases l with
    | nil => simp
    | cons a r => have := (h a (by simp)).2; omega
  | n + 1, l, hn, h => by
    by_cases hm : ((n : Int) + 2) ∈ l
    · have ih := nodup_le n (l.erase ((n : Int) + 2)) (hn.erase _) fun id hid => by
        rw [hn.mem_erase_iff] at hid
        have := h id hid.2
        omega
      rw [List.length_erase_of_mem hm] at ih
      omega
    · have ih := nodup_le n l hn fun id hid => by
        have := h id hid
        have : id ≠ (n : Int) + 2 := fun e => hm (e ▸ hid)
        omega
      omega
theorem Sound.freshLe {A : Ar} (h : Sound A) {t : Nat} (ht : t < 64) : (A.fresh t).length ≤ A.ths.length :=
  nodup_le _ _ (h.fresh t ht).1 fun id hid => by
    obtain ⟨h1, x, h2, _⟩ := (h.fresh t ht).2 id hid
    exact ⟨h1, (List.getElem?_eq_some_iff.1 h2).1⟩
/-- what become answers, and leaves -/
def BecoOut (w : World) (b : Nat) (F : Nat → Prop) (A : Ar) (t : Nat) (x : Th) (e : Ending) (w' : World) : Prop :=
  e = .returned (.tuple #[.int .i64 (A.beco t x).2.1, .int .i64 (A.beco t x).2.2]) ∧ Led w b F (A.beco t x).1 w'
theorem AtP.drewN {w : World} {b : Nat} {F : Nat → Prop} {A : Ar} (h : AtP w b F A) (q : Nat) : AtP (w.drewN q) b F A := h.other (Nat.le_refl _) fun _ _ => rfl
theorem led_join {w w1 w2 : World} {b : Nat} {F F1 : Nat → Prop} {A1 A2 : Ar} (hF : ∀ k, F1 k → F k ∨ w.heap.size ≤ k) (h : AtP w1 b F1 A1) (P : Apart F w w1) (k : Led w1 b F1 A2 w2) : Led w b F A2 w2 := by
  obtain ⟨F2, k1, k2, k3⟩ := k
  refine ⟨F2, fun j hj => ?_, k2, P.trans k3 fun j hj => ?_⟩
  · rcases k1 j hj with e | e
    · exact hF j e
    · exact .inr (Nat.le_trans P.size e)
  · rcases hF j hj with e | e
    · exact .inl e
    · exact .inr ⟨e, h.flt j hj⟩

set_option maxRecDepth 20000 in
set_option maxHeartbeats 4000000 in
theorem becoThere_any (b t i : Nat) (F : Nat → Prop) (A : Ar) (x y : Th) (w : World) (h : AtP w b F A) (hS : Sound A) (ht : t < 64) (hx : x.key.Fit) (hk : x.k ≠ 0) (hs : spotF A.ths x.key = some i) (hy : A.ths[i]? = some y) :
    Calls Tryz.prog 75 #[.pointer (some ⟨b, 0, none⟩), .int .i64 t, x.val] w fun e w' => BecoOut w b F A t x e w' := by
  have hl := hS.len
  have hr := hS.room1
  have hc := hS.cnt t ht
  have hon : ownN A.ths t ≤ A.ths.length := List.countP_le_length
  have hfl := hS.freshLe ht
  have hgt : A.ths[i]! = y := by rw [List.getElem!_eq_getElem?_getD, hy]; rfl
  have hB : A.beco t x = if y.mask.testBit t = true then (A, (i : Int) + 2, 0) else if A.lim t ≤ A.cnt t then (A, 0, 9) else (A.give t i y, (i : Int) + 2, 0) := by
    unfold Ar.beco
    rw [hs]
    simp only
    rw [hgt]
  have hh := h
  obtain ⟨L, r, D, h, hp, hH⟩ := h
  unfold BecoOut
  by_cases hown : y.mask.testBit t = true
  · rw [if_pos hown] at hB
    rw [hB]
    refine (become_there b _ t i F { A with free := L } r D x y w h hx hk hs hy hS.mask ht (by show A.ths.length < _; omega) hown).mono ?_
    rintro e w' ⟨rfl, hb⟩
    exact ⟨rfl, hh.ledB hb⟩
  · rw [if_neg hown] at hB
    rw [hB]
    refine (become_else b _ t i F { A with free := L } r D x y w h hx hk hs hy hS.mask ht (by show A.ths.length < _; omega) (by simpa using hown) (by show 0 ≤ A.cnt t ∧ A.cnt t < _; omega) (by show (A.fresh t).length < _; omega)).mono ?_
    intro e w' hP
    by_cases hq : A.lim t ≤ A.cnt t
    · rw [if_pos (show ({ A with free := L } : Ar).lim t ≤ ({ A with free := L } : Ar).cnt t from hq)] at hP
      rw [if_pos hq]
      exact ⟨hP.1, hh.ledB hP.2⟩
    · rw [if_neg (show ¬ ({ A with free := L } : Ar).lim t ≤ ({ A with free := L } : Ar).cnt t from hq)] at hP
      rw [if_neg hq]
      obtain ⟨rfl, ⟨r', D', h'⟩, P⟩ := hP
      refine ⟨rfl, More F w w', fun k hk => ?_, ⟨L, r', D', ?_, ?_, hH⟩, P⟩
      · rcases hk with e | e
        · exact .inl e
        · exact .inr e.1
      · have e2 : liveN (A.give t i y).ths = liveN A.ths := live_set (y := { y with mask := y.mask ||| bitN t }) hy rfl
        rw [e2]; exact h'
      · have e2 : freeIds (A.give t i y).ths = freeIds A.ths := free_set (y := { y with mask := y.mask ||| bitN t }) hy rfl
        rw [e2]; exact hp

set_option maxRecDepth 20000 in
set_option maxHeartbeats 4000000 in
theorem becoNew_any (b t : Nat) (F : Nat → Prop) (A : Ar) (x : Th) (w : World) (h : AtP w b F A) (hS : Sound A) (ht : t < 64) (hx : x.key.Fit) (hk : x.k ≠ 0) (hlv : 0 ≤ x.lv ∧ x.lv ≤ 44) (hva : Fits x.va) (hmx : x.mask = 0) (hs : spotF A.ths x.key = none) :
    Calls Tryz.prog 75 #[.pointer (some ⟨b, 0, none⟩), .int .i64 t, x.val] w fun e w' => BecoOut w b F A t x e w' := by
  have hB : A.beco t x = if A.lim t ≤ A.cnt t then (A, 0, 9) else if A.made.room ≤ (liveN A.made.ths : Int) then (A.made, 0, 5) else ((A.made.laid x).1.give t (A.made.laid x).2 x, ((A.made.laid x).2 : Int) + 2, 0) := by
    unfold Ar.beco
    rw [hs]
  have hh := h
  obtain ⟨L, r, D, h, hp, hH⟩ := h
  have hblt := h.raw.lt
  have hbx : Below w.heap.size w (w.alloc (.cells #[.int .i64 x.k, .int .i64 x.p0, .int .i64 x.p1, .int .i64 x.p2, .int .i64 x.p3, .int .i64 x.lv, .int .i64 x.va, .int .u64 x.mask] 123)) := (Below.refl _ _).alloc (Nat.le_refl _) _
  have hX : (w.alloc (.cells #[.int .i64 x.k, .int .i64 x.p0, .int .i64 x.p1, .int .i64 x.p2, .int .i64 x.p3, .int .i64 x.lv, .int .i64 x.va, .int .u64 x.mask] 123)).heap[w.heap.size]? = some (.cells #[.int .i64 x.k, .int .i64 x.p0, .int .i64 x.p1, .int .i64 x.p2, .int .i64 x.p3, .int .i64 x.lv, .int .i64 x.va, .int .u64 x.mask] 123 (0, 0)) := heap_alloc_new w _
  have hSm := made_sound hS
  have HLV : Hid (∀ W B F', AtP W b F' B → Sound B → _) := fun W B F' hW hSB => liveP_any b F' B W hW hSB
  have HSW : Hid (∀ W F', AtP W b F' A → _) := fun W F' hW => sweepP_any b F' A W hW hS
  have HL : Hid (∀ W F', AtP W b F' A.made → _) := fun W F' hW => layP_any b F' A.made x W hW hSm hx hk (made_spot hk hs)
  have HBO : Hid (∀ e w', BecoOut w b F A t x e w' ↔ (e = .returned (.tuple #[.int .i64 (A.beco t x).2.1, .int .i64 (A.beco t x).2.2]) ∧ Led w b F (A.beco t x).1 w')) := fun e w' => Iff.rfl
  have HG : Hid (¬ A.made.room ≤ (liveN A.made.ths : Int) → ∀ W F', AtP W b F' (A.made.laid x).1 → _) := fun hlt W F' hW =>
    have hSl := laid_sound hSm hlv hva hmx hk hx (made_spot hk hs) (by omega)
    giveP_any b t (A.made.laid x).2 F' (((A.made.laid x).2 : Int) + 2) (A.made.laid x).1 x W hW hSl (laid_at _ _) rfl ht (hSl.freshLe ht)
  generalize hP : BecoOut w b F A t x = Post
  have HP : Hid (BecoOut w b F A t x = Post) := hP
  have HB : Hid (A.beco t x = _) := hB
  have HH : Hid (AtP w b F A ∧ Sound A ∧ Sound A.made) := ⟨hh, hS, hSm⟩
  clear hP hB hh hSm hmx hlv hva
  unfold Th.val
  go_enter Tryz.func75, Tryz.ntmps75
  go_wp2_with fail
  generalize hW0 : w.alloc (.cells #[.int .i64 x.k, .int .i64 x.p0, .int .i64 x.p1, .int .i64 x.p2, .int .i64 x.p3, .int .i64 x.lv, .int .i64 x.va, .int .u64 x.mask] 123) = W0 at *
  clear hW0
  have H0 := h.below hbx
  obtain ⟨d0, d1, d2, d3, d4, d5, d6, d7⟩ := cells8 hX
  have c2 := H0.raw.at 2 (by omega)
  rw [Raw.c2] at c2
  have hlk := look_num (w := W0.drew) H0.drew.map H0.num hx hk
  rw [show spotF ({ A with free := L } : Ar).ths x.key = none from hs] at hlk
  unfold Ky.val Th.key at hlk
  simp only [Option.isSome_none] at hlk
  have h0 : (0 : Int) ≤ t := by omega
  have h1 : (t : Int) < 64 := by omega
  have cl := H0.raw.at (4 + t * 3) (by omega)
  rw [Raw.cl, show (r.tn t).lim = A.lim t from H0.lim t ht] at cl
  have cc := H0.raw.at (4 + t * 3 + 1) (by omega)
  rw [Raw.cc, show (r.tn t).cnt = A.cnt t from H0.cnt t ht] at cc
  clear h hp hH hs
  go_region
  all_goals
    by_cases hq : A.lim t ≤ A.cnt t
    · have hq' : decide (A.lim t ≤ A.cnt t) = true := by simpa using hq
      go_wp2_with fail
      go_quiet (fail)
      go_wp2_with fail
      rw [← HP.out]
      refine (HBO.out _ _).2 ?_
      rw [HB.out, if_pos hq]
      exact ⟨rfl, HH.out.1.ledB ⟨hbx.os, hbx.tape, hbx.output, hbx.size, hbx.block⟩⟩
    · have hq' : decide (A.lim t ≤ A.cnt t) = false := by simpa using hq
      go_wp2_with fail
      go_quiet (fail)
      go_wp2_with fail
      have hb2 : Below w.heap.size w (W0.drewN (1 + nq)) := ⟨hbx.os, hbx.tape, hbx.output, hbx.size, hbx.block⟩
      have hX2 : (W0.drewN (1 + nq)).heap[w.heap.size]? = some (.cells #[.int .i64 x.k, .int .i64 x.p0, .int .i64 x.p1, .int .i64 x.p2, .int .i64 x.p3, .int .i64 x.lv, .int .i64 x.va, .int .u64 x.mask] 123 (0, 0)) := hX
      have c0 := (H0.drewN (1 + nq)).raw.at 0 (by omega)
      rw [Raw.c0, show r.room = A.room from H0.room] at c0
      clear d0 d1 d2 d3 d4 d5 d6 d7 c2 hlk cl cc hX H0 hbx
      generalize W0.drewN (1 + nq) = W2 at *
      have H2 := HH.out.1.below hb2
      have hlive2 := fun q => HLV.out (W2.drewN q) A F (H2.drewN q) HH.out.2.1
      have HB2 : Hid (Below w.heap.size w W2) := hb2
      clear hb2
      by_cases h7 : A.room ≤ (liveN A.ths : Int)
      · have hmd : A.made = A.swept := if_pos h7
        have HMD : Hid (A.made = A.swept) := hmd
        have h7' : decide (A.room ≤ (liveN A.ths : Int)) = true := by simpa using h7
        clear hmd
        obtain ⟨d0, d1, d2, d3, d4, d5, d6, d7⟩ := cells8 hX2
        go_quiet ((go_at_call 92; exact Calls.quiet_of (hlive2 _)))
        go_wp2_with fail
        refine (HSW.out _ F (H2.drewN _)).mono ?_
        rintro e w3 ⟨rfl, F3, hF3, H3, P3⟩
        rw [← HMD.out] at H3
        have hX3 : w3.heap[w.heap.size]? = some (.cells #[.int .i64 x.k, .int .i64 x.p0, .int .i64 x.p1, .int .i64 x.p2, .int .i64 x.p3, .int .i64 x.lv, .int .i64 x.va, .int .u64 x.mask] 123 (0, 0)) := (P3.block w.heap.size (Array.getElem?_eq_some_iff.1 hX2).1 fun hf => by have := HH.out.1.flt _ hf; omega).trans hX2
        have P3' : Apart F w w3 := (Apart.of (F := F) HB2.out).trans (F' := F) ⟨P3.os, P3.tape, P3.output, P3.size, P3.block⟩ fun k hk => Or.inl hk
        have hF3' : ∀ k, F3 k → F k ∨ w.heap.size ≤ k := fun k hk => by
          rcases hF3 k hk with e | e
          · exact .inl e
          · exact .inr (Nat.le_trans HB2.out.size e)
        have HP3 : Hid (Apart F w w3 ∧ (∀ k, F3 k → F k ∨ w.heap.size ≤ k)) := ⟨P3', hF3'⟩
        have hlive3 := fun q => HLV.out (w3.drewN q) A.made F3 (H3.drewN q) HH.out.2.2
        have hrm : A.made.room = A.room := (made_rest A).1
        have c0' : w3.cell? ⟨b, 0, none⟩ = some (.int .i64 A.made.room) := by
          obtain ⟨L3, r3, D3, G3, _⟩ := H3
          have := G3.raw.at 0 (by omega)
          rw [Raw.c0, show r3.room = A.made.room from G3.room] at this
          exact this
        clear d0 d1 d2 d3 d4 d5 d6 d7 hX2 H2 hlive2 P3 P3' hF3 hF3' hrm c0
        obtain ⟨d0, d1, d2, d3, d4, d5, d6, d7⟩ := cells8 hX3
        by_cases h9 : A.made.room ≤ (liveN A.made.ths : Int)
        · have h9' : decide (A.made.room ≤ (liveN A.made.ths : Int)) = true := by simpa using h9
          go_wp2_with fail
          go_quiet ((go_at_call 92; exact Calls.quiet_of (hlive3 _)))
          go_wp2_with fail
          rw [← HP.out]
          refine (HBO.out _ _).2 ?_
          rw [HB.out, if_neg (by omega), if_pos h9]
          exact ⟨rfl, F3, HP3.out.2, H3.drewN _, HP3.out.1.drewN _⟩
        · have h9' : decide (A.made.room ≤ (liveN A.made.ths : Int)) = false := by simpa using h9
          have HN9 : Hid (¬ A.made.room ≤ (liveN A.made.ths : Int)) := h9
          go_wp2_with fail
          go_quiet ((go_at_call 92; exact Calls.quiet_of (hlive3 _)))
          go_wp2_with fail
          refine (HL.out _ F3 (H3.drewN _)).mono ?_
          rintro e w4 ⟨rfl, H4⟩
          go_wp2_with fail
          obtain ⟨F4, hF4, H4, P4⟩ := H4
          refine (HG.out HN9.out _ F4 H4).mono ?_
          rintro e w5 ⟨rfl, H5⟩
          go_wp2_with fail
          rw [← HP.out]
          refine (HBO.out _ _).2 ?_
          rw [HB.out, if_neg (by omega), if_neg (by have := HN9.out; omega)]
          exact ⟨rfl, led_join HP3.out.2 (H3.drewN _) (HP3.out.1.drewN _) (led_join hF4 H4 P4 H5)⟩
      · have hmd : A.made = A := if_neg h7
        have HMD : Hid (A.made = A) := hmd
        have h7' : decide (A.room ≤ (liveN A.ths : Int)) = false := by simpa using h7
        have HN9 : Hid (¬ A.made.room ≤ (liveN A.made.ths : Int)) := by show ¬ _; rw [hmd]; exact h7
        clear hmd
        obtain ⟨d0, d1, d2, d3, d4, d5, d6, d7⟩ := cells8 hX2
        go_quiet ((go_at_call 92; exact Calls.quiet_of (hlive2 _)))
        go_wp2_with fail
        have hX3 : (W2.drewN nq).heap[w.heap.size]? = some (.cells #[.int .i64 x.k, .int .i64 x.p0, .int .i64 x.p1, .int .i64 x.p2, .int .i64 x.p3, .int .i64 x.lv, .int .i64 x.va, .int .u64 x.mask] 123 (0, 0)) := hX2
        have H3 := H2.drewN nq
        have c0' : (W2.drewN nq).cell? ⟨b, 0, none⟩ = some (.int .i64 A.room) := c0
        have HB3 : Hid (Below w.heap.size w (W2.drewN nq)) := ⟨HB2.out.os, HB2.out.tape, HB2.out.output, HB2.out.size, HB2.out.block⟩
        clear d0 d1 d2 d3 d4 d5 d6 d7 hX2 H2 hlive2 c0
        generalize W2.drewN nq = W3 at *
        have hlive3 := fun q => HLV.out (W3.drewN q) A F (H3.drewN q) HH.out.2.1
        obtain ⟨d0, d1, d2, d3, d4, d5, d6, d7⟩ := cells8 hX3
        go_quiet ((go_at_call 92; exact Calls.quiet_of (hlive3 _)))
        go_wp2_with fail
        refine (HL.out _ F (by rw [HMD.out]; exact H3.drewN _)).mono ?_
        rintro e w4 ⟨rfl, H4⟩
        go_wp2_with fail
        obtain ⟨F4, hF4, H4, P4⟩ := H4
        refine (HG.out HN9.out _ F4 H4).mono ?_
        rintro e w5 ⟨rfl, H5⟩
        go_wp2_with fail
        rw [← HP.out]
        refine (HBO.out _ _).2 ?_
        rw [HB.out, if_neg (by omega), if_neg (by have := HN9.out; omega)]
        exact ⟨rfl, led_join (fun k hk => .inl hk) (H3.drewN _) ((Apart.of HB3.out).drewN _) (led_join hF4 H4 P4 H5)⟩

/-- become, whatever there is -/
theorem beco_any (b t : Nat) (F : Nat → Prop) (A : Ar) (x : Th) (w : World) (h : AtP w b F A) (hS : Sound A) (ht : t < 64) (hx : x.key.Fit) (hk : x.k ≠ 0) (hlv : 0 ≤ x.lv ∧ x.lv ≤ 44) (hva : Fits x.va) (hmx : x.mask = 0) :
    Calls Tryz.prog 75 #[.pointer (some ⟨b, 0, none⟩), .int .i64 t, x.val] w fun e w' => BecoOut w b F A t x e w' := by
  cases hs : spotF A.ths x.key with
  | none => exact becoNew_any b t F A x w h hS ht hx hk hlv hva hmx hs
  | some i =>
    obtain ⟨y, h1, _, _⟩ := spot_at hs
    exact becoThere_any b t i F A x y w h hS ht hx hk hs h1
end Go.Proofs.YtofbcngcblleaaaGreat.A

namespace Go.Proofs.YtofbcngcblleaaaGreat.A
open Go.RowKit Go.Maps

def quad4 (q0 q1 q2 q3 : Int) : Value := .agg #[.int .i64 q0, .int .i64 q1, .int .i64 q2, .int .i64 q3]
theorem Tryz.at0 (a b c d : Value) (w : World) : (Instr.index 76 (.agg #[a, b, c, d]) (.int .i64 0)).run Tryz.prog w = .ok a w := by kernel_rfl
theorem Tryz.at1 (a b c d : Value) (w : World) : (Instr.index 76 (.agg #[a, b, c, d]) (.int .i64 1)).run Tryz.prog w = .ok b w := by kernel_rfl
theorem Tryz.at2 (a b c d : Value) (w : World) : (Instr.index 76 (.agg #[a, b, c, d]) (.int .i64 2)).run Tryz.prog w = .ok c w := by kernel_rfl
theorem Tryz.at3 (a b c d : Value) (w : World) : (Instr.index 76 (.agg #[a, b, c, d]) (.int .i64 3)).run Tryz.prog w = .ok d w := by kernel_rfl

/-- Join midway: the quarters' block, the levels' block -/
structure JS (w W : World) (q0 q1 q2 q3 a0 a1 a2 a3 : Int) : Prop where
  bel : Below w.heap.size w W
  hq : W.heap[w.heap.size]? = some (.cells #[.int .i64 q0, .int .i64 q1, .int .i64 q2, .int .i64 q3] 76 (0, 0))
  hj : W.heap[w.heap.size + 1]? = some (.cells #[.int .i64 a0, .int .i64 a1, .int .i64 a2, .int .i64 a3] 76 (0, 0))
theorem JS.born (w : World) (q0 q1 q2 q3 : Int) : JS w ((w.alloc (.cells #[.int .i64 q0, .int .i64 q1, .int .i64 q2, .int .i64 q3] 76)).alloc (.cells #[.int .i64 0, .int .i64 0, .int .i64 0, .int .i64 0] 76)) q0 q1 q2 q3 0 0 0 0 := by
  refine ⟨((Below.refl _ _).alloc (Nat.le_refl _) _).alloc (by simp) _, heap_alloc2_old w _ _, heap_alloc2_new w _ _⟩
section
variable {w W W' : World} {q0 q1 q2 q3 a0 a1 a2 a3 : Int}
theorem JS.go (h : JS w W q0 q1 q2 q3 a0 a1 a2 a3) (hb : Below W.heap.size W W') : JS w W' q0 q1 q2 q3 a0 a1 a2 a3 :=
  ⟨h.bel.trans (hb.mono h.bel.size), (hb.block _ (Array.getElem?_eq_some_iff.1 h.hq).1).trans h.hq, (hb.block _ (Array.getElem?_eq_some_iff.1 h.hj).1).trans h.hj⟩
theorem JS.cells (h : JS w W q0 q1 q2 q3 a0 a1 a2 a3) : (W.cell? ⟨w.heap.size + 1, 0, none⟩ = some (.int .i64 a0) ∧ W.cell? ⟨w.heap.size + 1, 1, none⟩ = some (.int .i64 a1) ∧ W.cell? ⟨w.heap.size + 1, 2, none⟩ = some (.int .i64 a2) ∧ W.cell? ⟨w.heap.size + 1, 3, none⟩ = some (.int .i64 a3)) ∧
    (W.frozen? ⟨w.heap.size + 1, 0, none⟩ = false ∧ W.frozen? ⟨w.heap.size + 1, 1, none⟩ = false ∧ W.frozen? ⟨w.heap.size + 1, 2, none⟩ = false ∧ W.frozen? ⟨w.heap.size + 1, 3, none⟩ = false) ∧
    W.cell? ⟨w.heap.size, 0, none⟩ = some (.int .i64 q0) ∧ W.cell? ⟨w.heap.size, 1, none⟩ = some (.int .i64 q1) ∧ W.cell? ⟨w.heap.size, 2, none⟩ = some (.int .i64 q2) ∧ W.cell? ⟨w.heap.size, 3, none⟩ = some (.int .i64 q3) :=
  ⟨⟨Lib.cell_of_heap h.hj 0, Lib.cell_of_heap h.hj 1, Lib.cell_of_heap h.hj 2, Lib.cell_of_heap h.hj 3⟩, ⟨Lib.frozen_of_heap h.hj 0, Lib.frozen_of_heap h.hj 1, Lib.frozen_of_heap h.hj 2, Lib.frozen_of_heap h.hj 3⟩, Lib.cell_of_heap h.hq 0, Lib.cell_of_heap h.hq 1, Lib.cell_of_heap h.hq 2, Lib.cell_of_heap h.hq 3⟩
theorem JS.set0 (h : JS w W q0 q1 q2 q3 a0 a1 a2 a3) (z : Int) : JS w (W.setCell ⟨w.heap.size + 1, 0, none⟩ (.int .i64 z)) q0 q1 q2 q3 z a1 a2 a3 := ⟨h.bel.setCell (p := ⟨w.heap.size + 1, 0, none⟩) (Nat.le_succ _) _, (heap_set (by omega)).trans h.hq, Go.Joins.block_setCell h.hj _⟩
theorem JS.set1 (h : JS w W q0 q1 q2 q3 a0 a1 a2 a3) (z : Int) : JS w (W.setCell ⟨w.heap.size + 1, 1, none⟩ (.int .i64 z)) q0 q1 q2 q3 a0 z a2 a3 := ⟨h.bel.setCell (p := ⟨w.heap.size + 1, 1, none⟩) (Nat.le_succ _) _, (heap_set (by omega)).trans h.hq, Go.Joins.block_setCell h.hj _⟩
theorem JS.set2 (h : JS w W q0 q1 q2 q3 a0 a1 a2 a3) (z : Int) : JS w (W.setCell ⟨w.heap.size + 1, 2, none⟩ (.int .i64 z)) q0 q1 q2 q3 a0 a1 z a3 := ⟨h.bel.setCell (p := ⟨w.heap.size + 1, 2, none⟩) (Nat.le_succ _) _, (heap_set (by omega)).trans h.hq, Go.Joins.block_setCell h.hj _⟩
theorem JS.set3 (h : JS w W q0 q1 q2 q3 a0 a1 a2 a3) (z : Int) : JS w (W.setCell ⟨w.heap.size + 1, 3, none⟩ (.int .i64 z)) q0 q1 q2 q3 a0 a1 a2 z := ⟨h.bel.setCell (p := ⟨w.heap.size + 1, 3, none⟩) (Nat.le_succ _) _, (heap_set (by omega)).trans h.hq, Go.Joins.block_setCell h.hj _⟩
end

/-- which error four quarters' levels make, and which level -/
def joinL (l0 l1 l2 l3 : Option Int) : Int × Int := match l0, l1, l2, l3 with
  | some a, some b, some c, some d => if a < 44 ∧ b = a ∧ c = a ∧ d = a then (0, a) else (8, 0)
  | _, _, _, _ => (6, 0)
theorem joinL0 (l1 l2 l3 : Option Int) : joinL none l1 l2 l3 = (6, 0) := rfl
theorem joinL1 (l0 l2 l3 : Option Int) : joinL l0 none l2 l3 = (6, 0) := by cases l0 <;> rfl
theorem joinL2 (l0 l1 l3 : Option Int) : joinL l0 l1 none l3 = (6, 0) := by cases l0 <;> cases l1 <;> rfl
theorem joinL3 (l0 l1 l2 : Option Int) : joinL l0 l1 l2 none = (6, 0) := by cases l0 <;> cases l1 <;> cases l2 <;> rfl
theorem joinL4 (a b c d : Int) : joinL (some a) (some b) (some c) (some d) = if a < 44 ∧ b = a ∧ c = a ∧ d = a then (0, a) else (8, 0) := rfl
/-- the square of four quarters -/
def sqTh (q0 q1 q2 q3 a : Int) : Th := ⟨1, q0, q1, q2, q3, a + 1, 0, 0⟩
def joinE (A : Ar) (t : Nat) (q0 q1 q2 q3 : Int) : Int × Int := joinL (levelF A.ths t q0) (levelF A.ths t q1) (levelF A.ths t q2) (levelF A.ths t q3)
/-- what Join makes of an arena, and answers -/
def Ar.joinP (A : Ar) (t : Nat) (q0 q1 q2 q3 : Int) : Ar × Int × Int := if (joinE A t q0 q1 q2 q3).1 = 0 then A.beco t (sqTh q0 q1 q2 q3 (joinE A t q0 q1 q2 q3).2) else (A, 0, (joinE A t q0 q1 q2 q3).1)
def JoinPOut (A : Ar) (t : Nat) (q0 q1 q2 q3 : Int) (b : Nat) (F : Nat → Prop) (w : World) (e : Ending) (w' : World) : Prop :=
  e = .returned (.tuple #[.int .i64 (A.joinP t q0 q1 q2 q3).2.1, .int .i64 (A.joinP t q0 q1 q2 q3).2.2]) ∧ Led w b F (A.joinP t q0 q1 q2 q3).1 w'
theorem JoinPOut.bad {A : Ar} {t : Nat} {q0 q1 q2 q3 : Int} {b : Nat} {F : Nat → Prop} {w w' : World} {e : Ending} {c : Int} (hA : AtP w b F A) (hc : c ≠ 0) (h : joinE A t q0 q1 q2 q3 = (c, 0)) (he : e = .returned (.tuple #[.int .i64 0, .int .i64 c])) (hb : Below w.heap.size w w') : JoinPOut A t q0 q1 q2 q3 b F w e w' := by
  unfold JoinPOut Ar.joinP
  rw [h, if_neg hc]
  exact ⟨he, hA.ledB hb⟩
theorem level_lo {A : Ar} (hS : Sound A) {t : Nat} {id l : Int} (h : levelF A.ths t id = some l) : 0 ≤ l ∧ l ≤ 44 := by
  unfold levelF at h
  split at h
  · obtain rfl := Option.some.inj h; decide
  · unfold ownF at h
    split at h
    · rename_i x hx
      split at hx
      · rw [Option.filter_eq_some_iff] at hx
        split at h
        · obtain rfl := Option.some.inj h
          exact hS.lv x (List.mem_of_getElem? hx.1)
        · cases h
      · cases hx
    · cases h

theorem levelP_any (b t : Nat) (F : Nat → Prop) (id : Int) (A : Ar) (w : World) (h : AtP w b F A) (hS : Sound A) (ht : t < 64) (hid : Fits id) :
    Calls Tryz.prog 57 #[.pointer (some ⟨b, 0, none⟩), .int .i64 t, .int .i64 id] w fun e w' => e = .returned (.tuple #[.int .i64 ((levelF A.ths t id).getD 0), .bool (levelF A.ths t id).isSome]) ∧ Below w.heap.size w w' := by
  obtain ⟨L, r, D, h, _⟩ := h
  exact level_any b 0 t id r A.ths w h.raw h.ths ht hS.mask hid

set_option maxRecDepth 20000 in
set_option maxHeartbeats 8000000 in
theorem joinP_any (b t : Nat) (q0 q1 q2 q3 : Int) (F : Nat → Prop) (A : Ar) (w : World) (h : AtP w b F A) (hS : Sound A) (ht : t < 64) (hq0 : Fits q0) (hq1 : Fits q1) (hq2 : Fits q2) (hq3 : Fits q3) :
    Calls Tryz.prog 45 #[.pointer (some ⟨b, 0, none⟩), .int .i64 t, quad4 q0 q1 q2 q3] w (JoinPOut A t q0 q1 q2 q3 b F w) := by
  have hi := fun W => tenant_yes t ht W
  have hlo : ∀ l, levelF A.ths t q0 = some l → 0 ≤ l ∧ l ≤ 44 := fun l hl => level_lo hS hl
  have hlv := fun W (hW : AtP W b F A) id (hid : Fits id) => levelP_any b t F id A W hW hS ht hid
  have HB : Hid (∀ W (l : Int), 0 ≤ l → l < 44 → AtP W b F A → _) := fun W l hl0 hl1 hW => beco_any b t F A (sqTh q0 q1 q2 q3 l) W hW hS ht ⟨⟨by show (_ : Int) ≤ 1; omega, by show (1 : Int) ≤ _; omega⟩, hq0, hq1, hq2, hq3⟩ (by show (1 : Int) ≠ 0; omega) (by show 0 ≤ l + 1 ∧ l + 1 ≤ 44; omega) fits_zero rfl
  have HA : Hid (AtP w b F A) := h
  have S := JS.born w q0 q1 q2 q3
  have hJE : Hid (joinE A t q0 q1 q2 q3 = joinL (levelF A.ths t q0) (levelF A.ths t q1) (levelF A.ths t q2) (levelF A.ths t q3)) := rfl
  generalize hPost : JoinPOut A t q0 q1 q2 q3 b F w = Post
  have HP : Hid (JoinPOut A t q0 q1 q2 q3 b F w = Post) := hPost
  clear hPost
  unfold quad4
  go_enter Tryz.func45, Tryz.ntmps45
  go_wp2_with fail
  refine (hi _).mono ?_
  rintro e w0 ⟨rfl, rfl⟩
  obtain ⟨⟨c0, c1, c2, c3⟩, ⟨z0, z1, z2, z3⟩, k0, k1, k2, k3⟩ := S.cells
  go_wp2_with fail
  have i0 := Tryz.at0 (.int .i64 q0) (.int .i64 q1) (.int .i64 q2) (.int .i64 q3)
  have i1 := Tryz.at1 (.int .i64 q0) (.int .i64 q1) (.int .i64 q2) (.int .i64 q3)
  have i2 := Tryz.at2 (.int .i64 q0) (.int .i64 q1) (.int .i64 q2) (.int .i64 q3)
  have i3 := Tryz.at3 (.int .i64 q0) (.int .i64 q1) (.int .i64 q2) (.int .i64 q3)
  refine wp_loop_rounds 5 ?_
  rw [rounds_succ]
  go_wp2_with fail
  refine (hlv _ (h.below S.bel) q0 hq0).mono ?_
  rintro e w0 ⟨rfl, hb0⟩
  have S := S.go hb0
  clear hb0 c0 c1 c2 c3 z0 z1 z2 z3 k0 k1 k2 k3
  obtain ⟨⟨c0, c1, c2, c3⟩, ⟨z0, z1, z2, z3⟩, k0, k1, k2, k3⟩ := S.cells
  cases hl0 : levelF A.ths t q0 with
  | none =>
    simp only [Option.getD_none, Option.isSome_none]
    go_wp2_with fail
    rw [← HP.out]
    exact JoinPOut.bad HA.out (by decide) (hJE.out.trans (by rw [hl0]; exact joinL0 _ _ _)) rfl S.bel
  | some l0 =>
  have HL0 : Hid (levelF A.ths t q0 = some l0) := hl0
  clear hl0
  simp only [Option.getD_some, Option.isSome_some]
  go_wp2_with fail
  have S := S.set0 l0
  generalize w0.setCell ⟨w.heap.size + 1, 0, none⟩ (.int .i64 l0) = W0 at *
  clear c0 c1 c2 c3 z0 z1 z2 z3 k0 k1 k2 k3
  obtain ⟨⟨c0, c1, c2, c3⟩, ⟨z0, z1, z2, z3⟩, k0, k1, k2, k3⟩ := S.cells
  rw [rounds_succ]
  go_wp2_with fail
  refine (hlv _ (h.below S.bel) q1 hq1).mono ?_
  rintro e w1 ⟨rfl, hb1⟩
  have S := S.go hb1
  clear hb1 c0 c1 c2 c3 z0 z1 z2 z3 k0 k1 k2 k3
  obtain ⟨⟨c0, c1, c2, c3⟩, ⟨z0, z1, z2, z3⟩, k0, k1, k2, k3⟩ := S.cells
  cases hl1 : levelF A.ths t q1 with
  | none =>
    simp only [Option.getD_none, Option.isSome_none]
    go_wp2_with fail
    rw [← HP.out]
    exact JoinPOut.bad HA.out (by decide) (hJE.out.trans (by rw [hl1]; exact joinL1 _ _ _)) rfl S.bel
  | some l1 =>
  have HL1 : Hid (levelF A.ths t q1 = some l1) := hl1
  clear hl1
  simp only [Option.getD_some, Option.isSome_some]
  go_wp2_with fail
  have S := S.set1 l1
  generalize w1.setCell ⟨w.heap.size + 1, 1, none⟩ (.int .i64 l1) = W1 at *
  clear c0 c1 c2 c3 z0 z1 z2 z3 k0 k1 k2 k3
  obtain ⟨⟨c0, c1, c2, c3⟩, ⟨z0, z1, z2, z3⟩, k0, k1, k2, k3⟩ := S.cells
  rw [rounds_succ]
  go_wp2_with fail
  refine (hlv _ (h.below S.bel) q2 hq2).mono ?_
  rintro e w2 ⟨rfl, hb2⟩
  have S := S.go hb2
  clear hb2 c0 c1 c2 c3 z0 z1 z2 z3 k0 k1 k2 k3
  obtain ⟨⟨c0, c1, c2, c3⟩, ⟨z0, z1, z2, z3⟩, k0, k1, k2, k3⟩ := S.cells
  cases hl2 : levelF A.ths t q2 with
  | none =>
    simp only [Option.getD_none, Option.isSome_none]
    go_wp2_with fail
    rw [← HP.out]
    exact JoinPOut.bad HA.out (by decide) (hJE.out.trans (by rw [hl2]; exact joinL2 _ _ _)) rfl S.bel
  | some l2 =>
  have HL2 : Hid (levelF A.ths t q2 = some l2) := hl2
  clear hl2
  simp only [Option.getD_some, Option.isSome_some]
  go_wp2_with fail
  have S := S.set2 l2
  generalize w2.setCell ⟨w.heap.size + 1, 2, none⟩ (.int .i64 l2) = W2 at *
  clear c0 c1 c2 c3 z0 z1 z2 z3 k0 k1 k2 k3
  obtain ⟨⟨c0, c1, c2, c3⟩, ⟨z0, z1, z2, z3⟩, k0, k1, k2, k3⟩ := S.cells
  rw [rounds_succ]
  go_wp2_with fail
  refine (hlv _ (h.below S.bel) q3 hq3).mono ?_
  rintro e w3 ⟨rfl, hb3⟩
  have S := S.go hb3
  clear hb3 c0 c1 c2 c3 z0 z1 z2 z3 k0 k1 k2 k3
  obtain ⟨⟨c0, c1, c2, c3⟩, ⟨z0, z1, z2, z3⟩, k0, k1, k2, k3⟩ := S.cells
  cases hl3 : levelF A.ths t q3 with
  | none =>
    simp only [Option.getD_none, Option.isSome_none]
    go_wp2_with fail
    rw [← HP.out]
    exact JoinPOut.bad HA.out (by decide) (hJE.out.trans (by rw [hl3]; exact joinL3 _ _ _)) rfl S.bel
  | some l3 =>
  have HL3 : Hid (levelF A.ths t q3 = some l3) := hl3
  clear hl3
  simp only [Option.getD_some, Option.isSome_some]
  go_wp2_with fail
  have S := S.set3 l3
  generalize w3.setCell ⟨w.heap.size + 1, 3, none⟩ (.int .i64 l3) = W3 at *
  clear c0 c1 c2 c3 z0 z1 z2 z3 k0 k1 k2 k3
  obtain ⟨⟨c0, c1, c2, c3⟩, ⟨z0, z1, z2, z3⟩, k0, k1, k2, k3⟩ := S.cells
  rw [rounds_succ]
  go_wp2_with fail
  have j0 := Tryz.at0 (.int .i64 l0) (.int .i64 l1) (.int .i64 l2) (.int .i64 l3)
  have j1 := Tryz.at1 (.int .i64 l0) (.int .i64 l1) (.int .i64 l2) (.int .i64 l3)
  have j2 := Tryz.at2 (.int .i64 l0) (.int .i64 l1) (.int .i64 l2) (.int .i64 l3)
  have j3 := Tryz.at3 (.int .i64 l0) (.int .i64 l1) (.int .i64 l2) (.int .i64 l3)
  have HJ : Hid (joinE A t q0 q1 q2 q3 = if l0 < 44 ∧ l1 = l0 ∧ l2 = l0 ∧ l3 = l0 then (0, l0) else (8, 0)) := hJE.out.trans (by rw [HL0.out, HL1.out, HL2.out, HL3.out]; exact joinL4 _ _ _ _)
  clear hJE
  refine wp_loop_rounds 5 ?_
  rw [rounds_succ]
  by_cases hlt : l0 < 44
  · have hlt' : ¬ (44 : Int) ≤ l0 := by omega
    by_cases e1 : l1 = l0
    · subst e1
      by_cases e2 : l2 = l1
      · subst e2
        by_cases e3 : l3 = l2
        · subst e3
          have HJ2 : Hid (joinE A t q0 q1 q2 q3 = (0, l3)) := HJ.out.trans (if_pos ⟨hlt, rfl, rfl, rfl⟩)
          have hlow := hlo l3 HL0.out
          go_wp2_with fail
          rw [rounds_succ]
          go_wp2_with fail
          rw [rounds_succ]
          go_wp2_with fail
          rw [rounds_succ]
          go_wp2_with fail
          rw [rounds_succ]
          go_wp2_with fail
          refine (HB.out _ l3 hlow.1 hlt (h.below S.bel)).mono ?_
          rintro e w5 ⟨rfl, h5⟩
          go_wp2_with fail
          rw [← HP.out]
          unfold JoinPOut Ar.joinP
          rw [HJ2.out, if_pos rfl]
          exact ⟨rfl, led_join (fun k hk => .inl hk) (HA.out.below S.bel) (Apart.of S.bel) h5⟩
        · have e3' : (l3 != l2) = true := by simpa using e3
          go_wp2_with fail
          rw [rounds_succ]
          go_wp2_with fail
          rw [rounds_succ]
          go_wp2_with fail
          rw [rounds_succ]
          go_wp2_with fail
          rw [← HP.out]
          exact JoinPOut.bad HA.out (by decide) (HJ.out.trans (if_neg (by omega))) rfl S.bel
      · have e2' : (l2 != l1) = true := by simpa using e2
        go_wp2_with fail
        rw [rounds_succ]
        go_wp2_with fail
        rw [rounds_succ]
        go_wp2_with fail
        rw [← HP.out]
        exact JoinPOut.bad HA.out (by decide) (HJ.out.trans (if_neg (by omega))) rfl S.bel
    · have e1' : (l1 != l0) = true := by simpa using e1
      go_wp2_with fail
      rw [rounds_succ]
      go_wp2_with fail
      rw [← HP.out]
      exact JoinPOut.bad HA.out (by decide) (HJ.out.trans (if_neg (by omega))) rfl S.bel
  · have hlt' : (44 : Int) ≤ l0 := by omega
    go_wp2_with fail
    rw [← HP.out]
    exact JoinPOut.bad HA.out (by decide) (HJ.out.trans (if_neg (by omega))) rfl S.bel
end Go.Proofs.YtofbcngcblleaaaGreat.A
