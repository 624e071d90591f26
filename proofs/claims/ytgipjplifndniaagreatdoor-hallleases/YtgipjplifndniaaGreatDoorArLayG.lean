/- lay's walk where a number is free. -/
import Derived.Test.YtgipjplifndniaaGreatDoorArUp
import Derived.Test.YtgipjplifndniaaGreatDoorArPop
namespace Go.Proofs.YtgipjplifndniaaGreatDoor.A
open Go.RowKit Go.Maps

theorem IntRow.shape0 {w : World} {v : Value} {l : List Int} (h : IntRow w v l) (h0 : 0 < l.length) : ∃ g c, v = .slice (some ⟨g, 0, none⟩) l.length c ∧ l.length ≤ c := by
  rcases h.2 with ⟨_, h2⟩ | ⟨g, cap, cur, h1, _, _, h4, _⟩
  · omega
  · exact ⟨g, cap, h1, h4⟩
theorem heap_first {L : List Int} {m : Nat} (h : Heap L (m + 1)) (hl : L.length = m + 1) : HeapEx (swapL L 0 m) m 0 := by
  refine ⟨fun k h1 h2 h3 => ?_, fun k _ _ _ h4 => by omega⟩
  rw [swap_get L 0 m k (by omega), swap_get L 0 m ((k - 1) / 2) (by omega), if_neg (by omega), if_neg h3, if_neg (by omega), if_neg (by omega)]
  exact h k h1 (by omega)
theorem last_perm {L : List Int} {m : Nat} (hl : L.length = m + 1) : (L[m]! :: L.take m).Perm L := by
  have h1 : L = L.take m ++ [L[m]!] := by
    have h2 : L.take (m + 1) = L := List.take_of_length_le (by omega)
    have h3 : m < L.length := by omega
    conv => lhs; rw [← h2]
    rw [List.take_add_one, List.getElem?_eq_getElem h3, getElem!_pos L m h3]
    rfl
  have h4 : (L.take m ++ [L[m]!]).Perm ([L[m]!] ++ L.take m) := List.perm_append_comm
  conv => rhs; rw [h1]
  exact h4.symm

def PopOut (w : World) (b n m g c : Nat) (F : Nat → Prop) (A : Ar) (r : Raw) (D : DataW Unit) (w' : World) : Prop :=
  ∃ L' : List Int, ArRaw w' b F n { A with free := L' } { r with vfr := .slice (some ⟨g, 0, none⟩) m c } D ∧ (A.free[0]! :: L').Perm A.free ∧ L'.length = m ∧ Heap L' m ∧ Apart F w w'

set_option maxRecDepth 20000 in
set_option maxHeartbeats 4000000 in
theorem pop_any (b n m g c : Nat) (F : Nat → Prop) (A : Ar) (r : Raw) (D : DataW Unit) (w : World) (h : ArRaw w b F n A r D) (hv : r.vfr = .slice (some ⟨g, 0, none⟩) (m + 1) c) (hm : A.free.length = m + 1) (hc : m + 1 ≤ c) (hb : m < 900000) (hH : Heap A.free (m + 1)) :
    Calls Tryz.prog 123 #[.iface 189 (.pointer (some ⟨b, 3, none⟩))] w fun e w' => e = .returned (.iface 3 (.int .i64 A.free[0]!)) ∧ PopOut w b n m g c F A r D w' := by
  have hv1 : r.vfr = .slice (some ⟨g, 0, none⟩) A.free.length c := by rw [hm]; exact hv
  have hml := Tryz.mLen' ⟨b, 3, none⟩ _ w (free_cell h hv1)
  have hms := Tryz.mSwap' ⟨b, 3, none⟩ _ w (free_cell h hv1)
  have hsw := lswap_any b n g c 0 m F A r D w h hv1 (by omega) (by omega)
  rw [hm] at hml hms hsw
  have hlen := len_any (some ⟨g, 0, none⟩) (m + 1) c w
  have hw1 : IntKind.i64.wrap (((m + 1 : Nat) : Int) - 1) = (m : Int) := by rw [IntKind.wrap_i64]; omega
  have hmp := fun W => Tryz.mPop ⟨b, 3, none⟩ W
  have HSL : Hid ((swapL A.free 0 m).length = m + 1 ∧ HeapEx (swapL A.free 0 m) m 0 ∧ (swapL A.free 0 m)[m]! = A.free[0]! ∧ (swapL A.free 0 m).Perm A.free) := by
    refine ⟨by rw [swap_len, hm], heap_first hH hm, ?_, swap_mem _ _ _ (by omega) (by omega)⟩
    rw [swap_get _ _ _ _ (by omega), if_pos rfl]
  have HV : Hid (r.vfr = .slice (some ⟨g, 0, none⟩) (m + 1) c) := hv
  obtain ⟨x0, hx0⟩ : ∃ x, x = A.free[0]! := ⟨_, rfl⟩
  rw [← hx0] at HSL ⊢
  have HX0 : Hid (x0 = A.free[0]!) := hx0
  clear hH h hv1 hv hx0
  go_enter Tryz.func123, Tryz.ntmps123
  go_wp2_with fail
  refine hlen.mono ?_
  rintro e w1 ⟨rfl, hw⟩
  have hw' := hw.symm
  subst hw'
  clear hlen hw hml
  go_wp2_with fail
  refine hsw.mono ?_
  rintro e w2 ⟨rfl, H2, P2⟩
  have hdn := down_any b n m g c F { A with free := swapL A.free 0 m } r D w2 H2 (by show r.vfr = .slice (some ⟨g, 0, none⟩) (swapL A.free 0 m).length c; rw [HSL.out.1]; exact HV.out) (by show m ≤ (swapL A.free 0 m).length; rw [HSL.out.1]; omega) (by show (swapL A.free 0 m).length < 1000000; rw [HSL.out.1]; omega) HSL.out.2.1
  clear hsw hms H2
  go_wp2_with fail
  refine hdn.mono ?_
  rintro e w3 ⟨bb, L3, rfl, H3, hp3, hh3, hs3, P3⟩
  have hl3 : L3.length = m + 1 := by rw [hp3.length_eq]; exact HSL.out.1
  have hpo := lpop_any b n g c m F { A with free := L3 } r D w3 H3 HV.out hl3 (by omega) hc
  have HE : Hid (L3[m]! = x0) := (hs3 m (Nat.le_refl _)).trans HSL.out.2.2.1
  have HPP : Hid (L3.Perm A.free ∧ Heap L3 m ∧ L3.length = m + 1 ∧ Apart F w w3) := ⟨hp3.trans HSL.out.2.2.2, hh3, hl3, P2.trans P3 fun k hk => Or.inl hk⟩
  rw [show ({ A with free := L3 } : Ar).free = L3 from rfl, HE.out] at hpo
  have hmp' := hmp w3
  clear hdn hs3 hh3 hp3 H3 hl3 hmp
  go_wp2_with fail
  refine hpo.mono ?_
  rintro e w4 ⟨rfl, H4, P4⟩
  have HR : Hid (PopOut w b n m g c F A r D w4) := by
    refine ⟨L3.take m, H4, ?_, by rw [List.length_take, HPP.out.2.2.1]; omega, fun k h1 h2 => ?_, HPP.out.2.2.2.trans P4 fun k hk => Or.inl hk⟩
    · rw [← HX0.out, ← HE.out]
      exact (last_perm HPP.out.2.2.1).trans HPP.out.1
    · have h3 := HPP.out.2.1 k h1 h2
      have e1 : ∀ j, j < m → (L3.take m)[j]! = L3[j]! := fun j hj => by
        have := HPP.out.2.2.1
        rw [getElem!_pos _ j (by rw [List.length_take]; omega), getElem!_pos L3 j (by omega), List.getElem_take]
      rw [e1 k h2, e1 ((k - 1) / 2) (by omega)]
      exact h3
  clear hpo H4 P4
  go_wp2_with fail
  go_ret
  exact ⟨rfl, HR.out⟩
end Go.Proofs.YtgipjplifndniaaGreatDoor.A

namespace Go.Proofs.YtgipjplifndniaaGreatDoor.A
open Go.RowKit Go.Maps Go.ChangeMaps Go.WideElems

theorem NumIs.fill {D : DataW Unit} {l : List Th} (h : NumIs D l) (hD : IsMap D) {i : Nat} {x : Th} (hi : l[i]? = some noTh) (hx : x.key.Fit) (h0 : spotF l x.key = none) : NumIs (D.put (kl x.key) (.lit (.int .i64 ((i : Int) + 2)))) (l.set i x) := by
  intro q hq hqk
  obtain ⟨h1, h2⟩ := h q hq hqk
  have hil : i < l.length := (List.getElem?_eq_some_iff.1 hi).1
  have hget : ∀ j, (l.set i x)[j]? = if i = j then some x else l[j]? := fun j => by
    rw [List.getElem?_set]
    by_cases e : i = j
    · subst e; simp [hil]
    · simp [e]
  by_cases e : x.key = q
  · subst e
    have hs : spotF (l.set i x) x.key = some i := by
      unfold spotF
      rw [List.findIdx?_eq_some_iff_getElem]
      refine ⟨by rw [List.length_set]; exact hil, by simp, fun j hj => ?_⟩
      have hjl : j < l.length := by omega
      rw [List.getElem_set_ne (by omega)]
      have := spot_none h0 l[j] (List.getElem_mem hjl)
      simpa using this
    unfold numF
    rw [hs]
    exact ⟨has_put_same hD (kl_key _) _, atKey_put_same hD (kl_key _) _ _⟩
  · have hne : kl q ≠ kl x.key := fun k => e (kl_inj hq hx k).symm
    have hno : noTh.key ≠ q := fun e => hqk (by rw [← e]; rfl)
    have : spotF (l.set i x) q = spotF l q := by
      unfold spotF
      clear h1 h2 hget h0 h
      induction l generalizing i with
      | nil => simp at hi
      | cons y l ih =>
        cases i with
        | zero =>
          simp at hi; subst hi
          rw [List.set_cons_zero, List.findIdx?_cons, List.findIdx?_cons]
          rw [decide_eq_false hno, decide_eq_false e]
        | succ i =>
          rw [List.set_cons_succ, List.findIdx?_cons, List.findIdx?_cons, ih (by simpa using hi) (by simpa using hil)]
    unfold numF at *
    rw [this, has_put_other hne, atKey_put_other hne]
    exact ⟨h1, h2⟩

theorem ArRaw.relay {w w1 W' : World} {b n : Nat} {F : Nat → Prop} {A : Ar} {r : Raw} {D : DataW Unit} (h : ArRaw w b F n A r D) {g c i : Nat} {x : Th} (hv : r.vth = .slice (some ⟨g, 0, none⟩) A.ths.length c) (hi : A.ths[i]? = some noTh) (hf : x.key.Fit) (h0 : spotF A.ths x.key = none)
    (hm : w1.ownsMap Tryz.prog 97 (plainElem Tryz.prog 3) r.mp (n + 1) (D.put (kl x.key) (.lit (.int .i64 ((i : Int) + 2))))) (hWs : W'.heap.size = w.heap.size) (hWh : ∀ k, k ≠ g → W'.heap[k]? = w.heap[k]?) (hWt : ThRow W' 0 r.vth (A.ths.set i x)) (hWa : Apart F w W') (ht : W'.drew.mapTurned w1 r.mp) :
    ArRaw w1 b F (n + 1) { A with ths := A.ths.set i x } r (D.put (kl x.key) (.lit (.int .i64 ((i : Int) + 2)))) ∧ Apart F w w1 := by
  have hg : r.vth.ownBlock = some g := by rw [hv]; rfl
  have hgb : b ≠ g := fun e => h.vb (by rw [hg, e])
  have hs : w1.heap.size = w.heap.size := (size_of_turned ht).trans hWs
  have hgr := grown_of_turned ht
  have hlk : ∀ k, F k → k ≠ r.mp → k ≠ g → w1.heap[k]? = w.heap[k]? := fun k hk h1 h2 =>
    (hgr.block k (by show k < W'.heap.size; rw [hWs]; exact h.flt k hk) (fun e => h1 (Option.some.inj e))).trans (hWh k h2)
  have hD : IsMap D := World.ownsMap.isMap h.map
  refine ⟨⟨h.raw.go (hlk b h.fb h.mb.symm hgb), h.room, ?_, hm, h.num.fill hD hi hf h0, ?_, h.lim, h.cnt, fun t ht => ?_, h.apf, h.apt, h.fb, h.fm, h.fv, h.ff, h.ft, fun k hk => by rw [hs]; exact h.flt k hk⟩, ?_⟩
  · exact row_other hWt fun k hk => hgr.block k (by show k < W'.heap.size; rw [hWs]; exact h.flt k (h.fv k hk)) (fun e => h.vm (by rw [hk, e]))
  · exact row_other h.free fun k hk => hlk k (h.ff k hk) (fun e => h.fm' (by rw [← e]; exact hk)) (fun e => h.vf hg (by rw [hk, e]))
  · exact row_other (h.fresh t ht) fun k hk => hlk k (h.ft t ht k hk) (fun e => h.tm ht (by rw [← e]; exact hk)) (fun e => h.vt ht hg (by rw [hk, e]))
  · exact hWa.drew.trans (Apart.grown (F := F) hgr fun k hk => by cases hk; exact h.fm) fun k hk => Or.inl hk
end Go.Proofs.YtgipjplifndniaaGreatDoor.A

namespace Go.Proofs.YtgipjplifndniaaGreatDoor.A
open Go.RowKit Go.Maps Go.ChangeMaps Go.WideElems

set_option maxRecDepth 20000 in
set_option maxHeartbeats 1000000 in
theorem lay_free (b n m i : Nat) (F : Nat → Prop) (A : Ar) (r : Raw) (D : DataW Unit) (x : Th) (w : World) (h : ArRaw w b F n A r D) (hm : A.free.length = m + 1) (hb : m < 900000) (hH : Heap A.free (m + 1)) (hx : x.key.Fit) (h0 : spotF A.ths x.key = none) (hi : A.free[0]! = (i : Int) + 2) (hit : A.ths[i]? = some noTh) (hn : n < 1000000000) (hlen : A.ths.length < 1000000) :
    Calls Tryz.prog 83 #[.pointer (some ⟨b, 0, none⟩), x.val] w fun e w' => e = .returned (.int .i64 ((i : Int) + 2)) ∧ (∃ (L' : List Int) (r' : Raw) (D' : DataW Unit), ArRaw w' b F (n + 1) { A with ths := A.ths.set i x, free := L' } r' D' ∧ (A.free[0]! :: L').Perm A.free ∧ L'.length = m ∧ Heap L' m) ∧ Apart F w w' := by
  have hil : i < A.ths.length := (List.getElem?_eq_some_iff.1 hit).1
  obtain ⟨g, c, hv⟩ := h.ths.shape' (by omega)
  obtain ⟨fg, fc, hfr, hfc⟩ := h.free.shape0 (by omega)
  rw [hm] at hfr hfc
  have c1 := h.raw.at 1 (by omega)
  rw [Raw.c1, hv] at c1
  have c3 := h.raw.at 3 (by omega)
  rw [Raw.c3, hfr] at c3
  have hblt := h.raw.lt
  have hbx : Below w.heap.size w (w.alloc (.cells #[.int .i64 x.k, .int .i64 x.p0, .int .i64 x.p1, .int .i64 x.p2, .int .i64 x.p3, .int .i64 x.lv, .int .i64 x.va, .int .u64 x.mask] 100)) := (Below.refl _ _).alloc (Nat.le_refl _) _
  have hX : (w.alloc (.cells #[.int .i64 x.k, .int .i64 x.p0, .int .i64 x.p1, .int .i64 x.p2, .int .i64 x.p3, .int .i64 x.lv, .int .i64 x.va, .int .u64 x.mask] 100)).heap[w.heap.size]? = some (.cells #[.int .i64 x.k, .int .i64 x.p0, .int .i64 x.p1, .int .i64 x.p2, .int .i64 x.p3, .int .i64 x.lv, .int .i64 x.va, .int .u64 x.mask] 100 (0, 0)) := heap_alloc_new w _
  have hpop := pop_any b n m fg fc F A r D _ (h.below hbx) hfr hm hfc hb hH
  rw [hi] at hpop
  have HX : Hid _ := hX
  have HBX : Hid _ := hbx
  have hta : ∀ w, (Instr.typeAssert (.iface 3 (.int .i64 ((i : Int) + 2))) 20 3 false).run Tryz.prog w = .ok (.int .i64 ((i : Int) + 2)) w := fun _ => by kernel_rfl
  have hwf : IntKind.i64.wrap (2 + (A.ths.length : Int)) = 2 + (A.ths.length : Int) := by rw [IntKind.wrap_i64]; omega
  clear hX hbx
  unfold Th.val
  go_enter Tryz.func83, Tryz.ntmps83
  go_wp2_with fail
  refine hpop.mono ?_
  rintro e w1 ⟨rfl, L', H1, hp1, hl1, hh1, P1⟩
  have hnF : ¬ F w.heap.size := fun e => by have := h.flt _ e; omega
  have hX1 : w1.heap[w.heap.size]? = some (.cells #[.int .i64 x.k, .int .i64 x.p0, .int .i64 x.p1, .int .i64 x.p2, .int .i64 x.p3, .int .i64 x.lv, .int .i64 x.va, .int .u64 x.mask] 100 (0, 0)) := (P1.block w.heap.size (by simp) hnF).trans HX.out
  obtain ⟨e0, e1, e2, e3, e4, e5, e6, e7⟩ := cells8 hX1
  have hth := H1.ths
  rw [show ({ r with vfr := .slice (some ⟨fg, 0, none⟩) m fc } : Raw).vth = .slice (some ⟨g, 0, none⟩) A.ths.length c from hv] at hth
  obtain ⟨d0, d1, d2, d3, d4, d5, d6, d7⟩ := ThRow.cells (l := A.ths) hth hit
  have z0 := World.ownsRow.frozenAt hth (i * 8)
  have z1 := World.ownsRow.frozenAt hth (i * 8 + 1)
  have z2 := World.ownsRow.frozenAt hth (i * 8 + 2)
  have z3 := World.ownsRow.frozenAt hth (i * 8 + 3)
  have z4 := World.ownsRow.frozenAt hth (i * 8 + 4)
  have z5 := World.ownsRow.frozenAt hth (i * 8 + 5)
  have z6 := World.ownsRow.frozenAt hth (i * 8 + 6)
  have z7 := World.ownsRow.frozenAt hth (i * 8 + 7)
  have q1 := H1.raw.at 1 (by omega)
  rw [Raw.c1, show ({ r with vfr := .slice (some ⟨fg, 0, none⟩) m fc } : Raw).vth = .slice (some ⟨g, 0, none⟩) A.ths.length c from hv] at q1
  have k0 : (0 : Int) ≤ (i : Int) := by omega
  have k1 : (i : Int) < (A.ths.length : Int) := by omega
  have hw4 : IntKind.i64.wrap ((i : Int) + 2 - 2) = (i : Int) := by rw [IntKind.wrap_i64]; omega
  clear hpop c1 c3 hX1 hth
  have HC : Hid (w1.heap[w.heap.size]? = some (.cells #[.int .i64 x.k, .int .i64 x.p0, .int .i64 x.p1, .int .i64 x.p2, .int .i64 x.p3, .int .i64 x.lv, .int .i64 x.va, .int .u64 x.mask] 100 (0, 0))) := (P1.block w.heap.size (by simp) hnF).trans HX.out
  go_wp2_with fail
  go_cut [] from 24 to 31 (fun wc => wc = (set8At w1 g (i * 8) x).drew)
  case first =>
    go_region
    all_goals
      go_wp2_with fail
      go_meet
      case rel => exact rfl
  case rest =>
  have hg : r.vth.ownBlock = some g := by rw [hv]; rfl
  have hFg : F g := h.fv g hg
  obtain ⟨W', hW'⟩ : ∃ W', W' = set8At w1 g (i * 8) x := ⟨_, rfl⟩
  rw [← hW'] at hcut
  have hWs' : W'.heap.size = w1.heap.size := by rw [hW', set8At_size]
  have hWh' : ∀ k, k ≠ g → W'.heap[k]? = w1.heap[k]? := fun k hk => by rw [hW']; exact set8At_heap hk
  have hWa' : Apart F w1 W' := by rw [hW']; exact set8At_apart w1 hFg
  have hWt' : ThRow W' 0 r.vth (A.ths.set i x) := by
    have h1 := H1.ths
    rw [show ({ r with vfr := .slice (some ⟨fg, 0, none⟩) m fc } : Raw).vth = .slice (some ⟨g, 0, none⟩) A.ths.length c from hv] at h1
    rw [hW', hv]
    exact ThRow.set8 (l := A.ths) h1 hil x
  clear hW'
  subst hcut
  have hWs : W'.drew.heap.size = w1.heap.size := hWs'
  have hWh : ∀ k, k ≠ g → W'.drew.heap[k]? = w1.heap[k]? := hWh'
  have hWa : Apart F w1 W'.drew := hWa'.drew
  have hWt : ThRow W'.drew 0 r.vth (A.ths.set i x) := hWt'
  clear hWs' hWh' hWa' hWt'
  generalize W'.drew = wc at *
  clear d0 d1 d2 d3 d4 d5 d6 d7 z0 z1 z2 z3 z4 z5 z6 z7 e0 e1 e2 e3 e4 e5 e6 e7 q1
  have hgm : r.mp ≠ g := fun e => h.vm (by rw [hg, e])
  have hgX : w.heap.size ≠ g := fun e => hnF (by rw [e]; exact hFg)
  have hgb : b ≠ g := fun e => h.vb (by rw [hg, e])
  obtain ⟨e0, e1, e2, e3, e4, e5, e6, e7⟩ := cells8 ((hWh _ hgX).trans HC.out)
  have R2 := H1.raw.go (hWh b hgb)
  have c2 := R2.at 2 (by omega)
  rw [Raw.c2] at c2
  simp only at c2
  have hM : wc.ownsMap Tryz.prog 97 (plainElem Tryz.prog 3) r.mp n D := map_other H1.map (hWh _ hgm)
  obtain ⟨w6, hrun, hown6, hturn⟩ := World.ownsMap.store (w := wc.drew) hM thLaw Tryz.underlying72 (show n < maxLen by unfold maxLen; omega) (key_ky hx) (plainElem_int (H := Unit) Tryz.underlying3 (show (Lit.int .i64 ((i : Int) + 2)).wf = true from wf_of_fits (by unfold Fits; omega)))
  unfold Ky.val Th.key at hrun
  simp only at hrun
  have HE := ArRaw.relay H1 (g := g) (c := c) (i := i) (x := x) hv hit hx h0 hown6 hWs hWh hWt hWa hturn
  have HFIN : Hid ((∃ (L' : List Int) (r' : Raw) (D' : DataW Unit), ArRaw w6 b F (n + 1) { A with ths := A.ths.set i x, free := L' } r' D' ∧ (A.free[0]! :: L').Perm A.free ∧ L'.length = m ∧ Heap L' m) ∧ Apart F w w6) := ⟨⟨L', _, _, HE.1, hp1, hl1, hh1⟩, ((Apart.of (F := F) HBX.out).trans P1 fun k hk => Or.inl hk).trans HE.2 fun k hk => Or.inl hk⟩
  clear HE hown6 hturn hM R2 hWs hWh hWt hWa H1 P1 hp1 hl1 hh1
  go_wp2_with fail
  go_region
  all_goals
    go_wp2_with fail
    go_ret
    exact ⟨rfl, HFIN.out⟩
end Go.Proofs.YtgipjplifndniaaGreatDoor.A
