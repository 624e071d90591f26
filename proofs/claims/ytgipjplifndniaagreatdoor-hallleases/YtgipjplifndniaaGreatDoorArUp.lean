/- heap.Push onto any heap of free numbers. -/
import Derived.Test.YtgipjplifndniaaGreatDoorArPop
namespace Go.Proofs.YtgipjplifndniaaGreatDoor.A
open Go.RowKit Go.Maps

theorem Tryz.mPop (a : Addr) (w : World) : (method 379 189 (.pointer (some a)) "Pop").run Tryz.prog w = .ok (217, .pointer (some a)) w := by kernel_rfl
theorem Tryz.mSwap (a : Addr) (w : World) : (method 379 189 (.pointer (some a)) "Swap").run Tryz.prog w = (do let v ← loadVar 74 a; pure (216, v) : Sem (FuncId × Value)).run Tryz.prog w := by kernel_rfl
theorem Tryz.mSwap' (a : Addr) (v : Value) (w : World) (h : w.cell? a = some v) : (method 379 189 (.pointer (some a)) "Swap").run Tryz.prog w = .ok (216, v) w := by
  rw [Tryz.mSwap]
  have := Tryz.ldFree a v w h
  simp [go_sem, h]
theorem IntRow.cutTo {w : World} {g n c : Nat} {l : List Int} (h : IntRow w (.slice (some ⟨g, 0, none⟩) n c) l) (m : Nat) (hm : m ≤ l.length) : IntRow w (.slice (some ⟨g, 0, none⟩) m c) (l.take m) := by
  rcases h.2 with ⟨h1, _⟩ | ⟨g', cap, cur, hv, hB, hg, h1, h2, h3, h4⟩
  · simp at h1
  · simp only [Value.slice.injEq, Option.some.injEq, Addr.mk.injEq] at hv
    obtain ⟨⟨rfl, _, _⟩, _, rfl⟩ := hv
    have hl : (l.take m).length = m := by rw [List.length_take]; omega
    refine ⟨by simp, Or.inr ⟨g, c, cur, by rw [hl], hB, hg, by rw [hl]; omega, h2, h3, ?_⟩⟩
    rw [hl, List.map_take, ← h4, List.take_take]
    congr 1
    omega

set_option maxRecDepth 20000 in
set_option maxHeartbeats 2000000 in
theorem lpop_any (b n g c m : Nat) (F : Nat → Prop) (A : Ar) (r : Raw) (D : DataW Unit) (w : World) (h : ArRaw w b F n A r D) (hv : r.vfr = .slice (some ⟨g, 0, none⟩) (m + 1) c) (hm : A.free.length = m + 1) (hb : m < 10000000) (hc : m + 1 ≤ c) :
    Calls Tryz.prog 217 #[.pointer (some ⟨b, 3, none⟩)] w fun e w' => e = .returned (.iface 3 (.int .i64 A.free[m]!)) ∧ ArRaw w' b F n { A with free := A.free.take m } { r with vfr := .slice (some ⟨g, 0, none⟩) m c } D ∧ Apart F w w' := by
  have hrow := h.free
  rw [hv] at hrow
  have c3 := h.raw.at 3 (by omega)
  rw [Raw.c3, hv] at c3
  have z3 := h.raw.frozen 3
  have cm := hrow.get m (by omega)
  have hg : r.vfr.ownBlock = some g := by rw [hv]; rfl
  have H1 := h.setFree (F' := F) (w1 := w) (v := .slice (some ⟨g, 0, none⟩) m c) (hrow.cutTo m (by omega)) (fun _ _ _ => rfl) (fun k hk => Or.inl (by rw [hg]; exact hk)) (fun _ h => h) (fun k hk => h.ff k (by rw [hg]; exact hk)) h.flt
  have hF := h.fb
  have k0 : (0 : Int) ≤ (m : Int) := by omega
  have k1 : (m : Int) < ((m + 1 : Nat) : Int) := by omega
  have k2 : (m : Int) ≤ (c : Int) := by omega
  have hw1 : IntKind.i64.wrap (((m + 1 : Nat) : Int) - 1) = (m : Int) := by rw [IntKind.wrap_i64]; omega
  generalize A.free[m]! = x at *
  clear hrow h hg hv hm
  go_enter Tryz.func217, Tryz.ntmps217
  go_wp2_with fail
  go_ret
  exact ⟨rfl, H1, Apart.set _ _ hF⟩

theorem less_raw (b n g c i j : Nat) (F : Nat → Prop) (A : Ar) (r : Raw) (D : DataW Unit) (w : World) (h : ArRaw w b F n A r D) (hv : r.vfr = .slice (some ⟨g, 0, none⟩) A.free.length c) (hi : i < A.free.length) (hj : j < A.free.length) :
    Calls Tryz.prog 215 #[.slice (some ⟨g, 0, none⟩) A.free.length c, .int .i64 i, .int .i64 j] w fun e w' => e = .returned (.bool (decide (A.free[i]! < A.free[j]!))) ∧ ArRaw w' b F n A r D ∧ Apart F w w' := by
  have hrow := h.free
  rw [hv] at hrow
  refine (less_any g A.free.length c i j A.free w hrow hi hj).mono ?_
  rintro e w' ⟨rfl, q, rfl⟩
  exact ⟨rfl, h.drewN q, (Apart.refl F w).drewN q⟩
theorem free_cell {w : World} {b n g c : Nat} {F : Nat → Prop} {A : Ar} {r : Raw} {D : DataW Unit} (h : ArRaw w b F n A r D) (hv : r.vfr = .slice (some ⟨g, 0, none⟩) A.free.length c) : w.cell? ⟨b, 3, none⟩ = some (.slice (some ⟨g, 0, none⟩) A.free.length c) := by
  have c3 := h.raw.at 3 (by omega)
  rw [Raw.c3, hv] at c3
  exact c3

def DownSt (w : World) (b n nn : Nat) (F : Nat → Prop) (A : Ar) (r : Raw) (D : DataW Unit) (L : List Int) (i : Nat) (w' : World) : Prop :=
  ∃ L' : List Int, ArRaw w' b F n { A with free := L' } r D ∧ L'.Perm L ∧ HeapEx L' nn i ∧ (∀ k, nn ≤ k → L'[k]! = L[k]!) ∧ Apart F w w'

def DownOut (w : World) (b n nn : Nat) (F : Nat → Prop) (A : Ar) (r : Raw) (D : DataW Unit) (e : Ending) (w' : World) : Prop :=
  ∃ (bb : Bool) (L' : List Int), e = .returned (.bool bb) ∧ ArRaw w' b F n { A with free := L' } r D ∧ L'.Perm A.free ∧ Heap L' nn ∧ (∀ k, nn ≤ k → L'[k]! = A.free[k]!) ∧ Apart F w w'

set_option maxRecDepth 20000 in
set_option maxHeartbeats 4000000 in
theorem down_any (b n nn g c : Nat) (F : Nat → Prop) (A : Ar) (r : Raw) (D : DataW Unit) (w : World) (h : ArRaw w b F n A r D) (hv : r.vfr = .slice (some ⟨g, 0, none⟩) A.free.length c) (hnn : nn ≤ A.free.length) (hb : A.free.length < 1000000) (hH : HeapEx A.free nn 0) :
    Calls Tryz.prog 144 #[.iface 189 (.pointer (some ⟨b, 3, none⟩)), .int .i64 0, .int .i64 nn] w fun e w' => DownOut w b n nn F A r D e w' := by
  have HST : Hid (DownSt w b n nn F A r D A.free 0 w) := ⟨A.free, h, List.Perm.refl _, hH, fun _ _ => rfl, Apart.refl _ _⟩
  have HV : Hid (r.vfr = .slice (some ⟨g, 0, none⟩) A.free.length c) := hv
  obtain ⟨ln, hln⟩ : ∃ x, x = A.free.length := ⟨_, rfl⟩
  rw [← hln] at hnn hb
  have HLN : Hid (ln = A.free.length) := hln
  clear h hv hH hln
  go_enter Tryz.func144, Tryz.ntmps144
  go_wp2_with fail
  go_loopg [7] ln (fun g' s7 wr => ∃ i : Nat, i + g' = ln ∧ s7 = .int .i64 i ∧ DownSt w b n nn F A r D A.free i wr)
  case atStart => exact ⟨0, by omega, rfl, HST.out⟩
  case round =>
    obtain ⟨i, hi', rfl, L', hr, hp, hx, hs, P⟩ := hrel
    have HI : Hid (i + gk = ln) := hi'
    have hin : i ≤ ln := by omega
    have hlen : L'.length = ln := by rw [hp.length_eq, HLN.out]
    have HX : Hid (HeapEx L' nn i ∧ L'.length = ln) := ⟨hx, hlen⟩
    have HP : Hid (L'.Perm A.free ∧ (∀ k, nn ≤ k → L'[k]! = A.free[k]!) ∧ Apart F w wr) := ⟨hp, hs, P⟩
    have HR : Hid (ArRaw wr b F n { A with free := L' } r D) := hr
    have hw1 : IntKind.i64.wrap (2 * (i : Int)) = ((2 * i : Nat) : Int) := by rw [IntKind.wrap_i64]; omega
    have hw2 : IntKind.i64.wrap (((2 * i : Nat) : Int) + 1) = ((2 * i + 1 : Nat) : Int) := by rw [IntKind.wrap_i64]; omega
    clear hi' hx hp hs P HST
    by_cases hc : nn ≤ 2 * i + 1
    · have hc1 : (nn : Int) ≤ ((2 * i + 1 : Nat) : Int) := by omega
      clear hr
      go_wp2_with fail
      go_ret
      exact ⟨_, L', rfl, HR.out, HP.out.1, fun k h1 h2 => HX.out.1.1 k h1 h2 (by omega), HP.out.2.1, HP.out.2.2⟩
    · have hc1 : ¬ (nn : Int) ≤ ((2 * i + 1 : Nat) : Int) := by omega
      have hc2 : ¬ ((2 * i + 1 : Nat) : Int) < 0 := by omega
      have hw3 : IntKind.i64.wrap (((2 * i + 1 : Nat) : Int) + 1) = ((2 * i + 2 : Nat) : Int) := by rw [IntKind.wrap_i64]; omega
      have hv' : r.vfr = .slice (some ⟨g, 0, none⟩) L'.length c := by rw [hlen, HLN.out]; exact HV.out
      have hml := fun W (hW : ArRaw W b F n { A with free := L' } r D) => Tryz.mLess' ⟨b, 3, none⟩ _ W (free_cell hW hv')
      have hms := fun W (hW : ArRaw W b F n { A with free := L' } r D) => Tryz.mSwap' ⟨b, 3, none⟩ _ W (free_cell hW hv')
      have hless := fun W (hW : ArRaw W b F n { A with free := L' } r D) (a a' : Nat) (ha : a < ln) (ha' : a' < ln) => less_raw b n g c a a' F { A with free := L' } r D W hW hv' (by show a < L'.length; omega) (by show a' < L'.length; omega)
      have hswp := fun W (hW : ArRaw W b F n { A with free := L' } r D) (a a' : Nat) (ha : a < ln) (ha' : a' < ln) => lswap_any b n g c a a' F { A with free := L' } r D W hW hv' (by show a < L'.length; omega) (by show a' < L'.length; omega)
      rw [show ({ A with free := L' } : Ar).free.length = ln from hlen] at hml hms hless hswp
      have HLE : Hid _ := hless
      have HSW : Hid _ := hswp
      clear hv' hless hswp
      by_cases hd : 2 * i + 2 < nn
      · have hd1 : ((2 * i + 2 : Nat) : Int) < (nn : Int) := by omega
        have hL2 := HLE.out wr hr (2 * i + 2) (2 * i + 1) (by omega) (by omega)
        rw [show ((2 * i + 2 : Nat) : Int) = 2 * (i : Int) + 1 + 1 by omega, show ((2 * i + 1 : Nat) : Int) = 2 * (i : Int) + 1 by omega] at hL2
        cases hdec : decide (L'[2 * i + 2]! < L'[2 * i + 1]!) with
        | true =>
          rw [show (({ A with free := L' } : Ar).free) = L' from rfl, hdec] at hL2
          have hd' := of_decide_eq_true hdec
          have HD : Hid (∀ k, 0 < k → k < nn → (k - 1) / 2 = i → L'[2 * i + 2]! ≤ L'[k]!) := fun k h1 h2 h3 => by
            rcases (show k = 2 * i + 1 ∨ k = 2 * i + 2 by omega) with rfl | rfl
            · omega
            · omega
          clear hdec hd'
          have hm0 := hml wr hr
          go_wp2_with fail
          refine hL2.mono ?_
          rintro e w5 ⟨rfl, hr5, P5⟩
          have HP5 : Hid (Apart F w w5) := HP.out.2.2.trans P5 fun k hk => Or.inl hk
          clear hL2 hm0 P5 hr
          have hL3 := HLE.out w5 hr5 (2 * i + 2) i (by omega) (by omega)
          rw [show ((2 * i + 2 : Nat) : Int) = 2 * (i : Int) + 1 + 1 by omega] at hL3
          have hmq := hml w5 hr5
          cases hdec3 : decide (L'[2 * i + 2]! < L'[i]!) with
          | false =>
            first | rw [hdec3] at hL3 | rw [show (({ A with free := L' } : Ar).free) = L' from rfl, hdec3] at hL3
            have hd3 := of_decide_eq_false hdec3
            have HD3 : Hid (L'[i]! ≤ L'[2 * i + 2]!) := by show L'[i]! ≤ L'[2 * i + 2]!; omega
            clear hdec3 hd3 hml hms
            go_wp2_with fail
            refine hL3.mono ?_
            rintro e w6 ⟨rfl, hr6, P6⟩
            have HR6 : Hid (ArRaw w6 b F n { A with free := L' } r D ∧ Apart F w w6) := ⟨hr6, (HP5.out).trans P6 fun k hk => Or.inl hk⟩
            clear hr6 P6 hL3 hmq
            go_wp2_with fail
            go_ret
            refine ⟨_, L', rfl, HR6.out.1, HP.out.1, fun k h1 h2 => ?_, HP.out.2.1, HR6.out.2⟩
            by_cases e : (k - 1) / 2 = i
            · rw [e]
              exact Int.le_trans HD3.out (HD.out k h1 h2 e)
            · exact HX.out.1.1 k h1 h2 e
          | true =>
            first | rw [hdec3] at hL3 | rw [show (({ A with free := L' } : Ar).free) = L' from rfl, hdec3] at hL3
            have hd3 := of_decide_eq_true hdec3
            have HD3 : Hid (HeapEx (swapL L' i (2 * i + 2)) nn (2 * i + 2)) := heap_down HX.out.1 (by rw [HX.out.2]; exact hnn) (by omega) (by omega) (by omega) hd3 HD.out
            have HS3 : Hid (∀ k, nn ≤ k → (swapL L' i (2 * i + 2))[k]! = A.free[k]!) := fun k hk => by
              rw [← HP.out.2.1 k hk]
              by_cases e : k < L'.length
              · rw [swap_get L' i (2 * i + 2) k e, if_neg (by omega), if_neg (by omega)]
              · rw [List.getElem!_eq_getElem?_getD, List.getElem!_eq_getElem?_getD, List.getElem?_eq_none (by rw [swap_len]; omega), List.getElem?_eq_none (by omega)]
            clear hdec3 hd3 hml
            go_wp2_with fail
            refine hL3.mono ?_
            rintro e w6 ⟨rfl, hr6, P6⟩
            have hms' := hms w6 hr6
            have hsw := HSW.out w6 hr6 i (2 * i + 2) (by omega) (by omega)
            rw [show ((2 * i + 2 : Nat) : Int) = 2 * (i : Int) + 1 + 1 by omega] at hsw
            have HP6 : Hid (Apart F w w6) := (HP5.out).trans P6 fun k hk => Or.inl hk
            clear hms hr6 P6 hL3 hmq
            go_wp2_with fail
            refine hsw.mono ?_
            rintro e w7 ⟨rfl, H7, P7⟩
            have HR7 : Hid (ArRaw w7 b F n { A with free := swapL L' i (2 * i + 2) } r D ∧ Apart F w w7) := ⟨H7, HP6.out.trans P7 fun k hk => Or.inl hk⟩
            clear H7 P7 hsw hms'
            go_wp2_with fail
            go_roundg (ln - (2 * i + 2))
            case measure => have := HI.out; omega
            case rel => exact ⟨2 * i + 2, by omega, by rw [show ((2 * i + 2 : Nat) : Int) = 2 * (i : Int) + 1 + 1 by omega], swapL L' i (2 * i + 2), HR7.out.1, (swap_mem L' i (2 * i + 2) (by omega) (by omega)).trans HP.out.1, HD3.out, HS3.out, HR7.out.2⟩

        | false =>
          rw [show (({ A with free := L' } : Ar).free) = L' from rfl, hdec] at hL2
          have hd' := of_decide_eq_false hdec
          have HD : Hid (∀ k, 0 < k → k < nn → (k - 1) / 2 = i → L'[2 * i + 1]! ≤ L'[k]!) := fun k h1 h2 h3 => by
            rcases (show k = 2 * i + 1 ∨ k = 2 * i + 2 by omega) with rfl | rfl
            · omega
            · omega
          clear hdec hd'
          have hm0 := hml wr hr
          go_wp2_with fail
          refine hL2.mono ?_
          rintro e w5 ⟨rfl, hr5, P5⟩
          have HP5 : Hid (Apart F w w5) := HP.out.2.2.trans P5 fun k hk => Or.inl hk
          clear hL2 hm0 P5 hr
          have hL3 := HLE.out w5 hr5 (2 * i + 1) i (by omega) (by omega)
          rw [show ((2 * i + 1 : Nat) : Int) = 2 * (i : Int) + 1 by omega] at hL3
          have hmq := hml w5 hr5
          cases hdec3 : decide (L'[2 * i + 1]! < L'[i]!) with
          | false =>
            first | rw [hdec3] at hL3 | rw [show (({ A with free := L' } : Ar).free) = L' from rfl, hdec3] at hL3
            have hd3 := of_decide_eq_false hdec3
            have HD3 : Hid (L'[i]! ≤ L'[2 * i + 1]!) := by show L'[i]! ≤ L'[2 * i + 1]!; omega
            clear hdec3 hd3 hml hms
            go_wp2_with fail
            refine hL3.mono ?_
            rintro e w6 ⟨rfl, hr6, P6⟩
            have HR6 : Hid (ArRaw w6 b F n { A with free := L' } r D ∧ Apart F w w6) := ⟨hr6, (HP5.out).trans P6 fun k hk => Or.inl hk⟩
            clear hr6 P6 hL3 hmq
            go_wp2_with fail
            go_ret
            refine ⟨_, L', rfl, HR6.out.1, HP.out.1, fun k h1 h2 => ?_, HP.out.2.1, HR6.out.2⟩
            by_cases e : (k - 1) / 2 = i
            · rw [e]
              exact Int.le_trans HD3.out (HD.out k h1 h2 e)
            · exact HX.out.1.1 k h1 h2 e
          | true =>
            first | rw [hdec3] at hL3 | rw [show (({ A with free := L' } : Ar).free) = L' from rfl, hdec3] at hL3
            have hd3 := of_decide_eq_true hdec3
            have HD3 : Hid (HeapEx (swapL L' i (2 * i + 1)) nn (2 * i + 1)) := heap_down HX.out.1 (by rw [HX.out.2]; exact hnn) (by omega) (by omega) (by omega) hd3 HD.out
            have HS3 : Hid (∀ k, nn ≤ k → (swapL L' i (2 * i + 1))[k]! = A.free[k]!) := fun k hk => by
              rw [← HP.out.2.1 k hk]
              by_cases e : k < L'.length
              · rw [swap_get L' i (2 * i + 1) k e, if_neg (by omega), if_neg (by omega)]
              · rw [List.getElem!_eq_getElem?_getD, List.getElem!_eq_getElem?_getD, List.getElem?_eq_none (by rw [swap_len]; omega), List.getElem?_eq_none (by omega)]
            clear hdec3 hd3 hml
            go_wp2_with fail
            refine hL3.mono ?_
            rintro e w6 ⟨rfl, hr6, P6⟩
            have hms' := hms w6 hr6
            have hsw := HSW.out w6 hr6 i (2 * i + 1) (by omega) (by omega)
            rw [show ((2 * i + 1 : Nat) : Int) = 2 * (i : Int) + 1 by omega] at hsw
            have HP6 : Hid (Apart F w w6) := (HP5.out).trans P6 fun k hk => Or.inl hk
            clear hms hr6 P6 hL3 hmq
            go_wp2_with fail
            refine hsw.mono ?_
            rintro e w7 ⟨rfl, H7, P7⟩
            have HR7 : Hid (ArRaw w7 b F n { A with free := swapL L' i (2 * i + 1) } r D ∧ Apart F w w7) := ⟨H7, HP6.out.trans P7 fun k hk => Or.inl hk⟩
            clear H7 P7 hsw hms'
            go_wp2_with fail
            go_roundg (ln - (2 * i + 1))
            case measure => have := HI.out; omega
            case rel => exact ⟨2 * i + 1, by omega, by rw [show ((2 * i + 1 : Nat) : Int) = 2 * (i : Int) + 1 by omega], swapL L' i (2 * i + 1), HR7.out.1, (swap_mem L' i (2 * i + 1) (by omega) (by omega)).trans HP.out.1, HD3.out, HS3.out, HR7.out.2⟩

      · have hd1 : ¬ ((2 * i + 2 : Nat) : Int) < (nn : Int) := by omega
        have HD : Hid (∀ k, 0 < k → k < nn → (k - 1) / 2 = i → L'[2 * i + 1]! ≤ L'[k]!) := fun k h1 h2 h3 => by
          obtain rfl : k = 2 * i + 1 := by omega
          exact Int.le_refl _
        have hL3 := HLE.out wr hr (2 * i + 1) i (by omega) (by omega)
        rw [show ((2 * i + 1 : Nat) : Int) = 2 * (i : Int) + 1 by omega] at hL3
        have hmq := hml wr hr
        cases hdec3 : decide (L'[2 * i + 1]! < L'[i]!) with
        | false =>
          first | rw [hdec3] at hL3 | rw [show (({ A with free := L' } : Ar).free) = L' from rfl, hdec3] at hL3
          have hd3 := of_decide_eq_false hdec3
          have HD3 : Hid (L'[i]! ≤ L'[2 * i + 1]!) := by show L'[i]! ≤ L'[2 * i + 1]!; omega
          clear hdec3 hd3 hml hms
          go_wp2_with fail
          refine hL3.mono ?_
          rintro e w6 ⟨rfl, hr6, P6⟩
          have HR6 : Hid (ArRaw w6 b F n { A with free := L' } r D ∧ Apart F w w6) := ⟨hr6, (HP.out.2.2).trans P6 fun k hk => Or.inl hk⟩
          clear hr6 P6 hL3 hmq
          go_wp2_with fail
          go_ret
          refine ⟨_, L', rfl, HR6.out.1, HP.out.1, fun k h1 h2 => ?_, HP.out.2.1, HR6.out.2⟩
          by_cases e : (k - 1) / 2 = i
          · rw [e]
            exact Int.le_trans HD3.out (HD.out k h1 h2 e)
          · exact HX.out.1.1 k h1 h2 e
        | true =>
          first | rw [hdec3] at hL3 | rw [show (({ A with free := L' } : Ar).free) = L' from rfl, hdec3] at hL3
          have hd3 := of_decide_eq_true hdec3
          have HD3 : Hid (HeapEx (swapL L' i (2 * i + 1)) nn (2 * i + 1)) := heap_down HX.out.1 (by rw [HX.out.2]; exact hnn) (by omega) (by omega) (by omega) hd3 HD.out
          have HS3 : Hid (∀ k, nn ≤ k → (swapL L' i (2 * i + 1))[k]! = A.free[k]!) := fun k hk => by
            rw [← HP.out.2.1 k hk]
            by_cases e : k < L'.length
            · rw [swap_get L' i (2 * i + 1) k e, if_neg (by omega), if_neg (by omega)]
            · rw [List.getElem!_eq_getElem?_getD, List.getElem!_eq_getElem?_getD, List.getElem?_eq_none (by rw [swap_len]; omega), List.getElem?_eq_none (by omega)]
          clear hdec3 hd3 hml
          go_wp2_with fail
          refine hL3.mono ?_
          rintro e w6 ⟨rfl, hr6, P6⟩
          have hms' := hms w6 hr6
          have hsw := HSW.out w6 hr6 i (2 * i + 1) (by omega) (by omega)
          rw [show ((2 * i + 1 : Nat) : Int) = 2 * (i : Int) + 1 by omega] at hsw
          have HP6 : Hid (Apart F w w6) := (HP.out.2.2).trans P6 fun k hk => Or.inl hk
          clear hms hr6 P6 hL3 hmq
          go_wp2_with fail
          refine hsw.mono ?_
          rintro e w7 ⟨rfl, H7, P7⟩
          have HR7 : Hid (ArRaw w7 b F n { A with free := swapL L' i (2 * i + 1) } r D ∧ Apart F w w7) := ⟨H7, HP6.out.trans P7 fun k hk => Or.inl hk⟩
          clear H7 P7 hsw hms'
          go_wp2_with fail
          go_roundg (ln - (2 * i + 1))
          case measure => have := HI.out; omega
          case rel => exact ⟨2 * i + 1, by omega, by rw [show ((2 * i + 1 : Nat) : Int) = 2 * (i : Int) + 1 by omega], swapL L' i (2 * i + 1), HR7.out.1, (swap_mem L' i (2 * i + 1) (by omega) (by omega)).trans HP.out.1, HD3.out, HS3.out, HR7.out.2⟩

end Go.Proofs.YtgipjplifndniaaGreatDoor.A

namespace Go.Proofs.YtgipjplifndniaaGreatDoor.A
open Go.RowKit Go.Maps

def UpOk (L : List Int) (n j : Nat) : Prop := (∀ k, 0 < k → k < n → k ≠ j → L[(k - 1) / 2]! ≤ L[k]!) ∧ (∀ k, 0 < k → k < n → (k - 1) / 2 = j → 0 < j → L[(j - 1) / 2]! ≤ L[k]!)
theorem heap_up {L : List Int} {n i j : Nat} (h : UpOk L n j) (hn : n ≤ L.length) (hj : j < n) (hj0 : 0 < j) (hp : (j - 1) / 2 = i) (hle : L[j]! < L[i]!) : UpOk (swapL L i j) n i := by
  have hi : i < j := by omega
  have g := fun k (hk : k < L.length) => swap_get L i j k hk
  refine ⟨fun k hk0 hk hne => ?_, fun k hk0 hk he hi0 => ?_⟩
  · rw [g k (by omega), g ((k - 1) / 2) (by omega)]
    by_cases e1 : k = j
    · subst e1
      rw [if_pos rfl, hp, if_neg (by omega), if_pos rfl]
      omega
    · rw [if_neg e1, if_neg hne]
      by_cases e2 : (k - 1) / 2 = j
      · rw [if_pos e2]
        have := h.2 k hk0 hk e2 hj0
        rw [hp] at this
        exact this
      · rw [if_neg e2]
        by_cases e3 : (k - 1) / 2 = i
        · rw [if_pos e3]
          have := h.1 k hk0 hk e1
          rw [e3] at this
          omega
        · rw [if_neg e3]
          exact h.1 k hk0 hk e1
  · have hpi := h.1 i hi0 (by omega) (by omega)
    rw [g k (by omega), g ((i - 1) / 2) (by omega), if_neg (show ¬ (i - 1) / 2 = j by omega), if_neg (show ¬ (i - 1) / 2 = i by omega)]
    by_cases e1 : k = j
    · rw [if_pos e1]; exact hpi
    · rw [if_neg e1, if_neg (show ¬ k = i by omega)]
      have := h.1 k hk0 hk e1
      rw [he] at this
      omega
theorem up_done {L : List Int} {n j : Nat} (h : UpOk L n j) (hd : j = 0 ∨ L[(j - 1) / 2]! ≤ L[j]!) : Heap L n := fun k h0 hk => by
  by_cases e : k = j
  · subst e
    rcases hd with h1 | h1
    · omega
    · exact h1
  · exact h.1 k h0 hk e

def UpSt (w : World) (b n : Nat) (F : Nat → Prop) (A : Ar) (r : Raw) (D : DataW Unit) (i : Nat) (w' : World) : Prop :=
  ∃ L' : List Int, ArRaw w' b F n { A with free := L' } r D ∧ L'.Perm A.free ∧ UpOk L' A.free.length i ∧ Apart F w w'
def UpOut (w : World) (b n : Nat) (F : Nat → Prop) (A : Ar) (r : Raw) (D : DataW Unit) (e : Ending) (w' : World) : Prop :=
  ∃ L' : List Int, e = .returned (.tuple #[]) ∧ ArRaw w' b F n { A with free := L' } r D ∧ L'.Perm A.free ∧ Heap L' A.free.length ∧ Apart F w w'

set_option maxRecDepth 20000 in
set_option maxHeartbeats 4000000 in
theorem ups_any (b n g c j : Nat) (F : Nat → Prop) (A : Ar) (r : Raw) (D : DataW Unit) (w : World) (h : ArRaw w b F n A r D) (hv : r.vfr = .slice (some ⟨g, 0, none⟩) A.free.length c) (hj : j < A.free.length) (hb : A.free.length < 1000000) (hH : UpOk A.free A.free.length j) :
    Calls Tryz.prog 143 #[.iface 189 (.pointer (some ⟨b, 3, none⟩)), .int .i64 j] w fun e w' => UpOut w b n F A r D e w' := by
  have HST : Hid (UpSt w b n F A r D j w) := ⟨A.free, h, List.Perm.refl _, hH, Apart.refl _ _⟩
  have HV : Hid (r.vfr = .slice (some ⟨g, 0, none⟩) A.free.length c) := hv
  obtain ⟨ln, hln⟩ : ∃ x, x = A.free.length := ⟨_, rfl⟩
  rw [← hln] at hb hj
  have HLN : Hid (ln = A.free.length) := hln
  clear h hv hH hln
  go_enter Tryz.func143, Tryz.ntmps143
  go_wp2_with fail
  go_loopg [1] j (fun g' s1 wr => s1 = .int .i64 g' ∧ g' ≤ j ∧ UpSt w b n F A r D g' wr)
  case atStart => exact ⟨rfl, Nat.le_refl _, HST.out⟩
  case round =>
    obtain ⟨rfl, hi', L', hr, hp, hx, P⟩ := hrel
    have hgl : gk < ln := by omega
    have hlen : L'.length = ln := by rw [hp.length_eq, HLN.out]
    rw [← HLN.out] at hx
    have HX : Hid (UpOk L' ln gk ∧ L'.length = ln) := ⟨hx, hlen⟩
    have HP : Hid (L'.Perm A.free ∧ Apart F w wr) := ⟨hp, P⟩
    have HR : Hid (ArRaw wr b F n { A with free := L' } r D) := hr
    clear hx hp P HST
    by_cases h0 : gk = 0
    · subst h0
      have hq : Int.tdiv ((0 : Int) - 1) 2 = 0 := by decide
      clear hr
      go_wp2_with fail
      go_end0
      exact ⟨L', rfl, HR.out, HP.out.1, by rw [← HLN.out]; exact up_done HX.out.1 (.inl rfl), HP.out.2⟩
    · obtain ⟨k, hk⟩ : ∃ k, k = (gk - 1) / 2 := ⟨_, rfl⟩
      have hkm : k < gk := by omega
      have hq : Int.tdiv ((gk : Int) - 1) 2 = (k : Int) := by
        rw [hk, show (gk : Int) - 1 = ((gk - 1 : Nat) : Int) by omega]
        rfl
      have hw1 : IntKind.i64.wrap ((gk : Int) - 1) = (gk : Int) - 1 := by rw [IntKind.wrap_i64]; omega
      have hw2 : IntKind.i64.wrap (k : Int) = (k : Int) := by rw [IntKind.wrap_i64]; omega
      have hne : ¬ (k : Int) = (gk : Int) := by omega
      have HK : Hid (k = (gk - 1) / 2) := hk
      clear hk h0
      have hv' : r.vfr = .slice (some ⟨g, 0, none⟩) L'.length c := by rw [hlen, HLN.out]; exact HV.out
      have hml := fun W (hW : ArRaw W b F n { A with free := L' } r D) => Tryz.mLess' ⟨b, 3, none⟩ _ W (free_cell hW hv')
      have hms := fun W (hW : ArRaw W b F n { A with free := L' } r D) => Tryz.mSwap' ⟨b, 3, none⟩ _ W (free_cell hW hv')
      have hless := less_raw b n g c gk k F { A with free := L' } r D wr hr hv' (by show gk < L'.length; omega) (by show k < L'.length; omega)
      have hswp := fun W (hW : ArRaw W b F n { A with free := L' } r D) => lswap_any b n g c k gk F { A with free := L' } r D W hW hv' (by show k < L'.length; omega) (by show gk < L'.length; omega)
      rw [show ({ A with free := L' } : Ar).free.length = ln from hlen] at hml hms hless hswp
      have hm0 := hml wr hr
      have HSW : Hid _ := hswp
      clear hv' hswp hr hml
      cases hdec : decide (L'[gk]! < L'[k]!) with
      | false =>
        first | rw [hdec] at hless | rw [show (({ A with free := L' } : Ar).free) = L' from rfl, hdec] at hless
        have HD : Hid (L'[(gk - 1) / 2]! ≤ L'[gk]!) := by
          have := of_decide_eq_false hdec
          rw [HK.out] at this
          show L'[(gk - 1) / 2]! ≤ L'[gk]!
          omega
        clear hdec hms
        go_wp2_with fail
        refine hless.mono ?_
        rintro e w6 ⟨rfl, hr6, P6⟩
        have HR6 : Hid (ArRaw w6 b F n { A with free := L' } r D ∧ Apart F w w6) := ⟨hr6, HP.out.2.trans P6 fun k hk => Or.inl hk⟩
        clear hr6 P6 hless hm0
        go_wp2_with fail
        go_end0
        exact ⟨L', rfl, HR6.out.1, HP.out.1, by rw [← HLN.out]; exact up_done HX.out.1 (.inr HD.out), HR6.out.2⟩
      | true =>
        first | rw [hdec] at hless | rw [show (({ A with free := L' } : Ar).free) = L' from rfl, hdec] at hless
        have HD : Hid (UpOk (swapL L' k gk) ln k) := heap_up HX.out.1 (by rw [HX.out.2]; omega) (by omega) (by omega) HK.out.symm (of_decide_eq_true hdec)
        clear hdec
        go_wp2_with fail
        refine hless.mono ?_
        rintro e w6 ⟨rfl, hr6, P6⟩
        have hms' := hms w6 hr6
        have hsw := HSW.out w6 hr6
        have HP6 : Hid (Apart F w w6) := HP.out.2.trans P6 fun k hk => Or.inl hk
        clear hms hr6 P6 hless hm0
        go_wp2_with fail
        refine hsw.mono ?_
        rintro e w7 ⟨rfl, H7, P7⟩
        have HR7 : Hid (ArRaw w7 b F n { A with free := swapL L' k gk } r D ∧ Apart F w w7) := ⟨H7, HP6.out.trans P7 fun k hk => Or.inl hk⟩
        clear H7 P7 hsw hms'
        go_wp2_with fail
        go_roundg k
        case measure => omega
        case rel => exact ⟨rfl, by omega, swapL L' k gk, HR7.out.1, (swap_mem L' k gk (by omega) (by omega)).trans HP.out.1, by rw [← HLN.out]; exact HD.out, HR7.out.2⟩

theorem upOk_snoc {L : List Int} {x : Int} (h : Heap L L.length) : UpOk (L ++ [x]) (L.length + 1) L.length := by
  have g : ∀ k, k < L.length → (L ++ [x])[k]! = L[k]! := fun k hk => by
    rw [getElem!_pos (L ++ [x]) k (by simp; omega), getElem!_pos L k hk, List.getElem_append_left hk]
  refine ⟨fun k h0 hk hne => ?_, fun k h0 hk he hp => by omega⟩
  rw [g k (by omega), g ((k - 1) / 2) (by omega)]
  exact h k h0 (by omega)
def PushOut (w : World) (b n : Nat) (F : Nat → Prop) (id : Int) (A : Ar) (r : Raw) (D : DataW Unit) (e : Ending) (w' : World) : Prop :=
  ∃ (L' : List Int) (r' : Raw), e = .returned (.tuple #[]) ∧ ArRaw w' b (More F w w') n { A with free := L' } r' D ∧ r'.vth = r.vth ∧ L'.Perm (id :: A.free) ∧ Heap L' L'.length ∧ Apart F w w'

set_option maxRecDepth 20000 in
set_option maxHeartbeats 4000000 in
theorem pushs_any (b n : Nat) (F : Nat → Prop) (id : Int) (A : Ar) (r : Raw) (D : DataW Unit) (w : World) (h : ArRaw w b F n A r D) (hlf : A.free.length < 900000) (hH : Heap A.free A.free.length) :
    Calls Tryz.prog 122 #[.iface 189 (.pointer (some ⟨b, 3, none⟩)), .iface 3 (.int .i64 id)] w fun e w' => PushOut w b n F id A r D e w' := by
  have hm := fun W => Tryz.mPush ⟨b, 3, none⟩ W
  have hp := lpush_any b n F id A r D w h (by omega)
  have hml := fun W v (hW : W.cell? ⟨b, 3, none⟩ = some v) => Tryz.mLen' ⟨b, 3, none⟩ v W hW
  have HH := upOk_snoc (x := id) hH
  go_enter Tryz.func122, Tryz.ntmps122
  go_wp2_with fail
  refine hp.mono ?_
  rintro e w1 ⟨rfl, ⟨g, c, H1⟩, P1⟩
  have c3 := H1.raw.at 3 (by omega)
  rw [Raw.c3] at c3
  simp only at c3
  have hml' := hml w1 _ c3
  have hup := ups_any b n g c A.free.length _ _ _ _ w1 H1 (by simp) (by simp) (by simp; omega) (by simpa using HH)
  have HP1 : Hid (Apart F w w1 ∧ ∀ k, More F w w1 k → k < w1.heap.size) := ⟨P1, H1.flt⟩

  generalize hln : A.free.length = ln at *
  have hlen := len_any (some ⟨g, 0, none⟩) (ln + 1) c w1
  have hw1 : IntKind.i64.wrap (((ln + 1 : Nat) : Int) - 1) = (ln : Int) := by rw [IntKind.wrap_i64]; omega
  clear hml hp hm HH H1 P1 c3 hH h
  go_wp2_with fail
  refine hlen.mono ?_
  rintro e w1' ⟨rfl, hw⟩
  have hw' := hw.symm
  subst hw'
  clear hlen hw
  go_wp2_with fail
  refine hup.mono ?_
  rintro e w2 ⟨L', rfl, H2, hpm, hhp, P2⟩
  go_wp2_with fail
  go_end0
  have hsz := P2.size
  refine ⟨L', _, rfl, H2.wider (fun k hk => ?_) (fun k hk => ?_), rfl, hpm.trans (List.perm_append_comm.trans (List.Perm.refl _)), ?_, HP1.out.1.trans P2 fun k hk => ?_⟩
  · rcases hk with h1 | h1
    · exact .inl h1
    · exact .inr ⟨h1.1, by omega⟩
  · rcases hk with h1 | h1
    · have := HP1.out.2 k (.inl h1); omega
    · exact h1.2
  · rw [hpm.length_eq]; exact hhp
  · rcases hk with h1 | h1
    · exact .inl h1
    · exact .inr h1
end Go.Proofs.YtgipjplifndniaaGreatDoor.A
