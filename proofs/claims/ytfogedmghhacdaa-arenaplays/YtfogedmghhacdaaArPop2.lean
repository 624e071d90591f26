/- heap.Pop of the free numbers: the walk. -/
import Derived.Test.YtfogedmghhacdaaArPop
namespace Go.Proofs.Ytfogedmghhacdaa.A
open Go.RowKit Go.Maps

theorem Try.mPop (a : Addr) (w : World) : (method 234 96 (.pointer (some a)) "Pop").run Try.prog w = .ok (83, .pointer (some a)) w := by kernel_rfl
theorem Try.mSwap (a : Addr) (w : World) : (method 234 96 (.pointer (some a)) "Swap").run Try.prog w = (do let v ← loadVar 65 a; pure (82, v) : Sem (FuncId × Value)).run Try.prog w := by kernel_rfl
theorem Try.mSwap' (a : Addr) (v : Value) (w : World) (h : w.cell? a = some v) : (method 234 96 (.pointer (some a)) "Swap").run Try.prog w = .ok (82, v) w := by
  rw [Try.mSwap]
  have := Try.ldFree a v w h
  simp [go_sem, h]
theorem IntRow.cutTo {w : World} {g n c : Nat} {l : List Int} (h : IntRow w (.slice (some ⟨g, 0, none⟩) n c) l) (m : Nat) (hm : m ≤ l.length) : IntRow w (.slice (some ⟨g, 0, none⟩) m c) (l.take m) := by
  rcases h.2 with ⟨h1, _⟩ | ⟨g', cap, cur, hv, hB, hg, h1, h2, h3, h4⟩
  · simp at h1
  · simp only [Value.slice.injEq, Option.some.injEq, Addr.mk.injEq] at hv
    obtain ⟨⟨rfl, _, _⟩, _, rfl⟩ := hv
    have hl : (l.take m).length = m := by rw [List.length_take]; omega
    refine ⟨by simp, Or.inr ⟨g, c, cur, by rw [hl], hB, hg, by rw [hl]; omega, h2, h3, ?_⟩⟩
    rw [hl, List.map_take, ← h4, List.take_take]
    congr 1
    omega

set_option maxRecDepth 20000 in
set_option maxHeartbeats 2000000 in
theorem lpop_any (b n g c m : Nat) (F : Nat → Prop) (A : Ar) (r : Raw) (D : DataW Unit) (w : World) (h : ArRaw w b F n A r D) (hv : r.vfr = .slice (some ⟨g, 0, none⟩) (m + 1) c) (hm : A.free.length = m + 1) (hb : m < 10000000) (hc : m + 1 ≤ c) :
    Calls Try.prog 83 #[.pointer (some ⟨b, 3, none⟩)] w fun e w' => e = .returned (.iface 3 (.int .i64 A.free[m]!)) ∧ ArRaw w' b F n { A with free := A.free.take m } { r with vfr := .slice (some ⟨g, 0, none⟩) m c } D ∧ Apart F w w' := by
  have hrow := h.free
  rw [hv] at hrow
  have c3 := h.raw.at 3 (by omega)
  rw [Raw.c3, hv] at c3
  have z3 := h.raw.frozen 3
  have cm := hrow.get m (by omega)
  have hg : r.vfr.ownBlock = some g := by rw [hv]; rfl
  have H1 := h.setFree (F' := F) (w1 := w) (v := .slice (some ⟨g, 0, none⟩) m c) (hrow.cutTo m (by omega)) (fun _ _ _ => rfl) (fun k hk => Or.inl (by rw [hg]; exact hk)) (fun _ h => h) (fun k hk => h.ff k (by rw [hg]; exact hk)) h.flt
  have hF := h.fb
  have k0 : (0 : Int) ≤ (m : Int) := by omega
  have k1 : (m : Int) < ((m + 1 : Nat) : Int) := by omega
  have k2 : (m : Int) ≤ (c : Int) := by omega
  have hw1 : IntKind.i64.wrap (((m + 1 : Nat) : Int) - 1) = (m : Int) := by rw [IntKind.wrap_i64]; omega
  generalize A.free[m]! = x at *
  clear hrow h hg hv hm
  go_enter Try.func83, Try.ntmps83
  go_wp2_with fail
  go_ret
  exact ⟨rfl, H1, Apart.set _ _ hF⟩

theorem less_raw (b n g c i j : Nat) (F : Nat → Prop) (A : Ar) (r : Raw) (D : DataW Unit) (w : World) (h : ArRaw w b F n A r D) (hv : r.vfr = .slice (some ⟨g, 0, none⟩) A.free.length c) (hi : i < A.free.length) (hj : j < A.free.length) :
    Calls Try.prog 81 #[.slice (some ⟨g, 0, none⟩) A.free.length c, .int .i64 i, .int .i64 j] w fun e w' => e = .returned (.bool (decide (A.free[i]! < A.free[j]!))) ∧ ArRaw w' b F n A r D ∧ Apart F w w' := by
  have hrow := h.free
  rw [hv] at hrow
  refine (less_any g A.free.length c i j A.free w hrow hi hj).mono ?_
  rintro e w' ⟨rfl, q, rfl⟩
  exact ⟨rfl, h.drewN q, (Apart.refl F w).drewN q⟩
theorem free_cell {w : World} {b n g c : Nat} {F : Nat → Prop} {A : Ar} {r : Raw} {D : DataW Unit} (h : ArRaw w b F n A r D) (hv : r.vfr = .slice (some ⟨g, 0, none⟩) A.free.length c) : w.cell? ⟨b, 3, none⟩ = some (.slice (some ⟨g, 0, none⟩) A.free.length c) := by
  have c3 := h.raw.at 3 (by omega)
  rw [Raw.c3, hv] at c3
  exact c3

/-- between two steps down -/
def DownSt (w : World) (b n nn : Nat) (F : Nat → Prop) (A : Ar) (r : Raw) (D : DataW Unit) (L : List Int) (i : Nat) (w' : World) : Prop :=
  ∃ L' : List Int, ArRaw w' b F n { A with free := L' } r D ∧ L'.Perm L ∧ HeapEx L' nn i ∧ (∀ k, nn ≤ k → L'[k]! = L[k]!) ∧ Apart F w w'

def DownOut (w : World) (b n nn : Nat) (F : Nat → Prop) (A : Ar) (r : Raw) (D : DataW Unit) (e : Ending) (w' : World) : Prop :=
  ∃ (bb : Bool) (L' : List Int), e = .returned (.bool bb) ∧ ArRaw w' b F n { A with free := L' } r D ∧ L'.Perm A.free ∧ Heap L' nn ∧ (∀ k, nn ≤ k → L'[k]! = A.free[k]!) ∧ Apart F w w'

set_option maxRecDepth 20000 in
set_option maxHeartbeats 4000000 in
theorem down_any (b n nn g c : Nat) (F : Nat → Prop) (A : Ar) (r : Raw) (D : DataW Unit) (w : World) (h : ArRaw w b F n A r D) (hv : r.vfr = .slice (some ⟨g, 0, none⟩) A.free.length c) (hnn : nn ≤ A.free.length) (hb : A.free.length < 1000000) (hH : HeapEx A.free nn 0) :
    Calls Try.prog 63 #[.iface 96 (.pointer (some ⟨b, 3, none⟩)), .int .i64 0, .int .i64 nn] w fun e w' => DownOut w b n nn F A r D e w' := by
  have HST : Hid (DownSt w b n nn F A r D A.free 0 w) := ⟨A.free, h, List.Perm.refl _, hH, fun _ _ => rfl, Apart.refl _ _⟩
  have HV : Hid (r.vfr = .slice (some ⟨g, 0, none⟩) A.free.length c) := hv
  obtain ⟨ln, hln⟩ : ∃ x, x = A.free.length := ⟨_, rfl⟩
  rw [← hln] at hnn hb
  have HLN : Hid (ln = A.free.length) := hln
  clear h hv hH hln
  go_enter Try.func63, Try.ntmps63
  go_wp2_with fail
  go_loopg [7] ln (fun g' s7 wr => ∃ i : Nat, i + g' = ln ∧ s7 = .int .i64 i ∧ DownSt w b n nn F A r D A.free i wr)
  case atStart => exact ⟨0, by omega, rfl, HST.out⟩
  case round =>
    obtain ⟨i, hi', rfl, L', hr, hp, hx, hs, P⟩ := hrel
    have HI : Hid (i + gk = ln) := hi'
    have hin : i ≤ ln := by omega
    have hlen : L'.length = ln := by rw [hp.length_eq, HLN.out]
    have HX : Hid (HeapEx L' nn i ∧ L'.length = ln) := ⟨hx, hlen⟩
    have HP : Hid (L'.Perm A.free ∧ (∀ k, nn ≤ k → L'[k]! = A.free[k]!) ∧ Apart F w wr) := ⟨hp, hs, P⟩
    have HR : Hid (ArRaw wr b F n { A with free := L' } r D) := hr
    have hw1 : IntKind.i64.wrap (2 * (i : Int)) = ((2 * i : Nat) : Int) := by rw [IntKind.wrap_i64]; omega
    have hw2 : IntKind.i64.wrap (((2 * i : Nat) : Int) + 1) = ((2 * i + 1 : Nat) : Int) := by rw [IntKind.wrap_i64]; omega
    clear hi' hx hp hs P HST
    by_cases hc : nn ≤ 2 * i + 1
    · have hc1 : (nn : Int) ≤ ((2 * i + 1 : Nat) : Int) := by omega
      clear hr
      go_wp2_with fail
      go_ret
      exact ⟨_, L', rfl, HR.out, HP.out.1, fun k h1 h2 => HX.out.1.1 k h1 h2 (by omega), HP.out.2.1, HP.out.2.2⟩
    · have hc1 : ¬ (nn : Int) ≤ ((2 * i + 1 : Nat) : Int) := by omega
      have hc2 : ¬ ((2 * i + 1 : Nat) : Int) < 0 := by omega
      have hw3 : IntKind.i64.wrap (((2 * i + 1 : Nat) : Int) + 1) = ((2 * i + 2 : Nat) : Int) := by rw [IntKind.wrap_i64]; omega
      have hv' : r.vfr = .slice (some ⟨g, 0, none⟩) L'.length c := by rw [hlen, HLN.out]; exact HV.out
      have hml := fun W (hW : ArRaw W b F n { A with free := L' } r D) => Try.mLess' ⟨b, 3, none⟩ _ W (free_cell hW hv')
      have hms := fun W (hW : ArRaw W b F n { A with free := L' } r D) => Try.mSwap' ⟨b, 3, none⟩ _ W (free_cell hW hv')
      have hless := fun W (hW : ArRaw W b F n { A with free := L' } r D) (a a' : Nat) (ha : a < ln) (ha' : a' < ln) => less_raw b n g c a a' F { A with free := L' } r D W hW hv' (by show a < L'.length; omega) (by show a' < L'.length; omega)
      have hswp := fun W (hW : ArRaw W b F n { A with free := L' } r D) (a a' : Nat) (ha : a < ln) (ha' : a' < ln) => lswap_any b n g c a a' F { A with free := L' } r D W hW hv' (by show a < L'.length; omega) (by show a' < L'.length; omega)
      rw [show ({ A with free := L' } : Ar).free.length = ln from hlen] at hml hms hless hswp
      have HLE : Hid _ := hless
      have HSW : Hid _ := hswp
      clear hv' hless hswp
      by_cases hd : 2 * i + 2 < nn
      · have hd1 : ((2 * i + 2 : Nat) : Int) < (nn : Int) := by omega
        have hL2 := HLE.out wr hr (2 * i + 2) (2 * i + 1) (by omega) (by omega)
        rw [show ((2 * i + 2 : Nat) : Int) = 2 * (i : Int) + 1 + 1 by omega, show ((2 * i + 1 : Nat) : Int) = 2 * (i : Int) + 1 by omega] at hL2
        cases hdec : decide (L'[2 * i + 2]! < L'[2 * i + 1]!) with
        | true =>
          rw [show (({ A with free := L' } : Ar).free) = L' from rfl, hdec] at hL2
          have hd' := of_decide_eq_true hdec
          have HD : Hid (∀ k, 0 < k → k < nn → (k - 1) / 2 = i → L'[2 * i + 2]! ≤ L'[k]!) := fun k h1 h2 h3 => by
            rcases (show k = 2 * i + 1 ∨ k = 2 * i + 2 by omega) with rfl | rfl
            · omega
            · omega
          clear hdec hd'
          have hm0 := hml wr hr
          go_wp2_with fail
          refine hL2.mono ?_
          rintro e w5 ⟨rfl, hr5, P5⟩
          have HP5 : Hid (Apart F w w5) := HP.out.2.2.trans P5 fun k hk => Or.inl hk
          clear hL2 hm0 P5 hr
          have hL3 := HLE.out w5 hr5 (2 * i + 2) i (by omega) (by omega)
          rw [show ((2 * i + 2 : Nat) : Int) = 2 * (i : Int) + 1 + 1 by omega] at hL3
          have hmq := hml w5 hr5
          cases hdec3 : decide (L'[2 * i + 2]! < L'[i]!) with
          | false =>
            first | rw [hdec3] at hL3 | rw [show (({ A with free := L' } : Ar).free) = L' from rfl, hdec3] at hL3
            have hd3 := of_decide_eq_false hdec3
            have HD3 : Hid (L'[i]! ≤ L'[2 * i + 2]!) := by show L'[i]! ≤ L'[2 * i + 2]!; omega
            clear hdec3 hd3 hml hms
            go_wp2_with fail
            refine hL3.mono ?_
            rintro e w6 ⟨rfl, hr6, P6⟩
            have HR6 : Hid (ArRaw w6 b F n { A with free := L' } r D ∧ Apart F w w6) := ⟨hr6, (HP5.out).trans P6 fun k hk => Or.inl hk⟩
            clear hr6 P6 hL3 hmq
            go_wp2_with fail
            go_ret
            refine ⟨_, L', rfl, HR6.out.1, HP.out.1, fun k h1 h2 => ?_, HP.out.2.1, HR6.out.2⟩
            by_cases e : (k - 1) / 2 = i
            · rw [e]
              exact Int.le_trans HD3.out (HD.out k h1 h2 e)
            · exact HX.out.1.1 k h1 h2 e
          | true =>
            first | rw [hdec3] at hL3 | rw [show (({ A with free := L' } : Ar).free) = L' from rfl, hdec3] at hL3
            have hd3 := of_decide_eq_true hdec3
            have HD3 : Hid (HeapEx (swapL L' i (2 * i + 2)) nn (2 * i + 2)) := heap_down HX.out.1 (by rw [HX.out.2]; exact hnn) (by omega) (by omega) (by omega) hd3 HD.out
            have HS3 : Hid (∀ k, nn ≤ k → (swapL L' i (2 * i + 2))[k]! = A.free[k]!) := fun k hk => by
              rw [← HP.out.2.1 k hk]
              by_cases e : k < L'.length
              · rw [swap_get L' i (2 * i + 2) k e, if_neg (by omega), if_neg (by omega)]
              · rw [List.getElem!_eq_getElem?_getD, List.getElem!_eq_getElem?_getD, List.getElem?_eq_none (by rw [swap_len]; omega), List.getElem?_eq_none (by omega)]
            clear hdec3 hd3 hml
            go_wp2_with fail
            refine hL3.mono ?_
            rintro e w6 ⟨rfl, hr6, P6⟩
            have hms' := hms w6 hr6
            have hsw := HSW.out w6 hr6 i (2 * i + 2) (by omega) (by omega)
            rw [show ((2 * i + 2 : Nat) : Int) = 2 * (i : Int) + 1 + 1 by omega] at hsw
            have HP6 : Hid (Apart F w w6) := (HP5.out).trans P6 fun k hk => Or.inl hk
            clear hms hr6 P6 hL3 hmq
            go_wp2_with fail
            refine hsw.mono ?_
            rintro e w7 ⟨rfl, H7, P7⟩
            have HR7 : Hid (ArRaw w7 b F n { A with free := swapL L' i (2 * i + 2) } r D ∧ Apart F w w7) := ⟨H7, HP6.out.trans P7 fun k hk => Or.inl hk⟩
            clear H7 P7 hsw hms'
            go_wp2_with fail
            go_roundg (ln - (2 * i + 2))
            case measure => have := HI.out; omega
            case rel => exact ⟨2 * i + 2, by omega, by rw [show ((2 * i + 2 : Nat) : Int) = 2 * (i : Int) + 1 + 1 by omega], swapL L' i (2 * i + 2), HR7.out.1, (swap_mem L' i (2 * i + 2) (by omega) (by omega)).trans HP.out.1, HD3.out, HS3.out, HR7.out.2⟩

        | false =>
          rw [show (({ A with free := L' } : Ar).free) = L' from rfl, hdec] at hL2
          have hd' := of_decide_eq_false hdec
          have HD : Hid (∀ k, 0 < k → k < nn → (k - 1) / 2 = i → L'[2 * i + 1]! ≤ L'[k]!) := fun k h1 h2 h3 => by
            rcases (show k = 2 * i + 1 ∨ k = 2 * i + 2 by omega) with rfl | rfl
            · omega
            · omega
          clear hdec hd'
          have hm0 := hml wr hr
          go_wp2_with fail
          refine hL2.mono ?_
          rintro e w5 ⟨rfl, hr5, P5⟩
          have HP5 : Hid (Apart F w w5) := HP.out.2.2.trans P5 fun k hk => Or.inl hk
          clear hL2 hm0 P5 hr
          have hL3 := HLE.out w5 hr5 (2 * i + 1) i (by omega) (by omega)
          rw [show ((2 * i + 1 : Nat) : Int) = 2 * (i : Int) + 1 by omega] at hL3
          have hmq := hml w5 hr5
          cases hdec3 : decide (L'[2 * i + 1]! < L'[i]!) with
          | false =>
            first | rw [hdec3] at hL3 | rw [show (({ A with free := L' } : Ar).free) = L' from rfl, hdec3] at hL3
            have hd3 := of_decide_eq_false hdec3
            have HD3 : Hid (L'[i]! ≤ L'[2 * i + 1]!) := by show L'[i]! ≤ L'[2 * i + 1]!; omega
            clear hdec3 hd3 hml hms
            go_wp2_with fail
            refine hL3.mono ?_
            rintro e w6 ⟨rfl, hr6, P6⟩
            have HR6 : Hid (ArRaw w6 b F n { A with free := L' } r D ∧ Apart F w w6) := ⟨hr6, (HP5.out).trans P6 fun k hk => Or.inl hk⟩
            clear hr6 P6 hL3 hmq
            go_wp2_with fail
            go_ret
            refine ⟨_, L', rfl, HR6.out.1, HP.out.1, fun k h1 h2 => ?_, HP.out.2.1, HR6.out.2⟩
            by_cases e : (k - 1) / 2 = i
            · rw [e]
              exact Int.le_trans HD3.out (HD.out k h1 h2 e)
            · exact HX.out.1.1 k h1 h2 e
          | true =>
            first | rw [hdec3] at hL3 | rw [show (({ A with free := L' } : Ar).free) = L' from rfl, hdec3] at hL3
            have hd3 := of_decide_eq_true hdec3
            have HD3 : Hid (HeapEx (swapL L' i (2 * i + 1)) nn (2 * i + 1)) := heap_down HX.out.1 (by rw [HX.out.2]; exact hnn) (by omega) (by omega) (by omega) hd3 HD.out
            have HS3 : Hid (∀ k, nn ≤ k → (swapL L' i (2 * i + 1))[k]! = A.free[k]!) := fun k hk => by
              rw [← HP.out.2.1 k hk]
              by_cases e : k < L'.length
              · rw [swap_get L' i (2 * i + 1) k e, if_neg (by omega), if_neg (by omega)]
              · rw [List.getElem!_eq_getElem?_getD, List.getElem!_eq_getElem?_getD, List.getElem?_eq_none (by rw [swap_len]; omega), List.getElem?_eq_none (by omega)]
            clear hdec3 hd3 hml
            go_wp2_with fail
            refine hL3.mono ?_
            rintro e w6 ⟨rfl, hr6, P6⟩
            have hms' := hms w6 hr6
            have hsw := HSW.out w6 hr6 i (2 * i + 1) (by omega) (by omega)
            rw [show ((2 * i + 1 : Nat) : Int) = 2 * (i : Int) + 1 by omega] at hsw
            have HP6 : Hid (Apart F w w6) := (HP5.out).trans P6 fun k hk => Or.inl hk
            clear hms hr6 P6 hL3 hmq
            go_wp2_with fail
            refine hsw.mono ?_
            rintro e w7 ⟨rfl, H7, P7⟩
            have HR7 : Hid (ArRaw w7 b F n { A with free := swapL L' i (2 * i + 1) } r D ∧ Apart F w w7) := ⟨H7, HP6.out.trans P7 fun k hk => Or.inl hk⟩
            clear H7 P7 hsw hms'
            go_wp2_with fail
            go_roundg (ln - (2 * i + 1))
            case measure => have := HI.out; omega
            case rel => exact ⟨2 * i + 1, by omega, by rw [show ((2 * i + 1 : Nat) : Int) = 2 * (i : Int) + 1 by omega], swapL L' i (2 * i + 1), HR7.out.1, (swap_mem L' i (2 * i + 1) (by omega) (by omega)).trans HP.out.1, HD3.out, HS3.out, HR7.out.2⟩

      · have hd1 : ¬ ((2 * i + 2 : Nat) : Int) < (nn : Int) := by omega
        have HD : Hid (∀ k, 0 < k → k < nn → (k - 1) / 2 = i → L'[2 * i + 1]! ≤ L'[k]!) := fun k h1 h2 h3 => by
          obtain rfl : k = 2 * i + 1 := by omega
          exact Int.le_refl _
        have hL3 := HLE.out wr hr (2 * i + 1) i (by omega) (by omega)
        rw [show ((2 * i + 1 : Nat) : Int) = 2 * (i : Int) + 1 by omega] at hL3
        have hmq := hml wr hr
        cases hdec3 : decide (L'[2 * i + 1]! < L'[i]!) with
        | false =>
          first | rw [hdec3] at hL3 | rw [show (({ A with free := L' } : Ar).free) = L' from rfl, hdec3] at hL3
          have hd3 := of_decide_eq_false hdec3
          have HD3 : Hid (L'[i]! ≤ L'[2 * i + 1]!) := by show L'[i]! ≤ L'[2 * i + 1]!; omega
          clear hdec3 hd3 hml hms
          go_wp2_with fail
          refine hL3.mono ?_
          rintro e w6 ⟨rfl, hr6, P6⟩
          have HR6 : Hid (ArRaw w6 b F n { A with free := L' } r D ∧ Apart F w w6) := ⟨hr6, (HP.out.2.2).trans P6 fun k hk => Or.inl hk⟩
          clear hr6 P6 hL3 hmq
          go_wp2_with fail
          go_ret
          refine ⟨_, L', rfl, HR6.out.1, HP.out.1, fun k h1 h2 => ?_, HP.out.2.1, HR6.out.2⟩
          by_cases e : (k - 1) / 2 = i
          · rw [e]
            exact Int.le_trans HD3.out (HD.out k h1 h2 e)
          · exact HX.out.1.1 k h1 h2 e
        | true =>
          first | rw [hdec3] at hL3 | rw [show (({ A with free := L' } : Ar).free) = L' from rfl, hdec3] at hL3
          have hd3 := of_decide_eq_true hdec3
          have HD3 : Hid (HeapEx (swapL L' i (2 * i + 1)) nn (2 * i + 1)) := heap_down HX.out.1 (by rw [HX.out.2]; exact hnn) (by omega) (by omega) (by omega) hd3 HD.out
          have HS3 : Hid (∀ k, nn ≤ k → (swapL L' i (2 * i + 1))[k]! = A.free[k]!) := fun k hk => by
            rw [← HP.out.2.1 k hk]
            by_cases e : k < L'.length
            · rw [swap_get L' i (2 * i + 1) k e, if_neg (by omega), if_neg (by omega)]
            · rw [List.getElem!_eq_getElem?_getD, List.getElem!_eq_getElem?_getD, List.getElem?_eq_none (by rw [swap_len]; omega), List.getElem?_eq_none (by omega)]
          clear hdec3 hd3 hml
          go_wp2_with fail
          refine hL3.mono ?_
          rintro e w6 ⟨rfl, hr6, P6⟩
          have hms' := hms w6 hr6
          have hsw := HSW.out w6 hr6 i (2 * i + 1) (by omega) (by omega)
          rw [show ((2 * i + 1 : Nat) : Int) = 2 * (i : Int) + 1 by omega] at hsw
          have HP6 : Hid (Apart F w w6) := (HP.out.2.2).trans P6 fun k hk => Or.inl hk
          clear hms hr6 P6 hL3 hmq
          go_wp2_with fail
          refine hsw.mono ?_
          rintro e w7 ⟨rfl, H7, P7⟩
          have HR7 : Hid (ArRaw w7 b F n { A with free := swapL L' i (2 * i + 1) } r D ∧ Apart F w w7) := ⟨H7, HP6.out.trans P7 fun k hk => Or.inl hk⟩
          clear H7 P7 hsw hms'
          go_wp2_with fail
          go_roundg (ln - (2 * i + 1))
          case measure => have := HI.out; omega
          case rel => exact ⟨2 * i + 1, by omega, by rw [show ((2 * i + 1 : Nat) : Int) = 2 * (i : Int) + 1 by omega], swapL L' i (2 * i + 1), HR7.out.1, (swap_mem L' i (2 * i + 1) (by omega) (by omega)).trans HP.out.1, HD3.out, HS3.out, HR7.out.2⟩

end Go.Proofs.Ytfogedmghhacdaa.A
