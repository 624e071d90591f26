/- heap.Push onto any heap of free numbers. -/
import Derived.Test.YtfogedmghhacdaaArPop2
namespace Go.Proofs.Ytfogedmghhacdaa.A
open Go.RowKit Go.Maps

/-- a heap, but for what may be below its parent at one place -/
def UpOk (L : List Int) (n j : Nat) : Prop := (∀ k, 0 < k → k < n → k ≠ j → L[(k - 1) / 2]! ≤ L[k]!) ∧ (∀ k, 0 < k → k < n → (k - 1) / 2 = j → 0 < j → L[(j - 1) / 2]! ≤ L[k]!)
theorem heap_up {L : List Int} {n i j : Nat} (h : UpOk L n j) (hn : n ≤ L.length) (hj : j < n) (hj0 : 0 < j) (hp : (j - 1) / 2 = i) (hle : L[j]! < L[i]!) : UpOk (swapL L i j) n i := by
  have hi : i < j := by omega
  have g := fun k (hk : k < L.length) => swap_get L i j k hk
  refine ⟨fun k hk0 hk hne => ?_, fun k hk0 hk he hi0 => ?_⟩
  · rw [g k (by omega), g ((k - 1) / 2) (by omega)]
    by_cases e1 : k = j
    · subst e1
      rw [if_pos rfl, hp, if_neg (by omega), if_pos rfl]
      omega
    · rw [if_neg e1, if_neg hne]
      by_cases e2 : (k - 1) / 2 = j
      · rw [if_pos e2]
        have := h.2 k hk0 hk e2 hj0
        rw [hp] at this
        exact this
      · rw [if_neg e2]
        by_cases e3 : (k - 1) / 2 = i
        · rw [if_pos e3]
          have := h.1 k hk0 hk e1
          rw [e3] at this
          omega
        · rw [if_neg e3]
          exact h.1 k hk0 hk e1
  · have hpi := h.1 i hi0 (by omega) (by omega)
    rw [g k (by omega), g ((i - 1) / 2) (by omega), if_neg (show ¬ (i - 1) / 2 = j by omega), if_neg (show ¬ (i - 1) / 2 = i by omega)]
    by_cases e1 : k = j
    · rw [if_pos e1]; exact hpi
    · rw [if_neg e1, if_neg (show ¬ k = i by omega)]
      have := h.1 k hk0 hk e1
      rw [he] at this
      omega
theorem up_done {L : List Int} {n j : Nat} (h : UpOk L n j) (hd : j = 0 ∨ L[(j - 1) / 2]! ≤ L[j]!) : Heap L n := fun k h0 hk => by
  by_cases e : k = j
  · subst e
    rcases hd with h1 | h1
    · omega
    · exact h1
  · exact h.1 k h0 hk e

def UpSt (w : World) (b n : Nat) (F : Nat → Prop) (A : Ar) (r : Raw) (D : DataW Unit) (i : Nat) (w' : World) : Prop :=
  ∃ L' : List Int, ArRaw w' b F n { A with free := L' } r D ∧ L'.Perm A.free ∧ UpOk L' A.free.length i ∧ Apart F w w'
def UpOut (w : World) (b n : Nat) (F : Nat → Prop) (A : Ar) (r : Raw) (D : DataW Unit) (e : Ending) (w' : World) : Prop :=
  ∃ L' : List Int, e = .returned (.tuple #[]) ∧ ArRaw w' b F n { A with free := L' } r D ∧ L'.Perm A.free ∧ Heap L' A.free.length ∧ Apart F w w'

set_option maxRecDepth 20000 in
set_option maxHeartbeats 4000000 in
theorem ups_any (b n g c j : Nat) (F : Nat → Prop) (A : Ar) (r : Raw) (D : DataW Unit) (w : World) (h : ArRaw w b F n A r D) (hv : r.vfr = .slice (some ⟨g, 0, none⟩) A.free.length c) (hj : j < A.free.length) (hb : A.free.length < 1000000) (hH : UpOk A.free A.free.length j) :
    Calls Try.prog 60 #[.iface 96 (.pointer (some ⟨b, 3, none⟩)), .int .i64 j] w fun e w' => UpOut w b n F A r D e w' := by
  have HST : Hid (UpSt w b n F A r D j w) := ⟨A.free, h, List.Perm.refl _, hH, Apart.refl _ _⟩
  have HV : Hid (r.vfr = .slice (some ⟨g, 0, none⟩) A.free.length c) := hv
  obtain ⟨ln, hln⟩ : ∃ x, x = A.free.length := ⟨_, rfl⟩
  rw [← hln] at hb hj
  have HLN : Hid (ln = A.free.length) := hln
  clear h hv hH hln
  go_enter Try.func60, Try.ntmps60
  go_wp2_with fail
  go_loopg [1] j (fun g' s1 wr => s1 = .int .i64 g' ∧ g' ≤ j ∧ UpSt w b n F A r D g' wr)
  case atStart => exact ⟨rfl, Nat.le_refl _, HST.out⟩
  case round =>
    obtain ⟨rfl, hi', L', hr, hp, hx, P⟩ := hrel
    have hgl : gk < ln := by omega
    have hlen : L'.length = ln := by rw [hp.length_eq, HLN.out]
    rw [← HLN.out] at hx
    have HX : Hid (UpOk L' ln gk ∧ L'.length = ln) := ⟨hx, hlen⟩
    have HP : Hid (L'.Perm A.free ∧ Apart F w wr) := ⟨hp, P⟩
    have HR : Hid (ArRaw wr b F n { A with free := L' } r D) := hr
    clear hx hp P HST
    by_cases h0 : gk = 0
    · subst h0
      have hq : Int.tdiv ((0 : Int) - 1) 2 = 0 := by decide
      clear hr
      go_wp2_with fail
      go_end0
      exact ⟨L', rfl, HR.out, HP.out.1, by rw [← HLN.out]; exact up_done HX.out.1 (.inl rfl), HP.out.2⟩
    · obtain ⟨k, hk⟩ : ∃ k, k = (gk - 1) / 2 := ⟨_, rfl⟩
      have hkm : k < gk := by omega
      have hq : Int.tdiv ((gk : Int) - 1) 2 = (k : Int) := by
        rw [hk, show (gk : Int) - 1 = ((gk - 1 : Nat) : Int) by omega]
        rfl
      have hw1 : IntKind.i64.wrap ((gk : Int) - 1) = (gk : Int) - 1 := by rw [IntKind.wrap_i64]; omega
      have hw2 : IntKind.i64.wrap (k : Int) = (k : Int) := by rw [IntKind.wrap_i64]; omega
      have hne : ¬ (k : Int) = (gk : Int) := by omega
      have HK : Hid (k = (gk - 1) / 2) := hk
      clear hk h0
      have hv' : r.vfr = .slice (some ⟨g, 0, none⟩) L'.length c := by rw [hlen, HLN.out]; exact HV.out
      have hml := fun W (hW : ArRaw W b F n { A with free := L' } r D) => Try.mLess' ⟨b, 3, none⟩ _ W (free_cell hW hv')
      have hms := fun W (hW : ArRaw W b F n { A with free := L' } r D) => Try.mSwap' ⟨b, 3, none⟩ _ W (free_cell hW hv')
      have hless := less_raw b n g c gk k F { A with free := L' } r D wr hr hv' (by show gk < L'.length; omega) (by show k < L'.length; omega)
      have hswp := fun W (hW : ArRaw W b F n { A with free := L' } r D) => lswap_any b n g c k gk F { A with free := L' } r D W hW hv' (by show k < L'.length; omega) (by show gk < L'.length; omega)
      rw [show ({ A with free := L' } : Ar).free.length = ln from hlen] at hml hms hless hswp
      have hm0 := hml wr hr
      have HSW : Hid _ := hswp
      clear hv' hswp hr hml
      cases hdec : decide (L'[gk]! < L'[k]!) with
      | false =>
        first | rw [hdec] at hless | rw [show (({ A with free := L' } : Ar).free) = L' from rfl, hdec] at hless
        have HD : Hid (L'[(gk - 1) / 2]! ≤ L'[gk]!) := by
          have := of_decide_eq_false hdec
          rw [HK.out] at this
          show L'[(gk - 1) / 2]! ≤ L'[gk]!
          omega
        clear hdec hms
        go_wp2_with fail
        refine hless.mono ?_
        rintro e w6 ⟨rfl, hr6, P6⟩
        have HR6 : Hid (ArRaw w6 b F n { A with free := L' } r D ∧ Apart F w w6) := ⟨hr6, HP.out.2.trans P6 fun k hk => Or.inl hk⟩
        clear hr6 P6 hless hm0
        go_wp2_with fail
        go_end0
        exact ⟨L', rfl, HR6.out.1, HP.out.1, by rw [← HLN.out]; exact up_done HX.out.1 (.inr HD.out), HR6.out.2⟩
      | true =>
        first | rw [hdec] at hless | rw [show (({ A with free := L' } : Ar).free) = L' from rfl, hdec] at hless
        have HD : Hid (UpOk (swapL L' k gk) ln k) := heap_up HX.out.1 (by rw [HX.out.2]; omega) (by omega) (by omega) HK.out.symm (of_decide_eq_true hdec)
        clear hdec
        go_wp2_with fail
        refine hless.mono ?_
        rintro e w6 ⟨rfl, hr6, P6⟩
        have hms' := hms w6 hr6
        have hsw := HSW.out w6 hr6
        have HP6 : Hid (Apart F w w6) := HP.out.2.trans P6 fun k hk => Or.inl hk
        clear hms hr6 P6 hless hm0
        go_wp2_with fail
        refine hsw.mono ?_
        rintro e w7 ⟨rfl, H7, P7⟩
        have HR7 : Hid (ArRaw w7 b F n { A with free := swapL L' k gk } r D ∧ Apart F w w7) := ⟨H7, HP6.out.trans P7 fun k hk => Or.inl hk⟩
        clear H7 P7 hsw hms'
        go_wp2_with fail
        go_roundg k
        case measure => omega
        case rel => exact ⟨rfl, by omega, swapL L' k gk, HR7.out.1, (swap_mem L' k gk (by omega) (by omega)).trans HP.out.1, by rw [← HLN.out]; exact HD.out, HR7.out.2⟩

theorem upOk_snoc {L : List Int} {x : Int} (h : Heap L L.length) : UpOk (L ++ [x]) (L.length + 1) L.length := by
  have g : ∀ k, k < L.length → (L ++ [x])[k]! = L[k]! := fun k hk => by
    rw [getElem!_pos (L ++ [x]) k (by simp; omega), getElem!_pos L k hk, List.getElem_append_left hk]
  refine ⟨fun k h0 hk hne => ?_, fun k h0 hk he hp => by omega⟩
  rw [g k (by omega), g ((k - 1) / 2) (by omega)]
  exact h k h0 (by omega)
def PushOut (w : World) (b n : Nat) (F : Nat → Prop) (id : Int) (A : Ar) (r : Raw) (D : DataW Unit) (e : Ending) (w' : World) : Prop :=
  ∃ (L' : List Int) (r' : Raw), e = .returned (.tuple #[]) ∧ ArRaw w' b (More F w w') n { A with free := L' } r' D ∧ r'.vth = r.vth ∧ L'.Perm (id :: A.free) ∧ Heap L' L'.length ∧ Apart F w w'

set_option maxRecDepth 20000 in
set_option maxHeartbeats 4000000 in
theorem pushs_any (b n : Nat) (F : Nat → Prop) (id : Int) (A : Ar) (r : Raw) (D : DataW Unit) (w : World) (h : ArRaw w b F n A r D) (hlf : A.free.length < 900000) (hH : Heap A.free A.free.length) :
    Calls Try.prog 49 #[.iface 96 (.pointer (some ⟨b, 3, none⟩)), .iface 3 (.int .i64 id)] w fun e w' => PushOut w b n F id A r D e w' := by
  have hm := fun W => Try.mPush ⟨b, 3, none⟩ W
  have hp := lpush_any b n F id A r D w h (by omega)
  have hml := fun W v (hW : W.cell? ⟨b, 3, none⟩ = some v) => Try.mLen' ⟨b, 3, none⟩ v W hW
  have HH := upOk_snoc (x := id) hH
  go_enter Try.func49, Try.ntmps49
  go_wp2_with fail
  refine hp.mono ?_
  rintro e w1 ⟨rfl, ⟨g, c, H1⟩, P1⟩
  have c3 := H1.raw.at 3 (by omega)
  rw [Raw.c3] at c3
  simp only at c3
  have hml' := hml w1 _ c3
  have hup := ups_any b n g c A.free.length _ _ _ _ w1 H1 (by simp) (by simp) (by simp; omega) (by simpa using HH)
  have HP1 : Hid (Apart F w w1 ∧ ∀ k, More F w w1 k → k < w1.heap.size) := ⟨P1, H1.flt⟩

  generalize hln : A.free.length = ln at *
  have hlen := len_any (some ⟨g, 0, none⟩) (ln + 1) c w1
  have hw1 : IntKind.i64.wrap (((ln + 1 : Nat) : Int) - 1) = (ln : Int) := by rw [IntKind.wrap_i64]; omega
  clear hml hp hm HH H1 P1 c3 hH h
  go_wp2_with fail
  refine hlen.mono ?_
  rintro e w1' ⟨rfl, hw⟩
  have hw' := hw.symm
  subst hw'
  clear hlen hw
  go_wp2_with fail
  refine hup.mono ?_
  rintro e w2 ⟨L', rfl, H2, hpm, hhp, P2⟩
  go_wp2_with fail
  go_end0
  have hsz := P2.size
  refine ⟨L', _, rfl, H2.wider (fun k hk => ?_) (fun k hk => ?_), rfl, hpm.trans (List.perm_append_comm.trans (List.Perm.refl _)), ?_, HP1.out.1.trans P2 fun k hk => ?_⟩
  · rcases hk with h1 | h1
    · exact .inl h1
    · exact .inr ⟨h1.1, by omega⟩
  · rcases hk with h1 | h1
    · have := HP1.out.2 k (.inl h1); omega
    · exact h1.2
  · rw [hpm.length_eq]; exact hhp
  · rcases hk with h1 | h1
    · exact .inl h1
    · exact .inr h1
end Go.Proofs.Ytfogedmghhacdaa.A
