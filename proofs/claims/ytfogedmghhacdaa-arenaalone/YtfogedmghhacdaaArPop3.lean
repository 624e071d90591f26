/- heap.Pop of the free numbers. -/
import Derived.Test.YtfogedmghhacdaaArPop2
namespace Go.Proofs.Ytfogedmghhacdaa.A
open Go.RowKit Go.Maps

theorem IntRow.shape0 {w : World} {v : Value} {l : List Int} (h : IntRow w v l) (h0 : 0 < l.length) : ∃ g c, v = .slice (some ⟨g, 0, none⟩) l.length c ∧ l.length ≤ c := by
  rcases h.2 with ⟨_, h2⟩ | ⟨g, cap, cur, h1, _, _, h4, _⟩
  · omega
  · exact ⟨g, cap, h1, h4⟩
theorem heap_first {L : List Int} {m : Nat} (h : Heap L (m + 1)) (hl : L.length = m + 1) : HeapEx (swapL L 0 m) m 0 := by
  refine ⟨fun k h1 h2 h3 => ?_, fun k _ _ _ h4 => by omega⟩
  rw [swap_get L 0 m k (by omega), swap_get L 0 m ((k - 1) / 2) (by omega), if_neg (by omega), if_neg h3, if_neg (by omega), if_neg (by omega)]
  exact h k h1 (by omega)
theorem last_perm {L : List Int} {m : Nat} (hl : L.length = m + 1) : (L[m]! :: L.take m).Perm L := by
  have h1 : L = L.take m ++ [L[m]!] := by
    have h2 : L.take (m + 1) = L := List.take_of_length_le (by omega)
    have h3 : m < L.length := by omega
    conv => lhs; rw [← h2]
    rw [List.take_add_one, List.getElem?_eq_getElem h3, getElem!_pos L m h3]
    rfl
  have h4 : (L.take m ++ [L[m]!]).Perm ([L[m]!] ++ L.take m) := List.perm_append_comm
  conv => rhs; rw [h1]
  exact h4.symm

/-- what Pop leaves -/
def PopOut (w : World) (b n m g c : Nat) (F : Nat → Prop) (A : Ar) (r : Raw) (D : DataW Unit) (w' : World) : Prop :=
  ∃ L' : List Int, ArRaw w' b F n { A with free := L' } { r with vfr := .slice (some ⟨g, 0, none⟩) m c } D ∧ (A.free[0]! :: L').Perm A.free ∧ L'.length = m ∧ Heap L' m ∧ Apart F w w'

set_option maxRecDepth 20000 in
set_option maxHeartbeats 4000000 in
theorem pop_any (b n m g c : Nat) (F : Nat → Prop) (A : Ar) (r : Raw) (D : DataW Unit) (w : World) (h : ArRaw w b F n A r D) (hv : r.vfr = .slice (some ⟨g, 0, none⟩) (m + 1) c) (hm : A.free.length = m + 1) (hc : m + 1 ≤ c) (hb : m < 900000) (hH : Heap A.free (m + 1)) :
    Calls Try.prog 62 #[.iface 96 (.pointer (some ⟨b, 3, none⟩))] w fun e w' => e = .returned (.iface 3 (.int .i64 A.free[0]!)) ∧ PopOut w b n m g c F A r D w' := by
  have hv1 : r.vfr = .slice (some ⟨g, 0, none⟩) A.free.length c := by rw [hm]; exact hv
  have hml := Try.mLen' ⟨b, 3, none⟩ _ w (free_cell h hv1)
  have hms := Try.mSwap' ⟨b, 3, none⟩ _ w (free_cell h hv1)
  have hsw := lswap_any b n g c 0 m F A r D w h hv1 (by omega) (by omega)
  rw [hm] at hml hms hsw
  have hlen := len_any (some ⟨g, 0, none⟩) (m + 1) c w
  have hw1 : IntKind.i64.wrap (((m + 1 : Nat) : Int) - 1) = (m : Int) := by rw [IntKind.wrap_i64]; omega
  have hmp := fun W => Try.mPop ⟨b, 3, none⟩ W
  have HSL : Hid ((swapL A.free 0 m).length = m + 1 ∧ HeapEx (swapL A.free 0 m) m 0 ∧ (swapL A.free 0 m)[m]! = A.free[0]! ∧ (swapL A.free 0 m).Perm A.free) := by
    refine ⟨by rw [swap_len, hm], heap_first hH hm, ?_, swap_mem _ _ _ (by omega) (by omega)⟩
    rw [swap_get _ _ _ _ (by omega), if_pos rfl]
  have HV : Hid (r.vfr = .slice (some ⟨g, 0, none⟩) (m + 1) c) := hv
  obtain ⟨x0, hx0⟩ : ∃ x, x = A.free[0]! := ⟨_, rfl⟩
  rw [← hx0] at HSL ⊢
  have HX0 : Hid (x0 = A.free[0]!) := hx0
  clear hH h hv1 hv hx0
  go_enter Try.func62, Try.ntmps62
  go_wp2_with fail
  refine hlen.mono ?_
  rintro e w1 ⟨rfl, hw⟩
  have hw' := hw.symm
  subst hw'
  clear hlen hw hml
  go_wp2_with fail
  refine hsw.mono ?_
  rintro e w2 ⟨rfl, H2, P2⟩
  have hdn := down_any b n m g c F { A with free := swapL A.free 0 m } r D w2 H2 (by show r.vfr = .slice (some ⟨g, 0, none⟩) (swapL A.free 0 m).length c; rw [HSL.out.1]; exact HV.out) (by show m ≤ (swapL A.free 0 m).length; rw [HSL.out.1]; omega) (by show (swapL A.free 0 m).length < 1000000; rw [HSL.out.1]; omega) HSL.out.2.1
  clear hsw hms H2
  go_wp2_with fail
  refine hdn.mono ?_
  rintro e w3 ⟨bb, L3, rfl, H3, hp3, hh3, hs3, P3⟩
  have hl3 : L3.length = m + 1 := by rw [hp3.length_eq]; exact HSL.out.1
  have hpo := lpop_any b n g c m F { A with free := L3 } r D w3 H3 HV.out hl3 (by omega) hc
  have HE : Hid (L3[m]! = x0) := (hs3 m (Nat.le_refl _)).trans HSL.out.2.2.1
  have HPP : Hid (L3.Perm A.free ∧ Heap L3 m ∧ L3.length = m + 1 ∧ Apart F w w3) := ⟨hp3.trans HSL.out.2.2.2, hh3, hl3, P2.trans P3 fun k hk => Or.inl hk⟩
  rw [show ({ A with free := L3 } : Ar).free = L3 from rfl, HE.out] at hpo
  have hmp' := hmp w3
  clear hdn hs3 hh3 hp3 H3 hl3 hmp
  go_wp2_with fail
  refine hpo.mono ?_
  rintro e w4 ⟨rfl, H4, P4⟩
  have HR : Hid (PopOut w b n m g c F A r D w4) := by
    refine ⟨L3.take m, H4, ?_, by rw [List.length_take, HPP.out.2.2.1]; omega, fun k h1 h2 => ?_, HPP.out.2.2.2.trans P4 fun k hk => Or.inl hk⟩
    · rw [← HX0.out, ← HE.out]
      exact (last_perm HPP.out.2.2.1).trans HPP.out.1
    · have h3 := HPP.out.2.1 k h1 h2
      have e1 : ∀ j, j < m → (L3.take m)[j]! = L3[j]! := fun j hj => by
        have := HPP.out.2.2.1
        rw [getElem!_pos _ j (by rw [List.length_take]; omega), getElem!_pos L3 j (by omega), List.getElem_take]
      rw [e1 k h2, e1 ((k - 1) / 2) (by omega)]
      exact h3
  clear hpo H4 P4
  go_wp2_with fail
  go_ret
  exact ⟨rfl, HR.out⟩
end Go.Proofs.Ytfogedmghhacdaa.A
