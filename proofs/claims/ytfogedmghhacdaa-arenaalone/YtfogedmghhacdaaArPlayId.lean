/- The numbers that a tenant made, in played; how it begins. -/
import Derived.Test.YtfogedmghhacdaaArAlone2
import Derived.Deep.QuietTactic
namespace Go.Proofs.Ytfogedmghhacdaa.A
open Go.RowKit Go.Maps

set_option maxHeartbeats 2000000 in
theorem playId_any (t : Nat) (n : Int) (B mb tb : Nat) (vs : Nat → Value) (M : Nat → List Int) (W : World) (h : MadeAt W B mb vs M) (ht : t < 4) (hl : (M t).length < 1000000) (htb : W.cell? ⟨tb, 0, none⟩ = some (.int .i64 t)) :
    Calls Try.prog 40 #[.int .i64 n, .pointer (some ⟨mb, 0, none⟩), .pointer (some ⟨tb, 0, none⟩)] W fun e w' => e = .returned (.int .i64 (idOf (M t) n)) ∧ w' = W := by
  have hc := (h.cell ht).1
  have hrow := h.row t ht
  obtain ⟨a, c, hv⟩ : ∃ a c, vs t = .slice a (M t).length c := by
    rcases hrow.2 with ⟨h1, h2⟩ | ⟨g, cap, cur, h1, _⟩
    · exact ⟨none, 0, by rw [h1, h2]⟩
    · exact ⟨_, _, h1⟩
  have h0 : (0 : Int) ≤ (t : Int) := by omega
  have h1 : (t : Int) < 4 := by omega
  rw [hv] at hc hrow
  have hsp := spot_any n (((M t).length : Int) + 2) W (by omega) (by omega)
  have hb := spotI_bound n (((M t).length : Int) + 2) (by omega)
  have HI : Hid (idOf (M t) n = if spotI n (((M t).length : Int) + 2) < 2 then spotI n (((M t).length : Int) + 2) else (M t)[(spotI n (((M t).length : Int) + 2) - 2).toNat]!) := rfl
  obtain ⟨ln, hln⟩ : ∃ x, x = (M t).length := ⟨_, rfl⟩
  rw [← hln] at hc hsp hb HI hl hrow
  have HL : Hid (ln = (M t).length) := hln
  have hw1 : IntKind.i64.wrap ((ln : Int) + 2) = (ln : Int) + 2 := by rw [IntKind.wrap_i64]; omega
  generalize spotI n ((ln : Int) + 2) = k at *
  clear hln hv
  by_cases hk : k < 2
  · have HI2 : Hid (idOf (M t) n = k) := HI.out.trans (if_pos hk)
    clear HI hrow
    go_enter Try.func40, Try.ntmps40
    go_wp2_with fail
    refine hsp.mono ?_
    rintro e w1 ⟨rfl, rfl⟩
    go_wp2_with fail
    go_ret
    exact ⟨by rw [HI2.out]; rfl, rfl⟩
  · obtain ⟨i, hi⟩ := Int.eq_ofNat_of_zero_le (show 0 ≤ k - 2 by omega)
    have HI2 : Hid (idOf (M t) n = (M t)[i]!) := HI.out.trans ((if_neg hk).trans (by rw [hi]; rfl))
    have hil : i < ln := by omega
    obtain ⟨g, rfl⟩ : ∃ g, a = some ⟨g, 0, none⟩ := by
      rcases hrow.2 with ⟨h1, h2⟩ | ⟨g, cap, cur, h1, _⟩
      · omega
      · simp only [Value.slice.injEq] at h1; exact ⟨g, h1.1⟩
    have hcell : W.cell? ⟨g, i, none⟩ = some (.int .i64 (M t)[i]!) := by
      rw [hrow.cellAt i (by omega), List.getElem?_map, List.getElem?_eq_getElem (by rw [← HL.out]; exact hil), getElem!_pos (M t) i (by rw [← HL.out]; exact hil)]
      rfl
    have k0 : (0 : Int) ≤ (i : Int) := by omega
    have k1 : (i : Int) < (ln : Int) := by omega
    have hw2 : IntKind.i64.wrap (k - 2) = (i : Int) := by rw [IntKind.wrap_i64]; omega
    generalize (M t)[i]! = x at *
    clear HI hrow hi
    go_enter Try.func40, Try.ntmps40
    go_wp2_with fail
    refine hsp.mono ?_
    rintro e w1 ⟨rfl, rfl⟩
    go_wp2_with fail
    go_ret
    exact ⟨by rw [HI2.out]; rfl, rfl⟩

set_option maxRecDepth 20000 in
set_option maxHeartbeats 1000000 in
theorem begun_any (w : World) : Calls Try.prog 39 #[] w fun e w' => e = .returned (.tuple #[.pointer (some ⟨w.heap.size + 1, 0, none⟩), .bool true]) ∧ (∃ F, (∀ k, F k → w.heap.size ≤ k) ∧ AtP w' (w.heap.size + 1) F arBeg1) ∧ Below w.heap.size w w' := by
  have hnew := newP_any 200000 w (by omega) (by omega)
  have HE := beg1_full
  have HC := beg1_cnt
  unfold arBeg1 at HC ⊢
  generalize hA2 : ((arNew 200000).joinP 63 1 0 0 1).1 = A2 at HC ⊢
  have HA2 : Hid (((arNew 200000).joinP 63 1 0 0 1).1 = A2) := hA2
  clear hA2
  go_enter Try.func39, Try.ntmps39
  go_wp2_with fail
  refine hnew.mono ?_
  rintro e w1 ⟨rfl, ⟨F1, hF1, A1⟩, hb1⟩
  have hj := joinP_any (w.heap.size + 1) 63 1 0 0 1 F1 (arNew 200000) w1 A1 (new_sound (by omega) (by omega)) (by omega) one_fits fits_zero fits_zero one_fits
  unfold JoinPOut at hj
  rw [HE, HA2.out] at hj
  unfold quad4 at hj
  clear HE A1
  go_wp2_with fail
  refine hj.mono ?_
  rintro e w2 ⟨rfl, F2, hF2, A2', P2⟩
  have hcn := countP_any (w.heap.size + 1) 63 F2 A2 w2 A2' (by omega)
  rw [HC] at hcn
  have HFIN : Hid ((∃ F, (∀ k, F k → w.heap.size ≤ k) ∧ AtP w2 (w.heap.size + 1) F A2) ∧ Below w.heap.size w w2) := ⟨⟨F2, fun k hk => by
      rcases hF2 k hk with e | e
      · exact hF1 k e
      · exact Nat.le_trans hb1.size e, A2'⟩, ⟨P2.os.trans hb1.os, P2.tape.trans hb1.tape, P2.output.trans hb1.output, Nat.le_trans hb1.size P2.size, fun k hk => (P2.block k (Nat.lt_of_lt_of_le hk hb1.size) fun hf => by have := hF1 k hf; omega).trans (hb1.block k hk)⟩⟩
  clear A2' P2 hF2 hF1 hb1 hj hnew HC
  go_wp2_with fail
  all_goals
    refine hcn.mono ?_
    rintro e w3 ⟨rfl, rfl⟩
    go_wp2_with fail
    go_ret2
    exact ⟨rfl, HFIN.out⟩
end Go.Proofs.Ytfogedmghhacdaa.A
