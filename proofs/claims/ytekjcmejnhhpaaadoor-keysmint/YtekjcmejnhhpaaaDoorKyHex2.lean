/- formatBits to base 16. -/
import Derived.Test.YtekjcmejnhhpaaaDoorKyHex
import Derived.Laws.BitsAllLaws
import Derived.Deep.Heap
import Derived.Laws.Slices
namespace Go.Proofs.YtekjcmejnhhpaaaDoor
open Go.RowKit

theorem Tryd.zeros : Tryd.zeroCells81.size = 65 := by kernel_rfl
theorem Tryd.zeros_at : ∀ k : Fin 65, (Tryd.zeroCells81[k.val]?).isSome = true := by decide +kernel
theorem Hx.cell {w : World} {g i : Nat} {T : List UInt8} (h : Hx w g i T) (j : Nat) (hj : j < 65) : ∃ v, w.cell? ⟨g, j, none⟩ = some v ∧ w.frozen? ⟨g, j, none⟩ = false := by
  obtain ⟨hl, cur, hg, hs, hc⟩ := h
  refine ⟨cur[j]'(by omega), ?_, by simp [World.frozen?, hg]⟩
  rw [Lib.cell_of_heap hg, Array.getElem?_eq_getElem (by omega)]
theorem and15 (u : Nat) (hu : u < 18446744073709551616) : bits BinOp.and IntKind.u64 (u : Int) 15 = ((u % 16 : Nat) : Int) := by
  have := u64_and_nat u 15 hu (by decide)
  rw [show ((15 : Nat) : Int) = 15 from rfl] at this
  rw [this, show (15 : Nat) = 2 ^ 4 - 1 from rfl, Nat.and_two_pow_sub_one_eq_mod]
/-- the digits of any base -/
def digsB : ByteArray := ⟨#[48, 49, 50, 51, 52, 53, 54, 55, 56, 57, 97, 98, 99, 100, 101, 102, 103, 104, 105, 106, 107, 108, 109, 110, 111, 112, 113, 114, 115, 116, 117, 118, 119, 120, 121, 122]⟩
theorem slice65 (W : World) (A k : Nat) (hk : k ≤ 16) : (Instr.sliceAt 81 (.pointer (some ⟨A, 0, none⟩)) (some (.int .i64 ((k : Int) + 49 - 1))) none none).run Tryd.prog W = .ok (.slice (some ⟨A, k + 48, none⟩) (65 - (k + 48)) (65 - (k + 48))) W := by
  have hal : Tryd.prog.arrayLen 81 = 65 := by kernel_rfl
  have hel : Tryd.prog.elem 81 = 5 := by kernel_rfl
  rw [run_sliceAt_array_l W 81 ⟨A, 0, none⟩ (by kernel_rfl) .i64 _ (by omega) (by rw [hal]; omega), hel, Tryd.sizeOf5, hal]
  simp only [Result.andThen_ok, slicedAt]
  rw [show ((k : Int) + 49 - 1).toNat = k + 48 by omega, if_neg (by omega)]
  simp [Addr.add]
theorem dig_tab : ∀ d : Fin 16, (digsB[d.val]'(by have := d.isLt; show d.val < 36; omega)).toNat = (dig d.val).toNat := by decide +kernel
set_option maxRecDepth 20000 in
set_option maxHeartbeats 2000000 in
theorem formatBits_any (u0 : Nat) (w : World) (hv : Vars w) (hu : u0 < 18446744073709551616) :
    Calls Tryd.prog 51 #[.slice none 0 0, .int .u64 u0, .int .i64 16, .bool false, .bool false] w fun e w' => e = .returned (.tuple #[.slice none 0 0, .string ⟨(hexT u0).toArray⟩]) ∧ Below w.heap.size w w' := by
  have hbA : Below w.heap.size w (w.alloc (.cells Tryd.zeroCells81 81)) := (Below.refl _ _).alloc (Nat.le_refl _) _
  have hx0 : Hx (w.alloc (.cells Tryd.zeroCells81 81)) w.heap.size 65 [] := ⟨rfl, _, Go.Deep.blk_alloc_new _ _, Tryd.zeros, fun j hj => by simp at hj⟩
  have cp := fun W => pow2_any W
  have ct := tz_any _ (hv.below hbA)
  generalize hw0 : w.alloc (.cells Tryd.zeroCells81 81) = w0 at *
  have HB0 : Hid (Below w.heap.size w w0) := hbA
  have HX0 : Hid (Hx w0 w.heap.size 65 []) := hx0
  clear hv hbA hx0
  go_enter Tryd.func51, Tryd.ntmps51
  go_wp2_with (first | (go_at_call 60; refine (cp _).mono ?_; rintro e w' ⟨rfl, rfl⟩) | (go_at_call 61; refine ct.mono ?_; rintro e w' ⟨rfl, rfl⟩))
  clear hw0 cp ct
  go_loopg [1, 13] 17 (fun gk s1 s13 wr => ∃ (u k : Nat) (T : List UInt8), s1 = .int .u64 u ∧ s13 = .int .i64 ((k + 49 : Nat) : Int) ∧ k ≤ 16 ∧ 1 ≤ k ∧ k + 1 ≤ gk ∧ u < 16 ^ k ∧ Hx wr w.heap.size (k + 49) T ∧ hexT u0 = hexT u ++ T ∧ Below w.heap.size w wr)
  case atStart => exact ⟨u0, 16, [], rfl, rfl, by omega, by omega, by omega, by simpa using hu, HX0.out, by simp, HB0.out⟩
  case round =>
    obtain ⟨u, k, T, rfl, rfl, hk, hk1, hgk, huk, hx, hT, hbr⟩ := hrel
    have HX : Hid (Hx wr w.heap.size (k + 49) T) := hx
    have HT : Hid (hexT u0 = hexT u ++ T) := hT
    have HB : Hid (Below w.heap.size w wr) := hbr
    have HK : Hid (k + 1 ≤ gk ∧ u < 16 ^ k ∧ 1 ≤ k) := ⟨hgk, huk, hk1⟩
    have hu64 : u < 18446744073709551616 := Nat.lt_of_lt_of_le huk (Nat.le_trans (Nat.pow_le_pow_right (by decide) hk) (by decide))
    obtain ⟨v, hc, hf⟩ := hx.cell (k + 48) (by omega)
    clear hT hbr hx hgk huk
    have hi1 : (1 : Int) ≤ ((k + 49 : Nat) : Int) := by omega
    have hw1 : ((k + 49 : Nat) : Int) - 1 = ((k + 48 : Nat) : Int) := by omega
    have hi2 : ((k + 48 : Nat) : Int) < 65 := by omega
    by_cases h16 : 16 ≤ u
    · have hq : (16 : Int) ≤ (u : Int) := by omega
      have hand := and15 u hu64
      have hd : u % 16 < 16 := Nat.mod_lt _ (by decide)
      have hd2 : ((u % 16 : Nat) : Int) < 36 := by omega
      go_wp2_with fail
      go_roundg (gk - 1)
      case measure => have := HK.out; omega
      case rel =>
        obtain ⟨g1, g2, g3⟩ := HK.out
        have hk2 : 2 ≤ k := by
          rcases Nat.lt_or_ge k 2 with h | h
          · have : k = 1 := by omega
            subst this
            omega
          · exact h
        obtain ⟨m, rfl⟩ : ∃ m, k = m + 1 := ⟨k - 1, by omega⟩
        refine ⟨u / 16, m, dig (u % 16) :: T, by simp, by go_num, by omega, by omega, by omega, ?_, ?_, ?_, HB.out.setCell (p := ⟨w.heap.size, m + 1 + 48, none⟩) (Nat.le_refl _) _⟩
        · rw [Nat.pow_succ] at g2; omega
        · have h1 := HX.out.put (i := m + 1 + 48) (dig (u % 16))
          rw [← dig_tab ⟨u % 16, hd⟩] at h1
          exact h1
        · rw [HT.out, hexT_high h16, List.append_assoc]; rfl
    · have hq : ¬ (16 : Int) ≤ (u : Int) := by omega
      have hd : u < 16 := by omega
      have hd2 : (u : Int) < 36 := by omega
      have hd0 : (0 : Int) ≤ (u : Int) := by omega
      have hx2 := HX.out.put (i := k + 48) (dig u)
      have hTT : Hid (hexT u0 = dig u :: T) := by show _ = _; rw [HT.out, hexT_low hd]; rfl
      have hlen : (dig u :: T).length = 65 - (k + 48) := by have := hx2.1; omega
      have hconv := run_convert_bytes_back (P := Tryd.prog) (wr.setCell ⟨w.heap.size, k + 48, none⟩ (.int .u8 (dig u).toNat)) 65 9 5 ⟨w.heap.size, k + 48, none⟩ (65 - (k + 48)) (dig u :: T) Tryd.underlying65 Tryd.underlying5 Tryd.underlying9 (fun j hj => by
        obtain ⟨h1, cur, hg, hs, hcc⟩ := hx2
        have h2 := hcc j hj
        rw [show (⟨w.heap.size, k + 48, none⟩ : Addr).add j = ⟨w.heap.size, k + 48 + j, none⟩ by unfold Addr.add; split; (rename_i h; rw [h, Nat.add_zero]); rfl]
        rw [Lib.cell_of_heap hg, h2, List.getD_eq_getElem?_getD, List.getElem?_eq_getElem hj]
        rfl)
      rw [hlen] at hconv
      have hsl := fun W => slice65 W w.heap.size k hk
      have hdu : ∀ h, ((⟨#[48, 49, 50, 51, 52, 53, 54, 55, 56, 57, 97, 98, 99, 100, 101, 102, 103, 104, 105, 106, 107, 108, 109, 110, 111, 112, 113, 114, 115, 116, 117, 118, 119, 120, 121, 122]⟩ : ByteArray)[u]'h).toNat = (dig u).toNat := fun _ => dig_tab ⟨u, hd⟩
      rw [show 65 - (k + 48) = 17 - k by omega] at hconv
      clear hx2 hlen
      go_wp2_with fail
      go_ret2
      rw [hTT.out]
      exact ⟨rfl, HB.out.setCell (p := ⟨w.heap.size, k + 48, none⟩) (Nat.le_refl _) _⟩

theorem formatUint_any (u : Nat) (w : World) (hv : Vars w) (hu : u < 18446744073709551616) :
    Calls Tryd.prog 14 #[.int .u64 u, .int .i64 16] w fun e w' => e = .returned (.string ⟨(hexT u).toArray⟩) ∧ Below w.heap.size w w' := by
  have c1 : Calls Tryd.prog 29 #[.int .u64 u, .int .i64 16] w fun e w' => e = .returned (.string ⟨(hexT u).toArray⟩) ∧ Below w.heap.size w w' := by
    have c := formatBits_any u w hv hu
    go_enter Tryd.func29, Tryd.ntmps29
    go_wp2_with (go_at_call 51; refine c.mono ?_; rintro e w' ⟨rfl, hb⟩)
    go_ret
    exact ⟨rfl, hb⟩
  go_enter Tryd.func14, Tryd.ntmps14
  go_wp2_with (go_at_call 29; refine c1.mono ?_; rintro e w' ⟨rfl, hb⟩)
  go_ret
  exact ⟨rfl, hb⟩
end Go.Proofs.YtekjcmejnhhpaaaDoor
