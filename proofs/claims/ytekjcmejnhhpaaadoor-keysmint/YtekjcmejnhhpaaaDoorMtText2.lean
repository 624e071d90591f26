/- Text(16) is the program's own hexadecimal text. -/
import Derived.Test.YtekjcmejnhhpaaaDoorMtText
import Derived.Test.YtekjcmejnhhpaaaDoorKyText
namespace Go.Proofs.YtekjcmejnhhpaaaDoor
open Go.RowKit

theorem dig_hex : ∀ d : Fin 16, dig d.val = UInt8.ofNat (hexC d.val) := by decide +kernel
theorem hexR_cons (n k : Nat) : hexR n (k + 1) = UInt8.ofNat (hexC (n % 16)) :: hexR (n / 16) k := by
  unfold hexR
  rw [List.range_succ_eq_map, List.map_cons, List.map_map]
  simp [Function.comp_def, Nat.pow_succ', Nat.div_div_eq_div_mul]
theorem hexR_hexT : ∀ (k n : Nat), n < 16 ^ (k + 1) → (k = 0 ∨ 16 ^ k ≤ n) → (hexR n (k + 1)).reverse = hexT n
  | 0, n, h, _ => by
    have hn : n < 16 := by simpa using h
    rw [hexR_cons, hexT_low hn, dig_hex ⟨n, hn⟩, Nat.mod_eq_of_lt hn]
    simp [hexR]
  | k + 1, n, h, h2 => by
    have hk : 16 ^ (k + 1) ≤ n := by
      rcases h2 with e | e
      · cases e
      · exact e
    have h16 : 16 ≤ n := by
      rw [Nat.pow_succ] at hk
      have := Nat.pow_pos (n := k) (show 0 < 16 by omega)
      omega
    have hd : n / 16 < 16 ^ (k + 1) := by
      rw [Nat.pow_succ] at h
      omega
    have hd2 : k = 0 ∨ 16 ^ k ≤ n / 16 := .inr (by
      rw [Nat.pow_succ] at hk
      omega)
    rw [hexR_cons, List.reverse_cons, hexR_hexT k (n / 16) hd hd2, hexT_high h16, dig_hex ⟨n % 16, by omega⟩]
theorem text16_zero (b : Nat) (w : World) (h : IsInt b 0 w) :
    Calls Tryd.prog 27 #[.pointer (some ⟨b, 0, none⟩), .int .i64 16] w fun e w' => e = .returned (.string ⟨#[48]⟩) ∧ w' = w := by
  obtain ⟨v, hb, hv⟩ := h
  have c1 : w.cell? ⟨b, 1, none⟩ = some v := by rw [Lib.cell_of_heap hb]; rfl
  obtain ⟨a, kk, c, rfl, hk, hc, hk2, hN, hp, hW⟩ := hv
  obtain rfl : kk = 0 := by
    rcases Nat.eq_zero_or_pos kk with e | e
    · exact e
    · have := hp (by omega)
      have := wpos (kk - 1)
      omega
  clear hN hp hW
  go_enter Tryd.func27, Tryd.ntmps27
  go_wp2_with fail
  go_ret
  exact ⟨rfl, rfl⟩
theorem text16_any (b n : Nat) (w : World) (h : Sg b false n w) (hn : n < 18446744073709551616) :
    Calls Tryd.prog 27 #[.pointer (some ⟨b, 0, none⟩), .int .i64 16] w fun e w' => e = .returned (.string ⟨(hexT n).toArray⟩) ∧ Below w.heap.size w w' := by
  by_cases h0 : n = 0
  · subst h0
    refine (text16_zero b w h.int).mono fun e w' ⟨he, hw⟩ => ⟨?_, by rw [hw]; exact Below.refl _ _⟩
    rw [he, hexT_low (by omega)]
    rfl
  · refine (text16_int 16 b n w h.int h0 (by exact hn) (by omega)).mono fun e w' ⟨k, h1, h2, he, hb⟩ => ⟨?_, hb⟩
    match k, h1, h2, he with
    | 0, h1, _, _ => simp at h1; omega
    | k + 1, h1, h2, he => rw [he, hexR_hexT k n h1 (by
        rcases Nat.eq_zero_or_pos k with e | e
        · exact .inl e
        · exact .inr (by simpa using h2 (by omega)))]
end Go.Proofs.YtekjcmejnhhpaaaDoor
