/- Whole numbers: shifted right by less than a word. -/
import Derived.Test.YtekjcmejnhhpaaaDoorBigSub
namespace Go.Proofs.YtekjcmejnhhpaaaDoor
open Go.RowKit

theorem wd_right (n s i : Nat) (hs : s < 32) : wd (n / 2 ^ s) i = (wd n i + 4294967296 * wd n (i + 1)) / 2 ^ s % 4294967296 := by
  unfold wd
  rw [Nat.div_div_eq_div_mul, Nat.mul_comm (2 ^ s), ← Nat.div_div_eq_div_mul, Nat.pow_succ, ← Nat.div_div_eq_div_mul]
  generalize n / 4294967296 ^ i = q
  have e2 : (4294967296 : Nat) = 2 ^ s * 2 ^ (32 - s) := by rw [← Nat.pow_add, show s + (32 - s) = 32 by omega]
  have hp : 0 < 2 ^ s := Nat.two_pow_pos s
  have e1 : q = (q % 4294967296 + 4294967296 * (q / 4294967296 % 4294967296)) + 2 ^ s * (4294967296 * (2 ^ (32 - s) * (q / 4294967296 / 4294967296))) := by
    have h3 : 2 ^ s * (4294967296 * (2 ^ (32 - s) * (q / 4294967296 / 4294967296))) = 4294967296 * (4294967296 * (q / 4294967296 / 4294967296)) := by
      rw [Nat.mul_left_comm (2 ^ s), ← Nat.mul_assoc (2 ^ s), ← e2]
    rw [h3]
    omega
  conv => lhs; rw [e1, Nat.add_mul_div_left _ _ hp]
  omega
theorem wrapU2 (n : Int) : IntKind.u64.wrap n = n % 18446744073709551616 := by simp [IntKind.wrap, IntKind.bits, IntKind.signed]
set_option maxHeartbeats 2000000 in
theorem bigRight_any (B n s : Nat) (u : Value) (w : World) (hu : Wd w B u n) (hs : Few n) (hsl : s < 32) :
    Calls Tryd.prog 42 #[u, .int .u64 s] w fun e w' => ∃ x, e = .returned x ∧ Wd w' w.heap.size x (n / 2 ^ s) ∧ Below w.heap.size w w' := by
  have hmk := fun (K : Nat) (hK : K ≤ 1000) W => run_make_row' (P := Tryd.prog) 42 62 (.int .u32 0) 4 Tryd.underlying42 (by kernel_rfl) rfl .i64 .i64 K (by omega) (by omega) W
  obtain ⟨a1, k1, c1, rfl, hk1, hc1, hk1000, hn1, hp1, h1⟩ := hu
  have hk12 := wd_many hs hp1
  have HN : Hid (n < 4294967296 ^ k1) := hn1
  have s1 : (s : Int) / 32 = 0 := by omega
  have s2 : (s : Int) % 32 = s := by omega
  have s3 : (s : Int) < 32 := by omega
  by_cases hk0 : k1 = 0
  · subst hk0
    have hn0 : n = 0 := by simp at hn1; exact hn1
    have HZ : Hid (∀ W : World, Wd W w.heap.size (.slice none 0 0) (n / 2 ^ s)) := fun W => by
      rw [hn0, Nat.zero_div]
      exact ⟨none, 0, 0, rfl, by omega, by unfold maxLen; omega, by omega, by simp, by simp, Or.inl rfl⟩
    clear hn1 hp1 h1 hmk hn0
    go_enter Tryd.func42, Tryd.ntmps42
    go_wp2_with fail
    go_ret
    exact ⟨_, rfl, HZ.out _, Below.refl _ _⟩
  · have hk0' : ¬ (k1 : Int) ≤ 0 := by omega
    have hmk1 := hmk k1 (by omega) w
    clear hn1 hp1 hmk
    have hR := World.rowIs_made w (.int .u32 0) k1 62
    have hB := (Below.refl w.heap.size w).alloc (Nat.le_refl _) (.cells (madeCells #[.int .u32 0] k1) 62)
    go_enter Tryd.func42, Tryd.ntmps42
    go_wp2_with fail
    generalize w.alloc (.cells (madeCells #[.int .u32 0] k1) 62) = wM at *
    clear hmk1
    rcases h1 with h1 | ⟨b1, o1, rfl, _, hb1, hw1⟩
    · omega
    have HW : Hid (Wds w b1 o1 n k1) := hw1
    clear hw1
    go_loopg [8] k1 (fun g s8 wr => ∃ i : Nat, i + g = k1 ∧ s8 = .int .i64 i ∧ wr.rowIs w.heap.size 62 k1 (fun j => if j < i then .int .u32 (wd (n / 2 ^ s) j : Nat) else .int .u32 0) ∧ Below w.heap.size w wr)
    case atStart => exact ⟨0, by omega, rfl, hR.congr fun i hi => by rw [if_neg (by omega)], hB⟩
    case round =>
      obtain ⟨i, hi, rfl, hrow, hbw⟩ := hrel
      have HI : Hid (i + gk = k1) := hi
      have hik : i ≤ k1 := by omega
      clear hi
      by_cases hlt : i < k1
      · have x0 := (hbw.cell (p := ⟨b1, o1 + i, none⟩) hb1).trans (HW.out i hlt)
        have hi2 : (i : Int) < (k1 : Int) := by omega
        have hi1 : (0 : Int) ≤ (i : Int) := by omega
        have hib : (i : Int) < 1000 := by omega
        have hsm := wd_right n s i hsl
        have ha := wd_lt n i
        have hb := wd_lt n (i + 1)
        have f0 := hrow.frozen i
        have e0 := hrow.cell (i := i) (by omega)
        rw [if_neg (by omega)] at e0
        have HROW : Hid (wr.rowIs w.heap.size 62 k1 (fun j => if j < i then .int .u32 (wd (n / 2 ^ s) j : Nat) else .int .u32 0)) := hrow
        by_cases hl2 : i + 1 < k1
        · have y0 := (hbw.cell (p := ⟨b1, o1 + (i + 1), none⟩) hb1).trans (HW.out (i + 1) hl2)
          have hj2 : (i : Int) + 1 < (k1 : Int) := by omega
          generalize wd n i = x at *
          generalize wd n (i + 1) = y at *
          have hor : bits .or .u64 (x : Int) ((y : Int) * 4294967296) = ((y * 4294967296 + x : Nat) : Int) := by
            have := bits_or_u64_nat x (y * 4294967296) (by omega) (by omega)
            rw [Nat.or_comm, or_word y x (by omega)] at this
            simpa using this
          have HSM : Hid (wd (n / 2 ^ s) i = (x + 4294967296 * y) / 2 ^ s % 4294967296) := hsm
          clear hsm hrow
          go_wp2_with fail
          go_roundg (gk - 1)
          case measure => have := HI.out; omega
          case rel =>
            have h3 := HI.out
            refine ⟨i + 1, by omega, by go_num, ?_, ?_⟩
            · refine (HROW.out.set i _).congr fun j hj => ?_
              by_cases h : j = i
              · rw [if_pos h, if_pos (by omega), h, HSM.out]
                refine congrArg (Value.int .u32) ?_
                rw [show (y : Int) * 4294967296 + (x : Int) = ((x + 4294967296 * y : Nat) : Int) by omega]
                simp
              · rw [if_neg h]
                by_cases h' : j < i
                · rw [if_pos h', if_pos (by omega)]
                · rw [if_neg h', if_neg (by omega)]
            · exact hbw.setCell (p := ⟨w.heap.size, i, none⟩) (Nat.le_refl _) _
        · have hm0 : wd n (i + 1) = 0 := wd_none HN.out (by omega)
          rw [hm0] at hsm
          have hj2 : ¬ (i : Int) + 1 < (k1 : Int) := by omega
          generalize wd n i = x at *
          have HSM : Hid (wd (n / 2 ^ s) i = (x + 4294967296 * 0) / 2 ^ s % 4294967296) := hsm
          clear hsm hrow hm0
          go_wp2_with fail
          go_roundg (gk - 1)
          case measure => have := HI.out; omega
          case rel =>
            have h3 := HI.out
            refine ⟨i + 1, by omega, by go_num, ?_, ?_⟩
            · refine (HROW.out.set i _).congr fun j hj => ?_
              by_cases h : j = i
              · rw [if_pos h, if_pos (by omega), h, HSM.out]
                refine congrArg (Value.int .u32) ?_
                simp
              · rw [if_neg h]
                by_cases h' : j < i
                · rw [if_pos h', if_pos (by omega)]
                · rw [if_neg h', if_neg (by omega)]
            · exact hbw.setCell (p := ⟨w.heap.size, i, none⟩) (Nat.le_refl _) _
      · have hik2 : i = k1 := by omega
        have ht := trim_any w.heap.size w.heap.size 0 k1 k1 (n / 2 ^ s) wr (Nat.le_refl _) (Nat.le_refl _) (by unfold maxLen; omega) (by omega) hrow.lt (Nat.lt_of_le_of_lt (Nat.div_le_self _ _) HN.out) (fun j hj => by
          rw [Nat.zero_add, hrow.cell (i := j) hj, if_pos (by omega)])
        have hi2 : ¬ (i : Int) < (k1 : Int) := by omega
        clear hik2 hrow
        go_wp2_with fail
        refine ht.mono ?_
        rintro e w' ⟨v, rfl, hv, rfl⟩
        go_wp2_with fail
        go_ret
        exact ⟨v, rfl, hv, hbw⟩
end Go.Proofs.YtekjcmejnhhpaaaDoor
