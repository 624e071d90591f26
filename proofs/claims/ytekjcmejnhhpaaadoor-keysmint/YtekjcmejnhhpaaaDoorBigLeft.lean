/- Whole numbers: shifted left by less than a word. -/
import Derived.Test.YtekjcmejnhhpaaaDoorBigRight
import Derived.Test.YtekjcmejnhhpaaaDoorMulPure
namespace Go.Proofs.YtekjcmejnhhpaaaDoor
open Go.RowKit

theorem lf_carry {x y s : Nat} (hs : s < 32) (hy : y < 2 ^ s) : (y + x * 2 ^ s) / 4294967296 = x * 2 ^ s / 4294967296 ∧ (y + x * 2 ^ s) % 4294967296 = (x * 2 ^ s) % 4294967296 + y ∧ (x * 2 ^ s) % 4294967296 ||| y = (x * 2 ^ s) % 4294967296 + y := by
  have e : (4294967296 : Nat) = 2 ^ (32 - s) * 2 ^ s := by rw [← Nat.pow_add, show 32 - s + s = 32 by omega]
  have hp : 0 < 2 ^ s := Nat.two_pow_pos s
  have hq : 0 < 2 ^ (32 - s) := Nat.two_pow_pos _
  have h1 : x * 2 ^ s % 4294967296 = 2 ^ s * (x % 2 ^ (32 - s)) := by rw [e, Nat.mul_mod_mul_right, Nat.mul_comm]
  have h2 : 2 ^ s * (x % 2 ^ (32 - s)) + 2 ^ s ≤ 4294967296 := by
    have := Nat.mod_lt x hq
    have h3 : 2 ^ s * (x % 2 ^ (32 - s) + 1) ≤ 2 ^ s * 2 ^ (32 - s) := Nat.mul_le_mul_left _ this
    rw [Nat.mul_add, Nat.mul_comm (2 ^ s) (2 ^ (32 - s)), ← e] at h3
    omega
  refine ⟨?_, ?_, ?_⟩
  · omega
  · omega
  · rw [h1, Nat.two_pow_add_eq_or_of_lt hy]
theorem or32 (a b : Nat) (ha : a < 4294967296) (hb : b < 4294967296) : bits .or .u32 (a : Int) (b : Int) = ((a ||| b : Nat) : Int) := by
  have hx : a ||| b < 2 ^ 32 := Nat.or_lt_two_pow (by omega) (by omega)
  have h1 : (BitVec.ofInt 32 (a : Int)).toNat = a := by rw [BitVec.ofInt_natCast, BitVec.toNat_ofNat]; exact Nat.mod_eq_of_lt (by omega)
  have h2 : (BitVec.ofInt 32 (b : Int)).toNat = b := by rw [BitVec.ofInt_natCast, BitVec.toNat_ofNat]; exact Nat.mod_eq_of_lt (by omega)
  show IntKind.u32.wrap ((BitVec.ofInt 32 (a : Int) ||| BitVec.ofInt 32 (b : Int)).toNat : Int) = _
  rw [BitVec.toNat_or, h1, h2]
  simp [IntKind.wrap, IntKind.bits, IntKind.signed]
  omega
theorem left_fits {n k s : Nat} (hn : n < 4294967296 ^ k) (hs : s < 32) : n * 2 ^ s < 4294967296 ^ (k + 1) := by
  have h1 : 2 ^ s < 2 ^ 32 := Nat.pow_lt_pow_right (by omega) hs
  have h2 := Nat.mul_lt_mul'' hn h1
  rw [Nat.pow_succ]
  exact h2
set_option maxHeartbeats 2000000 in
theorem bigLeft_any (B n s : Nat) (u : Value) (w : World) (hu : Wd w B u n) (hs : Few n) (hsl : s < 32) :
    Calls Tryd.prog 32 #[u, .int .u64 s] w fun e w' => ∃ x, e = .returned x ∧ Wd w' w.heap.size x (n * 2 ^ s) ∧ Below w.heap.size w w' := by
  have hmk := fun (K : Nat) (hK : K ≤ 1000) W => run_make_row' (P := Tryd.prog) 42 62 (.int .u32 0) 4 Tryd.underlying42 (by kernel_rfl) rfl .i64 .i64 K (by omega) (by omega) W
  obtain ⟨a1, k1, c1, rfl, hk1, hc1, hk1000, hn1, hp1, h1⟩ := hu
  have hk12 := wd_many hs hp1
  have HN : Hid (n < 4294967296 ^ k1) := hn1
  have s1 : (s : Int) / 32 = 0 := by omega
  have s2 : (s : Int) % 32 = s := by omega
  have s3 : (s : Int) < 32 := by omega
  by_cases hk0 : k1 = 0
  · subst hk0
    have hn0 : n = 0 := by simp at hn1; exact hn1
    have HZ : Hid (∀ W : World, Wd W w.heap.size (.slice none 0 0) (n * 2 ^ s)) := fun W => by
      rw [hn0, Nat.zero_mul]
      exact ⟨none, 0, 0, rfl, by omega, by unfold maxLen; omega, by omega, by simp, by simp, Or.inl rfl⟩
    clear hn1 hp1 h1 hmk hn0
    go_enter Tryd.func32, Tryd.ntmps32
    go_wp2_with fail
    go_ret
    exact ⟨_, rfl, HZ.out _, Below.refl _ _⟩
  · have hk0' : ¬ (k1 : Int) = 0 := by omega
    have hk0b : ((k1 : Int) == 0) = false := by simp; omega
    have hmk1 := hmk (k1 + 1) (by omega) w
    clear hn1 hp1 hmk
    rw [show (((k1 + 1 : Nat) : Int)) = (k1 : Int) + 1 by omega] at hmk1
    obtain ⟨K, hK⟩ : ∃ K, K = k1 + 1 := ⟨_, rfl⟩
    rw [← hK] at hmk1
    have HK : Hid (K = k1 + 1) := hK
    have hR := World.rowIs_made w (.int .u32 0) K 62
    have hB := (Below.refl w.heap.size w).alloc (Nat.le_refl _) (.cells (madeCells #[.int .u32 0] K) 62)
    clear hK
    go_enter Tryd.func32, Tryd.ntmps32
    go_wp2_with fail
    generalize w.alloc (.cells (madeCells #[.int .u32 0] K) 62) = wM at *
    clear hmk1
    rcases h1 with h1 | ⟨b1, o1, rfl, _, hb1, hw1⟩
    · omega
    have HW : Hid (Wds w b1 o1 n k1) := hw1
    clear hw1
    go_loopg [8] k1 (fun g s8 wr => ∃ i : Nat, i + g = k1 ∧ s8 = .int .i64 i ∧ wr.rowIs w.heap.size 62 K (fun j => if j < i then .int .u32 (wd (n * 2 ^ s) j : Nat) else if j = i then .int .u32 (my n (2 ^ s) i : Nat) else .int .u32 0) ∧ Below w.heap.size w wr)
    case atStart => exact ⟨0, by omega, rfl, hR.congr fun i hi => by rw [if_neg (by omega), my_zero]; simp, hB⟩
    case round =>
      obtain ⟨i, hi, rfl, hrow, hbw⟩ := hrel
      have HI : Hid (i + gk = k1) := hi
      have hik : i ≤ k1 := by omega
      clear hi
      by_cases hlt : i < k1
      · have x0 := (hbw.cell (p := ⟨b1, o1 + i, none⟩) hb1).trans (HW.out i hlt)
        have hi2 : (i : Int) < (k1 : Int) := by omega
        have hi1 : (0 : Int) ≤ (i : Int) := by omega
        have hib : (i : Int) < 1000 := by omega
        have hi3 : (i : Int) < (K : Int) := by have := HK.out; omega
        have hi4 : (i : Int) + 1 < (K : Int) := by have := HK.out; omega
        have hsm := wd_prod n (2 ^ s) i
        have hnx := my_next n (2 ^ s) i
        have ha := wd_lt n i
        have hz := my_lt n (2 ^ s) i (Nat.two_pow_pos s)
        have f0 := hrow.frozen i
        have f1 := hrow.frozen (i + 1)
        have e0 := hrow.cell (i := i) (by have := HK.out; omega)
        have e1 := hrow.cell (i := i + 1) (by have := HK.out; omega)
        rw [if_neg (by omega), if_pos rfl] at e0
        rw [if_neg (by omega), if_neg (by omega)] at e1
        have HROW : Hid (wr.rowIs w.heap.size 62 K (fun j => if j < i then .int .u32 (wd (n * 2 ^ s) j : Nat) else if j = i then .int .u32 (my n (2 ^ s) i : Nat) else .int .u32 0)) := hrow
        generalize wd n i = x at *
        generalize my n (2 ^ s) i = z at *
        obtain ⟨lc1, lc2, lc3⟩ := lf_carry (x := x) hsl hz
        have h32 : 2 ^ s < 4294967296 := Nat.lt_of_lt_of_eq (Nat.pow_lt_pow_right (by omega) hsl) rfl
        obtain ⟨y, hy⟩ : ∃ y, y = x * 2 ^ s := ⟨_, rfl⟩
        rw [← hy] at lc1 lc2 lc3 hsm hnx
        have hyb : y < 18446744073709551616 := by rw [hy]; exact Nat.lt_of_lt_of_le (Nat.mul_lt_mul'' ha h32) (by omega)
        have hyi : (x : Int) * 2 ^ s = (y : Int) := by rw [hy]; simp
        have hor : bits .or .u32 (z : Int) ((y : Int) % 4294967296) = ((y % 4294967296 + z : Nat) : Int) := by
          have h := or32 z (y % 4294967296) (by omega) (by omega)
          rw [Nat.or_comm, lc3] at h
          simpa using h
        have hor0 : bits .or .u32 (0 : Int) ((y : Int) / 4294967296) = (y : Int) / 4294967296 := by
          have h := or32 0 (y / 4294967296) (by omega) (by omega)
          rw [Nat.zero_or] at h
          simpa using h
        have HSM : Hid (wd (n * 2 ^ s) i = y % 4294967296 + z) := by show _ = _; rw [hsm, lc2]
        have HNX : Hid (my n (2 ^ s) (i + 1) = y / 4294967296) := by show _ = _; rw [hnx, lc1]
        clear hsm hnx hrow lc1 lc2 lc3 hy
        go_wp2_with fail
        go_roundg (gk - 1)
        case measure => have := HI.out; omega
        case rel =>
          have h3 := HI.out
          refine ⟨i + 1, by omega, by go_num, ?_, ?_⟩
          · refine ((HROW.out.set i _).set (i + 1) _).congr fun j hj => ?_
            by_cases h : j = i + 1
            · rw [if_pos h, if_neg (by omega), if_pos h, HNX.out]
              exact congrArg (Value.int .u32) (by omega)
            · rw [if_neg h]
              by_cases h' : j = i
              · rw [if_pos h', if_pos (by omega), h', HSM.out]
                exact congrArg (Value.int .u32) (by omega)
              · rw [if_neg h']
                by_cases h4 : j < i
                · rw [if_pos h4, if_pos (by omega)]
                · rw [if_neg h4, if_neg h', if_neg (by omega), if_neg h]
          · exact (hbw.setCell (p := ⟨w.heap.size, i, none⟩) (Nat.le_refl _) _).setCell (p := ⟨w.heap.size, i + 1, none⟩) (Nat.le_refl _) _
      · have hik2 : i = k1 := by omega
        have HSM : Hid (wd (n * 2 ^ s) k1 = my n (2 ^ s) i) := by
          show _ = _
          rw [wd_prod, wd_none HN.out (Nat.le_refl _), hik2]
          have h4 := my_lt n (2 ^ s) k1 (Nat.two_pow_pos s)
          have h32 : 2 ^ s < 4294967296 := Nat.lt_of_lt_of_eq (Nat.pow_lt_pow_right (by omega) hsl) rfl
          omega
        have ht := trim_any w.heap.size w.heap.size 0 K K (n * 2 ^ s) wr (Nat.le_refl _) (Nat.le_refl _) (by have := HK.out; unfold maxLen; omega) (by have := HK.out; omega) hrow.lt (by rw [HK.out]; exact left_fits HN.out hsl) (fun j hj => by
          rw [Nat.zero_add, hrow.cell (i := j) hj]
          by_cases h1 : j = k1
          · rw [if_neg (by omega), if_pos (by omega), h1, HSM.out]
          · rw [if_pos (by have := HK.out; omega)])
        have hi2 : ¬ (i : Int) < (k1 : Int) := by omega
        clear hik2 hrow
        go_wp2_with fail
        refine ht.mono ?_
        rintro e w' ⟨v, rfl, hv, rfl⟩
        go_wp2_with fail
        go_ret
        exact ⟨v, rfl, hv, hbw⟩
end Go.Proofs.YtekjcmejnhhpaaaDoor
