/- Whole numbers: a product. -/
import Derived.Test.YtekjcmejnhhpaaaDoorBigMul
import Derived.Test.YtekjcmejnhhpaaaDoorMulPure
namespace Go.Proofs.YtekjcmejnhhpaaaDoor
open Go.RowKit

theorem prod_fits {n m k l : Nat} (hn : n < 4294967296 ^ k) (hm : m < 4294967296 ^ l) : n * m < 4294967296 ^ (k + l) := by
  rw [Nat.pow_add]
  exact Nat.mul_lt_mul'' hn hm
theorem wrapU (n : Int) : IntKind.u64.wrap n = n % 18446744073709551616 := by simp [IntKind.wrap, IntKind.bits, IntKind.signed]
/-- the row of words in the inner loop -/
def mrow (n m i j p : Nat) : Nat := if i ≤ p ∧ p < i + j then wd (ms n m i + wd n i * m) (p - i) else wd (mr n m i) p
theorem mrow_zero (n m i p : Nat) : mrow n m i 0 p = wd (mr n m i) p := by unfold mrow; rw [if_neg (by omega)]
theorem mrow_step (n m i j p : Nat) : mrow n m i (j + 1) p = if p = i + j then wd (ms n m i + wd n i * m) j else mrow n m i j p := by
  unfold mrow
  by_cases h : p = i + j
  · rw [if_pos h, if_pos (by omega), h, show i + j - i = j by omega]
  · rw [if_neg h]
    by_cases h2 : i ≤ p ∧ p < i + j
    · rw [if_pos h2, if_pos (by omega)]
    · rw [if_neg h2, if_neg (by omega)]
theorem mrow_here (n m i j : Nat) : mrow n m i j (i + j) = wd (ms n m i) j := by
  unfold mrow
  rw [if_neg (by omega), ms_word]
theorem mrow_end (n m i k p : Nat) (hm : m < 4294967296 ^ k) : wd (mr n m (i + 1)) p = if p = i + k then ic (ms n m i) (wd n i) m k else mrow n m i k p := by
  by_cases h : p = i + k
  · rw [if_pos h, h, mr_high, ic_end n m i k hm]
  · rw [if_neg h]
    unfold mrow
    by_cases h2 : i ≤ p ∧ p < i + k
    · rw [if_pos h2]
      obtain ⟨q, rfl⟩ : ∃ q, p = i + q := ⟨p - i, by omega⟩
      rw [mr_high, show i + q - i = q by omega]
    · rw [if_neg h2]
      by_cases h3 : p < i
      · exact mr_low n m i p h3
      · rw [wd_none (mr_lt n m (i + 1) k hm) (by omega), wd_none (mr_lt n m i k hm) (by omega)]

set_option maxHeartbeats 4000000 in
theorem bigMul_any (B B' n m : Nat) (u v : Value) (w : World) (hu : Wd w B u n) (hv : Wd w B' v m) (hs : Few n ∧ m < 18446744073709551616) :
    Calls Tryd.prog 35 #[u, v] w fun e w' => ∃ x, e = .returned x ∧ Wd w' w.heap.size x (n * m) ∧ Below w.heap.size w w' := by
  have hmk := fun (K : Nat) (hK : K ≤ 1000) W => run_make_row' (P := Tryd.prog) 42 62 (.int .u32 0) 4 Tryd.underlying42 (by kernel_rfl) rfl .i64 .i64 K (by omega) (by omega) W
  obtain ⟨a2, k2, c2, rfl, hk2, hc2, _, hn2, hp2, h2⟩ := hv
  have hk22 := wd_few hs.2 hp2
  obtain ⟨a1, k1, c1, rfl, hk1, hc1, _, hn1, hp1, h1⟩ := hu
  have hk12 := wd_many hs.1 hp1
  have HN : Hid (n < 4294967296 ^ k1 ∧ m < 4294967296 ^ k2) := ⟨hn1, hn2⟩
  have nil : n * m = 0 → ∀ W : World, Wd W w.heap.size (.slice none 0 0) (n * m) := fun h W => by
    rw [h]
    exact ⟨none, 0, 0, rfl, by omega, by unfold maxLen; omega, by omega, by simp, by simp, Or.inl rfl⟩
  by_cases hk0 : k1 = 0
  · subst hk0
    have hn0 : n = 0 := by simp at hn1; exact hn1
    have HZ : Hid (∀ W : World, Wd W w.heap.size (.slice none 0 0) (n * m)) := nil (by rw [hn0]; simp)
    clear hn1 hp1 h1 hmk nil
    go_enter Tryd.func35, Tryd.ntmps35
    go_wp2_with fail
    go_ret
    exact ⟨_, rfl, HZ.out _, Below.refl _ _⟩
  · have hk0' : ¬ (k1 : Int) = 0 := by omega
    have hk0b : ((k1 : Int) == 0) = false := by simp; omega
    by_cases hk20 : k2 = 0
    · subst hk20
      have hn0 : m = 0 := by simp at hn2; exact hn2
      have HZ : Hid (∀ W : World, Wd W w.heap.size (.slice none 0 0) (n * m)) := nil (by rw [hn0]; simp)
      clear hn1 hp1 h1 hmk nil hn0
      go_enter Tryd.func35, Tryd.ntmps35
      go_wp2_with fail
      go_ret
      exact ⟨_, rfl, HZ.out _, Below.refl _ _⟩
    · have hk2' : ¬ (k2 : Int) = 0 := by omega
      have hk2b : ((k2 : Int) == 0) = false := by simp; omega
      rcases h1 with h1 | ⟨b1, o1, rfl, _, hb1, hw1⟩
      · omega
      rcases h2 with h2 | ⟨b2, o2, rfl, _, hb2, hw2⟩
      · omega
      have HW : Hid (Wds w b1 o1 n k1 ∧ Wds w b2 o2 m k2) := ⟨hw1, hw2⟩
      have hmk1 := hmk (k1 + k2) (by omega) w
      clear hn1 hp1 hmk hw1 hn2 hp2 hw2 nil
      rw [show (((k1 + k2 : Nat) : Int)) = (k1 : Int) + k2 by omega] at hmk1
      obtain ⟨K, hK⟩ : ∃ K, K = k1 + k2 := ⟨_, rfl⟩
      rw [← hK] at hmk1
      have HK : Hid (K = k1 + k2) := hK
      have hR := World.rowIs_made w (.int .u32 0) K 62
      have hB := (Below.refl w.heap.size w).alloc (Nat.le_refl _) (.cells (madeCells #[.int .u32 0] K) 62)
      clear hK
      go_enter Tryd.func35, Tryd.ntmps35
      go_wp2_with fail
      generalize w.alloc (.cells (madeCells #[.int .u32 0] K) 62) = wM at *
      clear hmk1
      go_loopg [6] k1 (fun g s6 wr => ∃ i : Nat, i + g = k1 ∧ s6 = .int .i64 i ∧ wr.rowIs w.heap.size 62 K (fun p => .int .u32 (wd (mr n m i) p : Nat)) ∧ Below w.heap.size w wr)
      case atStart => exact ⟨0, by omega, rfl, hR.congr fun p hp => by rw [mr_zero]; simp [wd], hB⟩
      case round =>
        obtain ⟨i, hi, rfl, hrow, hbw⟩ := hrel
        obtain ⟨gK, hgK⟩ : ∃ x, x = gk := ⟨_, rfl⟩
        subst hgK
        obtain ⟨wR, hwR⟩ : ∃ x, x = wr := ⟨_, rfl⟩
        subst hwR
        have HI : Hid (i + gK = k1) := hi
        have hik : i ≤ k1 := by omega
        clear hi
        by_cases hlt : i < k1
        · have hi2 : (i : Int) < (k1 : Int) := by omega
          have hi1 : (0 : Int) ≤ (i : Int) := by omega
          have hib : (i : Int) < 1000 := by omega
          have HR0 : Hid (wR.rowIs w.heap.size 62 K (fun p => .int .u32 (mrow n m i 0 p : Nat)) ∧ Below w.heap.size w wR) := ⟨hrow.congr fun p hp => by rw [mrow_zero], hbw⟩
          clear hrow hbw
          go_wp2_with fail
          go_loopg [7, 8] k2 (fun g s7 s8 wr => ∃ j : Nat, j + g = k2 ∧ s8 = .int .i64 j ∧ s7 = .int .u64 (ic (ms n m i) (wd n i) m j : Nat) ∧ wr.rowIs w.heap.size 62 K (fun p => .int .u32 (mrow n m i j p : Nat)) ∧ Below w.heap.size w wr)
          case atStart => exact ⟨0, by omega, rfl, by rw [ic_zero]; rfl, HR0.out.1, HR0.out.2⟩
          case round =>
            obtain ⟨j, hj, rfl, rfl, hrow, hbw⟩ := hrel
            have HJ : Hid (j + gk = k2) := hj
            have HROW : Hid (wr.rowIs w.heap.size 62 K (fun p => .int .u32 (mrow n m i j p : Nat))) := hrow
            have HBW : Hid (Below w.heap.size w wr) := hbw
            have hjk : j ≤ k2 := by omega
            clear hj
            by_cases hjl : j < k2
            · have hj2 : (j : Int) < (k2 : Int) := by omega
              have hj1 : (0 : Int) ≤ (j : Int) := by omega
              have hjb : (j : Int) < 3 := by omega
              have hij : (i : Int) + (j : Int) < (K : Int) := by have := HK.out; omega
              have x0 := (hbw.cell (p := ⟨b1, o1 + i, none⟩) hb1).trans (HW.out.1 i hlt)
              have y0 := (hbw.cell (p := ⟨b2, o2 + j, none⟩) hb2).trans (HW.out.2 j hjl)
              have e0 := hrow.cell (i := i + j) (by have := HK.out; omega)
              have f0 := hrow.frozen (i + j)
              rw [mrow_here] at e0
              have HSM : Hid (wd (ms n m i + wd n i * m) j = (ic (ms n m i) (wd n i) m j + wd (ms n m i) j + wd n i * wd m j) % 4294967296) := wd_in _ _ _ _
              have HNX : Hid (ic (ms n m i) (wd n i) m (j + 1) = (ic (ms n m i) (wd n i) m j + wd (ms n m i) j + wd n i * wd m j) / 4294967296) := ic_next _ _ _ _
              have q1 := wd_lt n i
              have q2 := wd_lt m j
              have q3 := wd_lt (ms n m i) j
              have q4 := ic_lt (ms n m i) (wd n i) m j (wd_lt n i)
              obtain ⟨y, hy⟩ : ∃ y, y = wd n i * wd m j := ⟨_, rfl⟩
              have hyb : y ≤ 18446744065119617025 := by rw [hy]; exact Nat.mul_le_mul (show wd n i ≤ 4294967295 by omega) (show wd m j ≤ 4294967295 by omega)
              have hyi : ((wd n i : Nat) : Int) * ((wd m j : Nat) : Int) = ((y : Nat) : Int) := by rw [hy]; simp
              rw [← hy] at HSM HNX
              clear hy
              obtain ⟨x, hx⟩ : ∃ x, x = wd n i := ⟨_, rfl⟩
              have HSX : Hid (wd n i = x) := hx.symm
              rw [← hx] at HSM HNX x0 q1 q4 hyi ⊢
              clear hx
              generalize wd m j = yy at *
              generalize wd (ms n m i) j = z at *
              generalize hcc : ic (ms n m i) x m j = cc at *
              have b1' : (x : Int) < 4294967296 := by omega
              have b2' : (yy : Int) < 4294967296 := by omega
              have b3' : (z : Int) < 4294967296 := by omega
              have b4' : (cc : Int) < 4294967296 := by omega
              have b5' : (y : Int) ≤ 18446744065119617025 := by omega
              have HCC : Hid (ic (ms n m i) x m j = cc) := hcc
              have w0 : IntKind.i64.wrap ((i : Int) + (j : Int)) = (i : Int) + (j : Int) := by rw [IntKind.wrap_i64]; omega
              have w00 : (0 : Int) ≤ (i : Int) + (j : Int) := by omega
              have w01 : ((i : Int) + (j : Int)).toNat = i + j := by omega
              have w1 : IntKind.u64.wrap ((x : Int) * (yy : Int)) = (y : Int) := by rw [hyi, wrapU]; omega
              have w2 : IntKind.u64.wrap ((y : Int) + (z : Int)) = (y : Int) + (z : Int) := by rw [wrapU]; omega
              have w3 : IntKind.u64.wrap ((cc : Int) + ((y : Int) + (z : Int))) = (cc : Int) + ((y : Int) + (z : Int)) := by rw [wrapU]; omega
              clear hcc hrow hbw hyb
              go_wp2_with fail
              go_region_held3 (fun W => W.cell? ⟨b1, o1 + i, none⟩ = some (.int .u32 x) ∧ W.cell? ⟨b2, o2 + j, none⟩ = some (.int .u32 yy) ∧ W.cell? ⟨w.heap.size, i + j, none⟩ = some (.int .u32 z)) (exact ⟨x0, y0, e0⟩) (fail)
              all_goals
                go_wp2_with fail
                go_roundg (gk - 1)
                case measure => have := HJ.out; omega
                case rel =>
                  have h3 := HJ.out
                  refine ⟨j + 1, by omega, by go_num, ?_, ?_, ?_⟩
                  · rw [HSX.out, HNX.out]
                    refine congrArg (Value.int .u64) ?_
                    rw [hyi]
                    omega
                  · refine World.rowIs.congr (w := wr.setCell ⟨w.heap.size, i + j, none⟩ (.int .u32 (((cc : Int) + ((y : Int) + (z : Int))) % 4294967296))) (HROW.out.set (i + j) _) fun p hp => ?_
                    rw [mrow_step, HSX.out]
                    by_cases h : p = i + j
                    · rw [if_pos h, if_pos h, HSM.out]
                      exact congrArg (Value.int .u32) (by omega)
                    · rw [if_neg h, if_neg h]
                  · exact (HBW.out.setCell (p := ⟨w.heap.size, i + j, none⟩) (Nat.le_refl _) _).drew
            · have hj2 : ¬ (j : Int) < (k2 : Int) := by omega
              have hjk2 : j = k2 := by omega
              subst hjk2
              have hij : (i : Int) + (j : Int) < (K : Int) := by have := HK.out; omega
              have w0 : IntKind.i64.wrap ((i : Int) + (j : Int)) = (i : Int) + (j : Int) := by rw [IntKind.wrap_i64]; omega
              have w00 : (0 : Int) ≤ (i : Int) + (j : Int) := by omega
              have w01 : ((i : Int) + (j : Int)).toNat = i + j := by omega
              have f0 := hrow.frozen (i + j)
              have e0 := hrow.cell (i := i + j) (by have := HK.out; omega)
              have q4 := ic_lt (ms n m i) (wd n i) m j (wd_lt n i)
              have HEND := fun p => mrow_end n m i j p HN.out.2
              obtain ⟨cc, hcc⟩ : ∃ cc, cc = ic (ms n m i) (wd n i) m j := ⟨_, rfl⟩
              rw [← hcc] at q4 HEND
              rw [← hcc]
              have b4' : (cc : Int) < 4294967296 := by omega
              have HEN : Hid (∀ p, wd (mr n m (i + 1)) p = if p = i + j then cc else mrow n m i j p) := HEND
              clear HEND hcc hrow hbw
              go_wp2_with fail
              go_roundg (gK - 1)
              case measure => have := HI.out; omega
              case rel =>
                refine ⟨i + 1, by have := HI.out; omega, by go_num, ?_, HBW.out.setCell (p := ⟨w.heap.size, i + j, none⟩) (Nat.le_refl _) _⟩
                refine (HROW.out.set (i + j) _).congr fun p hp => ?_
                rw [HEN.out]
                by_cases h : p = i + j
                · rw [if_pos h, if_pos h]
                · rw [if_neg h, if_neg h]
        · have hik2 : i = k1 := by omega
          have ht := trim_any w.heap.size w.heap.size 0 K K (n * m) wR (Nat.le_refl _) (Nat.le_refl _) (by have := HK.out; unfold maxLen; omega) (by have := HK.out; omega) hrow.lt (by rw [HK.out]; exact prod_fits HN.out.1 HN.out.2) (fun p hp => by
            rw [Nat.zero_add, hrow.cell (i := p) hp, hik2, mr_all m HN.out.1])
          have hi2 : ¬ (i : Int) < (k1 : Int) := by omega
          clear hik2 hrow
          go_wp2_with fail
          refine ht.mono ?_
          rintro e w' ⟨v, rfl, hv, rfl⟩
          go_wp2_with fail
          go_ret
          exact ⟨v, rfl, hv, hbw⟩
end Go.Proofs.YtekjcmejnhhpaaaDoor
