/- Whole numbers: bits of just one. -/
import Derived.Test.YtekjcmejnhhpaaaDoorBigLow
import Derived.Lib.MinMax
namespace Go.Proofs.YtekjcmejnhhpaaaDoor
open Go.RowKit

theorem wpow2 (i : Nat) : 4294967296 ^ i = 2 ^ (32 * i) := by rw [Nat.pow_mul]
theorem wd_xor (n m i : Nat) : wd (n ^^^ m) i = wd n i ^^^ wd m i := by
  unfold wd
  rw [wpow2, ← Nat.shiftRight_eq_div_pow, ← Nat.shiftRight_eq_div_pow, ← Nat.shiftRight_eq_div_pow, Nat.shiftRight_xor_distrib, show (4294967296 : Nat) = 2 ^ 32 from rfl, Nat.xor_mod_two_pow]
theorem xor_fits {n m k : Nat} (hn : n < 4294967296 ^ k) (hm : m < 4294967296 ^ k) : n ^^^ m < 4294967296 ^ k := by
  rw [wpow2] at *
  exact Nat.xor_lt_two_pow hn hm
theorem xor32 (a b : Nat) (ha : a < 4294967296) (hb : b < 4294967296) : bits .xor .u32 (a : Int) (b : Int) = ((a ^^^ b : Nat) : Int) := by
  have hx : a ^^^ b < 2 ^ 32 := Nat.xor_lt_two_pow (by omega) (by omega)
  have h1 : (BitVec.ofInt 32 (a : Int)).toNat = a := by rw [BitVec.ofInt_natCast, BitVec.toNat_ofNat]; exact Nat.mod_eq_of_lt (by omega)
  have h2 : (BitVec.ofInt 32 (b : Int)).toNat = b := by rw [BitVec.ofInt_natCast, BitVec.toNat_ofNat]; exact Nat.mod_eq_of_lt (by omega)
  show IntKind.u32.wrap ((BitVec.ofInt 32 (a : Int) ^^^ BitVec.ofInt 32 (b : Int)).toNat : Int) = _
  rw [BitVec.toNat_xor, h1, h2]
  simp [IntKind.wrap, IntKind.bits, IntKind.signed]
  omega
theorem wd_count {n k k1 : Nat} (hn : n < 4294967296 ^ k1) (hp : k ≠ 0 → 4294967296 ^ (k - 1) ≤ n) : k ≤ k1 := by
  by_cases h0 : k = 0
  · omega
  · have h1 := Nat.lt_of_le_of_lt (hp h0) hn
    have h2 : k - 1 < k1 := (Nat.pow_lt_pow_iff_right (by omega)).1 h1
    omega
theorem IsInt.len {b n : Nat} {w : World} (h : IsInt b n w) : ∃ a k c, w.heap[b]? = some (.cells #[.bool false, .slice a k c] 44 (0, 0)) ∧ n < 4294967296 ^ k ∧ (k ≠ 0 → 4294967296 ^ (k - 1) ≤ n) := by
  obtain ⟨v, hb, a, k, c, rfl, _, _, _, hn, hp, _⟩ := h
  exact ⟨a, k, c, hb, hn, hp⟩
set_option maxHeartbeats 1000000 in
theorem of_any (b g K N : Nat) (p q : Value) (w : World) (hb : w.heap[b]? = some (.cells #[p, q] 44 (0, 0))) (hg : b < g) (hrow : w.rowIs g 62 (K + 1) (fun i => .int .u32 (wd N i : Nat))) (hK : K < 1000) (hN : N < 4294967296 ^ K) :
    Calls Tryd.prog 41 #[.pointer (some ⟨b, 0, none⟩), .slice (some ⟨g, 0, none⟩) (K + 1) (K + 1)] w fun e w' => e = .returned (.pointer (some ⟨b, 0, none⟩)) ∧ IsInt b N w' ∧ w.grownBy w' (some b) := by
  have ht := trim_any (b + 1) g 0 (K + 1) (K + 1) N w (by omega) (Nat.le_refl _) (by unfold maxLen; omega) (by omega) hrow.lt (by rw [wpow]; omega) (fun j hj => by rw [Nat.zero_add]; exact hrow.cell (i := j) hj)
  have e0 := hrow.cell (i := K) (by omega)
  rw [wd_none hN (Nat.le_refl _)] at e0
  have e0 : w.cell? ⟨g, K, none⟩ = some (.int .u32 0) := e0
  have hgv := fun v W (hW : Wd W (b + 1) v N) (h : W = w) => give2_any b N v p q W (by rw [h]; exact hb) hW
  have hk1 : (0 : Int) < (K : Int) + 1 := by omega
  clear hrow hb
  go_enter Tryd.func41, Tryd.ntmps41
  go_wp2_with fail
  refine ht.mono ?_
  rintro e w1 ⟨v, rfl, hv, rfl⟩
  go_wp2_with fail
  refine (hgv v _ hv rfl).mono ?_
  rintro e w2 ⟨rfl, hi, hb⟩
  go_wp2_with fail
  go_ret
  exact ⟨rfl, hi, hb⟩
set_option maxHeartbeats 2000000 in
theorem xor_any (b0 b1 b2 n m : Nat) (p q : Value) (w : World) (hz : w.heap[b0]? = some (.cells #[p, q] 44 (0, 0))) (h1 : IsInt b1 n w) (h2 : IsInt b2 m w) (hs : Few n ∧ Few m) :
    Calls Tryd.prog 24 #[.pointer (some ⟨b0, 0, none⟩), .pointer (some ⟨b1, 0, none⟩), .pointer (some ⟨b2, 0, none⟩)] w fun e w' => e = .returned (.pointer (some ⟨b0, 0, none⟩)) ∧ IsInt b0 (n ^^^ m) w' ∧ w.grownBy w' (some b0) := by
  obtain ⟨a1, k1, c1, hb1, hn1, hp1⟩ := h1.len
  obtain ⟨a2, k2, c2, hb2, hn2, hp2⟩ := h2.len
  have hk1 := wd_many hs.1 hp1
  have hk2 := wd_many hs.2 hp2
  obtain ⟨M, hM⟩ : ∃ M, M = max k1 k2 := ⟨_, rfl⟩
  have hM1 : k1 ≤ M := by omega
  have hM2 : k2 ≤ M := by omega
  have hm : max (k1 : Int) (k2 : Int) = (M : Int) := by omega
  have HN : Hid (n < 4294967296 ^ M ∧ m < 4294967296 ^ M) := ⟨Nat.lt_of_lt_of_le hn1 (Nat.pow_le_pow_right (by omega) hM1), Nat.lt_of_lt_of_le hn2 (Nat.pow_le_pow_right (by omega) hM2)⟩
  have lo1 := fun W (h : IsInt b1 n W) => low_any b1 n (M + 1) W h (by omega) (fun k _ h => by have := wd_count hn1 h; omega)
  have lo2 := fun W (h : IsInt b2 m W) => low_any b2 m (M + 1) W h (by omega) (fun k _ h => by have := wd_count hn2 h; omega)
  have x1 : w.cell? ⟨b1, 1, none⟩ = some (.slice a1 k1 c1) := by rw [Lib.cell_of_heap hb1]; rfl
  have y1 : w.cell? ⟨b2, 1, none⟩ = some (.slice a2 k2 c2) := by rw [Lib.cell_of_heap hb2]; rfl
  have HZ : Hid (w.heap[b0]? = some (.cells #[p, q] 44 (0, 0)) ∧ IsInt b2 m w ∧ IsInt b1 n w) := ⟨hz, h2, h1⟩
  have hMb : (M : Int) < 1000 := by omega
  have hwM : IntKind.i64.wrap ((M : Int) + 1) = (M : Int) + 1 := by rw [IntKind.wrap_i64]; omega
  have hM0 : (0 : Int) ≤ (M : Int) := by omega
  have hcast : (((M + 1 : Nat) : Int)) = (M : Int) + 1 := by omega
  simp only [hcast] at lo1 lo2
  clear hcast
  clear hb1 hb2 hn1 hn2 hp1 hp2 hM hz h1 h2 hM1 hM2 hk1 hk2
  go_enter Tryd.func24, Tryd.ntmps24
  go_wp2_with fail
  go_region_held3 (fun W => W.cell? ⟨b1, 1, none⟩ = some (.slice a1 k1 c1) ∧ W.cell? ⟨b2, 1, none⟩ = some (.slice a2 k2 c2)) (exact ⟨x1, y1⟩) (fail)
  go_wp2_with fail
  refine (lo1 _ (HZ.out.2.2.go (drewB w 1))).mono ?_
  rintro e w1 ⟨g1, rfl, hg1, hr1, hb1'⟩
  have hb1 : Below w.heap.size w w1 := ⟨hb1'.os, hb1'.tape, hb1'.output, hb1'.size, hb1'.block⟩
  have hg1 : w.heap.size ≤ g1 := hg1
  clear hb1'
  go_wp2_with fail
  refine (lo2 _ (HZ.out.2.1.go hb1)).mono ?_
  rintro e w2 ⟨g2, rfl, hg2, hr2, hb2⟩
  have hlt1 : g1 < w1.heap.size := hr1.lt
  have hr12 : w2.rowIs g1 62 (M + 1) (fun i => .int .u32 (wd n i : Nat)) := by
    obtain ⟨cs, q1, q2⟩ := hr1
    exact ⟨cs, (hb2.block g1 hlt1).trans q1, q2⟩
  have HB2 : Hid (Below w.heap.size w w2) := hb1.trans (hb2.mono hb1.size)
  have HG : Hid (w.heap.size ≤ g1 ∧ g1 < g2) := ⟨hg1, by omega⟩
  have HR2 : Hid (w2.rowIs g2 62 (M + 1) (fun i => .int .u32 (wd m i : Nat))) := hr2
  clear hr1 hr2 hb1 hb2 lo1 lo2 hg1 hg2 hlt1 x1 y1
  go_wp2_with fail
  go_loopg [10] (M + 1) (fun g s10 wr => ∃ i : Nat, i + g = M + 1 ∧ s10 = .int .i64 i ∧ wr.rowIs g1 62 (M + 1) (fun j => if j < i then .int .u32 (wd (n ^^^ m) j : Nat) else .int .u32 (wd n j : Nat)) ∧ wr.rowIs g2 62 (M + 1) (fun j => .int .u32 (wd m j : Nat)) ∧ Below w.heap.size w wr)
  case atStart => exact ⟨0, by omega, rfl, hr12.congr fun j hj => by rw [if_neg (by omega)], HR2.out, HB2.out⟩
  case round =>
    obtain ⟨i, hi, rfl, hrow, hrw2, hbw⟩ := hrel
    have HI : Hid (i + gk = M + 1) := hi
    have HROW : Hid (wr.rowIs g1 62 (M + 1) (fun j => if j < i then .int .u32 (wd (n ^^^ m) j : Nat) else .int .u32 (wd n j : Nat)) ∧ wr.rowIs g2 62 (M + 1) (fun j => .int .u32 (wd m j : Nat)) ∧ Below w.heap.size w wr) := ⟨hrow, hrw2, hbw⟩
    clear hi
    by_cases hlt : i < M + 1
    · have hi2 : (i : Int) < (M : Int) + 1 := by omega
      have hi1 : (0 : Int) ≤ (i : Int) := by omega
      have hib : (i : Int) < 2000 := by omega
      have hi3 : (i : Int) < ((M + 1 : Nat) : Int) := by omega
      have e0 := hrow.cell (i := i) hlt
      have e1 := hrw2.cell (i := i) hlt
      have f0 := hrow.frozen i
      rw [if_neg (by omega)] at e0
      have hx := wd_xor n m i
      have ha := wd_lt n i
      have hb := wd_lt m i
      generalize wd n i = x at *
      generalize wd m i = y at *
      have hxr := xor32 x y ha hb
      have HX : Hid (wd (n ^^^ m) i = x ^^^ y) := hx
      generalize x ^^^ y = z at *
      clear hx hrow hrw2 hbw hr12
      go_wp2_with fail
      go_region
      all_goals
        go_wp2_with fail
        go_roundg (gk - 1)
        case measure => have := HI.out; omega
        case rel =>
          have h3 := HI.out
          have h4 := HG.out
          refine ⟨i + 1, by omega, by go_num, ?_, ?_, ?_⟩
          · refine World.rowIs.congr (w := wr.setCell ⟨g1, i, none⟩ (.int .u32 z)) (HROW.out.1.set i _) fun j hj => ?_
            by_cases h : j = i
            · rw [if_pos h, if_pos (by omega), h, HX.out]
            · rw [if_neg h]
              by_cases h' : j < i
              · rw [if_pos h', if_pos (by omega)]
              · rw [if_neg h', if_neg (by omega)]
          · obtain ⟨cs, q1, q2⟩ := HROW.out.2.1
            exact ⟨cs, (Below.heap_setCell _ _ _ _ (by show g2 ≠ g1; omega)).trans q1, q2⟩
          · exact (HROW.out.2.2.setCell (p := ⟨g1, i, none⟩) h4.1 _).drew
    · have hiM : i = M + 1 := by have := HI.out; omega
      have hi2 : ¬ (i : Int) < (M : Int) + 1 := by omega
      have hzl : b0 < w.heap.size := (Array.getElem?_eq_some_iff.1 HZ.out.1).1
      have hof := of_any b0 g1 M (n ^^^ m) p q wr ((hbw.block b0 hzl).trans HZ.out.1) (by have := HG.out; omega) (hrow.congr fun j hj => by rw [if_pos (by omega)]) (by omega) (xor_fits HN.out.1 HN.out.2)
      have HF : Hid (∀ w', wr.grownBy w' (some b0) → w.grownBy w' (some b0)) := fun w' hb => grown_under hbw hb
      clear hiM hrow hrw2 hbw hr12
      go_wp2_with fail
      refine hof.mono ?_
      rintro e w' ⟨rfl, hi, hb⟩
      go_wp2_with fail
      go_ret
      exact ⟨rfl, hi, HF.out _ hb⟩
end Go.Proofs.YtekjcmejnhhpaaaDoor
