/- The document's own text of a rule. -/
import Derived.Test.YtpghbchbhjbbiaaGreatDoorSpRuText
namespace Go.Proofs.YtpghbchbhjbbiaaGreatDoor
open Go.RowKit

set_option maxHeartbeats 1000000 in
theorem refGood_any (b l : Int) (w : World) : Calls Tryz.prog 51 #[.agg #[.int .i64 b, .int .i64 l]] w fun e w' => e = .returned (.bool (goodB b l)) ∧ Below w.heap.size w w' := by
  by_cases h0 : 0 ≤ b
  · by_cases h1 : b ≤ 511
    · by_cases h2 : 0 ≤ l
      · by_cases h3 : l ≤ 511
        · have e0 := even_tmod b h0
          have hg : goodB b l = (b % 2 == 0) := by rw [← Int.tmod_eq_emod_of_nonneg h0, e0]; simp [goodB, withinB]; omega
          rw [hg]
          go_enter Tryz.func51, Tryz.ntmps51
          go_wp2
          go_ret
          exact ⟨rfl, (Below.refl _ _).alloc (Nat.le_refl _) _⟩
        · have hg : goodB b l = false := by simp [goodB, withinB]; omega
          rw [hg]
          go_enter Tryz.func51, Tryz.ntmps51
          go_wp2
          go_ret
          exact ⟨rfl, (Below.refl _ _).alloc (Nat.le_refl _) _⟩
      · have hg : goodB b l = false := by simp [goodB, withinB]; omega
        rw [hg]
        go_enter Tryz.func51, Tryz.ntmps51
        go_wp2
        go_ret
        exact ⟨rfl, (Below.refl _ _).alloc (Nat.le_refl _) _⟩
    · have hg : goodB b l = false := by simp [goodB, withinB]; omega
      rw [hg]
      go_enter Tryz.func51, Tryz.ntmps51
      go_wp2
      go_ret
      exact ⟨rfl, (Below.refl _ _).alloc (Nat.le_refl _) _⟩
  · have hg : goodB b l = false := by simp [goodB, withinB]; omega
    rw [hg]
    go_enter Tryz.func51, Tryz.ntmps51
    go_wp2
    go_ret
    exact ⟨rfl, (Below.refl _ _).alloc (Nat.le_refl _) _⟩

def digitRow : Array Value := #[.string ⟨#[48]⟩, .string ⟨#[49]⟩, .string ⟨#[50]⟩, .string ⟨#[51]⟩, .string ⟨#[52]⟩, .string ⟨#[53]⟩, .string ⟨#[54]⟩, .string ⟨#[55]⟩, .string ⟨#[56]⟩]
theorem digitRow_at : ∀ k, k < 9 → digitRow[k]? = some (.string ⟨#[UInt8.ofNat (48 + k)]⟩)
  | 0, _ => rfl
  | 1, _ => rfl
  | 2, _ => rfl
  | 3, _ => rfl
  | 4, _ => rfl
  | 5, _ => rfl
  | 6, _ => rfl
  | 7, _ => rfl
  | 8, _ => rfl
  | k + 9, h => absurd h (by omega)
theorem digitRow_cell (w : World) (t : TypeId) (k : Nat) (h : k < 9) : (w.alloc (.cells digitRow t)).cell? ⟨w.heap.size, k, none⟩ = some (.string ⟨#[UInt8.ofNat (48 + k)]⟩) := by
  rw [World.cell?_alloc_new]
  exact digitRow_at k h

theorem halve (x : Int) (k : Nat) : x / 2 ^ k / 2 = x / 2 ^ (k + 1) := by
  rw [Int.pow_succ, Int.ediv_ediv_of_nonneg (Int.le_of_lt (Int.pow_pos (by omega)))]

theorem step_on (pre : List UInt8) (x : Int) (k : Nat) (d : ByteArray) (m : Int) (hd : d = ⟨(pre ++ digitsL x k).toArray⟩ ∧ m = x / 2 ^ k) (h : m % 2 = 1) :
    (Value.string (d ++ ⟨#[UInt8.ofNat (48 + k)]⟩)) = .string ⟨(pre ++ digitsL x (k + 1)).toArray⟩ := by
  obtain ⟨rfl, rfl⟩ := hd
  rw [digitsL, if_pos (by rw [hasB]; simpa using h), ← List.append_assoc]
  congr 1
theorem step_off (pre : List UInt8) (x : Int) (k : Nat) (d : ByteArray) (m : Int) (hd : d = ⟨(pre ++ digitsL x k).toArray⟩ ∧ m = x / 2 ^ k) (h : m % 2 = 0) :
    Value.string d = .string ⟨(pre ++ digitsL x (k + 1)).toArray⟩ := by
  obtain ⟨rfl, rfl⟩ := hd
  rw [digitsL, if_neg (by rw [hasB]; simp [h]), List.append_nil]
theorem step_half (x : Int) (k : Nat) (m : Int) (hm : m = x / 2 ^ k) : (Value.int .i64 (m / 2)) = .int .i64 (x / 2 ^ (k + 1)) := by rw [hm, halve]

theorem cat_two (p : List UInt8) (l : Int) : (Value.string (⟨p.toArray⟩ ++ ⟨#[47, 83]⟩)) = .string ⟨(p ++ [47, 83] ++ digitsL l 0).toArray⟩ := by
  rw [digitsL, List.append_nil, ← ByteArray.mk_append_mk]
theorem text_end (b l : Int) : (⟨([66] ++ digitsL b 9 ++ [47, 83] ++ digitsL l 9).toArray⟩ : ByteArray) = ⟨(textL b l).toArray⟩ := by simp [textL]

set_option maxHeartbeats 2000000 in
theorem refText_any (b l : Int) (w : World) : Calls Tryz.prog 29 #[.agg #[.int .i64 b, .int .i64 l]] w fun e w' => e = .returned (textV b l) ∧ Below w.heap.size w w' := by
  have h0 := pair_born w (.int .i64 b) (.int .i64 l) 23
  by_cases hg : goodB b l = true
  · have hv : textV b l = .tuple #[.string ⟨(textL b l).toArray⟩, .int .i64 0] := by rw [textV, if_pos hg]
    rw [hv]
    clear hv
    have hx : 0 ≤ b ∧ 0 ≤ l ∧ b ≤ 511 ∧ l ≤ 511 := by simp [goodB, withinB] at hg; omega
    obtain ⟨hx0, hx1, hx2, hx3⟩ := hx
    go_enter Tryz.func29, Tryz.ntmps29
    go_wp2_with fail
    refine (refGood_any b l _).mono ?_
    rintro e w1 ⟨rfl, hb1⟩
    obtain ⟨c0, c1, hl1, hb⟩ := pair_go h0 hb1
    clear h0 hb1
    rw [hg]
    go_wp2_with fail
    refine wp_loop_rounds 3 ?_
    rw [rounds_succ]
    go_wp2_with fail
    go_loopg [4, 6, 29] 9 (fun gk s4 s6 s29 wr => ∃ k : Nat, k ≤ 9 ∧ 9 - k ≤ gk ∧ s29 = .int .i64 k ∧ s4 = .string ⟨([66] ++ digitsL b k).toArray⟩ ∧ s6 = .int .i64 (b / 2 ^ k) ∧ wr = (w1.alloc (.cells #[.int .i64 b, .int .i64 l] 3)).alloc (.cells digitRow 9))
    case atStart => exact ⟨0, by omega, by omega, rfl, rfl, by simp, rfl⟩
    case round =>
      obtain ⟨k, hk, hgk, rfl, hs4, hs6, hwr⟩ := hrel
      have HG : Hid (9 - k ≤ gk) := hgk
      have HW : Hid (wr = (w1.alloc (.cells #[.int .i64 b, .int .i64 l] 3)).alloc (.cells digitRow 9)) := hwr
      obtain ⟨d, rfl, hde⟩ : ∃ d : ByteArray, u4 = .string d ∧ d = ⟨([66] ++ digitsL b k).toArray⟩ := ⟨_, hs4, rfl⟩
      obtain ⟨m, rfl, hme⟩ : ∃ m : Int, u6 = .int .i64 m ∧ m = b / 2 ^ k := ⟨_, hs6, rfl⟩
      have hds : d.size ≤ 12 := by rw [hde, ByteArray.size_mk', List.size_toArray, List.length_append]; have := digitsL_length b k; simp; omega
      have hm0 : 0 ≤ m := by rw [hme]; exact Int.ediv_nonneg hx0 (Int.le_of_lt (Int.pow_pos (by omega)))
      have HD : Hid (d = ⟨([66] ++ digitsL b k).toArray⟩ ∧ m = b / 2 ^ k) := ⟨hde, hme⟩
      have hm9 : m ≤ 9223372036854775807 := by rw [hme]; exact Int.le_trans (Int.ediv_le_self _ hx0) (by omega)
      clear hde hme hgk hs4 hs6
      by_cases hlt : k < 9
      · have ck : wr.cell? ⟨w1.heap.size + 1, k, none⟩ = some (.string ⟨#[UInt8.ofNat (48 + k)]⟩) := by
          rw [hwr]
          have := digitRow_cell (w1.alloc (.cells #[.int .i64 b, .int .i64 l] 3)) 9 k hlt
          simpa using this
        clear hwr
        generalize hbk : UInt8.ofNat (48 + k) = bk at ck
        have HB : Hid (UInt8.ofNat (48 + k) = bk) := hbk
        clear hbk
        have hq : (k : Int) < 9 := by omega
        have hq0 : (0 : Int) ≤ (k : Int) := by omega
        have hc1 : ¬ 9223372036854775807 < d.size + 1 := by omega
        by_cases hh : m % 2 = 1
        · go_wp2_with fail
          go_roundg (gk - 1)
          case measure => have := HG.out; omega
          case rel =>
            have := HG.out
            exact ⟨k + 1, by omega, by omega, by go_num, by rw [← HB.out]; exact step_on _ _ _ _ _ HD.out hh, step_half _ _ _ HD.out.2, HW.out⟩
        · have hh0 : m % 2 = 0 := by omega
          clear hh
          go_wp2_with fail
          go_roundg (gk - 1)
          case measure => have := HG.out; omega
          case rel =>
            have := HG.out
            exact ⟨k + 1, by omega, by omega, by go_num, step_off _ _ _ _ _ HD.out hh0, step_half _ _ _ HD.out.2, HW.out⟩
      · have hk9 : k = 9 := by omega
        subst hk9
        clear hwr hlt hk
        have cl0 : wr.cell? ⟨w1.heap.size, 1, none⟩ = some (.int .i64 l) := by
          rw [HW.out, World.cell?_alloc_past _ _ _ (by simp), World.cell?_alloc_new]
          rfl
        have hc2 : ¬ 9223372036854775807 < d.size + 2 := by omega
        have HE : Hid (Below w.heap.size w wr) := by
          show Below w.heap.size w wr
          rw [HW.out]
          exact (hb.alloc (Nat.le_of_lt hl1) _).alloc (by simp; omega) _
        have hws : w.heap.size ≤ wr.heap.size := HE.out.size
        have HDD : Hid (d = ⟨([66] ++ digitsL b 9).toArray⟩) := HD.out.1
        obtain ⟨w2, hw2⟩ : ∃ w2, w2 = wr := ⟨wr, rfl⟩
        subst hw2
        clear HD HW hm0 hm9 HG
        go_wp2_with fail
        rw [rounds_succ]
        go_wp2_with fail
        go_loopg [4, 6, 29] 9 (fun gk s4 s6 s29 wr => ∃ k : Nat, k ≤ 9 ∧ 9 - k ≤ gk ∧ s29 = .int .i64 k ∧ s4 = .string ⟨(([66] ++ digitsL b 9 ++ [47, 83]) ++ digitsL l k).toArray⟩ ∧ s6 = .int .i64 (l / 2 ^ k) ∧ wr = w2.alloc (.cells digitRow 9))
        case atStart => exact ⟨0, by omega, by omega, rfl, by rw [HDD.out]; exact cat_two _ l, by simp, rfl⟩
        case round =>
          obtain ⟨k, hk, hgk, rfl, hs4, hs6, hwr⟩ := hrel
          have HG : Hid (9 - k ≤ gk) := hgk
          have HW : Hid (wr = w2.alloc (.cells digitRow 9)) := hwr
          obtain ⟨d, rfl, hde⟩ : ∃ d : ByteArray, u4 = .string d ∧ d = ⟨(([66] ++ digitsL b 9 ++ [47, 83]) ++ digitsL l k).toArray⟩ := ⟨_, hs4, rfl⟩
          obtain ⟨m, rfl, hme⟩ : ∃ m : Int, u6 = .int .i64 m ∧ m = l / 2 ^ k := ⟨_, hs6, rfl⟩
          have hds : d.size ≤ 46 := by rw [hde, ByteArray.size_mk', List.size_toArray, List.length_append]; have h1 := digitsL_length l k; have h2 := digitsL_length b 9; simp; omega
          have hm0 : 0 ≤ m := by rw [hme]; exact Int.ediv_nonneg hx1 (Int.le_of_lt (Int.pow_pos (by omega)))
          have HD : Hid (d = ⟨(([66] ++ digitsL b 9 ++ [47, 83]) ++ digitsL l k).toArray⟩ ∧ m = l / 2 ^ k) := ⟨hde, hme⟩
          have hm9 : m ≤ 9223372036854775807 := by rw [hme]; exact Int.le_trans (Int.ediv_le_self _ hx1) (by omega)
          clear hde hme hgk hs4 hs6
          by_cases hlt : k < 9
          · have ck : wr.cell? ⟨w2.heap.size, k, none⟩ = some (.string ⟨#[UInt8.ofNat (48 + k)]⟩) := by
              rw [hwr]
              have := digitRow_cell w2 9 k hlt
              simpa using this
            clear hwr
            generalize hbk : UInt8.ofNat (48 + k) = bk at ck
            have HB : Hid (UInt8.ofNat (48 + k) = bk) := hbk
            clear hbk
            have hq : (k : Int) < 9 := by omega
            have hq0 : (0 : Int) ≤ (k : Int) := by omega
            have hc1 : ¬ 9223372036854775807 < d.size + 1 := by omega
            by_cases hh : m % 2 = 1
            · go_wp2_with fail
              go_roundg (gk - 1)
              case measure => have := HG.out; omega
              case rel =>
                have := HG.out
                exact ⟨k + 1, by omega, by omega, by go_num, by rw [← HB.out]; exact step_on _ _ _ _ _ HD.out hh, step_half _ _ _ HD.out.2, HW.out⟩
            · have hh0 : m % 2 = 0 := by omega
              clear hh
              go_wp2_with fail
              go_roundg (gk - 1)
              case measure => have := HG.out; omega
              case rel =>
                have := HG.out
                exact ⟨k + 1, by omega, by omega, by go_num, step_off _ _ _ _ _ HD.out hh0, step_half _ _ _ HD.out.2, HW.out⟩
          · have hk9 : k = 9 := by omega
            subst hk9
            clear hwr
            go_wp2_with fail
            rw [rounds_succ]
            go_wp2_with fail
            go_ret2
            refine ⟨?_, ?_⟩
            · rw [← text_end, ← HD.out.1]
              rfl
            · rw [HW.out]
              exact HE.out.alloc hws _
  · have hg2 : goodB b l = false := by simpa using hg
    go_enter Tryz.func29, Tryz.ntmps29
    go_wp2_with fail
    refine (refGood_any b l _).mono ?_
    rintro e w1 ⟨rfl, hb1⟩
    rw [hg2]
    go_wp2_with fail
    go_ret2
    exact ⟨by rw [textV, if_neg hg]; rfl, (pair_go h0 hb1).2.2.2⟩
end Go.Proofs.YtpghbchbhjbbiaaGreatDoor
