/- A number below 0 in digits. -/
import Derived.Test.YtpghbchbhjbbiaaGreatDoorBigText
namespace Go.Proofs.YtpghbchbhjbbiaaGreatDoor
open Go.RowKit

/-- a number below 0: its size -/
def IsNeg (b n : Nat) (w : World) : Prop := ∃ v, w.heap[b]? = some (.cells #[.bool true, v] 70 (0, 0)) ∧ Wd w (b + 1) v n
theorem digV_neg (n k : Nat) : digV n k ++ [.int .u8 45] = (digR n k ++ [45]).map fun b : UInt8 => Value.int .u8 (b.toNat : Int) := by
  rw [List.map_append]
  refine congr (congrArg _ ?_) rfl
  simp only [digV, digR, List.map_map]
  refine List.map_congr_left fun j _ => ?_
  have h : n / 10 ^ j % 10 < 10 := Nat.mod_lt _ (by omega)
  have h2 : (UInt8.ofNat (48 + n / 10 ^ j % 10)).toNat = 48 + n / 10 ^ j % 10 := by rw [UInt8.toNat_ofNat']; omega
  show Value.int .u8 ((48 + n / 10 ^ j % 10 : Nat) : Int) = Value.int .u8 ((UInt8.ofNat (48 + n / 10 ^ j % 10)).toNat : Int)
  rw [h2]

set_option maxHeartbeats 2000000 in
set_option maxRecDepth 100000 in
theorem text_neg (D0 b n : Nat) (w : World) (h : IsNeg b n w) (h0 : n ≠ 0) (hn : n < 10 ^ D0) (hD0 : D0 ≤ 7000) :
    Calls Tryz.prog 65 #[.pointer (some ⟨b, 0, none⟩), .int .i64 10] w fun e w' => ∃ k, n < 10 ^ k ∧ (k ≠ 0 → 10 ^ (k - 1) ≤ n) ∧ e = .returned (.string ⟨(45 :: (digR n k).reverse).toArray⟩) ∧ Below w.heap.size w w' := by
  obtain ⟨v, hb, hv⟩ := h
  have c0 : w.cell? ⟨b, 0, none⟩ = some (.bool true) := by rw [Lib.cell_of_heap hb]; rfl
  have c1 : w.cell? ⟨b, 1, none⟩ = some v := by rw [Lib.cell_of_heap hb]; rfl
  have htw := twin_any (b + 1) v n w hv h0
  obtain ⟨a, kk, c, rfl, hk, hc, hk2, hN, hp, hW⟩ := hv
  have hk0 : (0 : Int) < (kk : Int) := by
    rcases Nat.eq_zero_or_pos kk with e | e
    · subst e; simp at hN; omega
    · omega
  have HN : Hid (n < 10 ^ D0) := hn
  clear hN hp hW
  go_enter Tryz.func65, Tryz.ntmps65
  go_wp2_with fail
  refine htw.mono ?_
  rintro e w1 ⟨u, rfl, hu, hb1⟩
  go_wp2_with fail
  go_loopg [5, 6, 7] D0 (fun gk s5 s6 s7 wr => ∃ k : Nat, k + gk = D0 ∧ (k = 0 ∨ 10 ^ (k - 1) ≤ n) ∧ Wd wr w.heap.size s6 (n / 10 ^ k) ∧ wr.ownsRow w.heap.size 5 1 s5 k (digV n k) ∧ Below w.heap.size w wr)
  case atStart => exact ⟨0, by omega, Or.inl rfl, by simpa using hu, World.ownsRow_nil _ _ _ _, hb1⟩
  case round =>
    obtain ⟨k, hk1, hk3, hwd, hown, hbr⟩ := hrel
    have hsm := small_any w.heap.size u6 (n / 10 ^ k) 10 wr hwd (by omega) (by omega)
    have HWD : Hid (Wd wr w.heap.size u6 (n / 10 ^ k)) := hwd
    have HBR : Hid (Below w.heap.size w wr) := hbr
    have HK : Hid (k + gk = D0) := hk1
    have HK3 : Hid (k = 0 ∨ 10 ^ (k - 1) ≤ n) := hk3
    have HOWN : Hid (wr.ownsRow w.heap.size 5 1 u5 k (digV n k)) := hown
    obtain ⟨a', k', c', rfl, e1, e2, e3, e4, e5, e6⟩ := id hwd
    by_cases hz : n / 10 ^ k = 0
    · have hk'0 : k' = 0 := by
        rcases Nat.eq_zero_or_pos k' with e | e
        · exact e
        · have := e5 (by omega)
          have := wpos (k' - 1)
          omega
      subst hk'0
      have HZ : Hid (n / 10 ^ k = 0) := hz
      have hkp : k ≠ 0 := by
        rintro rfl
        simp at hz
        omega
      have d0 : wr.cell? ⟨b, 0, none⟩ = some (.bool true) := (hbr.cell (p := ⟨b, 0, none⟩) (Array.getElem?_eq_some_iff.1 hb).1).trans c0
      have hk20 : k ≤ D0 := by omega
      obtain ⟨i0, hi, hz0, hz1, hz2⟩ := info_parts Tryz.infoByte
      clear hz hwd hbr hk1 hk3 hown e4 e5 e6
      go_wp2_with (at_builtin; refine wpList_append_own _ rfl _ _ 45 rfl w.heap.size 5 i0 (.int .u8 0) 1 1 Tryz.underlying45 hi hz0 hz1 hz2 rfl (by decide) _ _ _ rfl (HOWN.out.alloc _) ⟨wr.heap.size, 0, none⟩ 1 1 [.int .u8 45] rfl rfl ?c1 ?c2 ?c3 ?c4 ?c5 ?_)
      case c1 =>
        intro j u hj
        match j, hj with
        | 0, hj => simp at hj; subst hj; simp [Addr.add]
      case c2 => intro u hu; simp at hu; subst hu; rfl
      case c3 => unfold maxLen; omega
      case c4 => omega
      case c5 => have := HBR.out.size; simp; omega
      intro v5 w5 hown5 hgrow5 _
      obtain ⟨K, hK⟩ : ∃ K, K = k + 1 := ⟨_, rfl⟩
      rw [← hK] at hown5
      have HKK : Hid (K = k + 1) := hK
      have HB5 : Hid (Below w.heap.size w w5) := (HBR.out.alloc HBR.out.size _).grown hgrow5 (by have := HBR.out.size; simp; omega) (fun g hg => (HOWN.out.lt g hg).1)
      have hK21 : K ≤ D0 + 1 := by omega
      have hKp : 1 ≤ K := by omega
      rcases hown5.2 with ⟨_, e⟩ | ⟨g, cap, cur, rfl, hg, hgg, hkc, hcm, hcs, htk⟩
      · omega
      rw [Nat.mul_one] at hcs htk
      have HR0 : Hid (w5.rowIs g 5 cap (fun p => cur.getD p undef)) := ⟨cur, hgg, hcs, fun p hp => by
        simp [Array.getD, hcs, hp]⟩
      obtain ⟨L, hLL⟩ : ∃ L, L = digR n k ++ [45] := ⟨_, rfl⟩
      have HL : Hid (L = digR n k ++ [45] ∧ L.length = K) := ⟨hLL, by rw [hLL, hK]; simp [digR]⟩
      have HCUR : Hid (∀ p, p < K → cur.getD p undef = .int .u8 (L.getD p 0).toNat) := fun p hp => by
        have hlv : digV n k ++ [.int .u8 45] = L.map fun b : UInt8 => Value.int .u8 (b.toNat : Int) := by rw [hLL]; exact digV_neg n k
        have hll := HL.out.2
        have : (cur.toList.take K)[p]? = some (.int .u8 (L.getD p 0).toNat) := by
          rw [htk, hlv, List.getElem?_map, List.getD_eq_getElem?_getD, List.getElem?_eq_getElem (by omega)]
          rfl
        rw [List.getElem?_take] at this
        simp only [hp, if_true, Array.getElem?_toList] at this
        simp [Array.getD_eq_getD_getElem?, this]
      have HG : Hid (w.heap.size ≤ g) := hg
      have hmx : cap ≤ maxLen := hcm
      clear hK hLL hgg hcs htk hg hcm hown5 hgrow5 hi hz0 hz1 hz2
      go_wp2_with fail
      obtain ⟨D, hD⟩ : ∃ D : Nat → Value, D = fun p => cur.getD p undef := ⟨_, rfl⟩
      have HR1 : Hid (w5.rowIs g 5 cap D) := by rw [hD]; exact HR0
      have HD : Hid (∀ p, p < K → D p = .int .u8 (L.getD p 0).toNat) := by rw [hD]; exact HCUR
      clear HR0 HCUR hD
      go_loopg [8, 9, 10] K (fun gk s8 s9 s10 wq => ∃ i : Nat, i + gk = K ∧ 2 * i ≤ K ∧ s8 = .int .i64 i ∧ s9 = .int .i64 ((K : Int) - 1 - i) ∧ wq.rowIs g 5 cap (turnedV D K i) ∧ Below w.heap.size w wq)
      case atStart => exact ⟨0, by omega, by omega, rfl, by simp, HR1.out.congr fun p _ => (turnedV_zero D K p).symm, HB5.out⟩
      case round =>
        obtain ⟨i, hik, hi2, rfl, rfl, hrow, hbq⟩ := hrel
        by_cases hlt : 2 * i + 1 < K
        · obtain ⟨j, hj⟩ : ∃ j, j = K - 1 - i := ⟨_, rfl⟩
          rw [show ((K : Int) - 1 - i) = (j : Int) by omega]
          have q1 := hrow.cell (i := i) (by omega)
          have q2 := hrow.cell (i := j) (by omega)
          rw [show turnedV D K i i = D i by unfold turnedV; rw [if_neg (by omega)], HD.out i (by omega)] at q1
          rw [show turnedV D K i j = D j by unfold turnedV; rw [if_neg (by omega)], HD.out j (by omega)] at q2
          have f1 := hrow.frozen i
          have f2 := (hrow.set i (D j)).frozen j
          have hs := (hrow.set i (D j)).set j (D i)
          rw [HD.out i (by omega), HD.out j (by omega)] at hs
          rw [HD.out j (by omega)] at f2
          have e1 : (0 : Int) ≤ (i : Int) := by omega
          have e2 : (i : Int) < (K : Int) := by omega
          have e3 : (0 : Int) ≤ (j : Int) := by omega
          have e4 : (j : Int) < (K : Int) := by omega
          have e5 : (i : Int) < (j : Int) := by omega
          generalize hx : (L.getD i 0).toNat = x at *
          generalize hy : (L.getD j 0).toNat = y at *
          have HJ : Hid (j = K - 1 - i) := hj
          have HX : Hid ((L.getD i 0).toNat = x) := hx
          have HY : Hid ((L.getD j 0).toNat = y) := hy
          have HIK : Hid (i + gk = K) := hik
          have HLT : Hid (2 * i + 1 < K) := hlt
          have HS : Hid (((wr.setCell ⟨g, i, none⟩ (.int .u8 y)).setCell ⟨g, j, none⟩ (.int .u8 x)).rowIs g 5 cap (fun p => if p = j then .int .u8 x else if p = i then .int .u8 y else turnedV D K i p)) := hs
          clear hj hx hy hik hlt hs hrow
          go_wp2_with fail
          go_roundg (gk - 1)
          case measure => have := HIK.out; have := HLT.out; omega
          case rel =>
            have h5 := HIK.out
            have h6 := HLT.out
            have h7 := HJ.out
            refine ⟨i + 1, by omega, by omega, by go_num, by rw [h7]; go_num, HS.out.congr fun p hp => ?_, (hbq.setCell (p := ⟨g, i, none⟩) HG.out _).setCell (p := ⟨g, j, none⟩) HG.out _⟩
            rw [← turnedV_step D K i p h6, HD.out i (by omega), HD.out (K - 1 - i) (by omega), ← h7, HX.out, HY.out]
        · have hl : L.reverse.length = K := by rw [List.length_reverse]; exact HL.out.2
          have hconv := run_convert_bytes_back (P := Tryz.prog) wr 45 9 5 ⟨g, 0, none⟩ cap L.reverse Tryz.underlying45 Tryz.underlying5 Tryz.underlying9 (fun j hj => by
            rw [hl] at hj
            rw [show (⟨g, 0, none⟩ : Addr).add j = ⟨g, j, none⟩ by simp only [Addr.add]; split <;> simp_all, hrow.cell (by omega), turnedV_end D K i j (by omega) hj hi2, HD.out _ (by omega)]
            have hll := HL.out.2
            rw [List.getElem_reverse, List.getD_eq_getElem?_getD, List.getElem?_eq_getElem (by omega)]
            have e : L.length - 1 - j = K - 1 - j := by omega
            simp only [Option.getD_some, e])
          rw [hl] at hconv
          have e5 : ¬ (i : Int) < (K : Int) - 1 - i := by omega
          go_wp2_with fail
          go_ret
          have hnk : n < 10 ^ k := (Nat.div_eq_zero_iff_lt (Nat.pow_pos (by omega))).1 HZ.out
          exact ⟨k, hnk, fun h => by rcases HK3.out with e | e; exact absurd e h; exact e, by rw [show 45 :: (digR n k).reverse = L.reverse by rw [HL.out.1]; simp]; rfl, hbq⟩
    · have hk'0 : k' ≠ 0 := by rintro rfl; rw [Nat.pow_zero] at e4; exact hz (Nat.lt_one_iff.1 e4)
      have hk'p : (0 : Int) < (k' : Int) := by omega
      have hr := Nat.mod_lt (n / 10 ^ k) (show 0 < 10 by omega)
      obtain ⟨r, hrd⟩ : ∃ r, r = n / 10 ^ k % 10 := ⟨_, rfl⟩
      rw [← hrd] at hr hsm
      have HR : Hid (r = n / 10 ^ k % 10) := hrd
      have hr2 : (r : Int) < 10 := by omega
      have HZ : Hid (n / 10 ^ k ≠ 0) := hz
      obtain ⟨i0, hi, hz0, hz1, hz2⟩ := info_parts Tryz.infoByte
      clear hrd hz hwd hbr hk1 hk3 hown e4 e5 e6 hr
      go_wp2_with fail
      refine hsm.mono ?_
      rintro e w2 ⟨u2, rfl, hw2, hb2⟩
      go_wp2_with (at_builtin; refine wpList_append_own _ rfl _ _ 45 rfl w.heap.size 5 i0 (.int .u8 0) 1 1 Tryz.underlying45 hi hz0 hz1 hz2 rfl (by decide) _ _ _ rfl ((HOWN.out.kept (row := none) ⟨hb2.os, hb2.tape, hb2.output, hb2.size, fun k hk _ => hb2.block k hk⟩ (Classical.em _)).alloc _) ⟨w2.heap.size, 0, none⟩ 1 1 [.int .u8 (48 + r : Nat)] rfl rfl ?c1 ?c2 ?c3 ?c4 ?c5 ?_)
      case c1 =>
        intro j u hj
        match j, hj with
        | 0, hj => simp at hj; subst hj; simp [Addr.add]
      case c2 => intro u hu; simp at hu; subst hu; rfl
      case c3 => unfold maxLen; have := HK.out; omega
      case c4 => have := HK.out; omega
      case c5 => have := hb2.size; have := HBR.out.size; simp; omega
      intro v' w4 hown' hgrow _
      go_wp2_with fail
      go_roundg (gk - 1)
      case measure =>
        have h5 := HK.out
        rcases Nat.eq_zero_or_pos gk with e | e
        · subst e
          obtain rfl : k = D0 := by omega
          exact absurd (Nat.div_eq_of_lt HN.out) HZ.out
        · omega
      case rel =>
        have h5 := HK.out
        have hpk : 10 ^ k ≤ n := Nat.le_of_not_lt fun h => HZ.out (Nat.div_eq_of_lt h)
        have hg0 : gk ≠ 0 := by
          rintro rfl
          obtain rfl : k = D0 := by omega
          exact absurd (Nat.div_eq_of_lt HN.out) HZ.out
        have hbl : ∀ g, u5.ownBlock = some g → g < wr.heap.size := fun g hg => (HOWN.out.lt g hg).2
        refine ⟨k + 1, by omega, Or.inr (by simpa using hpk), ?_, ?_, ?_⟩
        · rw [show n / 10 ^ (k + 1) = n / 10 ^ k / 10 by rw [Nat.pow_succ, Nat.div_div_eq_div_mul]]
          exact ((hw2.below ((Below.refl _ _).alloc (Nat.le_refl _) _)).grown hgrow hbl).mono HBR.out.size
        · rw [digV_succ, ← HR.out]
          exact hown'
        · have h6 := hb2.size
          have h7 := HBR.out.size
          exact ((HBR.out.trans (hb2.mono h7)).alloc (by omega) _).grown hgrow (by simp; omega) (fun g hg => (HOWN.out.lt g hg).1)


theorem giveN_any (b n : Nat) (v p q : Value) (w : World) (hb : w.heap[b]? = some (.cells #[p, q] 70 (0, 0))) (hv : Wd w (b + 1) v n) (h0 : n ≠ 0) :
    Calls Tryz.prog 64 #[.pointer (some ⟨b, 0, none⟩), .bool true, v] w fun e w' => e = .returned (.pointer (some ⟨b, 0, none⟩)) ∧ IsNeg b n w' ∧ Below b w w' := by
  have c0 : w.cell? ⟨b, 0, none⟩ = some p := by rw [Lib.cell_of_heap hb]; rfl
  have c1 : w.cell? ⟨b, 1, none⟩ = some q := by rw [Lib.cell_of_heap hb]; rfl
  have f0 := Lib.frozen_of_heap hb 0
  have f1 := Lib.frozen_of_heap hb 1
  have HV : Hid (Wd w (b + 1) v n) := hv
  have HB : Hid (w.heap[b]? = some (.cells #[p, q] 70 (0, 0))) := hb
  obtain ⟨a, k, c, rfl, _, _, _, hN, _⟩ := hv
  have hk0 : (0 : Int) < (k : Int) := by
    rcases Nat.eq_zero_or_pos k with e | e
    · subst e; simp at hN; omega
    · omega
  have hkd : decide (0 < k) = true := decide_eq_true (by omega)
  clear hb hN
  go_enter Tryz.func64, Tryz.ntmps64
  go_wp2_with fail
  go_ret
  refine ⟨rfl, ⟨.slice a k c, ?_, (HV.out.setCell (by omega)).setCell (by omega)⟩, ((Below.refl _ _).setCell (p := ⟨b, 1, none⟩) (Nat.le_refl _) _).setCell (p := ⟨b, 0, none⟩) (Nat.le_refl _) _⟩

  exact Go.Joins.block_setCell (Go.Joins.block_setCell HB.out _) _

set_option maxHeartbeats 1000000 in
theorem setIntN_any (b n : Nat) (p q : Value) (w : World) (h0 : n ≠ 0) (hn : n ≤ 9223372036854775808) (hb : w.heap[b]? = some (.cells #[p, q] 70 (0, 0))) :
    Calls Tryz.prog 67 #[.pointer (some ⟨b, 0, none⟩), .int .i64 (-(n : Int))] w fun e w' => e = .returned (.pointer (some ⟨b, 0, none⟩)) ∧ IsNeg b n w' ∧ Below b w w' := by
  have hlt := (Array.getElem?_eq_some_iff.1 hb).1
  have hws := fun W => words_any n W (by omega)
  have HB : Hid (w.heap[b]? = some (.cells #[p, q] 70 (0, 0))) := hb
  clear hb
  have hn0 : -(n : Int) < 0 := by omega
  have hww : IntKind.u64.wrap (-IntKind.u64.wrap (-(n : Int))) = n := by rw [IntKind.wrap_u64, IntKind.wrap_u64]; omega
  have hdn : decide (0 < n) = true := decide_eq_true (by omega)
  go_enter Tryz.func67, Tryz.ntmps67
  go_wp2_with fail
  refine (hws _).mono ?_
  rintro e w1 ⟨v, rfl, hv, hb1⟩
  go_wp2_with fail
  refine (giveN_any b n v p q _ ((hb1.block b hlt).trans HB.out) (hv.mono hlt) h0).mono ?_
  rintro e w2 ⟨rfl, hi, hb2⟩
  go_wp2_with fail
  go_ret
  exact ⟨rfl, hi, (hb1.mono (by omega)).trans hb2⟩

theorem newIntN_any (n : Nat) (w : World) (h0 : n ≠ 0) (hn : n ≤ 9223372036854775808) :
    Calls Tryz.prog 44 #[.int .i64 (-(n : Int))] w fun e w' => e = .returned (.pointer (some ⟨w.heap.size, 0, none⟩)) ∧ IsNeg w.heap.size n w' ∧ Below w.heap.size w w' := by
  have hb0 : Below w.heap.size w (w.alloc (.cells #[.bool false, .slice none 0 0] 70)) := (Below.refl _ _).alloc (Nat.le_refl _) _
  have hs := setIntN_any w.heap.size n (.bool false) (.slice none 0 0) (w.alloc (.cells #[.bool false, .slice none 0 0] 70)) h0 hn (Go.Deep.blk_alloc_new _ _)
  go_enter Tryz.func44, Tryz.ntmps44
  go_wp2_with fail
  refine hs.mono ?_
  rintro e w2 ⟨rfl, hi, hb2⟩
  go_wp2_with fail
  go_ret
  exact ⟨rfl, hi, hb0.trans hb2⟩

theorem textN_any (D0 b n : Nat) (w : World) (h : IsNeg b n w) (h0 : n ≠ 0) (hn : n < 10 ^ D0) (hD0 : D0 ≤ 7000) :
    Calls Tryz.prog 65 #[.pointer (some ⟨b, 0, none⟩), .int .i64 10] w fun e w' => e = .returned (.string ⟨(Lib.itoa (-(n : Int))).toArray⟩) ∧ Below w.heap.size w w' := by
  refine (text_neg D0 b n w h h0 hn hD0).mono fun e w' ⟨k, h1, h2, h3, h4⟩ => ⟨?_, h4⟩
  cases k with
  | zero => simp at h1; omega
  | succ k => rw [h3, Lib.itoa_neg n (by omega), digR_dec k n h1 (Or.inr (h2 (by omega)))]

/-- the document's decimal, of every int -/
theorem decimalZ_any (x : Int) (w : World) (h0 : -9223372036854775808 ≤ x) (h1 : x ≤ 9223372036854775807) :
    Calls Tryz.prog 30 #[.int .i64 x] w fun e w' => e = .returned (.string ⟨(Lib.itoa x).toArray⟩) ∧ Below w.heap.size w w' := by
  by_cases hx : 0 ≤ x
  · obtain ⟨n, rfl⟩ := Int.eq_ofNat_of_zero_le hx
    exact decimal_any n w (by omega)
  · obtain ⟨n, hn⟩ := Int.eq_ofNat_of_zero_le (show 0 ≤ -x by omega)
    obtain rfl : x = -(n : Int) := by omega
    have hni := newIntN_any n w (by omega) (by omega)
    have hst : ∀ (b : Nat) (W : World), IsNeg b n W → Calls Tryz.prog 42 #[.pointer (some ⟨b, 0, none⟩)] W fun e w' => e = .returned (.string ⟨(Lib.itoa (-(n : Int))).toArray⟩) ∧ Below W.heap.size W w' := by
      intro b W h
      have ht := textN_any 19 b n W h (by omega) (Nat.lt_of_le_of_lt (show n ≤ 9223372036854775808 by omega) (by decide)) (by omega)
      clear hni h
      go_enter Tryz.func42, Tryz.ntmps42
      go_wp2_with fail
      refine ht.mono ?_
      rintro e w1 ⟨rfl, hb1⟩
      go_wp2_with fail
      go_ret
      exact ⟨rfl, hb1⟩
    generalize Lib.itoa (-(n : Int)) = T at *
    go_enter Tryz.func30, Tryz.ntmps30
    go_wp2_with fail
    refine hni.mono ?_
    rintro e w1 ⟨rfl, hi, hb1⟩
    go_wp2_with fail
    refine (hst _ _ hi).mono ?_
    rintro e w2 ⟨rfl, hb2⟩
    go_wp2_with fail
    go_ret
    exact ⟨rfl, hb1.trans (hb2.mono hb1.size)⟩
end Go.Proofs.YtpghbchbhjbbiaaGreatDoor
