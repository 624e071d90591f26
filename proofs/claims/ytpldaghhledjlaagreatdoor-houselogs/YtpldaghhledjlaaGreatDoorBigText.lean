/- Text, String and decimal: a whole number in digits. -/
import Derived.Test.YtpldaghhledjlaaGreatDoorBig
import Derived.Lib.ItoaNum
import Derived.Lib.ItoaMem
import Derived.Laws.IdiomStrings
import Derived.OwnWalk
import Derived.Deep.AppendLies
import Derived.Deep.CutRange
namespace Go.Proofs.YtpldaghhledjlaaGreatDoor.W
open Go.RowKit

theorem Tryz.infoByte : (Tryz.prog.info? 5).map (fun i => (i.zero, i.size, i.bytes)) = some (some (.int .u8 0), 1, 1) := by kernel_rfl
/-- how many words a number may have -/
def lim : Nat := 700
/-- not too great a number -/
def Few (n : Nat) : Prop := n < 4294967296 ^ lim
/-- the first k digits of n, the least first -/
def digR (n k : Nat) : List UInt8 := (List.range k).map fun j => UInt8.ofNat (48 + n / 10 ^ j % 10)
/-- as the walk has them -/
def digV (n k : Nat) : List Value := (List.range k).map fun j => .int .u8 (48 + n / 10 ^ j % 10 : Nat)


theorem digV_length (n k : Nat) : (digV n k).length = k := by simp [digV]
theorem digV_succ (n k : Nat) : digV n (k + 1) = digV n k ++ [.int .u8 (48 + n / 10 ^ k % 10 : Nat)] := by simp [digV, List.range_succ]
theorem Wd.grown {w w' : World} {B : Nat} {v : Value} {n : Nat} {row : Option Nat} (h : Wd w B v n) (hg : w.grownBy w' row) (hr : ∀ k, row = some k → k < B) : Wd w' B v n := by
  obtain ⟨a, k, c, hv, hk, hc, hk2, hn, hp, h⟩ := h
  refine ⟨a, k, c, hv, hk, hc, hk2, hn, hp, ?_⟩
  rcases h with h | ⟨b', off, ha, hB2, hlt, hw⟩
  · exact Or.inl h
  · refine Or.inr ⟨b', off, ha, hB2, Nat.lt_of_lt_of_le hlt hg.size, fun j hj => ?_⟩
    rw [World.cell?_of_block (w := w) (hg.block b' hlt (fun e => by have := hr b' e.symm; omega))]
    exact hw j hj

/-- the first i and the last i of k changed about -/
def turnedV (D : Nat → Value) (k i p : Nat) : Value := if p < k ∧ (p < i ∨ k < p + i + 1) then D (k - 1 - p) else D p
theorem turnedV_zero (D : Nat → Value) (k p : Nat) : turnedV D k 0 p = D p := by
  unfold turnedV
  rw [if_neg (by omega)]
theorem turnedV_step (D : Nat → Value) (k i p : Nat) (h : 2 * i + 1 < k) : (if p = k - 1 - i then D i else if p = i then D (k - 1 - i) else turnedV D k i p) = turnedV D k (i + 1) p := by
  unfold turnedV
  by_cases h1 : p = k - 1 - i
  · rw [if_pos h1, if_pos (by omega), h1, show k - 1 - (k - 1 - i) = i by omega]
  · rw [if_neg h1]
    by_cases h2 : p = i
    · rw [if_pos h2, if_pos (by omega), h2]
    · rw [if_neg h2]
      by_cases h3 : p < k ∧ (p < i ∨ k < p + i + 1)
      · rw [if_pos h3, if_pos (by omega)]
      · rw [if_neg h3, if_neg (by omega)]
theorem turnedV_end (D : Nat → Value) (k i p : Nat) (h : k ≤ 2 * i + 1) (hp : p < k) (hi : 2 * i ≤ k) : turnedV D k i p = D (k - 1 - p) := by
  unfold turnedV
  by_cases h3 : p < k ∧ (p < i ∨ k < p + i + 1)
  · rw [if_pos h3]
  · rw [if_neg h3, show k - 1 - p = p by omega]
theorem digR_rev (n k j : Nat) (hj : j < (digR n k).reverse.length) : (((digR n k).reverse[j]).toNat : Int) = ((48 + n / 10 ^ (k - 1 - j) % 10 : Nat) : Int) := by
  have hl : (digR n k).length = k := by simp [digR]
  rw [List.getElem_reverse]
  simp only [digR, List.getElem_map, List.getElem_range, List.length_map, List.length_range]
  have : n / 10 ^ (k - 1 - j) % 10 < 10 := Nat.mod_lt _ (by omega)
  rw [UInt8.toNat_ofNat']
  omega

set_option maxHeartbeats 2000000 in
set_option maxRecDepth 100000 in
theorem text_int (D0 b n : Nat) (w : World) (h : IsInt b n w) (h0 : n ≠ 0) (hn : n < 10 ^ D0) (hD0 : D0 ≤ 7000) :
    Calls Tryz.prog 64 #[.pointer (some ⟨b, 0, none⟩), .int .i64 10] w fun e w' => ∃ k, n < 10 ^ k ∧ (k ≠ 0 → 10 ^ (k - 1) ≤ n) ∧ e = .returned (.string ⟨(digR n k).reverse.toArray⟩) ∧ Below w.heap.size w w' := by
  obtain ⟨v, hb, hv⟩ := h
  have c0 : w.cell? ⟨b, 0, none⟩ = some (.bool false) := by rw [Lib.cell_of_heap hb]; rfl
  have c1 : w.cell? ⟨b, 1, none⟩ = some v := by rw [Lib.cell_of_heap hb]; rfl
  have htw := twin_any (b + 1) v n w hv h0
  obtain ⟨a, kk, c, rfl, hk, hc, hk2, hN, hp, hW⟩ := hv
  have hk0 : (0 : Int) < (kk : Int) := by
    rcases Nat.eq_zero_or_pos kk with e | e
    · subst e; simp at hN; omega
    · omega
  have HN : Hid (n < 10 ^ D0) := hn
  clear hN hp hW
  go_enter Tryz.func64, Tryz.ntmps64
  go_wp2_with fail
  refine htw.mono ?_
  rintro e w1 ⟨u, rfl, hu, hb1⟩
  go_wp2_with fail
  go_loopg [5, 6, 7] D0 (fun gk s5 s6 s7 wr => ∃ k : Nat, k + gk = D0 ∧ (k = 0 ∨ 10 ^ (k - 1) ≤ n) ∧ Wd wr w.heap.size s6 (n / 10 ^ k) ∧ wr.ownsRow w.heap.size 5 1 s5 k (digV n k) ∧ Below w.heap.size w wr)
  case atStart => exact ⟨0, by omega, Or.inl rfl, by simpa using hu, World.ownsRow_nil _ _ _ _, hb1⟩
  case round =>
    obtain ⟨k, hk1, hk3, hwd, hown, hbr⟩ := hrel
    have hsm := small_any w.heap.size u6 (n / 10 ^ k) 10 wr hwd (by omega) (by omega)
    have HWD : Hid (Wd wr w.heap.size u6 (n / 10 ^ k)) := hwd
    have HBR : Hid (Below w.heap.size w wr) := hbr
    have HK : Hid (k + gk = D0) := hk1
    have HK3 : Hid (k = 0 ∨ 10 ^ (k - 1) ≤ n) := hk3
    have HOWN : Hid (wr.ownsRow w.heap.size 5 1 u5 k (digV n k)) := hown
    obtain ⟨a', k', c', rfl, e1, e2, e3, e4, e5, e6⟩ := id hwd
    by_cases hz : n / 10 ^ k = 0
    · have hk'0 : k' = 0 := by
        rcases Nat.eq_zero_or_pos k' with e | e
        · exact e
        · have := e5 (by omega)
          have := wpos (k' - 1)
          omega
      subst hk'0
      have HZ : Hid (n / 10 ^ k = 0) := hz
      have hkp : k ≠ 0 := by
        rintro rfl
        simp at hz
        omega
      have d0 : wr.cell? ⟨b, 0, none⟩ = some (.bool false) := (hbr.cell (p := ⟨b, 0, none⟩) (Array.getElem?_eq_some_iff.1 hb).1).trans c0
      have hk20 : k ≤ D0 := by omega
      rcases hown.2 with ⟨_, e⟩ | ⟨g, cap, cur, rfl, hg, hgg, hkc, hcm, hcs, htk⟩
      · exact absurd e hkp
      rw [Nat.mul_one] at hcs htk
      have HR0 : Hid (wr.rowIs g 5 cap (fun p => cur.getD p undef)) := ⟨cur, hgg, hcs, fun p hp => by
        simp [Array.getD, hcs, hp]⟩
      have HCUR : Hid (∀ p, p < k → cur.getD p undef = .int .u8 (48 + n / 10 ^ p % 10 : Nat)) := fun p hp => by
        have : (cur.toList.take k)[p]? = some (.int .u8 (48 + n / 10 ^ p % 10 : Nat)) := by
          rw [htk]
          simp [digV, hp]
        rw [List.getElem?_take] at this
        simp only [hp, if_true, Array.getElem?_toList] at this
        simp [Array.getD_eq_getD_getElem?, this]
      have HG : Hid (w.heap.size ≤ g) := hg
      have hmx : cap ≤ maxLen := hcm
      clear hz hwd hbr hk1 hk3 hown e4 e5 e6 hgg hcs htk hg hcm
      go_wp2_with fail
      obtain ⟨D, hD⟩ : ∃ D : Nat → Value, D = fun p => cur.getD p undef := ⟨_, rfl⟩
      have HR1 : Hid (wr.rowIs g 5 cap D) := by rw [hD]; exact HR0
      have HD : Hid (∀ p, p < k → D p = .int .u8 (48 + n / 10 ^ p % 10 : Nat)) := by rw [hD]; exact HCUR
      clear HR0 HCUR hD
      go_loopg [8, 9, 10] k (fun gk s8 s9 s10 wq => ∃ i : Nat, i + gk = k ∧ 2 * i ≤ k ∧ s8 = .int .i64 i ∧ s9 = .int .i64 ((k : Int) - 1 - i) ∧ wq.rowIs g 5 cap (turnedV D k i) ∧ Below w.heap.size w wq)
      case atStart => exact ⟨0, by omega, by omega, rfl, by simp, HR1.out.congr fun p _ => (turnedV_zero D k p).symm, HBR.out⟩
      case round =>
        obtain ⟨i, hik, hi2, rfl, rfl, hrow, hbq⟩ := hrel
        by_cases hlt : 2 * i + 1 < k
        · obtain ⟨j, hj⟩ : ∃ j, j = k - 1 - i := ⟨_, rfl⟩
          rw [show ((k : Int) - 1 - i) = (j : Int) by omega]
          have q1 := hrow.cell (i := i) (by omega)
          have q2 := hrow.cell (i := j) (by omega)
          rw [show turnedV D k i i = D i by unfold turnedV; rw [if_neg (by omega)], HD.out i (by omega)] at q1
          rw [show turnedV D k i j = D j by unfold turnedV; rw [if_neg (by omega)], HD.out j (by omega)] at q2
          have f1 := hrow.frozen i
          have f2 := (hrow.set i (D j)).frozen j
          have hs := (hrow.set i (D j)).set j (D i)
          rw [HD.out i (by omega), HD.out j (by omega)] at hs
          rw [HD.out j (by omega)] at f2
          have e1 : (0 : Int) ≤ (i : Int) := by omega
          have e2 : (i : Int) < (k : Int) := by omega
          have e3 : (0 : Int) ≤ (j : Int) := by omega
          have e4 : (j : Int) < (k : Int) := by omega
          have e5 : (i : Int) < (j : Int) := by omega
          generalize hx : (48 + n / 10 ^ i % 10 : Nat) = x at *
          generalize hy : (48 + n / 10 ^ j % 10 : Nat) = y at *
          have HJ : Hid (j = k - 1 - i) := hj
          have HX : Hid (48 + n / 10 ^ i % 10 = x) := hx
          have HY : Hid (48 + n / 10 ^ j % 10 = y) := hy
          have HIK : Hid (i + gk = k) := hik
          have HLT : Hid (2 * i + 1 < k) := hlt
          have HS : Hid (((wr.setCell ⟨g, i, none⟩ (.int .u8 y)).setCell ⟨g, j, none⟩ (.int .u8 x)).rowIs g 5 cap (fun p => if p = j then .int .u8 x else if p = i then .int .u8 y else turnedV D k i p)) := hs
          clear hj hx hy hik hlt hs hrow
          go_wp2_with fail
          go_roundg (gk - 1)
          case measure => have := HIK.out; have := HLT.out; omega
          case rel =>
            have h5 := HIK.out
            have h6 := HLT.out
            have h7 := HJ.out
            refine ⟨i + 1, by omega, by omega, by go_num, by rw [h7]; go_num, HS.out.congr fun p hp => ?_, (hbq.setCell (p := ⟨g, i, none⟩) HG.out _).setCell (p := ⟨g, j, none⟩) HG.out _⟩
            rw [← turnedV_step D k i p h6, HD.out i (by omega), HD.out (k - 1 - i) (by omega), ← h7, HX.out, HY.out]
        · have hl : (digR n k).reverse.length = k := by simp [digR]
          have hconv := run_convert_bytes_back (P := Tryz.prog) wr 50 9 5 ⟨g, 0, none⟩ cap (digR n k).reverse Tryz.underlying50 Tryz.underlying5 Tryz.underlying9 (fun j hj => by
            rw [digR_rev n k j hj]
            rw [hl] at hj
            rw [show (⟨g, 0, none⟩ : Addr).add j = ⟨g, j, none⟩ by simp only [Addr.add]; split <;> simp_all, hrow.cell (by omega), turnedV_end D k i j (by omega) hj hi2, HD.out _ (by omega)])
          rw [hl] at hconv
          have e5 : ¬ (i : Int) < (k : Int) - 1 - i := by omega
          go_wp2_with fail
          go_ret
          have hnk : n < 10 ^ k := (Nat.div_eq_zero_iff_lt (Nat.pow_pos (by omega))).1 HZ.out
          exact ⟨k, hnk, fun h => by rcases HK3.out with e | e; exact absurd e h; exact e, rfl, hbq⟩
    · have hk'0 : k' ≠ 0 := by rintro rfl; rw [Nat.pow_zero] at e4; exact hz (Nat.lt_one_iff.1 e4)
      have hk'p : (0 : Int) < (k' : Int) := by omega
      have hr := Nat.mod_lt (n / 10 ^ k) (show 0 < 10 by omega)
      obtain ⟨r, hrd⟩ : ∃ r, r = n / 10 ^ k % 10 := ⟨_, rfl⟩
      rw [← hrd] at hr hsm
      have HR : Hid (r = n / 10 ^ k % 10) := hrd
      have hr2 : (r : Int) < 10 := by omega
      have HZ : Hid (n / 10 ^ k ≠ 0) := hz
      obtain ⟨i0, hi, hz0, hz1, hz2⟩ := info_parts Tryz.infoByte
      clear hrd hz hwd hbr hk1 hk3 hown e4 e5 e6 hr
      go_wp2_with fail
      refine hsm.mono ?_
      rintro e w2 ⟨u2, rfl, hw2, hb2⟩
      go_wp2_with (at_builtin; refine wpList_append_own _ rfl _ _ 50 rfl w.heap.size 5 i0 (.int .u8 0) 1 1 Tryz.underlying50 hi hz0 hz1 hz2 rfl (by decide) _ _ _ rfl ((HOWN.out.kept (row := none) ⟨hb2.os, hb2.tape, hb2.output, hb2.size, fun k hk _ => hb2.block k hk⟩ (Classical.em _)).alloc _) ⟨w2.heap.size, 0, none⟩ 1 1 [.int .u8 (48 + r : Nat)] rfl rfl ?c1 ?c2 ?c3 ?c4 ?c5 ?_)
      case c1 =>
        intro j u hj
        match j, hj with
        | 0, hj => simp at hj; subst hj; simp [Addr.add]
      case c2 => intro u hu; simp at hu; subst hu; rfl
      case c3 => unfold maxLen; have := HK.out; omega
      case c4 => have := HK.out; omega
      case c5 => have := hb2.size; have := HBR.out.size; simp; omega
      intro v' w4 hown' hgrow _
      go_wp2_with fail
      go_roundg (gk - 1)
      case measure =>
        have h5 := HK.out
        rcases Nat.eq_zero_or_pos gk with e | e
        · subst e
          obtain rfl : k = D0 := by omega
          exact absurd (Nat.div_eq_of_lt HN.out) HZ.out
        · omega
      case rel =>
        have h5 := HK.out
        have hpk : 10 ^ k ≤ n := Nat.le_of_not_lt fun h => HZ.out (Nat.div_eq_of_lt h)
        have hg0 : gk ≠ 0 := by
          rintro rfl
          obtain rfl : k = D0 := by omega
          exact absurd (Nat.div_eq_of_lt HN.out) HZ.out
        have hbl : ∀ g, u5.ownBlock = some g → g < wr.heap.size := fun g hg => (HOWN.out.lt g hg).2
        refine ⟨k + 1, by omega, Or.inr (by simpa using hpk), ?_, ?_, ?_⟩
        · rw [show n / 10 ^ (k + 1) = n / 10 ^ k / 10 by rw [Nat.pow_succ, Nat.div_div_eq_div_mul]]
          exact ((hw2.below ((Below.refl _ _).alloc (Nat.le_refl _) _)).grown hgrow hbl).mono HBR.out.size
        · rw [digV_succ, ← HR.out]
          exact hown'
        · have h6 := hb2.size
          have h7 := HBR.out.size
          exact ((HBR.out.trans (hb2.mono h7)).alloc (by omega) _).grown hgrow (by simp; omega) (fun g hg => (HOWN.out.lt g hg).1)

theorem text_zero (b : Nat) (w : World) (h : IsInt b 0 w) :
    Calls Tryz.prog 64 #[.pointer (some ⟨b, 0, none⟩), .int .i64 10] w fun e w' => e = .returned (.string ⟨#[48]⟩) ∧ w' = w := by
  obtain ⟨v, hb, hv⟩ := h
  have c0 : w.cell? ⟨b, 0, none⟩ = some (.bool false) := by rw [Lib.cell_of_heap hb]; rfl
  have c1 : w.cell? ⟨b, 1, none⟩ = some v := by rw [Lib.cell_of_heap hb]; rfl
  obtain ⟨a, kk, c, rfl, hk, hc, hk2, hN, hp, hW⟩ := hv
  obtain rfl : kk = 0 := by
    rcases Nat.eq_zero_or_pos kk with e | e
    · exact e
    · have := hp (by omega)
      have := wpos (kk - 1)
      omega
  clear hN hp hW
  go_enter Tryz.func64, Tryz.ntmps64
  go_wp2_with fail
  go_ret
  exact ⟨rfl, rfl⟩

theorem digR_cons (n k : Nat) : digR n (k + 1) = UInt8.ofNat (48 + n % 10) :: digR (n / 10) k := by
  simp only [digR, List.range_succ_eq_map, List.map_cons, List.map_map]
  refine congr (congrArg _ (by simp)) (List.map_congr_left fun j _ => ?_)
  simp only [Function.comp, Nat.pow_succ, Nat.div_div_eq_div_mul, Nat.mul_comm]
theorem digR_dec : ∀ (k n : Nat), n < 10 ^ (k + 1) → (k = 0 ∨ 10 ^ k ≤ n) → (digR n (k + 1)).reverse = Lib.decDigits n
  | 0, n, h, _ => by
    have h10 : n < 10 := by simpa using h
    rw [digR_cons, Lib.decDigits_one h10, Nat.mod_eq_of_lt h10]
    rfl
  | k + 1, n, h, h' => by
    have hp : 10 ^ (k + 1) ≤ n := by
      rcases h' with e | e
      · exact absurd e (by omega)
      · exact e
    have h1 : 10 ^ k * 10 ≤ n := by rw [← Nat.pow_succ]; exact hp
    have h0 : 0 < 10 ^ k := Nat.pow_pos (by omega)
    have h10 : ¬ n < 10 := by omega
    rw [digR_cons, List.reverse_cons, digR_dec k (n / 10) (by rw [Nat.div_lt_iff_lt_mul (by omega)]; rw [Nat.pow_succ] at h; exact h) (Or.inr (by rw [Nat.le_div_iff_mul_le (by omega)]; exact h1))]
    conv => rhs; rw [Lib.decDigits, dif_neg h10]

theorem text_any' (D0 b n : Nat) (w : World) (h : IsInt b n w) (hn : n < 10 ^ D0) (hD0 : D0 ≤ 7000) :
    Calls Tryz.prog 64 #[.pointer (some ⟨b, 0, none⟩), .int .i64 10] w fun e w' => e = .returned (.string ⟨(Lib.itoa n).toArray⟩) ∧ Below w.heap.size w w' := by
  have hi : Lib.itoa (n : Int) = Lib.decDigits n := Lib.itoa_nonneg n
  rcases Nat.eq_zero_or_pos n with e | e
  · subst e
    refine (text_zero b w h).mono fun e w' ⟨h1, h2⟩ => ?_
    rw [hi, Lib.decDigits_one (by omega)]
    exact ⟨h1, by rw [h2]; exact Below.refl _ _⟩
  · refine (text_int D0 b n w h (by omega) hn hD0).mono fun e w' ⟨k, h1, h2, h3, h4⟩ => ⟨?_, h4⟩
    cases k with
    | zero => simp at h1; omega
    | succ k => rw [h3, hi, digR_dec k n h1 (Or.inr (h2 (by omega)))]

theorem decimal_any (n : Nat) (w : World) (hn : n < 9223372036854775808) :
    Calls Tryz.prog 28 #[.int .i64 n] w fun e w' => e = .returned (.string ⟨(Lib.itoa n).toArray⟩) ∧ Below w.heap.size w w' := by
  have hni := newInt_any n w hn
  have hst : ∀ (b : Nat) (W : World), IsInt b n W → Calls Tryz.prog 47 #[.pointer (some ⟨b, 0, none⟩)] W fun e w' => e = .returned (.string ⟨(Lib.itoa n).toArray⟩) ∧ Below W.heap.size W w' := by
    intro b W h
    have ht := text_any' 19 b n W h (Nat.lt_of_lt_of_le hn (by decide)) (by omega)
    clear hni h
    go_enter Tryz.func47, Tryz.ntmps47
    go_wp2_with fail
    refine ht.mono ?_
    rintro e w1 ⟨rfl, hb1⟩
    go_wp2_with fail
    go_ret
    exact ⟨rfl, hb1⟩
  go_enter Tryz.func28, Tryz.ntmps28
  go_wp2_with fail
  refine hni.mono ?_
  rintro e w1 ⟨rfl, hi, hb1⟩
  go_wp2_with fail
  refine (hst _ _ hi).mono ?_
  rintro e w2 ⟨rfl, hb2⟩
  go_wp2_with fail
  go_ret
  exact ⟨rfl, hb1.trans (hb2.mono hb1.size)⟩
end Go.Proofs.YtpldaghhledjlaaGreatDoor.W
