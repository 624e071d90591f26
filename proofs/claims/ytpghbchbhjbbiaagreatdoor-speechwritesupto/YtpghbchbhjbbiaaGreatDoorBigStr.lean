/- Whole numbers: digits read. -/
import Derived.Test.YtpghbchbhjbbiaaGreatDoorBigMul
import Derived.Test.YtpghbchbhjbbiaaGreatDoorBigNeg
namespace Go.Proofs.YtpghbchbhjbbiaaGreatDoor
open Go.RowKit

def isDig (c : UInt8) : Bool := decide (48 ≤ c.toNat ∧ c.toNat ≤ 57)
/-- digits as a number -/
def decV (D : List UInt8) : Nat := D.foldl (fun a c => a * 10 + (c.toNat - 48)) 0
theorem decV_snoc (D : List UInt8) (c : UInt8) : decV (D ++ [c]) = decV D * 10 + (c.toNat - 48) := by simp [decV]
theorem decV_lt : ∀ (k : Nat) (D : List UInt8), D.length = k → (∀ c ∈ D, isDig c = true) → decV D < 10 ^ k
  | 0, D, h, _ => by
    have : D = [] := List.length_eq_zero_iff.1 h
    subst this
    simp [decV]
  | k + 1, D, h, hd => by
    have hne : D ≠ [] := by rintro rfl; simp at h
    obtain ⟨E, c, rfl⟩ : ∃ E c, D = E ++ [c] := ⟨D.dropLast, D.getLast hne, (List.dropLast_concat_getLast hne).symm⟩
    have ih := decV_lt k E (by simp at h; omega) fun x hx => hd x (by simp [hx])
    have hc := hd c (by simp)
    simp [isDig] at hc
    rw [decV_snoc, Nat.pow_succ]
    omega


/-- a sign ahead, and the rest -/
def signOf : List UInt8 → Bool × List UInt8
  | 45 :: r => (true, r)
  | 43 :: r => (false, r)
  | l => (false, l)
/-- digits alone, and some -/
def okD (D : List UInt8) : Bool := !D.isEmpty && D.all isDig
/-- a number with a sign -/
def IsSg (b : Nat) (neg : Bool) (n : Nat) (w : World) : Prop := if neg = true ∧ n ≠ 0 then IsNeg b n w else IsInt b n w
theorem signOf_len (l : List UInt8) : (signOf l).2.length ≤ l.length := by
  unfold signOf
  split <;> simp
theorem ba_tail (c : UInt8) (r : List UInt8) (n : Nat) (hn : n = r.length + 1) : (⟨(c :: r).toArray⟩ : ByteArray).extract 1 n = ⟨r.toArray⟩ := by
  subst hn
  apply ByteArray.ext
  simp
theorem few_of {n k : Nat} (h : n < 10 ^ k) (hk : k ≤ 6100) : Few n := Nat.lt_of_lt_of_le h (Nat.le_trans (Nat.pow_le_pow_right (by decide) hk) ten_lim)

theorem grown_set (w : World) (R i : Nat) (v : Value) : w.grownBy (w.setCell ⟨R, i, none⟩ v) (some R) :=
  ⟨rfl, rfl, rfl, by simp [World.setCell], fun k _ hne => Below.heap_setCell _ _ _ _ (fun e => hne (by rw [e]))⟩
/-- 'give' with a sign -/
theorem giveS_any (b : Nat) (neg : Bool) (n : Nat) (v p q : Value) (w : World) (hb : w.heap[b]? = some (.cells #[p, q] 70 (0, 0))) (hv : Wd w (b + 1) v n) :
    Calls Tryz.prog 64 #[.pointer (some ⟨b, 0, none⟩), .bool neg, v] w fun e w' => e = .returned (.pointer (some ⟨b, 0, none⟩)) ∧ IsSg b neg n w' ∧ w.grownBy w' (some b) := by
  unfold IsSg
  by_cases h : neg = true ∧ n ≠ 0
  · obtain ⟨rfl, h0⟩ := h
    simp only [h0, ne_eq, not_false_eq_true, and_self, if_true]
    have c0 : w.cell? ⟨b, 0, none⟩ = some p := by rw [Lib.cell_of_heap hb]; rfl
    have c1 : w.cell? ⟨b, 1, none⟩ = some q := by rw [Lib.cell_of_heap hb]; rfl
    have f0 := Lib.frozen_of_heap hb 0
    have f1 := Lib.frozen_of_heap hb 1
    have HV : Hid (Wd w (b + 1) v n) := hv
    have HB : Hid (w.heap[b]? = some (.cells #[p, q] 70 (0, 0))) := hb
    obtain ⟨a, k, c, rfl, _, _, _, hN, _⟩ := hv
    have hk0 : (0 : Int) < (k : Int) := by
      rcases Nat.eq_zero_or_pos k with e | e
      · subst e; simp at hN; omega
      · omega
    have hkd : decide (0 < k) = true := decide_eq_true (by omega)
    clear hb hN
    go_enter Tryz.func64, Tryz.ntmps64
    go_wp2_with fail
    go_ret
    refine ⟨rfl, ⟨.slice a k c, ?_, (HV.out.setCell (by omega)).setCell (by omega)⟩, (grown_trans (grown_set w b 1 _) (grown_set _ b 0 _))⟩
    exact Go.Joins.block_setCell (Go.Joins.block_setCell HB.out _) _
  · simp only [if_neg h]
    have c0 : w.cell? ⟨b, 0, none⟩ = some p := by rw [Lib.cell_of_heap hb]; rfl
    have c1 : w.cell? ⟨b, 1, none⟩ = some q := by rw [Lib.cell_of_heap hb]; rfl
    have f0 := Lib.frozen_of_heap hb 0
    have f1 := Lib.frozen_of_heap hb 1
    have HV : Hid (Wd w (b + 1) v n) := hv
    have HB : Hid (w.heap[b]? = some (.cells #[p, q] 70 (0, 0))) := hb
    obtain ⟨a, k, c, rfl, _, _, _, hN, hp, _⟩ := hv
    cases neg with
    | false =>
      clear hb hN hp h
      go_enter Tryz.func64, Tryz.ntmps64
      go_wp2_with fail
      go_ret
      refine ⟨rfl, ⟨.slice a k c, ?_, (HV.out.setCell (by omega)).setCell (by omega)⟩, (grown_trans (grown_set w b 1 _) (grown_set _ b 0 _))⟩
      exact Go.Joins.block_setCell (Go.Joins.block_setCell HB.out _) _
    | true =>
      have hn0 : n = 0 := by
        rcases Nat.eq_zero_or_pos n with e | e
        · exact e
        · exact absurd ⟨rfl, by omega⟩ h
      obtain rfl : k = 0 := by
        rcases Nat.eq_zero_or_pos k with e | e
        · exact e
        · have := hp (by omega)
          have := wpos (k - 1)
          omega
      clear hb hN hp h
      go_enter Tryz.func64, Tryz.ntmps64
      go_wp2_with fail
      go_ret
      have hg := grown_trans (grown_set w b 1 (.slice a 0 c)) (grown_set (w.setCell ⟨b, 1, none⟩ (.slice a 0 c)) b 0 (.bool false))
      have hW := (HV.out.setCell (b := b) (i := 1) (u := .slice a 0 c) (by omega)).setCell (b := b) (i := 0) (u := .bool false) (by omega)
      have hH := Go.Joins.block_setCell (i := 0) (Go.Joins.block_setCell (i := 1) HB.out (.slice a 0 c)) (.bool false)
      rw [hn0] at hW
      exact ⟨rfl, ⟨.slice a 0 c, hH, hW⟩, hg⟩

set_option maxRecDepth 20000 in
set_option maxHeartbeats 8000000 in
theorem setStrM (b : Nat) (D : List UInt8) (p q : Value) (w : World) (hb : w.heap[b]? = some (.cells #[p, q] 70 (0, 0))) (n : Nat) (hnD : n = D.length) (hn6 : n ≤ 6000) :
    Calls Tryz.prog 41 #[.pointer (some ⟨b, 0, none⟩), .string ⟨(45 :: D).toArray⟩, .int .i64 10] w fun e w' => (okD D = true ∧ e = .returned (.tuple #[.pointer (some ⟨b, 0, none⟩), .bool true]) ∧ IsSg b true (decV D) w' ∧ w.grownBy w' (some b)) ∨ (okD D = false ∧ e = .returned (.tuple #[.pointer none, .bool false]) ∧ Below w.heap.size w w') := by
  have hlt := (Array.getElem?_eq_some_iff.1 hb).1
  have HB : Hid (w.heap[b]? = some (.cells #[p, q] 70 (0, 0))) := hb
  have HN : Hid (n = D.length) := hnD
  clear hb hnD
  have g0 : ∀ h, ((⟨(45 :: D).toArray⟩ : ByteArray)[0]'h).toNat = 45 := fun _ => rfl
  have htl := ba_tail 45 D (n + 1) (by rw [HN.out])
  have hsz : (⟨(45 :: D).toArray⟩ : ByteArray).size = n + 1 := by show (45 :: D).toArray.size = _; rw [List.size_toArray, List.length_cons, HN.out]
  generalize hS : (⟨(45 :: D).toArray⟩ : ByteArray) = S at *
  clear hS
  have hpos : (0 : Int) < ((n + 1 : Nat) : Int) := by omega
  have hone : (1 : Int) ≤ ((n + 1 : Nat) : Int) := by omega
  have hz : (⟨D.toArray⟩ : ByteArray).size = n := by show D.toArray.size = _; rw [List.size_toArray]; exact HN.out.symm
  have HGET : Hid (∀ (j : Nat) (hj : j < n), ∀ h, ((⟨D.toArray⟩ : ByteArray)[j]'h).toNat = (D[j]!).toNat) := fun j hj h => by
    have hjD : j < D.length := by have := HN.out; omega
    rw [getElem!_pos D j hjD]
    rfl
  generalize hSD : (⟨D.toArray⟩ : ByteArray) = SD at *
  clear hSD
  by_cases hn0 : n = 0
  · have hok : okD D = false := by
      have : D = [] := List.eq_nil_of_length_eq_zero (by have := HN.out; omega)
      subst this
      rfl
    have e0 : ((n : Int) == 0) = true := by simp; omega
    rw [hok]
    clear hok
    subst hn0
    go_enter Tryz.func41, Tryz.ntmps41
    go_wp2_with fail
    go_ret2
    exact Or.inr ⟨by first | trivial | rfl, rfl, Below.refl _ _⟩
  · have hp4 : ((n : Int) == 0) = false := by simp; omega
    have hw0 : Wd w 0 (.slice none 0 0) (decV (D.take 0)) := ⟨none, 0, 0, rfl, by omega, by unfold maxLen; omega, by omega, by simp [decV], by simp, Or.inl rfl⟩
    go_enter Tryz.func41, Tryz.ntmps41
    go_wp2_with fail
    go_loopg [9, 10] n (fun g s9 s10 wr => ∃ (i B : Nat) (v : Value), i + g = n ∧ v = s9 ∧ s10 = .int .i64 i ∧ Wd wr B v (decV (D.take i)) ∧ Below w.heap.size w wr ∧ (0 < i → w.heap.size ≤ B) ∧ (∀ j, j < i → isDig (D[j]!) = true))
    case atStart => exact ⟨0, 0, _, by omega, rfl, rfl, hw0, Below.refl _ _, by omega, fun j hj => absurd hj (by omega)⟩
    case round =>
      obtain ⟨i, B, v, hi, rfl, rfl, hwd, hbw, hB0, hall⟩ := hrel
      have HI : Hid (i + gk = n) := hi
      have hin : i ≤ n := by omega
      have hzw := hbw.size
      have HALL : Hid (∀ j, j < i → isDig (D[j]!) = true) := hall
      have hfew : Hid (Few (decV (D.take i)) ∧ Few (decV (D.take i) * 10)) := by
        have hl2 : (D.take i).length = i := by rw [List.length_take]; have := HN.out; omega
        have h1 := decV_lt i (D.take i) hl2 (fun c hc => by
          obtain ⟨j, hj, rfl⟩ := List.mem_iff_getElem.1 hc
          rw [hl2] at hj
          have := HALL.out j hj
          rw [getElem!_pos D j (by have := HN.out; omega)] at this
          rw [List.getElem_take]
          exact this)
        exact ⟨few_of h1 (by omega), few_of (k := i + 1) (by rw [Nat.pow_succ]; omega) (by omega)⟩
      clear hi hall
      by_cases hlt2 : i < n
      · have gi := HGET.out i hlt2
        have hci : (D[i]!).toNat < 256 := (D[i]!).toNat_lt
        have hi2 : (i : Int) < (n : Int) := by omega
        have hi1 : (0 : Int) ≤ (i : Int) := by omega
        have HDI : Hid (isDig (D[i]!) = decide (48 ≤ (D[i]!).toNat ∧ (D[i]!).toNat ≤ 57)) := rfl
        have HBAD : Hid (isDig (D[i]!) = false → okD D = false) := fun h => by
          unfold okD
          have hm : D[i]! ∈ D := by rw [getElem!_pos D i (by have := HN.out; omega)]; exact List.getElem_mem _
          have : D.all isDig = false := List.all_eq_false.2 ⟨_, hm, by rw [h]; simp⟩
          rw [this, Bool.and_false]
        by_cases hdg : 48 ≤ (D[i]!).toNat ∧ (D[i]!).toNat ≤ 57
        · have HV1 : Hid (decV (D.take (i + 1)) = decV (D.take i) * 10 + ((D[i]!).toNat - 48)) := by
            show _ = _
            have hiD : i < D.length := by have := HN.out; omega
            rw [List.take_add_one, List.getElem?_eq_getElem hiD, getElem!_pos D i hiD]
            exact decV_snoc _ _
          have HDG : Hid (isDig (D[i]!) = true) := by show _ = _; rw [HDI.out]; exact decide_eq_true hdg
          generalize (D[i]!).toNat = ci at gi hci hdg HV1
          have h48 : (48 : Int) ≤ (ci : Int) := by omega
          have h57 : (ci : Int) ≤ 57 := by omega
          obtain ⟨dv, hdv⟩ : ∃ dv : Nat, dv = ci - 48 := ⟨_, rfl⟩
          have hdvi : (ci : Int) - 48 = (dv : Int) := by omega
          have hwsub : IntKind.u8.wrap ((ci : Int) - 48) = (dv : Int) := by rw [IntKind.wrap_u8]; omega
          have hdv10 : (dv : Int) < 10 := by omega
          have hd10 : ¬ (10 : Int) ≤ (dv : Int) := by omega
          have HV2 : Hid (decV (D.take (i + 1)) = decV (D.take i) * 10 + dv) := by show _ = _; rw [HV1.out, hdv]
          generalize decV (D.take i) = vi at *
          have hws := fun W => words_any 10 W (by omega)
          have hwd2 := fun W => words_any dv W (by omega)
          clear hdv hdg HV1
          go_wp2_with fail
          refine (hws _).mono ?_
          rintro e w1 ⟨v1, rfl, hv1, hb1⟩
          have hmu := bigTen_any B wr.heap.size vi v v1 w1 (hwd.below hb1) hv1 hfew.out.1
          go_wp2_with fail
          refine hmu.mono ?_
          rintro e w2 ⟨v2, rfl, hvv2, hb2⟩
          go_wp2_with fail
          refine (hwd2 _).mono ?_
          rintro e w3 ⟨v3, rfl, hv3', hb3⟩
          have had := bigAdd_any w1.heap.size w2.heap.size (vi * 10) dv v2 v3 w3 (hvv2.below hb3) hv3' ⟨hfew.out.2, few_of (k := 1) (by omega) (by omega)⟩
          go_wp2_with fail
          refine had.mono ?_
          rintro e w4 ⟨v4, rfl, hv4, hb4⟩
          have z1 := hb1.size
          have z2 := hb2.size
          have z3 := hb3.size
          have F4 : Below w.heap.size w w4 := (((hbw.trans (hb1.mono hzw)).trans (hb2.mono (by omega))).trans (hb3.mono (by omega))).trans (hb4.mono (by omega))
          clear hmu had hws hwd2
          go_wp2_with fail
          go_roundg (gk - 1)
          case measure => have := HI.out; omega
          case rel =>
            refine ⟨i + 1, w3.heap.size, v4, by have := HI.out; omega, rfl, by go_num, by rw [HV2.out]; exact hv4, F4, fun _ => by omega, fun j hj => ?_⟩
            rcases Nat.lt_succ_iff_lt_or_eq.1 hj with h | h
            · exact HALL.out j h
            · rw [h]; exact HDG.out
        · have HOK : Hid (okD D = false) := HBAD.out (by rw [HDI.out]; exact decide_eq_false hdg)
          generalize (D[i]!).toNat = ci at gi hci hdg
          clear hwd HBAD HDI
          rcases (show ci < 48 ∨ (57 < ci ∧ ci < 65) ∨ (65 ≤ ci ∧ ci ≤ 90) ∨ (90 < ci ∧ ci < 97) ∨ (97 ≤ ci ∧ ci ≤ 122) ∨ 122 < ci by omega) with h | ⟨h, h'⟩ | ⟨h, h'⟩ | ⟨h, h'⟩ | ⟨h, h'⟩ | h
          · have a1 : ¬ (48 : Int) ≤ (ci : Int) := by omega
            have a2 : ¬ (97 : Int) ≤ (ci : Int) := by omega
            have a3 : ¬ (65 : Int) ≤ (ci : Int) := by omega
            go_wp2_with fail
            go_ret2
            exact Or.inr ⟨HOK.out, rfl, hbw⟩
          · have a1 : ¬ (ci : Int) ≤ 57 := by omega
            have a0 : (48 : Int) ≤ (ci : Int) := by omega
            have a2 : ¬ (97 : Int) ≤ (ci : Int) := by omega
            have a3 : ¬ (65 : Int) ≤ (ci : Int) := by omega
            go_wp2_with fail
            go_ret2
            exact Or.inr ⟨HOK.out, rfl, hbw⟩
          · have a1 : ¬ (ci : Int) ≤ 57 := by omega
            have a0 : (48 : Int) ≤ (ci : Int) := by omega
            have a2 : ¬ (97 : Int) ≤ (ci : Int) := by omega
            have a3 : (65 : Int) ≤ (ci : Int) := by omega
            have a4 : (ci : Int) ≤ 90 := by omega
            have a5 : IntKind.u8.wrap ((ci : Int) - 65) = (ci : Int) - 65 := by rw [IntKind.wrap_u8]; omega
            have a6 : (10 : Int) ≤ (ci : Int) - 65 + 10 := by omega
            go_wp2_with fail
            go_ret2
            exact Or.inr ⟨HOK.out, rfl, hbw⟩
          · have a1 : ¬ (ci : Int) ≤ 57 := by omega
            have a0 : (48 : Int) ≤ (ci : Int) := by omega
            have a2 : ¬ (97 : Int) ≤ (ci : Int) := by omega
            have a3 : (65 : Int) ≤ (ci : Int) := by omega
            have a4 : ¬ (ci : Int) ≤ 90 := by omega
            go_wp2_with fail
            go_ret2
            exact Or.inr ⟨HOK.out, rfl, hbw⟩
          · have a1 : ¬ (ci : Int) ≤ 57 := by omega
            have a0 : (48 : Int) ≤ (ci : Int) := by omega
            have a2 : (97 : Int) ≤ (ci : Int) := by omega
            have a4 : (ci : Int) ≤ 122 := by omega
            have a5 : IntKind.u8.wrap ((ci : Int) - 97) = (ci : Int) - 97 := by rw [IntKind.wrap_u8]; omega
            have a6 : (10 : Int) ≤ (ci : Int) - 97 + 10 := by omega
            go_wp2_with fail
            go_ret2
            exact Or.inr ⟨HOK.out, rfl, hbw⟩
          · have a1 : ¬ (ci : Int) ≤ 57 := by omega
            have a0 : (48 : Int) ≤ (ci : Int) := by omega
            have a2 : (97 : Int) ≤ (ci : Int) := by omega
            have a3 : (65 : Int) ≤ (ci : Int) := by omega
            have a4 : ¬ (ci : Int) ≤ 122 := by omega
            have a5 : ¬ (ci : Int) ≤ 90 := by omega
            go_wp2_with fail
            go_ret2
            exact Or.inr ⟨HOK.out, rfl, hbw⟩
      · have hi2 : ¬ (i : Int) < (n : Int) := by omega
        have HX : Hid (decV (D.take i) = decV D) := by show _ = _; rw [List.take_of_length_le (by have := HN.out; omega)]
        have HOK : Hid (okD D = true) := by
          show _ = _
          unfold okD
          have h1 : D.isEmpty = false := by cases hD : D with
            | nil => have := HN.out; rw [hD] at this; simp at this; omega
            | cons _ _ => rfl
          have h2 : D.all isDig = true := List.all_eq_true.2 fun c hc => by
            obtain ⟨j, hj, rfl⟩ := List.mem_iff_getElem.1 hc
            have := HALL.out j (by have := HN.out; omega)
            rwa [getElem!_pos D j hj] at this
          rw [h1, h2]
          rfl
        have hgv := giveS_any b true (decV (D.take i)) v p q wr ((hbw.block b hlt).trans HB.out) (hwd.mono (by have := hB0 (by omega); omega))
        generalize decV (D.take i) = vi at *
        go_wp2_with fail
        refine hgv.mono ?_
        rintro e w2 ⟨rfl, hi3, hb2⟩
        go_wp2_with fail
        go_ret2
        exact Or.inl ⟨HOK.out, rfl, by rw [← HX.out]; exact hi3, grown_under hbw hb2⟩

set_option maxRecDepth 20000 in
set_option maxHeartbeats 8000000 in
theorem setStrP (b : Nat) (D : List UInt8) (p q : Value) (w : World) (hb : w.heap[b]? = some (.cells #[p, q] 70 (0, 0))) (n : Nat) (hnD : n = D.length) (hn6 : n ≤ 6000) :
    Calls Tryz.prog 41 #[.pointer (some ⟨b, 0, none⟩), .string ⟨(43 :: D).toArray⟩, .int .i64 10] w fun e w' => (okD D = true ∧ e = .returned (.tuple #[.pointer (some ⟨b, 0, none⟩), .bool true]) ∧ IsSg b false (decV D) w' ∧ w.grownBy w' (some b)) ∨ (okD D = false ∧ e = .returned (.tuple #[.pointer none, .bool false]) ∧ Below w.heap.size w w') := by
  have hlt := (Array.getElem?_eq_some_iff.1 hb).1
  have HB : Hid (w.heap[b]? = some (.cells #[p, q] 70 (0, 0))) := hb
  have HN : Hid (n = D.length) := hnD
  clear hb hnD
  have g0 : ∀ h, ((⟨(43 :: D).toArray⟩ : ByteArray)[0]'h).toNat = 43 := fun _ => rfl
  have htl := ba_tail 43 D (n + 1) (by rw [HN.out])
  have hsz : (⟨(43 :: D).toArray⟩ : ByteArray).size = n + 1 := by show (43 :: D).toArray.size = _; rw [List.size_toArray, List.length_cons, HN.out]
  generalize hS : (⟨(43 :: D).toArray⟩ : ByteArray) = S at *
  clear hS
  have hpos : (0 : Int) < ((n + 1 : Nat) : Int) := by omega
  have hone : (1 : Int) ≤ ((n + 1 : Nat) : Int) := by omega
  have hz : (⟨D.toArray⟩ : ByteArray).size = n := by show D.toArray.size = _; rw [List.size_toArray]; exact HN.out.symm
  have HGET : Hid (∀ (j : Nat) (hj : j < n), ∀ h, ((⟨D.toArray⟩ : ByteArray)[j]'h).toNat = (D[j]!).toNat) := fun j hj h => by
    have hjD : j < D.length := by have := HN.out; omega
    rw [getElem!_pos D j hjD]
    rfl
  generalize hSD : (⟨D.toArray⟩ : ByteArray) = SD at *
  clear hSD
  by_cases hn0 : n = 0
  · have hok : okD D = false := by
      have : D = [] := List.eq_nil_of_length_eq_zero (by have := HN.out; omega)
      subst this
      rfl
    have e0 : ((n : Int) == 0) = true := by simp; omega
    rw [hok]
    clear hok
    subst hn0
    go_enter Tryz.func41, Tryz.ntmps41
    go_wp2_with fail
    go_ret2
    exact Or.inr ⟨by first | trivial | rfl, rfl, Below.refl _ _⟩
  · have hp4 : ((n : Int) == 0) = false := by simp; omega
    have hw0 : Wd w 0 (.slice none 0 0) (decV (D.take 0)) := ⟨none, 0, 0, rfl, by omega, by unfold maxLen; omega, by omega, by simp [decV], by simp, Or.inl rfl⟩
    go_enter Tryz.func41, Tryz.ntmps41
    go_wp2_with fail
    go_loopg [9, 10] n (fun g s9 s10 wr => ∃ (i B : Nat) (v : Value), i + g = n ∧ v = s9 ∧ s10 = .int .i64 i ∧ Wd wr B v (decV (D.take i)) ∧ Below w.heap.size w wr ∧ (0 < i → w.heap.size ≤ B) ∧ (∀ j, j < i → isDig (D[j]!) = true))
    case atStart => exact ⟨0, 0, _, by omega, rfl, rfl, hw0, Below.refl _ _, by omega, fun j hj => absurd hj (by omega)⟩
    case round =>
      obtain ⟨i, B, v, hi, rfl, rfl, hwd, hbw, hB0, hall⟩ := hrel
      have HI : Hid (i + gk = n) := hi
      have hin : i ≤ n := by omega
      have hzw := hbw.size
      have HALL : Hid (∀ j, j < i → isDig (D[j]!) = true) := hall
      have hfew : Hid (Few (decV (D.take i)) ∧ Few (decV (D.take i) * 10)) := by
        have hl2 : (D.take i).length = i := by rw [List.length_take]; have := HN.out; omega
        have h1 := decV_lt i (D.take i) hl2 (fun c hc => by
          obtain ⟨j, hj, rfl⟩ := List.mem_iff_getElem.1 hc
          rw [hl2] at hj
          have := HALL.out j hj
          rw [getElem!_pos D j (by have := HN.out; omega)] at this
          rw [List.getElem_take]
          exact this)
        exact ⟨few_of h1 (by omega), few_of (k := i + 1) (by rw [Nat.pow_succ]; omega) (by omega)⟩
      clear hi hall
      by_cases hlt2 : i < n
      · have gi := HGET.out i hlt2
        have hci : (D[i]!).toNat < 256 := (D[i]!).toNat_lt
        have hi2 : (i : Int) < (n : Int) := by omega
        have hi1 : (0 : Int) ≤ (i : Int) := by omega
        have HDI : Hid (isDig (D[i]!) = decide (48 ≤ (D[i]!).toNat ∧ (D[i]!).toNat ≤ 57)) := rfl
        have HBAD : Hid (isDig (D[i]!) = false → okD D = false) := fun h => by
          unfold okD
          have hm : D[i]! ∈ D := by rw [getElem!_pos D i (by have := HN.out; omega)]; exact List.getElem_mem _
          have : D.all isDig = false := List.all_eq_false.2 ⟨_, hm, by rw [h]; simp⟩
          rw [this, Bool.and_false]
        by_cases hdg : 48 ≤ (D[i]!).toNat ∧ (D[i]!).toNat ≤ 57
        · have HV1 : Hid (decV (D.take (i + 1)) = decV (D.take i) * 10 + ((D[i]!).toNat - 48)) := by
            show _ = _
            have hiD : i < D.length := by have := HN.out; omega
            rw [List.take_add_one, List.getElem?_eq_getElem hiD, getElem!_pos D i hiD]
            exact decV_snoc _ _
          have HDG : Hid (isDig (D[i]!) = true) := by show _ = _; rw [HDI.out]; exact decide_eq_true hdg
          generalize (D[i]!).toNat = ci at gi hci hdg HV1
          have h48 : (48 : Int) ≤ (ci : Int) := by omega
          have h57 : (ci : Int) ≤ 57 := by omega
          obtain ⟨dv, hdv⟩ : ∃ dv : Nat, dv = ci - 48 := ⟨_, rfl⟩
          have hdvi : (ci : Int) - 48 = (dv : Int) := by omega
          have hwsub : IntKind.u8.wrap ((ci : Int) - 48) = (dv : Int) := by rw [IntKind.wrap_u8]; omega
          have hdv10 : (dv : Int) < 10 := by omega
          have hd10 : ¬ (10 : Int) ≤ (dv : Int) := by omega
          have HV2 : Hid (decV (D.take (i + 1)) = decV (D.take i) * 10 + dv) := by show _ = _; rw [HV1.out, hdv]
          generalize decV (D.take i) = vi at *
          have hws := fun W => words_any 10 W (by omega)
          have hwd2 := fun W => words_any dv W (by omega)
          clear hdv hdg HV1
          go_wp2_with fail
          refine (hws _).mono ?_
          rintro e w1 ⟨v1, rfl, hv1, hb1⟩
          have hmu := bigTen_any B wr.heap.size vi v v1 w1 (hwd.below hb1) hv1 hfew.out.1
          go_wp2_with fail
          refine hmu.mono ?_
          rintro e w2 ⟨v2, rfl, hvv2, hb2⟩
          go_wp2_with fail
          refine (hwd2 _).mono ?_
          rintro e w3 ⟨v3, rfl, hv3', hb3⟩
          have had := bigAdd_any w1.heap.size w2.heap.size (vi * 10) dv v2 v3 w3 (hvv2.below hb3) hv3' ⟨hfew.out.2, few_of (k := 1) (by omega) (by omega)⟩
          go_wp2_with fail
          refine had.mono ?_
          rintro e w4 ⟨v4, rfl, hv4, hb4⟩
          have z1 := hb1.size
          have z2 := hb2.size
          have z3 := hb3.size
          have F4 : Below w.heap.size w w4 := (((hbw.trans (hb1.mono hzw)).trans (hb2.mono (by omega))).trans (hb3.mono (by omega))).trans (hb4.mono (by omega))
          clear hmu had hws hwd2
          go_wp2_with fail
          go_roundg (gk - 1)
          case measure => have := HI.out; omega
          case rel =>
            refine ⟨i + 1, w3.heap.size, v4, by have := HI.out; omega, rfl, by go_num, by rw [HV2.out]; exact hv4, F4, fun _ => by omega, fun j hj => ?_⟩
            rcases Nat.lt_succ_iff_lt_or_eq.1 hj with h | h
            · exact HALL.out j h
            · rw [h]; exact HDG.out
        · have HOK : Hid (okD D = false) := HBAD.out (by rw [HDI.out]; exact decide_eq_false hdg)
          generalize (D[i]!).toNat = ci at gi hci hdg
          clear hwd HBAD HDI
          rcases (show ci < 48 ∨ (57 < ci ∧ ci < 65) ∨ (65 ≤ ci ∧ ci ≤ 90) ∨ (90 < ci ∧ ci < 97) ∨ (97 ≤ ci ∧ ci ≤ 122) ∨ 122 < ci by omega) with h | ⟨h, h'⟩ | ⟨h, h'⟩ | ⟨h, h'⟩ | ⟨h, h'⟩ | h
          · have a1 : ¬ (48 : Int) ≤ (ci : Int) := by omega
            have a2 : ¬ (97 : Int) ≤ (ci : Int) := by omega
            have a3 : ¬ (65 : Int) ≤ (ci : Int) := by omega
            go_wp2_with fail
            go_ret2
            exact Or.inr ⟨HOK.out, rfl, hbw⟩
          · have a1 : ¬ (ci : Int) ≤ 57 := by omega
            have a0 : (48 : Int) ≤ (ci : Int) := by omega
            have a2 : ¬ (97 : Int) ≤ (ci : Int) := by omega
            have a3 : ¬ (65 : Int) ≤ (ci : Int) := by omega
            go_wp2_with fail
            go_ret2
            exact Or.inr ⟨HOK.out, rfl, hbw⟩
          · have a1 : ¬ (ci : Int) ≤ 57 := by omega
            have a0 : (48 : Int) ≤ (ci : Int) := by omega
            have a2 : ¬ (97 : Int) ≤ (ci : Int) := by omega
            have a3 : (65 : Int) ≤ (ci : Int) := by omega
            have a4 : (ci : Int) ≤ 90 := by omega
            have a5 : IntKind.u8.wrap ((ci : Int) - 65) = (ci : Int) - 65 := by rw [IntKind.wrap_u8]; omega
            have a6 : (10 : Int) ≤ (ci : Int) - 65 + 10 := by omega
            go_wp2_with fail
            go_ret2
            exact Or.inr ⟨HOK.out, rfl, hbw⟩
          · have a1 : ¬ (ci : Int) ≤ 57 := by omega
            have a0 : (48 : Int) ≤ (ci : Int) := by omega
            have a2 : ¬ (97 : Int) ≤ (ci : Int) := by omega
            have a3 : (65 : Int) ≤ (ci : Int) := by omega
            have a4 : ¬ (ci : Int) ≤ 90 := by omega
            go_wp2_with fail
            go_ret2
            exact Or.inr ⟨HOK.out, rfl, hbw⟩
          · have a1 : ¬ (ci : Int) ≤ 57 := by omega
            have a0 : (48 : Int) ≤ (ci : Int) := by omega
            have a2 : (97 : Int) ≤ (ci : Int) := by omega
            have a4 : (ci : Int) ≤ 122 := by omega
            have a5 : IntKind.u8.wrap ((ci : Int) - 97) = (ci : Int) - 97 := by rw [IntKind.wrap_u8]; omega
            have a6 : (10 : Int) ≤ (ci : Int) - 97 + 10 := by omega
            go_wp2_with fail
            go_ret2
            exact Or.inr ⟨HOK.out, rfl, hbw⟩
          · have a1 : ¬ (ci : Int) ≤ 57 := by omega
            have a0 : (48 : Int) ≤ (ci : Int) := by omega
            have a2 : (97 : Int) ≤ (ci : Int) := by omega
            have a3 : (65 : Int) ≤ (ci : Int) := by omega
            have a4 : ¬ (ci : Int) ≤ 122 := by omega
            have a5 : ¬ (ci : Int) ≤ 90 := by omega
            go_wp2_with fail
            go_ret2
            exact Or.inr ⟨HOK.out, rfl, hbw⟩
      · have hi2 : ¬ (i : Int) < (n : Int) := by omega
        have HX : Hid (decV (D.take i) = decV D) := by show _ = _; rw [List.take_of_length_le (by have := HN.out; omega)]
        have HOK : Hid (okD D = true) := by
          show _ = _
          unfold okD
          have h1 : D.isEmpty = false := by cases hD : D with
            | nil => have := HN.out; rw [hD] at this; simp at this; omega
            | cons _ _ => rfl
          have h2 : D.all isDig = true := List.all_eq_true.2 fun c hc => by
            obtain ⟨j, hj, rfl⟩ := List.mem_iff_getElem.1 hc
            have := HALL.out j (by have := HN.out; omega)
            rwa [getElem!_pos D j hj] at this
          rw [h1, h2]
          rfl
        have hgv := giveS_any b false (decV (D.take i)) v p q wr ((hbw.block b hlt).trans HB.out) (hwd.mono (by have := hB0 (by omega); omega))
        generalize decV (D.take i) = vi at *
        go_wp2_with fail
        refine hgv.mono ?_
        rintro e w2 ⟨rfl, hi3, hb2⟩
        go_wp2_with fail
        go_ret2
        exact Or.inl ⟨HOK.out, rfl, by rw [← HX.out]; exact hi3, grown_under hbw hb2⟩

set_option maxRecDepth 20000 in
set_option maxHeartbeats 8000000 in
theorem setStrD (b : Nat) (D : List UInt8) (p q : Value) (w : World) (hb : w.heap[b]? = some (.cells #[p, q] 70 (0, 0))) (n : Nat) (hnD : n = D.length) (hn6 : n ≤ 6000) (hne : ∀ c r, D = c :: r → c ≠ 45 ∧ c ≠ 43) :
    Calls Tryz.prog 41 #[.pointer (some ⟨b, 0, none⟩), .string ⟨D.toArray⟩, .int .i64 10] w fun e w' => (okD D = true ∧ e = .returned (.tuple #[.pointer (some ⟨b, 0, none⟩), .bool true]) ∧ IsSg b false (decV D) w' ∧ w.grownBy w' (some b)) ∨ (okD D = false ∧ e = .returned (.tuple #[.pointer none, .bool false]) ∧ Below w.heap.size w w') := by
  have hlt := (Array.getElem?_eq_some_iff.1 hb).1
  have HB : Hid (w.heap[b]? = some (.cells #[p, q] 70 (0, 0))) := hb
  have HN : Hid (n = D.length) := hnD
  clear hb hnD
  have hz : (⟨D.toArray⟩ : ByteArray).size = n := by show D.toArray.size = _; rw [List.size_toArray]; exact HN.out.symm
  have HGET : Hid (∀ (j : Nat) (hj : j < n), ∀ h, ((⟨D.toArray⟩ : ByteArray)[j]'h).toNat = (D[j]!).toNat) := fun j hj h => by
    have hjD : j < D.length := by have := HN.out; omega
    rw [getElem!_pos D j hjD]
    rfl
  generalize hSD : (⟨D.toArray⟩ : ByteArray) = SD at *
  clear hSD
  by_cases hn0 : n = 0
  · have hok : okD D = false := by
      have : D = [] := List.eq_nil_of_length_eq_zero (by have := HN.out; omega)
      subst this
      rfl
    have e0 : ((n : Int) == 0) = true := by simp; omega
    rw [hok]
    clear hok
    subst hn0
    go_enter Tryz.func41, Tryz.ntmps41
    go_wp2_with fail
    go_ret2
    exact Or.inr ⟨by first | trivial | rfl, rfl, Below.refl _ _⟩
  · have hp4 : ((n : Int) == 0) = false := by simp; omega
    have hp2 : (0 : Int) < (n : Int) := by omega
    have g0 := HGET.out 0 (by omega)
    have hc0 : (D[0]!).toNat ≠ 45 ∧ (D[0]!).toNat ≠ 43 := by
      cases hD : D with
      | nil => have := HN.out; rw [hD] at this; simp at this; omega
      | cons c r =>
        have h1 := hne c r hD
        exact ⟨fun e => h1.1 (UInt8.toNat_inj.1 e), fun e => h1.2 (UInt8.toNat_inj.1 e)⟩
    generalize (D[0]!).toNat = c0 at g0 hc0
    have k1 : ((c0 : Int) == 45) = false := by simp; omega
    have k2 : ((c0 : Int) == 43) = false := by simp; omega
    clear hc0 hne
    have hw0 : Wd w 0 (.slice none 0 0) (decV (D.take 0)) := ⟨none, 0, 0, rfl, by omega, by unfold maxLen; omega, by omega, by simp [decV], by simp, Or.inl rfl⟩
    go_enter Tryz.func41, Tryz.ntmps41
    go_wp2_with fail
    go_loopg [9, 10] n (fun g s9 s10 wr => ∃ (i B : Nat) (v : Value), i + g = n ∧ v = s9 ∧ s10 = .int .i64 i ∧ Wd wr B v (decV (D.take i)) ∧ Below w.heap.size w wr ∧ (0 < i → w.heap.size ≤ B) ∧ (∀ j, j < i → isDig (D[j]!) = true))
    case atStart => exact ⟨0, 0, _, by omega, rfl, rfl, hw0, Below.refl _ _, by omega, fun j hj => absurd hj (by omega)⟩
    case round =>
      obtain ⟨i, B, v, hi, rfl, rfl, hwd, hbw, hB0, hall⟩ := hrel
      have HI : Hid (i + gk = n) := hi
      have hin : i ≤ n := by omega
      have hzw := hbw.size
      have HALL : Hid (∀ j, j < i → isDig (D[j]!) = true) := hall
      have hfew : Hid (Few (decV (D.take i)) ∧ Few (decV (D.take i) * 10)) := by
        have hl2 : (D.take i).length = i := by rw [List.length_take]; have := HN.out; omega
        have h1 := decV_lt i (D.take i) hl2 (fun c hc => by
          obtain ⟨j, hj, rfl⟩ := List.mem_iff_getElem.1 hc
          rw [hl2] at hj
          have := HALL.out j hj
          rw [getElem!_pos D j (by have := HN.out; omega)] at this
          rw [List.getElem_take]
          exact this)
        exact ⟨few_of h1 (by omega), few_of (k := i + 1) (by rw [Nat.pow_succ]; omega) (by omega)⟩
      clear hi hall
      by_cases hlt2 : i < n
      · have gi := HGET.out i hlt2
        have hci : (D[i]!).toNat < 256 := (D[i]!).toNat_lt
        have hi2 : (i : Int) < (n : Int) := by omega
        have hi1 : (0 : Int) ≤ (i : Int) := by omega
        have HDI : Hid (isDig (D[i]!) = decide (48 ≤ (D[i]!).toNat ∧ (D[i]!).toNat ≤ 57)) := rfl
        have HBAD : Hid (isDig (D[i]!) = false → okD D = false) := fun h => by
          unfold okD
          have hm : D[i]! ∈ D := by rw [getElem!_pos D i (by have := HN.out; omega)]; exact List.getElem_mem _
          have : D.all isDig = false := List.all_eq_false.2 ⟨_, hm, by rw [h]; simp⟩
          rw [this, Bool.and_false]
        by_cases hdg : 48 ≤ (D[i]!).toNat ∧ (D[i]!).toNat ≤ 57
        · have HV1 : Hid (decV (D.take (i + 1)) = decV (D.take i) * 10 + ((D[i]!).toNat - 48)) := by
            show _ = _
            have hiD : i < D.length := by have := HN.out; omega
            rw [List.take_add_one, List.getElem?_eq_getElem hiD, getElem!_pos D i hiD]
            exact decV_snoc _ _
          have HDG : Hid (isDig (D[i]!) = true) := by show _ = _; rw [HDI.out]; exact decide_eq_true hdg
          generalize (D[i]!).toNat = ci at gi hci hdg HV1
          have h48 : (48 : Int) ≤ (ci : Int) := by omega
          have h57 : (ci : Int) ≤ 57 := by omega
          obtain ⟨dv, hdv⟩ : ∃ dv : Nat, dv = ci - 48 := ⟨_, rfl⟩
          have hdvi : (ci : Int) - 48 = (dv : Int) := by omega
          have hwsub : IntKind.u8.wrap ((ci : Int) - 48) = (dv : Int) := by rw [IntKind.wrap_u8]; omega
          have hdv10 : (dv : Int) < 10 := by omega
          have hd10 : ¬ (10 : Int) ≤ (dv : Int) := by omega
          have HV2 : Hid (decV (D.take (i + 1)) = decV (D.take i) * 10 + dv) := by show _ = _; rw [HV1.out, hdv]
          generalize decV (D.take i) = vi at *
          have hws := fun W => words_any 10 W (by omega)
          have hwd2 := fun W => words_any dv W (by omega)
          clear hdv hdg HV1
          go_wp2_with fail
          refine (hws _).mono ?_
          rintro e w1 ⟨v1, rfl, hv1, hb1⟩
          have hmu := bigTen_any B wr.heap.size vi v v1 w1 (hwd.below hb1) hv1 hfew.out.1
          go_wp2_with fail
          refine hmu.mono ?_
          rintro e w2 ⟨v2, rfl, hvv2, hb2⟩
          go_wp2_with fail
          refine (hwd2 _).mono ?_
          rintro e w3 ⟨v3, rfl, hv3', hb3⟩
          have had := bigAdd_any w1.heap.size w2.heap.size (vi * 10) dv v2 v3 w3 (hvv2.below hb3) hv3' ⟨hfew.out.2, few_of (k := 1) (by omega) (by omega)⟩
          go_wp2_with fail
          refine had.mono ?_
          rintro e w4 ⟨v4, rfl, hv4, hb4⟩
          have z1 := hb1.size
          have z2 := hb2.size
          have z3 := hb3.size
          have F4 : Below w.heap.size w w4 := (((hbw.trans (hb1.mono hzw)).trans (hb2.mono (by omega))).trans (hb3.mono (by omega))).trans (hb4.mono (by omega))
          clear hmu had hws hwd2
          go_wp2_with fail
          go_roundg (gk - 1)
          case measure => have := HI.out; omega
          case rel =>
            refine ⟨i + 1, w3.heap.size, v4, by have := HI.out; omega, rfl, by go_num, by rw [HV2.out]; exact hv4, F4, fun _ => by omega, fun j hj => ?_⟩
            rcases Nat.lt_succ_iff_lt_or_eq.1 hj with h | h
            · exact HALL.out j h
            · rw [h]; exact HDG.out
        · have HOK : Hid (okD D = false) := HBAD.out (by rw [HDI.out]; exact decide_eq_false hdg)
          generalize (D[i]!).toNat = ci at gi hci hdg
          clear hwd HBAD HDI
          rcases (show ci < 48 ∨ (57 < ci ∧ ci < 65) ∨ (65 ≤ ci ∧ ci ≤ 90) ∨ (90 < ci ∧ ci < 97) ∨ (97 ≤ ci ∧ ci ≤ 122) ∨ 122 < ci by omega) with h | ⟨h, h'⟩ | ⟨h, h'⟩ | ⟨h, h'⟩ | ⟨h, h'⟩ | h
          · have a1 : ¬ (48 : Int) ≤ (ci : Int) := by omega
            have a2 : ¬ (97 : Int) ≤ (ci : Int) := by omega
            have a3 : ¬ (65 : Int) ≤ (ci : Int) := by omega
            go_wp2_with fail
            go_ret2
            exact Or.inr ⟨HOK.out, rfl, hbw⟩
          · have a1 : ¬ (ci : Int) ≤ 57 := by omega
            have a0 : (48 : Int) ≤ (ci : Int) := by omega
            have a2 : ¬ (97 : Int) ≤ (ci : Int) := by omega
            have a3 : ¬ (65 : Int) ≤ (ci : Int) := by omega
            go_wp2_with fail
            go_ret2
            exact Or.inr ⟨HOK.out, rfl, hbw⟩
          · have a1 : ¬ (ci : Int) ≤ 57 := by omega
            have a0 : (48 : Int) ≤ (ci : Int) := by omega
            have a2 : ¬ (97 : Int) ≤ (ci : Int) := by omega
            have a3 : (65 : Int) ≤ (ci : Int) := by omega
            have a4 : (ci : Int) ≤ 90 := by omega
            have a5 : IntKind.u8.wrap ((ci : Int) - 65) = (ci : Int) - 65 := by rw [IntKind.wrap_u8]; omega
            have a6 : (10 : Int) ≤ (ci : Int) - 65 + 10 := by omega
            go_wp2_with fail
            go_ret2
            exact Or.inr ⟨HOK.out, rfl, hbw⟩
          · have a1 : ¬ (ci : Int) ≤ 57 := by omega
            have a0 : (48 : Int) ≤ (ci : Int) := by omega
            have a2 : ¬ (97 : Int) ≤ (ci : Int) := by omega
            have a3 : (65 : Int) ≤ (ci : Int) := by omega
            have a4 : ¬ (ci : Int) ≤ 90 := by omega
            go_wp2_with fail
            go_ret2
            exact Or.inr ⟨HOK.out, rfl, hbw⟩
          · have a1 : ¬ (ci : Int) ≤ 57 := by omega
            have a0 : (48 : Int) ≤ (ci : Int) := by omega
            have a2 : (97 : Int) ≤ (ci : Int) := by omega
            have a4 : (ci : Int) ≤ 122 := by omega
            have a5 : IntKind.u8.wrap ((ci : Int) - 97) = (ci : Int) - 97 := by rw [IntKind.wrap_u8]; omega
            have a6 : (10 : Int) ≤ (ci : Int) - 97 + 10 := by omega
            go_wp2_with fail
            go_ret2
            exact Or.inr ⟨HOK.out, rfl, hbw⟩
          · have a1 : ¬ (ci : Int) ≤ 57 := by omega
            have a0 : (48 : Int) ≤ (ci : Int) := by omega
            have a2 : (97 : Int) ≤ (ci : Int) := by omega
            have a3 : (65 : Int) ≤ (ci : Int) := by omega
            have a4 : ¬ (ci : Int) ≤ 122 := by omega
            have a5 : ¬ (ci : Int) ≤ 90 := by omega
            go_wp2_with fail
            go_ret2
            exact Or.inr ⟨HOK.out, rfl, hbw⟩
      · have hi2 : ¬ (i : Int) < (n : Int) := by omega
        have HX : Hid (decV (D.take i) = decV D) := by show _ = _; rw [List.take_of_length_le (by have := HN.out; omega)]
        have HOK : Hid (okD D = true) := by
          show _ = _
          unfold okD
          have h1 : D.isEmpty = false := by cases hD : D with
            | nil => have := HN.out; rw [hD] at this; simp at this; omega
            | cons _ _ => rfl
          have h2 : D.all isDig = true := List.all_eq_true.2 fun c hc => by
            obtain ⟨j, hj, rfl⟩ := List.mem_iff_getElem.1 hc
            have := HALL.out j (by have := HN.out; omega)
            rwa [getElem!_pos D j hj] at this
          rw [h1, h2]
          rfl
        have hgv := giveS_any b false (decV (D.take i)) v p q wr ((hbw.block b hlt).trans HB.out) (hwd.mono (by have := hB0 (by omega); omega))
        generalize decV (D.take i) = vi at *
        go_wp2_with fail
        refine hgv.mono ?_
        rintro e w2 ⟨rfl, hi3, hb2⟩
        go_wp2_with fail
        go_ret2
        exact Or.inl ⟨HOK.out, rfl, by rw [← HX.out]; exact hi3, grown_under hbw hb2⟩


theorem setStr_any (b : Nat) (l : List UInt8) (p q : Value) (w : World) (hb : w.heap[b]? = some (.cells #[p, q] 70 (0, 0))) (hlen : l.length ≤ 6000) :
    Calls Tryz.prog 41 #[.pointer (some ⟨b, 0, none⟩), .string ⟨l.toArray⟩, .int .i64 10] w fun e w' => (okD (signOf l).2 = true ∧ e = .returned (.tuple #[.pointer (some ⟨b, 0, none⟩), .bool true]) ∧ IsSg b (signOf l).1 (decV (signOf l).2) w' ∧ w.grownBy w' (some b)) ∨ (okD (signOf l).2 = false ∧ e = .returned (.tuple #[.pointer none, .bool false]) ∧ Below w.heap.size w w') := by
  have hl := signOf_len l
  by_cases h1 : ∃ r, l = 45 :: r
  · obtain ⟨r, rfl⟩ := h1
    exact setStrM b r p q w hb _ rfl (by simp at hlen; omega)
  · by_cases h2 : ∃ r, l = 43 :: r
    · obtain ⟨r, rfl⟩ := h2
      exact setStrP b r p q w hb _ rfl (by simp at hlen; omega)
    · have h3 : signOf l = (false, l) := by
        unfold signOf
        split
        · exact absurd ⟨_, rfl⟩ h1
        · exact absurd ⟨_, rfl⟩ h2
        · rfl
      rw [h3]
      exact setStrD b l p q w hb _ rfl hlen (fun c r e => ⟨fun ec => h1 ⟨r, by rw [e, ec]⟩, fun ec => h2 ⟨r, by rw [e, ec]⟩⟩)
end Go.Proofs.YtpghbchbhjbbiaaGreatDoor
