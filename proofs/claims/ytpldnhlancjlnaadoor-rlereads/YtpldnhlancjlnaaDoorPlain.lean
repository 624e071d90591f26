/- The document's digitsAt, plain, starts. -/
import Derived.Test.YtpldnhlancjlnaaDoorBigRead
namespace Go.Proofs.YtpldnhlancjlnaaDoor
open Go.RowKit

/-- how many digits a text begins with -/
def dgs : List UInt8 → Nat
  | [] => 0
  | c :: r => if isDig c = true then dgs r + 1 else 0
theorem dgs_le : ∀ s, dgs s ≤ s.length
  | [] => Nat.le_refl _
  | c :: r => by have := dgs_le r; rw [dgs]; split <;> simp <;> omega
theorem dgs_all : ∀ s : List UInt8, ∀ c ∈ s.take (dgs s), isDig c = true
  | [], c, h => by simp at h
  | d :: r, c, h => by
    rw [dgs] at h
    split at h
    · rename_i hd
      rw [List.take_succ_cons] at h
      rcases List.mem_cons.1 h with rfl | h
      · exact hd
      · exact dgs_all r c h
    · simp at h

theorem digit_any (c : Nat) (w : World) : Calls Tryd.prog 30 #[.int .u8 c] w fun e w' => e = .returned (.bool (decide (48 ≤ c ∧ c ≤ 57))) ∧ w' = w := by
  by_cases h1 : 48 ≤ c
  · by_cases h2 : c ≤ 57
    · have a : (48 : Int) ≤ (c : Int) := by omega
      have b : (c : Int) ≤ 57 := by omega
      have e : decide (48 ≤ c ∧ c ≤ 57) = true := by simp [h1, h2]
      rw [e]
      go_enter Tryd.func30, Tryd.ntmps30
      go_wp2_with fail
      go_ret
      exact ⟨rfl, rfl⟩
    · have a : (48 : Int) ≤ (c : Int) := by omega
      have b : ¬ (c : Int) ≤ 57 := by omega
      have e : decide (48 ≤ c ∧ c ≤ 57) = false := by simp [h1, h2]
      rw [e]
      go_enter Tryd.func30, Tryd.ntmps30
      go_wp2_with fail
      go_ret
      exact ⟨rfl, rfl⟩
  · have a : ¬ (48 : Int) ≤ (c : Int) := by omega
    have e : decide (48 ≤ c ∧ c ≤ 57) = false := by simp [h1]
    rw [e]
    go_enter Tryd.func30, Tryd.ntmps30
    go_wp2_with fail
    go_ret
    exact ⟨rfl, rfl⟩

theorem drop_cons (T : List UInt8) (k : Nat) (h : k < T.length) : T.drop k = T[k]! :: T.drop (k + 1) := by
  rw [getElem!_pos T k h]; exact List.drop_eq_getElem_cons h

set_option maxHeartbeats 2000000 in
theorem digitsAt_any (T : List UInt8) (p : Nat) (w : World) (hT : T.length ≤ 20000) (hp : p ≤ T.length) :
    Calls Tryd.prog 63 #[.string ⟨T.toArray⟩, .int .i64 p] w fun e w' => e = .returned (.int .i64 (dgs (T.drop p))) ∧ w' = w := by
  have hz : (⟨T.toArray⟩ : ByteArray).size = T.length := by show T.toArray.size = _; rw [List.size_toArray]
  have HGET : Hid (∀ (j : Nat) (hj : j < T.length), ∀ h, ((⟨T.toArray⟩ : ByteArray)[j]'h).toNat = (T[j]!).toNat) := fun j hj h => by
    rw [getElem!_pos T j hj]; rfl
  obtain ⟨n, hn⟩ : ∃ n, n = T.length := ⟨_, rfl⟩
  have HN : Hid (n = T.length) := hn
  rw [← hn] at hT hp hz HGET
  clear hn
  have hdg := fun c W => digit_any c W
  generalize hS : (⟨T.toArray⟩ : ByteArray) = S at *
  clear hS
  go_enter Tryd.func63, Tryd.ntmps63
  go_wp2_with fail
  go_loopg [5] (n - p) (fun g s5 wr => ∃ i : Nat, i + g = n - p ∧ s5 = .int .i64 i ∧ dgs (T.drop p) = i + dgs (T.drop (p + i)) ∧ wr = w)
  case atStart => exact ⟨0, by omega, rfl, by simp, rfl⟩
  case round =>
    obtain ⟨i, hi, rfl, hd, rfl⟩ := hrel
    have HI : Hid (i + gk = n - p) := hi
    have HD : Hid (dgs (T.drop p) = i + dgs (T.drop (p + i))) := hd
    have hin : p + i ≤ n := by omega
    clear hi hd
    have hw : IntKind.i64.wrap ((p : Int) + i) = (p : Int) + i := by rw [IntKind.wrap_i64]; omega
    by_cases hlt : p + i < n
    · obtain ⟨k, hk⟩ : ∃ k, k = p + i := ⟨_, rfl⟩
      have gi := HGET.out k (by omega)
      have hki : (p : Int) + i = (k : Int) := by omega
      have hi2 : (k : Int) < (n : Int) := by omega
      have hi1 : (0 : Int) ≤ (k : Int) := by omega
      have HC : Hid (T.drop (p + i) = T[k]! :: T.drop (p + i + 1)) := by rw [hk]; exact drop_cons T (p + i) (by rw [← HN.out]; exact hlt)
      have HE : Hid (isDig T[k]! = decide (48 ≤ (T[k]!).toNat ∧ (T[k]!).toNat ≤ 57)) := rfl
      generalize T[k]! = ch at *
      have hdc := hdg ch.toNat
      generalize ch.toNat = c at *
      have HK : Hid (k = p + i) := hk
      clear hk hlt
      cases hb : decide (48 ≤ c ∧ c ≤ 57) with
      | true =>
        rw [hb] at hdc HE
        go_wp2_with (go_at_call 30; refine (hdc _).mono ?_; rintro e w' ⟨rfl, rfl⟩)
        go_roundg (gk - 1)
        case measure => have := HI.out; have := HK.out; omega
        case rel =>
          refine ⟨i + 1, by have := HI.out; have := HK.out; omega, by go_num, ?_, rfl⟩
          have h1 := HD.out
          rw [HC.out, dgs, if_pos HE.out] at h1
          rw [show p + (i + 1) = p + i + 1 by omega]
          omega
      | false =>
        rw [hb] at hdc HE
        have HF : Hid (dgs (T.drop p) = i) := by
          have h1 := HD.out
          rw [HC.out, dgs, if_neg (by rw [HE.out]; simp)] at h1
          exact h1
        go_wp2_with (go_at_call 30; refine (hdc _).mono ?_; rintro e w' ⟨rfl, rfl⟩)
        go_ret
        exact ⟨ret_i (by rw [HF.out]), rfl⟩
    · have HF : Hid (dgs (T.drop p) = i) := by
        have h1 := HD.out
        rw [show T.drop (p + i) = [] from List.drop_of_length_le (by rw [← HN.out]; omega), dgs] at h1
        exact h1
      have hi2 : ¬ (p : Int) + i < (n : Int) := by omega
      clear hlt
      go_wp2_with fail
      go_ret
      exact ⟨ret_i (by rw [HF.out]), rfl⟩

/-- what plain answers: the number, and where it ends -/
def plainF (L : List UInt8) (p : Nat) : Int × Int :=
  if dgs L < 1 ∨ 12 < dgs L ∨ (1 < dgs L ∧ L.head? = some 48) then (0, -1) else ((decV (L.take (dgs L)) : Nat), (p + dgs L : Nat))
/-- what starts answers -/
def startsF (T : List UInt8) (p : Int) (t : List UInt8) : Int :=
  if p < 0 ∨ (T.length : Int) < p + t.length ∨ (T.drop p.toNat).take t.length ≠ t then -1 else p + t.length

theorem slice_list (T : List UInt8) (p k : Nat) : (⟨T.toArray⟩ : ByteArray).extract p (p + k) = ⟨((T.drop p).take k).toArray⟩ := by
  apply ByteArray.ext
  simp [ByteArray.data_extract, List.take_drop]

set_option maxHeartbeats 2000000 in
theorem starts_any (T : List UInt8) (p : Int) (t : List UInt8) (w : World) (_hT : T.length ≤ 20000) (ht : t.length ≤ 100) (hp : p ≤ 30000) (hp0 : -30000 ≤ p) :
    Calls Tryd.prog 61 #[.string ⟨T.toArray⟩, .int .i64 p, .string ⟨t.toArray⟩] w fun e w' => e = .returned (.int .i64 (startsF T p t)) ∧ w' = w := by
  have hz : (⟨T.toArray⟩ : ByteArray).size = T.length := by show T.toArray.size = _; rw [List.size_toArray]
  have hz2 : (⟨t.toArray⟩ : ByteArray).size = t.length := by show t.toArray.size = _; rw [List.size_toArray]
  obtain ⟨n, hn⟩ : ∃ n, n = T.length := ⟨_, rfl⟩
  obtain ⟨m, hm⟩ : ∃ m, m = t.length := ⟨_, rfl⟩
  have HF : Hid (startsF T p t = if p < 0 ∨ (n : Int) < p + m ∨ (T.drop p.toNat).take m ≠ t then -1 else p + m) := by show _ = _; rw [startsF, ← hn, ← hm]
  have HSL := slice_list T p.toNat m
  rw [← hn] at hz
  rw [← hm] at ht hz2
  clear hn hm
  have hw : IntKind.i64.wrap (p + m) = p + m := by rw [IntKind.wrap_i64]; omega
  by_cases h1 : p < 0
  · have HX : Hid (startsF T p t = -1) := by show _ = _; rw [HF.out, if_pos (Or.inl h1)]
    clear HSL
    go_enter Tryd.func61, Tryd.ntmps61
    go_wp2_with fail
    go_ret
    exact ⟨ret_i HX.out.symm, rfl⟩
  · obtain ⟨k, rfl⟩ : ∃ k : Nat, p = k := ⟨p.toNat, by omega⟩
    rw [Int.toNat_natCast] at HF HSL
    by_cases h2 : (n : Int) < (k : Int) + m
    · have HX : Hid (startsF T k t = -1) := by show _ = _; rw [HF.out, if_pos (Or.inr (Or.inl h2))]
      clear HSL
      go_enter Tryd.func61, Tryd.ntmps61
      go_wp2_with fail
      go_ret
      exact ⟨ret_i HX.out.symm, rfl⟩
    · have hk2 : (0 : Int) ≤ (k : Int) := by omega
      have hkm : (k : Int) ≤ (k : Int) + m := by omega
      have hkn : (k : Int) + m ≤ (n : Int) := by omega
      have hkm' : ((k : Int) + m).toNat = k + m := by omega
      by_cases h3 : (T.drop k).take m = t
      · have HX : Hid (startsF T k t = k + m) := by show _ = _; rw [HF.out, if_neg (by rintro (h | h | h); exact h1 h; exact h2 h; exact h h3)]
        rw [h3] at HSL
        go_enter Tryd.func61, Tryd.ntmps61
        go_wp2_with fail
        go_ret
        exact ⟨ret_i HX.out.symm, rfl⟩
      · have HX : Hid (startsF T k t = -1) := by show _ = _; rw [HF.out, if_pos (Or.inr (Or.inr h3))]
        have hne : ((T.drop k).take m == t) = false := by simpa using h3
        generalize (T.drop k).take m = X at *
        go_enter Tryd.func61, Tryd.ntmps61
        go_wp2_with fail
        go_ret
        exact ⟨ret_i HX.out.symm, rfl⟩

set_option maxRecDepth 20000 in
set_option maxHeartbeats 2000000 in
theorem plain_any (T : List UInt8) (p : Nat) (w : World) (hT : T.length ≤ 20000) (hp : p ≤ T.length) :
    Calls Tryd.prog 31 #[.string ⟨T.toArray⟩, .int .i64 p] w fun e w' => e = .returned (.tuple #[.int .i64 (plainF (T.drop p) p).1, .int .i64 (plainF (T.drop p) p).2]) ∧ Below w.heap.size w w' := by
  have hz : (⟨T.toArray⟩ : ByteArray).size = T.length := by show T.toArray.size = _; rw [List.size_toArray]
  have hdg := digitsAt_any T p w hT hp
  have hle := dgs_le (T.drop p)
  rw [List.length_drop] at hle
  have hall := dgs_all (T.drop p)
  have HSL := slice_list T p (dgs (T.drop p))
  have hst := fun b P Q W hb (h0 : (T.drop p).take (dgs (T.drop p)) ≠ []) h12 => setString_any b ((T.drop p).take (dgs (T.drop p))) P Q W hb hall h0 h12
  have HGET : Hid (∀ (hj : p < T.length), ∀ h, ((⟨T.toArray⟩ : ByteArray)[p]'h).toNat = (T[p]!).toNat) := fun hj h => by
    rw [getElem!_pos T p hj]; rfl
  have HHD : Hid (∀ (hj : p < T.length), (T.drop p).head? = some T[p]!) := fun hj => by rw [drop_cons T p hj]; rfl
  have hln : ((T.drop p).take (dgs (T.drop p))).length = dgs (T.drop p) := by rw [List.length_take, List.length_drop]; omega
  have hvl := decV_lt _ _ hln hall
  obtain ⟨k, hk⟩ : ∃ k, k = dgs (T.drop p) := ⟨_, rfl⟩
  have HF : Hid (plainF (T.drop p) p = if k < 1 ∨ 12 < k ∨ (1 < k ∧ (T.drop p).head? = some 48) then ((0 : Int), (-1 : Int)) else (((decV ((T.drop p).take k) : Nat) : Int), ((p + k : Nat) : Int))) := by show _ = _; rw [plainF, ← hk]
  rw [← hk] at hdg hle HSL hst hln hvl
  obtain ⟨n, hn⟩ : ∃ n, n = T.length := ⟨_, rfl⟩
  rw [← hn] at hT hp hz hle HGET HHD
  clear hk hn hall
  by_cases h1 : k < 1
  · have HX : Hid (plainF (T.drop p) p = (0, -1)) := by show _ = _; rw [HF.out, if_pos (Or.inl h1)]
    have h1' : (k : Int) < 1 := by omega
    clear hst HSL
    go_enter Tryd.func31, Tryd.ntmps31
    go_wp2_with fail
    refine hdg.mono ?_
    rintro e w1 ⟨rfl, rfl⟩
    go_wp2_with fail
    go_ret2
    exact ⟨by rw [HX.out]; rfl, Below.refl _ _⟩
  · have h1' : ¬ (k : Int) < 1 := by omega
    by_cases h2 : 12 < k
    · have HX : Hid (plainF (T.drop p) p = (0, -1)) := by show _ = _; rw [HF.out, if_pos (Or.inr (Or.inl h2))]
      have h2' : (12 : Int) < (k : Int) := by omega
      clear hst HSL
      go_enter Tryd.func31, Tryd.ntmps31
      go_wp2_with fail
      refine hdg.mono ?_
      rintro e w1 ⟨rfl, rfl⟩
      go_wp2_with fail
      go_ret2
      exact ⟨by rw [HX.out]; rfl, Below.refl _ _⟩
    · have h2' : ¬ (12 : Int) < (k : Int) := by omega
      have gp := HGET.out (by omega)
      have hd := HHD.out (by omega)
      have hi1 : (0 : Int) ≤ (p : Int) := by omega
      have hi2 : (p : Int) < (n : Int) := by omega
      generalize T[p]! = ch at gp hd
      have h48 : ch = 48 ↔ ch.toNat = 48 := ⟨fun h => by rw [h]; rfl, fun h => UInt8.toNat_inj.1 (by rw [h]; rfl)⟩
      by_cases h3 : 1 < k ∧ ch = 48
      · have HX : Hid (plainF (T.drop p) p = (0, -1)) := by show _ = _; rw [HF.out, hd, if_pos (Or.inr (Or.inr ⟨h3.1, by rw [h3.2]⟩))]
        have hc := h48.1 h3.2
        have h3' : (1 : Int) < (k : Int) := by omega
        rw [hc] at gp
        clear hst HSL h48 h3 hc hd
        go_enter Tryd.func31, Tryd.ntmps31
        go_wp2_with fail
        refine hdg.mono ?_
        rintro e w1 ⟨rfl, rfl⟩
        go_wp2_with fail
        go_ret2
        exact ⟨by rw [HX.out]; rfl, Below.refl _ _⟩
      · have HX : Hid (plainF (T.drop p) p = (((decV ((T.drop p).take k) : Nat) : Int), ((p + k : Nat) : Int))) := by
          show _ = _
          rw [HF.out, hd, if_neg]
          rintro (h | h | ⟨h, h'⟩)
          · exact h1 h
          · exact h2 h
          · exact h3 ⟨h, by simpa using h'⟩
        have hS := hst w.heap.size (.bool false) (.slice none 0 0) (w.alloc (.cells #[.bool false, .slice none 0 0] 75)) (heap_alloc_new w _) (by intro e; rw [e] at hln; simp at hln; omega) (by omega)
        have hb0 : Below w.heap.size w (w.alloc (.cells #[.bool false, .slice none 0 0] 75)) := (Below.refl _ _).alloc (Nat.le_refl _) _
        have hv2 : decV ((T.drop p).take k) < 1000000000000 := by
          have h5 : 10 ^ k ≤ 10 ^ 12 := Nat.pow_le_pow_right (by omega) (by omega)
          have h6 : (10 : Nat) ^ 12 = 1000000000000 := by decide
          omega
        have hpk : (p : Int) ≤ (p : Int) + k := by omega
        have hpn : (p : Int) + k ≤ (n : Int) := by omega
        have hpt : ((p : Int) + k).toNat = p + k := by omega
        have HC : Hid (((p + k : Nat) : Int) = (p : Int) + k) := by show _ = _; omega
        generalize (T.drop p).take k = X at *
        generalize decV X = dv at *
        have h3k : ¬ ((1 : Int) < (k : Int) ∧ (ch.toNat : Int) = 48) := by rintro ⟨h, h'⟩; exact h3 ⟨by omega, h48.2 (by omega)⟩
        generalize ch.toNat = cn at *
        clear hst h48 h3 hd hln hvl HF
        by_cases hk1 : k = 1
        · have hk1' : ¬ (1 : Int) < (k : Int) := by omega
          clear h3k hk1
          go_enter Tryd.func31, Tryd.ntmps31
          go_wp2_with fail
          refine hdg.mono ?_
          rintro e w1 ⟨rfl, rfl⟩
          go_wp2_with fail
          refine hS.mono ?_
          rintro e w2 ⟨rfl, hi, hg⟩
          have h64 := int64_any w1.heap.size dv w2 hi (by omega)
          go_wp2_with fail
          refine h64.mono ?_
          rintro e w3 ⟨rfl, rfl⟩
          go_wp2_with fail
          go_ret2
          exact ⟨by rw [HX.out, HC.out]; rfl, hb0.trans (grown_to_below hg (Nat.le_refl _) hb0.size)⟩
        · have hk1' : (1 : Int) < (k : Int) := by omega
          have hc' : ¬ (cn : Int) = 48 := fun h => h3k ⟨hk1', h⟩
          have hcb : ((cn : Int) == 48) = false := by simpa using hc'
          clear h3k hk1 hc'
          go_enter Tryd.func31, Tryd.ntmps31
          go_wp2_with fail
          refine hdg.mono ?_
          rintro e w1 ⟨rfl, rfl⟩
          go_wp2_with fail
          refine hS.mono ?_
          rintro e w2 ⟨rfl, hi, hg⟩
          have h64 := int64_any w1.heap.size dv w2 hi (by omega)
          go_wp2_with fail
          refine h64.mono ?_
          rintro e w3 ⟨rfl, rfl⟩
          go_wp2_with fail
          go_ret2
          exact ⟨by rw [HX.out, HC.out]; rfl, hb0.trans (grown_to_below hg (Nat.le_refl _) hb0.size)⟩
end Go.Proofs.YtpldnhlancjlnaaDoor
