/- SetString of hexadecimal digits. -/
import Derived.Test.YtekjcmejnhhpaaaDoorMtSg
import Derived.Test.YtekjcmejnhhpaaaDoorBigTimes
namespace Go.Proofs.YtekjcmejnhhpaaaDoor
open Go.RowKit

def hexD (c : UInt8) : Nat := if c.toNat ≤ 57 then c.toNat - 48 else c.toNat - 55
def isHex (c : UInt8) : Prop := (48 ≤ c.toNat ∧ c.toNat ≤ 57) ∨ (65 ≤ c.toNat ∧ c.toNat ≤ 70)
/-- what hexadecimal digits say -/
def hexV (D : List UInt8) : Nat := D.foldl (fun a c => a * 16 + hexD c) 0
theorem hexV_snoc (D : List UInt8) (c : UInt8) : hexV (D ++ [c]) = hexV D * 16 + hexD c := by simp [hexV]
theorem hexD_lt {c : UInt8} (h : isHex c) : hexD c < 16 := by
  unfold hexD
  rcases h with h | h
  · rw [if_pos h.2]; omega
  · rw [if_neg (by omega)]; omega
theorem hexV_lt : ∀ (k : Nat) (D : List UInt8), D.length = k → (∀ c ∈ D, isHex c) → hexV D < 16 ^ k
  | 0, D, h, _ => by
    rw [List.eq_nil_of_length_eq_zero h]
    simp [hexV]
  | k + 1, D, h, hd => by
    rcases List.eq_nil_or_concat D with e | ⟨E, c, e⟩
    · rw [e] at h; simp at h
    · rw [List.concat_eq_append] at e
      subst e
      rw [List.length_append, List.length_singleton] at h
      have ih := hexV_lt k E (by omega) fun x hx => hd x (by simp [hx])
      have h2 := hexD_lt (hd c (by simp))
      rw [hexV_snoc, Nat.pow_succ]
      omega
theorem hex_few {n k : Nat} (h : n < 16 ^ k) (hk : k ≤ 17) : Few n := Nat.lt_of_lt_of_le h (Nat.le_trans (Nat.pow_le_pow_right (by decide) hk) (by unfold lim; decide +kernel))
set_option maxRecDepth 20000 in
set_option maxHeartbeats 8000000 in
theorem setHex_any (b : Nat) (D : List UInt8) (w : World) (hb : Ib b w) (n : Nat) (hnD : n = D.length) (hn0 : 0 < n) (hn6 : n ≤ 16) (hD : ∀ c ∈ D, isHex c) :
    Calls Tryd.prog 19 #[.pointer (some ⟨b, 0, none⟩), .string ⟨D.toArray⟩, .int .i64 16] w fun e w' => e = .returned (.tuple #[.pointer (some ⟨b, 0, none⟩), .bool true]) ∧ Sg b false (hexV D) w' ∧ w.grownBy w' (some b) := by
  have hlt := hb.lt
  have HB : Hid (Ib b w) := hb
  have HN : Hid (n = D.length) := hnD
  have HD : Hid (∀ c ∈ D, isHex c) := hD
  clear hb hnD hD
  have hz : (⟨D.toArray⟩ : ByteArray).size = n := by show D.toArray.size = _; rw [List.size_toArray]; exact HN.out.symm
  have HGET : Hid (∀ (j : Nat) (hj : j < n), ∀ h, ((⟨D.toArray⟩ : ByteArray)[j]'h).toNat = (D[j]!).toNat) := fun j hj h => by
    have hjD : j < D.length := by have := HN.out; omega
    rw [getElem!_pos D j hjD]
    rfl
  generalize hSD : (⟨D.toArray⟩ : ByteArray) = SD at *
  clear hSD
  have hp4 : ((n : Int) == 0) = false := by simp; omega
  have hp2 : (0 : Int) < (n : Int) := by omega
  have g0 := HGET.out 0 (by omega)
  have hc0 : (D[0]!).toNat ≠ 45 ∧ (D[0]!).toNat ≠ 43 := by
    have h0 : 0 < D.length := by rw [← HN.out]; exact hn0
    have h1 := HD.out (D[0]!) (by rw [getElem!_pos D 0 h0]; exact List.getElem_mem _)
    rcases h1 with h1 | h1 <;> omega
  generalize (D[0]!).toNat = c0 at g0 hc0
  have k1 : ((c0 : Int) == 45) = false := by simp; omega
  have k2 : ((c0 : Int) == 43) = false := by simp; omega
  clear hc0
  have hw0 : Wd w 0 (.slice none 0 0) (hexV (D.take 0)) := ⟨none, 0, 0, rfl, by omega, by unfold maxLen; omega, by omega, by simp [hexV], by simp, Or.inl rfl⟩
  go_enter Tryd.func19, Tryd.ntmps19
  go_wp2_with fail
  go_loopg [9, 10] n (fun g s9 s10 wr => ∃ (i B : Nat) (v : Value), i + g = n ∧ v = s9 ∧ s10 = .int .i64 i ∧ Wd wr B v (hexV (D.take i)) ∧ Below w.heap.size w wr ∧ (0 < i → w.heap.size ≤ B))
  case atStart => exact ⟨0, 0, _, by omega, rfl, rfl, hw0, Below.refl _ _, by omega⟩
  case round =>
    obtain ⟨i, B, v, hi, rfl, rfl, hwd, hbw, hB0⟩ := hrel
    have HI : Hid (i + gk = n) := hi
    have hin : i ≤ n := by omega
    have hzw := hbw.size
    have hfew : Hid (Few (hexV (D.take i)) ∧ Few (hexV (D.take i) * 16)) := by
      have hl2 : (D.take i).length = i := by rw [List.length_take]; have := HN.out; omega
      have h1 := hexV_lt i (D.take i) hl2 (fun c hc => HD.out c (List.mem_of_mem_take hc))
      exact ⟨hex_few h1 (by omega), hex_few (k := i + 1) (by rw [Nat.pow_succ]; omega) (by omega)⟩
    clear hi
    by_cases hlt2 : i < n
    · have gi := HGET.out i hlt2
      have hiD : i < D.length := by have := HN.out; omega
      have hhx : isHex (D[i]!) := HD.out _ (by rw [getElem!_pos D i hiD]; exact List.getElem_mem _)
      have HV1 : Hid (hexV (D.take (i + 1)) = hexV (D.take i) * 16 + hexD (D[i]!)) := by
        show _ = _
        rw [List.take_add_one, List.getElem?_eq_getElem hiD, getElem!_pos D i hiD]
        exact hexV_snoc _ _
      have hd16 := hexD_lt hhx
      have hi2 : (i : Int) < (n : Int) := by omega
      have hi1 : (0 : Int) ≤ (i : Int) := by omega
      unfold isHex at hhx
      unfold hexD at hd16 HV1
      generalize (D[i]!).toNat = ci at gi hhx hd16 HV1
      obtain ⟨dv, hdv⟩ : ∃ dv : Nat, dv = if ci ≤ 57 then ci - 48 else ci - 55 := ⟨_, rfl⟩
      rw [← hdv] at hd16 HV1
      generalize hexV (D.take i) = vi at *
      have hws := fun W => words_any 16 W (by omega)
      have hwd2 := fun W => words_any dv W (by omega)
      have hdvi : (dv : Int) < 16 := by omega
      have hd10 : ¬ (16 : Int) ≤ (dv : Int) := by omega
      rcases hhx with ⟨ha, hc⟩ | ⟨ha, hc⟩
      · have h48 : (48 : Int) ≤ (ci : Int) := by omega
        have h57 : (ci : Int) ≤ 57 := by omega
        rw [if_pos hc] at hdv
        have hwsub : IntKind.u8.wrap ((ci : Int) - 48) = (dv : Int) := by rw [IntKind.wrap_u8]; omega
        clear ha hc hdv hd16
        go_wp2_with fail
        refine (hws _).mono ?_
        rintro e w1 ⟨v1, rfl, hv1, hb1⟩
        have hmu := bigMul_any B wr.heap.size vi 16 v v1 w1 (hwd.below hb1) hv1 ⟨hfew.out.1, by omega⟩
        go_wp2_with fail
        refine hmu.mono ?_
        rintro e w2 ⟨v2, rfl, hvv2, hb2⟩
        go_wp2_with fail
        refine (hwd2 _).mono ?_
        rintro e w3 ⟨v3, rfl, hv3', hb3⟩
        have had := bigAdd_any w1.heap.size w2.heap.size (vi * 16) dv v2 v3 w3 (hvv2.below hb3) hv3' ⟨hfew.out.2, hex_few (k := 1) (by omega) (by omega)⟩
        go_wp2_with fail
        refine had.mono ?_
        rintro e w4 ⟨v4, rfl, hv4, hb4⟩
        have z1 := hb1.size
        have z2 := hb2.size
        have z3 := hb3.size
        have F4 : Below w.heap.size w w4 := (((hbw.trans (hb1.mono hzw)).trans (hb2.mono (by omega))).trans (hb3.mono (by omega))).trans (hb4.mono (by omega))
        clear hmu had hws hwd2
        go_wp2_with fail
        go_roundg (gk - 1)
        case measure => have := HI.out; omega
        case rel => exact ⟨i + 1, w3.heap.size, v4, by have := HI.out; omega, rfl, by go_num, by rw [HV1.out]; exact hv4, F4, fun _ => by omega⟩
      · have h48 : (48 : Int) ≤ (ci : Int) := by omega
        have h57 : ¬ (ci : Int) ≤ 57 := by omega
        have h97 : ¬ (97 : Int) ≤ (ci : Int) := by omega
        have h65 : (65 : Int) ≤ (ci : Int) := by omega
        have h90 : (ci : Int) ≤ 90 := by omega
        rw [if_neg (by omega)] at hdv
        obtain ⟨d1, hd1⟩ : ∃ d1 : Nat, d1 = ci - 65 := ⟨_, rfl⟩
        have hwsub : IntKind.u8.wrap ((ci : Int) - 65) = (d1 : Int) := by rw [IntKind.wrap_u8]; omega
        have hwadd : IntKind.i64.wrap ((d1 : Int) + 10) = (dv : Int) := by rw [IntKind.wrap_i64]; omega
        have hsum : (d1 : Int) + 10 = (dv : Int) := by omega
        clear ha hc hdv hd16 hd1
        go_wp2_with fail
        refine (hws _).mono ?_
        rintro e w1 ⟨v1, rfl, hv1, hb1⟩
        have hmu := bigMul_any B wr.heap.size vi 16 v v1 w1 (hwd.below hb1) hv1 ⟨hfew.out.1, by omega⟩
        go_wp2_with fail
        refine hmu.mono ?_
        rintro e w2 ⟨v2, rfl, hvv2, hb2⟩
        go_wp2_with fail
        refine (hwd2 _).mono ?_
        rintro e w3 ⟨v3, rfl, hv3', hb3⟩
        have had := bigAdd_any w1.heap.size w2.heap.size (vi * 16) dv v2 v3 w3 (hvv2.below hb3) hv3' ⟨hfew.out.2, hex_few (k := 1) (by omega) (by omega)⟩
        go_wp2_with fail
        refine had.mono ?_
        rintro e w4 ⟨v4, rfl, hv4, hb4⟩
        have z1 := hb1.size
        have z2 := hb2.size
        have z3 := hb3.size
        have F4 : Below w.heap.size w w4 := (((hbw.trans (hb1.mono hzw)).trans (hb2.mono (by omega))).trans (hb3.mono (by omega))).trans (hb4.mono (by omega))
        clear hmu had hws hwd2
        go_wp2_with fail
        go_roundg (gk - 1)
        case measure => have := HI.out; omega
        case rel => exact ⟨i + 1, w3.heap.size, v4, by have := HI.out; omega, rfl, by go_num, by rw [HV1.out]; exact hv4, F4, fun _ => by omega⟩
    · have hi2 : ¬ (i : Int) < (n : Int) := by omega
      have HX : Hid (hexV (D.take i) = hexV D) := by show _ = _; rw [List.take_of_length_le (by have := HN.out; omega)]
      have hgv := giveG_any b false false (hexV (D.take i)) v wr (HB.out.go hbw) (hwd.mono (by have := hB0 (by omega); omega)) rfl
      generalize hexV (D.take i) = vi at *
      go_wp2_with fail
      refine hgv.mono ?_
      rintro e w2 ⟨rfl, hi3, hb2⟩
      have HE : Hid (Sg b false (hexV D) w2 ∧ w.grownBy w2 (some b)) := ⟨by rw [← HX.out]; exact hi3, grown_under hbw hb2⟩
      clear hi3 hb2 hgv
      go_wp2_with fail
      go_ret2
      exact ⟨rfl, HE.out⟩
end Go.Proofs.YtekjcmejnhhpaaaDoor
