/- Whole numbers: digits read. -/
import Derived.Test.YtpldnhlancjlnaaDoorBigMul
namespace Go.Proofs.YtpldnhlancjlnaaDoor
open Go.RowKit

def isDig (c : UInt8) : Bool := decide (48 ≤ c.toNat ∧ c.toNat ≤ 57)
/-- digits as a number -/
def decV (D : List UInt8) : Nat := D.foldl (fun a c => a * 10 + (c.toNat - 48)) 0
theorem decV_snoc (D : List UInt8) (c : UInt8) : decV (D ++ [c]) = decV D * 10 + (c.toNat - 48) := by simp [decV]
theorem decV_lt : ∀ (k : Nat) (D : List UInt8), D.length = k → (∀ c ∈ D, isDig c = true) → decV D < 10 ^ k
  | 0, D, h, _ => by
    have : D = [] := List.length_eq_zero_iff.1 h
    subst this
    simp [decV]
  | k + 1, D, h, hd => by
    have hne : D ≠ [] := by rintro rfl; simp at h
    obtain ⟨E, c, rfl⟩ : ∃ E c, D = E ++ [c] := ⟨D.dropLast, D.getLast hne, (List.dropLast_concat_getLast hne).symm⟩
    have ih := decV_lt k E (by simp at h; omega) fun x hx => hd x (by simp [hx])
    have hc := hd c (by simp)
    simp [isDig] at hc
    rw [decV_snoc, Nat.pow_succ]
    omega

set_option maxRecDepth 20000 in
set_option maxHeartbeats 4000000 in
theorem setString_any (b : Nat) (D : List UInt8) (p q : Value) (w : World) (hb : w.heap[b]? = some (.cells #[p, q] 75 (0, 0))) (hD : ∀ c ∈ D, isDig c = true) (h0 : D ≠ []) (h12 : D.length ≤ 12) :
    Calls Tryd.prog 64 #[.pointer (some ⟨b, 0, none⟩), .string ⟨D.toArray⟩, .int .i64 10] w fun e w' => e = .returned (.tuple #[.pointer (some ⟨b, 0, none⟩), .bool true]) ∧ IsInt b (decV D) w' ∧ w.grownBy w' (some b) := by
  have hlt := (Array.getElem?_eq_some_iff.1 hb).1
  have HB : Hid (w.heap[b]? = some (.cells #[p, q] 75 (0, 0))) := hb
  have HD : Hid (∀ c ∈ D, isDig c = true) := hD
  have hpos : 0 < D.length := List.length_pos_iff.2 h0
  have hz : (⟨D.toArray⟩ : ByteArray).size = D.length := by show D.toArray.size = _; rw [List.size_toArray]
  have hget : ∀ (j : Nat) (hj : j < D.length), ∀ h, ((⟨D.toArray⟩ : ByteArray)[j]'h).toNat = (D[j]'hj).toNat := fun j hj _ => rfl
  have hdig : ∀ (j : Nat) (hj : j < D.length), 48 ≤ (D[j]'hj).toNat ∧ (D[j]'hj).toNat ≤ 57 := fun j hj => by
    have := hD _ (List.getElem_mem hj)
    simpa [isDig] using this
  have g0 := hget 0 hpos
  have d0 := hdig 0 hpos
  generalize (D[0]'hpos).toNat = c0 at g0 d0
  have hn1 : ((c0 : Int) == 45) = false := by simp; omega
  have hn2 : ((c0 : Int) == 43) = false := by simp; omega
  have HV : Hid (∀ i, i < D.length → decV (D.take (i + 1)) = decV (D.take i) * 10 + ((D[i]!).toNat - 48)) := fun i hi => by
    rw [List.take_add_one, List.getElem?_eq_getElem hi, getElem!_pos D i hi]
    exact decV_snoc _ _
  have HS : Hid (∀ i, i ≤ D.length → decV (D.take i) < 1000000000000) := fun i hi => by
    have h1 := decV_lt i (D.take i) (by rw [List.length_take]; omega) fun c hc => hD c (List.mem_of_mem_take hc)
    have h2 : 10 ^ i ≤ 10 ^ 12 := Nat.pow_le_pow_right (by omega) (by omega)
    have h3 : (10 : Nat) ^ 12 = 1000000000000 := by decide
    omega
  have HT : Hid (D.take D.length = D) := List.take_length
  obtain ⟨n, hn⟩ : ∃ n, n = D.length := ⟨_, rfl⟩
  have HGET : Hid (∀ (j : Nat) (hj : j < n), ∀ h, ((⟨D.toArray⟩ : ByteArray)[j]'h).toNat = (D[j]!).toNat) := fun j hj h => by
    rw [hget j (by omega) h, getElem!_pos D j (by omega)]
  have HDIG : Hid (∀ (j : Nat), j < n → 48 ≤ (D[j]!).toNat ∧ (D[j]!).toNat ≤ 57) := fun j hj => by
    rw [getElem!_pos D j (by omega)]; exact hdig j (by omega)
  rw [← hn] at hpos h12 hz HV HS HT
  clear hb hD h0 hn hget hdig
  generalize hS : (⟨D.toArray⟩ : ByteArray) = S at *
  clear hS
  have hw0 : Wd w 0 (.slice none 0 0) (decV (D.take 0)) := ⟨none, 0, 0, rfl, by omega, by unfold maxLen; omega, by omega, by simp [decV], by simp, Or.inl rfl⟩
  have hp2 : (0 : Int) < (n : Int) := by omega
  have hp4 : ((n : Int) == 0) = false := by simp; omega
  go_enter Tryd.func64, Tryd.ntmps64
  go_wp2_with fail
  go_loopg [9, 10] n (fun g s9 s10 wr => ∃ (i B : Nat) (v : Value), i + g = n ∧ v = s9 ∧ s10 = .int .i64 i ∧ Wd wr B v (decV (D.take i)) ∧ Below w.heap.size w wr ∧ (0 < i → w.heap.size ≤ B))
  case atStart => exact ⟨0, 0, _, by omega, rfl, rfl, hw0, Below.refl _ _, by omega⟩
  case round =>
    obtain ⟨i, B, v, hi, rfl, rfl, hwd, hbw, hB0⟩ := hrel
    have HI : Hid (i + gk = n) := hi
    have hin : i ≤ n := by omega
    have hzw := hbw.size
    clear hi
    by_cases hlt2 : i < n
    · have gi := HGET.out i hlt2
      have di := HDIG.out i hlt2
      have hv1 := HV.out i hlt2
      have hv2 := HS.out (i + 1) (by omega)
      have hv3 := HS.out i hin
      generalize (D[i]!).toNat = ci at gi di hv1
      have h48 : (48 : Int) ≤ (ci : Int) := by omega
      have h57 : (ci : Int) ≤ 57 := by omega
      have hi2 : (i : Int) < (n : Int) := by omega
      have hi1 : (0 : Int) ≤ (i : Int) := by omega
      have hd10 : ¬ (10 : Int) ≤ (ci : Int) - 48 := by omega
      obtain ⟨dv, hdv⟩ : ∃ dv : Nat, dv = ci - 48 := ⟨_, rfl⟩
      have hdvi : (ci : Int) - 48 = (dv : Int) := by omega
      have hwsub : IntKind.u8.wrap ((ci : Int) - 48) = (dv : Int) := by rw [IntKind.wrap_u8]; omega
      have hdv10 : (dv : Int) < 10 := by omega
      generalize decV (D.take i) = vi at *
      have HV1 : Hid (decV (D.take (i + 1)) = vi * 10 + dv) := by show _ = _; rw [hv1, hdv]
      have hws := fun W => words_any 10 W (by omega)
      have hwd2 := fun W => words_any dv W (by omega)
      clear hv1 hdv
      go_wp2_with fail
      refine (hws _).mono ?_
      rintro e w1 ⟨v1, rfl, hv1, hb1⟩
      have hmu := bigTen_any B wr.heap.size vi v v1 w1 (hwd.below hb1) hv1 (by omega)
      go_wp2_with fail
      refine hmu.mono ?_
      rintro e w2 ⟨v2, rfl, hvv2, hb2⟩
      go_wp2_with fail
      refine (hwd2 _).mono ?_
      rintro e w3 ⟨v3, rfl, hv3', hb3⟩
      have had := bigAdd_any w1.heap.size w2.heap.size (vi * 10) dv v2 v3 w3 (hvv2.below hb3) hv3' ⟨by omega, by omega⟩
      go_wp2_with fail
      refine had.mono ?_
      rintro e w4 ⟨v4, rfl, hv4, hb4⟩
      have z1 := hb1.size
      have z2 := hb2.size
      have z3 := hb3.size
      have F4 : Below w.heap.size w w4 := (((hbw.trans (hb1.mono hzw)).trans (hb2.mono (by omega))).trans (hb3.mono (by omega))).trans (hb4.mono (by omega))
      clear hmu had hws hwd2
      go_wp2_with fail
      go_roundg (gk - 1)
      case measure => have := HI.out; omega
      case rel => exact ⟨i + 1, w3.heap.size, v4, by have := HI.out; omega, rfl, by go_num, by rw [HV1.out]; exact hv4, F4, fun _ => by omega⟩
    · have hin2 : i = n := by omega
      have hi2 : ¬ (i : Int) < (n : Int) := by omega
      have hgv := give2_any b (decV (D.take i)) v p q wr ((hbw.block b hlt).trans HB.out) (hwd.mono (by have := hB0 (by omega); omega))
      have HX : Hid (decV (D.take i) = decV D) := by show _ = _; rw [hin2, HT.out]
      clear hin2 hlt2
      generalize decV (D.take i) = vi at *
      go_wp2_with fail
      refine hgv.mono ?_
      rintro e w2 ⟨rfl, hi3, hb2⟩
      go_wp2_with fail
      go_ret2
      exact ⟨rfl, by rw [← HX.out]; exact hi3, grown_below hbw hb2⟩
end Go.Proofs.YtpldnhlancjlnaaDoor
