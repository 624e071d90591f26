/- frame.readFrame. -/
import Derived.Test.YtjblaomjadpbfaaDoorFrKit
import Derived.Test.YtjblaomjadpbfaaDoorFrPure2
import Derived.Lib.TrimByte
namespace Go.Proofs.YtjblaomjadpbfaaDoor
open Go.RowKit

theorem dropWhile_nil (p : UInt8 → Bool) : ∀ l : List UInt8, l.dropWhile p = [] ↔ ∀ b ∈ l, p b = true
  | [] => by simp
  | a :: l => by
    by_cases h : p a = true
    · rw [List.dropWhile_cons_of_pos h, dropWhile_nil p l]
      simp [h]
    · rw [List.dropWhile_cons_of_neg h]
      simp [h]
theorem takeWhile_all (p : UInt8 → Bool) : ∀ (l : List UInt8), ∀ b ∈ l.takeWhile p, p b = true
  | [], b, h => by simp at h
  | a :: l, b, h => by
    by_cases ha : p a = true
    · rw [List.takeWhile_cons_of_pos ha] at h
      rcases List.mem_cons.1 h with rfl | h
      · exact ha
      · exact takeWhile_all p l b h
    · rw [List.takeWhile_cons_of_neg ha] at h
      simp at h
theorem trimB_nil (l : List UInt8) : (Lib.trimB l 0 = []) ↔ l.all (· == 0) = true := by
  rw [Lib.trimB, Lib.trimLeftB, Lib.trimRightB, List.all_eq_true]
  constructor
  · intro h b hb
    rw [dropWhile_nil] at h
    by_cases h0 : (b == 0) = true
    · exact h0
    · exfalso
      have : b ∈ (l.reverse.dropWhile (· == 0)).reverse := by
        rw [List.mem_reverse]
        have hb' : b ∈ l.reverse := List.mem_reverse.2 hb
        rw [← List.takeWhile_append_dropWhile (p := (· == (0 : UInt8))) (l := l.reverse)] at hb'
        rcases List.mem_append.1 hb' with h1 | h1
        · exact absurd (takeWhile_all _ _ b h1) h0
        · exact h1
      exact h0 (h b this)
  · intro h
    have : l.reverse.dropWhile (· == 0) = [] := by
      rw [dropWhile_nil]
      intro b hb
      exact h b (List.mem_reverse.1 hb)
    rw [this]
    rfl

set_option maxRecDepth 20000 in
set_option maxHeartbeats 2000000 in
theorem readFrame_any (hT : ∀ (s : ByteArray) (w : World), s.size ≤ 200 → Calls Tryd.prog 37 #[.string s, .string ⟨#[0]⟩] w fun e w' => e = .returned (.string ⟨(Lib.trimB s.data.toList 0).toArray⟩) ∧ (w' = w ∨ w' = w.drew)) (f : List UInt8) (w : World) (hf : f.length = 128) :
    Calls Tryd.prog 27 #[.string ⟨f.toArray⟩] w fun e w' => e = .returned (.tuple #[.int .u8 (readF f).1.toNat, .string ⟨(readF f).2.1.toArray⟩, .bool (readF f).2.2]) ∧ Below w.heap.size w w' := by
  obtain ⟨FB, hFB⟩ : ∃ FB, FB = (⟨f.toArray⟩ : ByteArray) := ⟨_, rfl⟩
  have hsz : FB.size = 128 := by rw [hFB, ba_size, hf]
  have h0 : ∀ h, (FB[0]'h).toNat = (byteAt f 0).toNat := fun h => by subst hFB; rw [byteAt, List.getD_eq_getElem?_getD, List.getElem?_eq_getElem (by omega)]; rfl
  have h1 : ∀ h, (FB[1]'h).toNat = (byteAt f 1).toNat := fun h => by subst hFB; rw [byteAt, List.getD_eq_getElem?_getD, List.getElem?_eq_getElem (by omega)]; rfl
  rw [← hFB]
  have HF : Hid (FB = ⟨f.toArray⟩ ∧ f.length = 128) := ⟨hFB, hf⟩
  have HRF : Hid (readF f = if 126 < (byteAt f 1).toNat then (0, [], false) else if (f.drop (2 + (byteAt f 1).toNat)).all (· == 0) = false then (0, [], false) else (byteAt f 0, (f.drop 2).take (byteAt f 1).toNat, (byteAt f 0 == 0) || (byteAt f 0 == 1) && (byteAt f 1).toNat == 126)) := rfl
  clear hFB hf
  generalize hb0 : byteAt f 0 = b0 at *
  generalize hb1 : byteAt f 1 = b1 at *
  clear hb0 hb1
  have hb1 := b1.toNat_lt
  have hb0 := b0.toNat_lt
  generalize hk : b1.toNat = k at *
  clear hk
  obtain ⟨m, hm⟩ : ∃ m, m = b0.toNat := ⟨_, rfl⟩
  rw [← hm] at hb0 h0
  have HM : Hid (m = b0.toNat) := hm
  clear hm
  have g0 : (0 : Int) < (FB.size : Int) := by omega
  have g1 : (1 : Int) < (FB.size : Int) := by omega
  go_enter Tryd.func27, Tryd.ntmps27
  go_wp2_with fail
  go_region
  by_cases hl : 126 < k
  · have hl2 : (126 : Int) < (k : Int) := by omega
    go_wp2_with fail
    go_ret3
    rw [HRF.out, if_pos hl]
    exact ⟨rfl, (Below.refl _ _).drew⟩
  · have hl2 : ¬ (126 : Int) < (k : Int) := by omega
    have hk2 : IntKind.i64.wrap (2 + (k : Int)) = 2 + (k : Int) := by rw [IntKind.wrap_i64]; omega
    have hx1 : (2 : Int) ≤ 2 + (k : Int) := by omega
    have hx2 : 2 + (k : Int) ≤ (FB.size : Int) := by omega
    have HE1 : Hid (FB.extract 2 (2 + k) = ⟨((f.drop 2).take k).toArray⟩) := by
      show _ = _
      rw [HF.out.1, ba_mid]
    have HE2 : Hid (FB.extract (2 + k) 128 = ⟨(f.drop (2 + k)).toArray⟩) := by
      show _ = _
      rw [HF.out.1, ← HF.out.2, ba_drop]
    go_wp2_with fail
    go_region
    go_wp2_with fail
    have hsz2 : (FB.extract (2 + k) 128).size ≤ 200 := by rw [HE2.out, ba_size, List.length_drop, HF.out.2]; omega
    have hdl : (FB.extract (2 + k) 128).data.toList = f.drop (2 + k) := by rw [HE2.out]
    have hT2 := fun W => hT (FB.extract (2 + k) 128) W hsz2
    rw [hdl] at hT2
    refine (hT2 _).mono ?_
    clear hsz2 hdl hT2 hT
    rintro e w1 ⟨rfl, hw1⟩
    have hb : Below w.heap.size w w1 := by
      rcases hw1 with rfl | rfl
      · exact (Below.refl _ _).drew.drew
      · exact (Below.refl _ _).drew.drew.drew
    have HK : Hid (k ≤ 126 ∧ ¬ 126 < k) := ⟨by omega, hl⟩
    have hzz := trimB_nil (f.drop (2 + k))
    generalize Lib.trimB (f.drop (2 + k)) 0 = Z at *
    have hb00 : (b0 == 0) = decide (m = 0) := by rw [HM.out, Bool.eq_iff_iff, beq_iff_eq, decide_eq_true_iff, ← UInt8.toNat_inj]; rfl
    have hb01 : (b0 == 1) = decide (m = 1) := by rw [HM.out, Bool.eq_iff_iff, beq_iff_eq, decide_eq_true_iff, ← UInt8.toNat_inj]; rfl
    have HB : Hid ((b0 == 0) = decide (m = 0) ∧ (b0 == 1) = decide (m = 1)) := ⟨hb00, hb01⟩
    clear hw1 hl hb00 hb01
    by_cases hz : Z = []
    · have HA : Hid (readF f = (b0, (f.drop 2).take k, (decide (m = 0) || decide (m = 1) && (k == 126)))) := by
        show _ = _
        rw [HRF.out, if_neg HK.out.2, if_neg (by rw [hzz.1 hz]; simp), HB.out.1, HB.out.2]
      have hz1 : Z.isEmpty = true := by rw [hz]; rfl
      clear hz hzz
      by_cases hm0 : m = 0
      · have HM0 : Hid (m = 0) := hm0
        have hm1 : ((m : Int) == 0) = true := by rw [beq_iff_eq]; omega
        clear hm0
        go_wp2_with fail
        go_ret3
        refine ⟨?_, hb⟩
        rw [HA.out, HE1.out, ← HM.out]
        simp [HM0.out]
      · have HM0 : Hid (¬ m = 0) := hm0
        have hm1 : ((m : Int) == 0) = false := by rw [beq_eq_false_iff_ne]; omega
        clear hm0
        by_cases hm2 : m = 1
        · have HM2 : Hid (m = 1) := hm2
          have hm3 : ((m : Int) == 1) = true := by rw [beq_iff_eq]; omega
          clear hm2
          by_cases hk6 : k = 126
          · have HK6 : Hid (k = 126) := hk6
            have hk7 : ((k : Int) == 126) = true := by rw [beq_iff_eq]; omega
            clear hk6
            go_wp2_with fail
            go_ret3
            refine ⟨?_, hb⟩
            rw [HA.out, HE1.out, ← HM.out]
            simp [HM2.out, HK6.out]
          · have HK6 : Hid (¬ k = 126) := hk6
            have hk7 : ((k : Int) == 126) = false := by rw [beq_eq_false_iff_ne]; omega
            clear hk6
            go_wp2_with fail
            go_ret3
            refine ⟨?_, hb⟩
            rw [HA.out, HE1.out, ← HM.out]
            simp [HM2.out, HK6.out]
        · have HM2 : Hid (¬ m = 1) := hm2
          have hm3 : ((m : Int) == 1) = false := by rw [beq_eq_false_iff_ne]; omega
          clear hm2
          go_wp2_with fail
          go_ret3
          refine ⟨?_, hb⟩
          rw [HA.out, HE1.out, ← HM.out]
          simp [HM2.out, HM0.out]
    · have HA : Hid (readF f = (0, [], false)) := by
        show _ = _
        rw [HRF.out, if_neg HK.out.2, if_pos]
        cases h : (f.drop (2 + k)).all (· == 0) with
        | false => rfl
        | true => exact absurd (hzz.2 h) hz
      have hz1 : Z.isEmpty = false := by
        cases Z with
        | nil => exact absurd rfl hz
        | cons _ _ => rfl
      clear hz hzz
      go_wp2_with fail
      go_ret3
      rw [HA.out]
      exact ⟨rfl, hb⟩
end Go.Proofs.YtjblaomjadpbfaaDoor
