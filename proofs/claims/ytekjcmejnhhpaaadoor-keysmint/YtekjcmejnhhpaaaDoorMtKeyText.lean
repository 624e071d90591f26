/- The document's KeyText. -/
import Derived.Test.YtekjcmejnhhpaaaDoorMtKey
namespace Go.Proofs.YtekjcmejnhhpaaaDoor
open Go.RowKit

theorem zp_ne {zb p n : Nat} {s : Bool} {W : World} (hz : Zv zb p W) (hp : Sg p s n W) : zb ≠ p := fun e => by
  obtain ⟨a, k, c, h, _⟩ := hp
  unfold Zv at hz
  rw [e, h] at hz
  simp at hz
theorem sum_bounds (z1 m : Nat) (dn : Bool) (hz : z1 < 18446744073709551616) (hm : m ≤ 9223372036854775808) : (sumF false z1 dn m).2 ≤ 27670116110564327424 ∧ (((sumF false z1 dn m).1 && decide ((sumF false z1 dn m).2 ≠ 0)) = true → (sumF false z1 dn m).2 < 18446744073709551616) := by
  unfold sumF
  cases dn with
  | false => simp only [if_true]; exact ⟨by omega, fun h => by simp at h⟩
  | true =>
    simp only [Bool.false_eq_true, if_false]
    by_cases h : m ≤ z1
    · rw [if_pos h]; exact ⟨by simp only; omega, fun h => by simp at h⟩
    · rw [if_neg h]; exact ⟨by simp only; omega, fun _ => by simp only; omega⟩
set_option maxRecDepth 20000 in
set_option maxHeartbeats 8000000 in
theorem keyText_any (serial draw : Int) (w : World) (h0 : 0 ≤ serial) (h1 : serial ≤ 2147483647) (hd0 : -9223372036854775808 ≤ draw) (hd1 : draw ≤ 9223372036854775807) :
    Calls Tryd.prog 11 #[.int .i64 serial, .int .i64 draw] w fun e w' => e = .returned (.string ⟨(keyT serial draw).toArray⟩) ∧ Below w.heap.size w w' := by
  obtain ⟨z1, hz1⟩ : ∃ z1 : Nat, z1 = serial.toNat * 11400714819323198485 % 18446744073709551616 := ⟨_, rfl⟩
  have hz1l : z1 < 18446744073709551616 := by rw [hz1]; exact Nat.mod_lt _ (by decide)
  have hkp := key_pure serial draw h0 h1 hd0 hd1 z1 hz1
  have hsb := sum_bounds z1 draw.natAbs (decide (draw < 0)) hz1l (by omega)
  obtain ⟨z2, hz2⟩ : ∃ z2, z2 = ((serial * 11400714819323198485 + draw) % 18446744073709551616).toNat := ⟨_, rfl⟩
  have hz2l : z2 < 18446744073709551616 := by omega
  obtain ⟨z3, hz3⟩ : ∃ z3, z3 = z2 ^^^ z2 / 2 ^ 30 := ⟨_, rfl⟩
  have hz3l : z3 < 18446744073709551616 := by rw [hz3]; exact xor_lt hz2l (Nat.lt_of_le_of_lt (Nat.div_le_self _ _) hz2l)
  obtain ⟨z4, hz4⟩ : ∃ z4, z4 = z3 * 13787848793156543929 % 18446744073709551616 := ⟨_, rfl⟩
  have hz4l : z4 < 18446744073709551616 := by rw [hz4]; exact Nat.mod_lt _ (by decide)
  obtain ⟨z5, hz5⟩ : ∃ z5, z5 = z4 ^^^ z4 / 2 ^ 27 := ⟨_, rfl⟩
  have hz5l : z5 < 18446744073709551616 := by rw [hz5]; exact xor_lt hz4l (Nat.lt_of_le_of_lt (Nat.div_le_self _ _) hz4l)
  obtain ⟨z6, hz6⟩ : ∃ z6, z6 = z5 * 10723151780598845931 % 18446744073709551616 := ⟨_, rfl⟩
  have hz6l : z6 < 18446744073709551616 := by rw [hz6]; exact Nat.mod_lt _ (by decide)
  obtain ⟨z7, hz7⟩ : ∃ z7, z7 = z6 ^^^ z6 / 2 ^ 31 := ⟨_, rfl⟩
  have hz7l : z7 < 18446744073709551616 := by rw [hz7]; exact xor_lt hz6l (Nat.lt_of_le_of_lt (Nat.div_le_self _ _) hz6l)
  have hkn : keyNum serial draw = z7 := by
    unfold keyNum mixF
    rw [← hz2, hz7, hz6, hz5, hz4, hz3]
  rw [← hz2] at hkp
  generalize hSF : sumF false z1 (decide (draw < 0)) draw.natAbs = SF at hkp hsb
  obtain ⟨sf1, sf2⟩ := SF
  simp only at hkp hsb
  have HP : Hid (sumF false z1 (decide (draw < 0)) draw.natAbs = (sf1, sf2) ∧ modF (sf1 && decide (sf2 ≠ 0)) sf2 = z2) := ⟨hSF, hkp⟩
  have HSB : Hid (sf2 ≤ 27670116110564327424 ∧ ((sf1 && decide (sf2 ≠ 0)) = true → sf2 < 18446744073709551616)) := hsb
  have HL : Hid (z1 < 18446744073709551616 ∧ z2 < 18446744073709551616 ∧ z3 < 18446744073709551616 ∧ z4 < 18446744073709551616 ∧ z5 < 18446744073709551616 ∧ z6 < 18446744073709551616 ∧ z7 < 18446744073709551616) := ⟨hz1l, hz2l, hz3l, hz4l, hz5l, hz6l, hz7l⟩
  have HE4 : Hid (z4 = z3 * 13787848793156543929 % 18446744073709551616 ∧ z6 = z5 * 10723151780598845931 % 18446744073709551616) := ⟨hz4, hz6⟩
  have HF : Hid (z2 ^^^ z2 / 2 ^ 30 = z3 ∧ z4 ^^^ z4 / 2 ^ 27 = z5 ∧ z6 ^^^ z6 / 2 ^ 31 = z7) := ⟨hz3.symm, hz5.symm, hz7.symm⟩
  have l1 : (⟨(Lib.itoa serial).toArray⟩ : ByteArray).size ≤ 21 := by rw [ba_size]; exact Lib.itoa_length_le serial (by omega) (by omega)
  have l2 : (⟨(hexT z7).toArray⟩ : ByteArray).size ≤ 16 := by rw [ba_size]; exact hexT_len 15 _ (by simpa using hz7l)
  have HT : Hid ((⟨#[33]⟩ : ByteArray) ++ ⟨(Lib.itoa serial).toArray⟩ ++ ⟨#[107]⟩ ++ ⟨(hexT z7).toArray⟩ = ⟨(keyT serial draw).toArray⟩) := by
    show _ = _
    have e1 : (⟨#[33]⟩ : ByteArray) = ⟨[33].toArray⟩ := rfl
    have e2 : (⟨#[107]⟩ : ByteArray) = ⟨[107].toArray⟩ := rfl
    rw [e1, e2, ba_app, ba_app, ba_app]
    unfold keyT
    rw [hkn]
    simp
  obtain ⟨sn, hsn⟩ : ∃ n : Nat, n = serial.toNat := ⟨_, rfl⟩
  have hser : serial = (sn : Int) := by omega
  have HSN : Hid (z1 = sn * 11400714819323198485 % 18446744073709551616 ∧ serial.natAbs = sn ∧ sn < 2147483648) := ⟨by rw [hsn]; exact hz1, by omega, by omega⟩
  have hdec := fun W => decimal_any sn W (by omega)
  rw [← hser] at hdec
  have HX7 : Hid (∀ p W, Sg p false z7 W → _) := fun p W h => text16_any p z7 W h hz7l
  have hs0 : (w.alloc intO).heap.size = w.heap.size + 1 := hsz _ _
  have HB0 : Hid (Below w.heap.size w (w.alloc intO)) := (Below.refl _ _).alloc (Nat.le_refl _) _
  have HI0 : Hid (Ib w.heap.size (w.alloc intO)) := Ib.born w
  have hnew1 := newZ_any 1 false (w.alloc intO) (by omega) (by omega) rfl
  rw [show ((1 : Int)).natAbs = 1 from rfl, hs0] at hnew1
  have HNS : Hid (∀ W, _) := fun W => newZ_any serial false W (by omega) (by omega) (by rw [decide_eq_false (by omega)])
  have HND : Hid (∀ W, _) := fun W => newZ_any draw (decide (draw < 0)) W hd0 hd1 rfl
  have HDA : Hid (draw.natAbs ≤ 9223372036854775808) := show _ ≤ _ by omega
  generalize (⟨(Lib.itoa serial).toArray⟩ : ByteArray) = SA at *
  generalize (⟨(hexT z7).toArray⟩ : ByteArray) = SB at *
  generalize (⟨(keyT serial draw).toArray⟩ : ByteArray) = SK at *
  clear hkp hsb hSF hz1 hz2 hz3 hz4 hz5 hz6 hz7 hz1l hz2l hz3l hz4l hz5l hz6l hz7l hkn hsn hser h0 h1 hd0 hd1
  go_enter Tryd.func11, Tryd.ntmps11
  go_wp2_with fail
  refine hnew1.mono ?_
  rintro e w1 ⟨rfl, h1', hb1⟩
  have hb1' : Below (w.alloc intO).heap.size (w.alloc intO) w1 := by rw [hs0]; exact hb1
  have HB1 : Hid (Below w.heap.size w w1) := HB0.out.trans (hb1'.mono (by rw [hs0]; omega))
  have hls := lsh64_any w.heap.size (w.heap.size + 1) w1 (HI0.out.go hb1') h1' (by omega)
  clear hnew1 h1' hb1 hb1' hs0
  go_wp2_with fail
  refine hls.mono ?_
  rintro e w2 ⟨rfl, hM, hg2⟩
  have HM2 : Hid (Sg w.heap.size false 18446744073709551616 w2) := hM
  have HB2 : Hid (Below w.heap.size w w2) := HB1.out.trans (grown_to_below hg2 (Nat.le_refl _) HB1.out.size)
  have hns := HNS.out w2
  rw [HSN.out.2.1] at hns
  clear hls hM hg2
  go_wp2_with fail
  refine hns.mono ?_
  rintro e w3 ⟨rfl, hs3, hb3⟩
  have HS3 : Hid (Sg w2.heap.size false sn w3 ∧ Below w2.heap.size w2 w3) := ⟨hs3, hb3⟩
  have hh := hexIn1 w3
  clear hns hs3 hb3
  go_wp2_with fail
  refine hh.mono ?_
  rintro e w4 ⟨rfl, hx4, hb4⟩
  have htm := times_any w2.heap.size w3.heap.size sn 11400714819323198485 w4 (HS3.out.1.go hb4) hx4 (by have := HSN.out.2.2; omega) (by omega)
  rw [← HSN.out.1] at htm
  have HB4 : Hid (Below w2.heap.size w2 w4) := HS3.out.2.trans (hb4.mono HS3.out.2.size)
  clear hh hx4 hb4
  go_wp2_with fail
  refine htm.mono ?_
  rintro e w5 ⟨rfl, h5, hb5⟩
  have HB5 : Hid (Below w2.heap.size w2 w5 ∧ w2.heap.size ≤ w4.heap.size) := ⟨HB4.out.trans (hb5.mono HB4.out.size), HB4.out.size⟩
  have hb6 : Below w5.heap.size w5 (w5.alloc (.cells #[.pointer (some ⟨w4.heap.size, 0, none⟩)] 41)) := (Below.refl _ _).alloc (Nat.le_refl _) _
  have HP6 : Hid (Sg w4.heap.size false z1 (w5.alloc (.cells #[.pointer (some ⟨w4.heap.size, 0, none⟩)] 41))) := h5.go hb6
  have HZ6 : Hid (Zv w5.heap.size w4.heap.size (w5.alloc (.cells #[.pointer (some ⟨w4.heap.size, 0, none⟩)] 41))) := heap_alloc_new w5 _
  have HM6 : Hid (Sg w.heap.size false 18446744073709551616 (w5.alloc (.cells #[.pointer (some ⟨w4.heap.size, 0, none⟩)] 41))) := (HM2.out.go HB5.out.1).go hb6
  have HB6 : Hid (Below w.heap.size w (w5.alloc (.cells #[.pointer (some ⟨w4.heap.size, 0, none⟩)] 41)) ∧ w.heap.size < w4.heap.size ∧ w.heap.size ≤ w5.heap.size) := ⟨(HB2.out.trans (HB5.out.1.mono HB2.out.size)).trans (hb6.mono (Nat.le_trans HB2.out.size HB5.out.1.size)), by have := HM2.out.lt; have := HB5.out.2; omega, Nat.le_trans HB2.out.size HB5.out.1.size⟩
  clear htm h5 hb5 hb6 HNS
  go_wp2_with fail
  generalize w5.alloc (.cells #[.pointer (some ⟨w4.heap.size, 0, none⟩)] 41) = W6 at *
  generalize w5.heap.size = zb at *
  generalize w4.heap.size = p at *
  have zc := HZ6.out.cell.1
  have HKC : Hid (∀ W, Below W6.heap.size W6 W → W.cell? ⟨zb, 0, none⟩ = some (.pointer (some ⟨p, 0, none⟩))) := fun W hb => (hb.cell (p := ⟨zb, 0, none⟩) HZ6.out.lt).trans zc
  go_region_held3 (fun W => W.cell? ⟨zb, 0, none⟩ = some (.pointer (some ⟨p, 0, none⟩))) (first | exact zc8 | exact zc7 | exact zc) ((first
    | (go_at_call 17; refine (HND.out _).mono ?_; rintro e w7 ⟨rfl, h7, hb7'⟩; have hb7 : Below W6.heap.size W6 w7 := ⟨hb7'.os, hb7'.tape, hb7'.output, hb7'.size, hb7'.block⟩; have h7 : Sg W6.heap.size (decide (draw < 0)) draw.natAbs w7 := h7; have zc7 := HKC.out _ hb7; have H7 : Hid (Sg W6.heap.size (decide (draw < 0)) draw.natAbs w7 ∧ Below W6.heap.size W6 w7) := ⟨h7, hb7⟩; clear hb7' h7 hb7)
    | (go_at_call 21; refine (addG_any p W6.heap.size z1 draw.natAbs false (decide (draw < 0)) (sf1 && decide (sf2 ≠ 0)) w7 (HP6.out.go H7.out.2) H7.out.1 ⟨few_small (by have := HL.out.1; omega), few_small (by have := HDA.out; omega)⟩ (by rw [HP.out.1])).mono ?_; rintro e w8 ⟨rfl, h8', hg8⟩; have h8 : Sg p (sf1 && decide (sf2 ≠ 0)) sf2 w8 := (by rw [HP.out.1] at h8'; exact h8'); clear h8'; have zc8 : w8.cell? ⟨zb, 0, none⟩ = some (.pointer (some ⟨p, 0, none⟩)) := (World.cell?_of_block (a := ⟨zb, 0, none⟩) (hg8.block zb (Nat.lt_of_lt_of_le HZ6.out.lt H7.out.2.size) (fun e => by have := Option.some.inj e; have := zp_ne HZ6.out HP6.out; omega))).trans zc7)))
  have HN2 : Hid (Sg p (sf1 && decide (sf2 ≠ 0)) sf2 w8 ∧ Below w.heap.size w w8 ∧ Zv zb p w8 ∧ Sg w.heap.size false 18446744073709551616 w8) := by
    have hzp := zp_ne HZ6.out HP6.out
    have hpl := HP6.out.lt
    have b7 : Below w.heap.size w w7 := HB6.out.1.trans (H7.out.2.mono HB6.out.1.size)
    exact ⟨h8, b7.trans (grown_to_below hg8 (by have := HB6.out.2.1; omega) b7.size), (hg8.block zb (Nat.lt_of_lt_of_le HZ6.out.lt H7.out.2.size) (fun e => by have := Option.some.inj e; omega)).trans ((H7.out.2.block zb HZ6.out.lt).trans HZ6.out), (HM6.out.go H7.out.2).other hg8 (by have := HB6.out.2.1; omega) (HP6.out.go H7.out.2).ib⟩
  have hmd := modG_any p w.heap.size sf2 (sf1 && decide (sf2 ≠ 0)) w8 HN2.out.1 HN2.out.2.2.2 (by have := HB6.out.2.1; omega) (Nat.lt_of_le_of_lt HSB.out.1 (by decide)) HSB.out.2
  rw [HP.out.2] at hmd
  clear h8 hg8 zc zc7
  go_wp2_with fail
  refine hmd.mono ?_
  rintro e w9 ⟨rfl, h9, hg9⟩
  have HK9 : Hid (KS w zb z2 w9 ∧ Zv zb p w9 ∧ Sg p false z2 w9) := by
    have hzp := zp_ne HZ6.out HP6.out
    have hz9 : Zv zb p w9 := (hg9.block zb HN2.out.2.2.1.lt (fun e => by have := Option.some.inj e; omega)).trans HN2.out.2.2.1
    exact ⟨⟨⟨p, hz9, h9, Nat.le_of_lt HB6.out.2.1⟩, HN2.out.2.1.trans (grown_to_below hg9 (Nat.le_of_lt HB6.out.2.1) HN2.out.2.1.size), HB6.out.2.2⟩, hz9, h9⟩
  have hfd := fold_any zb p z2 30 w9 HK9.out.2.1 HK9.out.2.2 HL.out.2.1 (by omega)
  rw [HF.out.1] at hfd
  clear hmd h9 hg9 zc8
  go_wp2_with fail
  refine hfd.mono ?_
  rintro e W10 ⟨rfl, hf10⟩
  have HK10 : Hid (KS w zb z3 W10) := HK9.out.1.fold hf10
  clear hfd hf10 H7 HP6 HZ6 HM6 HKC HN2 HK9 HND
  go_wp2_with fail
  obtain ⟨p10, hz10, hp10, hl10⟩ := HK10.out.ex
  go_cut [7] from 29 to 32 (fun s7 wq => s7 = .pointer (some ⟨zb, 0, none⟩) ∧ KS w zb z4 wq)
  case first =>
    have zc := hz10.cell.1
    have hzl := hz10.lt
    have HH : Hid (∀ W, Below W10.heap.size W10 W → Calls Tryd.prog 18 #[.string ⟨#[66, 70, 53, 56, 52, 55, 54, 68, 49, 67, 69, 52, 69, 53, 66, 57]⟩] W fun e w' => e = .returned (.pointer (some ⟨W.heap.size, 0, none⟩)) ∧ Hid (Sg W.heap.size false 13787848793156543929 w' ∧ Below W10.heap.size W10 w') ∧ w'.cell? ⟨zb, 0, none⟩ = some (.pointer (some ⟨p10, 0, none⟩))) := fun W hb => (hexIn2 W).mono fun e w' ⟨q1, q2, q3⟩ => by
      have hb' : Below W10.heap.size W10 w' := hb.trans (q3.mono hb.size)
      exact ⟨q1, ⟨q2, hb'⟩, (hb'.cell (p := ⟨zb, 0, none⟩) hzl).trans zc⟩
    have HTM : Hid (∀ b W, Sg b false 13787848793156543929 W ∧ Below W10.heap.size W10 W → Calls Tryd.prog 20 #[.pointer (some ⟨p10, 0, none⟩), .pointer (some ⟨b, 0, none⟩)] W fun e w' => e = .returned (.pointer (some ⟨W.heap.size, 0, none⟩)) ∧ Hid (KS w zb z4 (w'.setCell ⟨zb, 0, none⟩ (.pointer (some ⟨W.heap.size, 0, none⟩)))) ∧ w'.cell? ⟨zb, 0, none⟩ = some (.pointer (some ⟨p10, 0, none⟩)) ∧ w'.frozen? ⟨zb, 0, none⟩ = false) := fun b W h => (times_any p10 b z3 13787848793156543929 W (hp10.go h.2) h.1 (by have := HL.out; omega) (by omega)).mono fun e w' ⟨q1, q2, q3⟩ => by
      have hb' : Below W10.heap.size W10 w' := h.2.trans (q3.mono h.2.size)
      have hz' : Zv zb p10 w' := (hb'.block zb hzl).trans hz10
      rw [← HE4.out.1] at q2
      exact ⟨q1, HK10.out.put hz10 q2 hb' h.2.size, hz'.cell⟩
    clear hp10 hl10
    go_region_with ((first
      | (go_at_call 18; refine (HH.out _ (Below.refl _ _).drew).mono ?_; rintro e wx ⟨rfl, HX, zx⟩)
      | (go_at_call 20; refine (HTM.out _ _ HX.out).mono ?_; rintro e wy ⟨rfl, HY, zy, fy⟩)))
    all_goals
      go_wp2_with fail
      go_meet
      case rel => exact ⟨rfl, HY.out⟩
  case rest =>
  obtain ⟨rfl, hks⟩ := hcut
  obtain ⟨p11, hz11, hp11, hl11⟩ := hks.ex
  have HK11 : Hid (KS w zb z4 wc) := hks
  have hfd := fold_any zb p11 z4 27 wc hz11 hp11 HL.out.2.2.2.1 (by omega)
  rw [HF.out.2.1] at hfd
  clear hks hz11 hp11 hl11 hz10 hp10 hl10 HK10
  go_wp2_with fail
  refine hfd.mono ?_
  rintro e W12 ⟨rfl, hf12⟩
  have HK12 : Hid (KS w zb z5 W12) := HK11.out.fold hf12
  clear hfd hf12 HK11
  go_wp2_with fail
  obtain ⟨p12, hz12, hp12, hl12⟩ := HK12.out.ex
  go_cut [7] from 35 to 38 (fun s7 wq => s7 = .pointer (some ⟨zb, 0, none⟩) ∧ KS w zb z6 wq)
  case first =>
    have zc := hz12.cell.1
    have hzl := hz12.lt
    have HH : Hid (∀ W, Below W12.heap.size W12 W → Calls Tryd.prog 18 #[.string ⟨#[57, 52, 68, 48, 52, 57, 66, 66, 49, 51, 51, 49, 49, 49, 69, 66]⟩] W fun e w' => e = .returned (.pointer (some ⟨W.heap.size, 0, none⟩)) ∧ Hid (Sg W.heap.size false 10723151780598845931 w' ∧ Below W12.heap.size W12 w') ∧ w'.cell? ⟨zb, 0, none⟩ = some (.pointer (some ⟨p12, 0, none⟩))) := fun W hb => (hexIn3 W).mono fun e w' ⟨q1, q2, q3⟩ => by
      have hb' : Below W12.heap.size W12 w' := hb.trans (q3.mono hb.size)
      exact ⟨q1, ⟨q2, hb'⟩, (hb'.cell (p := ⟨zb, 0, none⟩) hzl).trans zc⟩
    have HTM : Hid (∀ b W, Sg b false 10723151780598845931 W ∧ Below W12.heap.size W12 W → Calls Tryd.prog 20 #[.pointer (some ⟨p12, 0, none⟩), .pointer (some ⟨b, 0, none⟩)] W fun e w' => e = .returned (.pointer (some ⟨W.heap.size, 0, none⟩)) ∧ Hid (KS w zb z6 (w'.setCell ⟨zb, 0, none⟩ (.pointer (some ⟨W.heap.size, 0, none⟩)))) ∧ w'.cell? ⟨zb, 0, none⟩ = some (.pointer (some ⟨p12, 0, none⟩)) ∧ w'.frozen? ⟨zb, 0, none⟩ = false) := fun b W h => (times_any p12 b z5 10723151780598845931 W (hp12.go h.2) h.1 (by have := HL.out; omega) (by omega)).mono fun e w' ⟨q1, q2, q3⟩ => by
      have hb' : Below W12.heap.size W12 w' := h.2.trans (q3.mono h.2.size)
      have hz' : Zv zb p12 w' := (hb'.block zb hzl).trans hz12
      rw [← HE4.out.2] at q2
      exact ⟨q1, HK12.out.put hz12 q2 hb' h.2.size, hz'.cell⟩
    clear hp12 hl12
    go_region_with ((first
      | (go_at_call 18; refine (HH.out _ (Below.refl _ _).drew).mono ?_; rintro e wx ⟨rfl, HX, zx⟩)
      | (go_at_call 20; refine (HTM.out _ _ HX.out).mono ?_; rintro e wy ⟨rfl, HY, zy, fy⟩)))
    all_goals
      go_wp2_with fail
      go_meet
      case rel => exact ⟨rfl, HY.out⟩
  case rest =>
  obtain ⟨rfl, hks⟩ := hcut
  obtain ⟨p13, hz13, hp13, hl13⟩ := hks.ex
  have HK13 : Hid (KS w zb z6 wc) := hks
  have hfd := fold_any zb p13 z6 31 wc hz13 hp13 HL.out.2.2.2.2.2.1 (by omega)
  rw [HF.out.2.2] at hfd
  clear hks hz13 hp13 hl13 hz12 hp12 hl12 HK12
  go_wp2_with fail
  refine hfd.mono ?_
  rintro e W14 ⟨rfl, hf14⟩
  have hk14 := HK13.out.fold hf14
  have HK14 : Hid (KS w zb z7 W14) := hk14
  obtain ⟨p14, hz14, hp14, hl14⟩ := hk14.ex
  have HP14 : Hid (Sg p14 false z7 W14 ∧ zb < W14.heap.size) := ⟨hp14, hz14.lt⟩
  have zc := hz14.cell.1
  clear hfd hf14 HK13 hk14 hz14 hp14 hl14
  go_wp2_with fail
  have k1 : ¬ 9223372036854775807 < 1 + SA.size := by omega
  have k2 : ¬ 9223372036854775807 < 1 + SA.size + 1 := by omega
  have k3 : ¬ 9223372036854775807 < 1 + SA.size + 1 + SB.size := by omega
  go_region_held3 (fun W => W.cell? ⟨zb, 0, none⟩ = some (.pointer (some ⟨p14, 0, none⟩))) (first | exact zy | exact zx | exact zc) ((first
    | (go_at_call 26; refine (hdec _).mono ?_; rintro e wx ⟨rfl, hbx'⟩; have hbx : Below W14.heap.size W14 wx := ⟨hbx'.os, hbx'.tape, hbx'.output, hbx'.size, hbx'.block⟩; have zx := (hbx.cell (p := ⟨zb, 0, none⟩) HP14.out.2).trans zc; have HBX : Hid (Below W14.heap.size W14 wx) := hbx; clear hbx hbx')
    | (go_at_call 27; refine (HX7.out p14 _ (HP14.out.1.go HBX.out)).mono ?_; rintro e wy ⟨rfl, hby⟩; have hbb : Below W14.heap.size W14 wy := HBX.out.trans (hby.mono HBX.out.size); have zy := (hbb.cell (p := ⟨zb, 0, none⟩) HP14.out.2).trans zc; have HBY : Hid (Below W14.heap.size W14 wy) := hbb; clear hbb hby)))
  all_goals
    have HE : Hid (Below w.heap.size w wy) := HK14.out.bel.trans (HBY.out.mono HK14.out.bel.size)
    clear zc zx zy
    go_wp2_with fail
    go_ret
    rw [← HT.out]
    exact ⟨rfl, HE.out⟩
end Go.Proofs.YtekjcmejnhhpaaaDoor
