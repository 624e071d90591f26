/- The rest by 2^64: DivMod, Mod, and the document's times. -/
import Derived.Test.YtekjcmejnhhpaaaDoorMtMod
import Derived.Test.YtekjcmejnhhpaaaDoorMtAdd
import Derived.Test.YtekjcmejnhhpaaaDoorMtSub
namespace Go.Proofs.YtekjcmejnhhpaaaDoor
open Go.RowKit

theorem few_small {n : Nat} (h : n ≤ 340282366920938463463374607431768211456) : Few n := Nat.lt_of_le_of_lt h (by unfold lim; decide +kernel)
/-- the rest by 2^64, never below 0 -/
def modF (xn : Bool) (n : Nat) : Nat := if (xn && decide (n % 18446744073709551616 ≠ 0)) = true then 18446744073709551616 - n % 18446744073709551616 else n % 18446744073709551616
theorem modF_lt (xn : Bool) (n : Nat) : modF xn n < 18446744073709551616 := by
  unfold modF
  split
  · rename_i h
    simp at h
    omega
  · omega
theorem Fr.at {P : Nat → Prop} {w w' : World} {b : Nat} (h : Fr P w w') (hl : b < w.heap.size) (hn : ¬ P b) : w'.heap[b]? = w.heap[b]? := h.block b hl hn
/-- a number that a step lets be -/
theorem Sg.fr {P : Nat → Prop} {b n : Nat} {s : Bool} {w w' : World} (h : Sg b s n w) (hf : Fr P w w') (hn : ¬ P b) (hP : ∀ k, P k → k < w.heap.size → Ib k w) : Sg b s n w' := by
  have hl := h.lt
  obtain ⟨a, k, c, h1, h2⟩ := h
  refine ⟨a, k, c, (hf.block b hl hn).trans h1, ?_⟩
  obtain ⟨a', k', c', hv, q1, q2, q3, q4, q5, q6⟩ := h2
  refine ⟨a', k', c', hv, q1, q2, q3, q4, q5, ?_⟩
  rcases q6 with q6 | ⟨b', off, ha, hB2, hlt, hw⟩
  · exact .inl q6
  · by_cases hk0 : k' = 0
    · exact .inl hk0
    · refine .inr ⟨b', off, ha, hB2, Nat.lt_of_lt_of_le hlt hf.size, fun j hj => ?_⟩
      have hbb : ¬ P b' := fun hp => by
        obtain ⟨x, a2, k2, c2, hblk⟩ := hP b' hp hlt
        have := hw 0 (by omega)
        rw [Lib.cell_of_heap hblk] at this
        match off, this with
        | 0, h => simp at h
        | 1, h => simp at h
        | o + 2, h => simp at h
      rw [World.cell?_of_block (w := w) (hf.block b' hlt hbb)]
      exact hw j hj
def DivOut (z x R : Nat) (w w' : World) : Prop := Sg x false R w' ∧ Fr (fun k => k = z ∨ k = x) w w'
set_option maxRecDepth 20000 in
set_option maxHeartbeats 4000000 in
theorem divG_any (z x y n : Nat) (xn : Bool) (w : World) (hz : Ib z w) (hx : Sg x xn n w) (hy : Sg y false 18446744073709551616 w) (hzx : z ≠ x) (hzy : z ≠ y) (hxy : x ≠ y) (hn : n < 4294967296 ^ 4) (hneg : xn = true → n < 18446744073709551616) :
    Calls Tryd.prog 39 #[.pointer (some ⟨z, 0, none⟩), .pointer (some ⟨x, 0, none⟩), .pointer (some ⟨y, 0, none⟩), .pointer (some ⟨x, 0, none⟩)] w fun e w' => e = .returned (.tuple #[.pointer (some ⟨z, 0, none⟩), .pointer (some ⟨x, 0, none⟩)]) ∧ DivOut z x (modF xn n) w w' := by
  have hb0 : Below w.heap.size w (w.alloc (.cells #[.bool false, .slice none 0 0] 44)) := (Below.refl _ _).alloc (Nat.le_refl _) _
  have HL : Hid (z < w.heap.size ∧ x < w.heap.size ∧ y < w.heap.size ∧ z ≠ x ∧ z ≠ y ∧ x ≠ y) := ⟨hz.lt, hx.lt, hy.lt, hzx, hzy, hxy⟩
  have h0 := HL.out
  have HZ0 : Hid (Ib z w ∧ Sg x xn n w ∧ Sg y false 18446744073709551616 w) := ⟨hz, hx, hy⟩
  have hst := setG_any w.heap.size y 18446744073709551616 _ (Ib.born w) (hy.go hb0) (by omega) (by omega)
  have HC : Hid (n < 4294967296 ^ 4 ∧ (xn = true → n < 18446744073709551616)) := ⟨hn, hneg⟩
  have HB0 : Hid (Below w.heap.size w (w.alloc (.cells #[.bool false, .slice none 0 0] 44)) ∧ Ib w.heap.size (w.alloc (.cells #[.bool false, .slice none 0 0] 44))) := ⟨hb0, Ib.born w⟩
  obtain ⟨M, hM⟩ : ∃ M : Nat, M = 18446744073709551616 := ⟨_, rfl⟩
  have HM : Hid (M = 18446744073709551616) := hM
  clear hz hx hy hzx hzy hxy hn hneg hb0 h0
  go_enter Tryd.func39, Tryd.ntmps39
  go_wp2_with fail
  refine hst.mono ?_
  rintro e w2 ⟨rfl, hd2, hg2⟩
  have HB2 : Hid (Below w.heap.size w w2) := HB0.out.1.trans (grown_to_below hg2 (Nat.le_refl _) HB0.out.1.size)
  have HD2 : Hid (Sg w.heap.size false 18446744073709551616 w2) := hd2
  have hq := fun sg hs => quoG_any z x y n xn sg w2 (HZ0.out.1.go HB2.out) (HZ0.out.2.1.go HB2.out) (HZ0.out.2.2.go HB2.out) HL.out.2.2.2.1 HC.out.1 HC.out.2 hs
  clear hd2 hg2 hst hM
  by_cases hs : (xn && decide (n % 18446744073709551616 ≠ 0)) = true
  · have HMD : Hid (modF xn n = 18446744073709551616 - n % 18446744073709551616) := if_pos hs
    have hq' := hq true hs.symm
    have HXT : Hid (xn = true ∧ n % 18446744073709551616 ≠ 0) := show _ ∧ _ by simpa using hs
    clear hq hs
    go_wp2_with fail
    refine hq'.mono ?_
    rintro e w3 ⟨rfl, hx3, ⟨zs, N, hz3, hN⟩, hf3⟩
    have hN0 := hN HXT.out.1
    subst hN0
    have HX3 : Hid (Sg x true (n % 18446744073709551616) w3) := hx3
    have HZ3 : Hid (Sg z zs 0 w3) := hz3
    have HF3 : Hid (Fr (fun k => k = z ∨ k = x) w2 w3) := hf3
    have HD3 : Hid (Sg w.heap.size false 18446744073709551616 w3) := HD2.out.fr hf3 (fun e => by have := HL.out; omega) (fun k hk hl => by
      rcases hk with e | e
      · rw [e]; exact HZ0.out.1.go HB2.out
      · rw [e]; exact (HZ0.out.2.1.go HB2.out).ib)
    have x3 : w3.cell? ⟨x, 0, none⟩ = some (.bool true) := by obtain ⟨_, _, _, q, _⟩ := hx3; rw [Lib.cell_of_heap q]; rfl
    have d3 : w3.cell? ⟨w.heap.size, 0, none⟩ = some (.bool false) := by obtain ⟨_, _, _, q, _⟩ := HD3.out; rw [Lib.cell_of_heap q]; rfl
    have hnew := newZ_any 1 false w3 (by omega) (by omega) rfl
    rw [show ((1 : Int)).natAbs = 1 from rfl] at hnew
    clear hq' hx3 hz3 hf3 hN
    go_wp2_with fail
    refine hnew.mono ?_
    rintro e w4 ⟨rfl, h4, hb4⟩
    have hsb := subG_any z w3.heap.size 0 1 zs false _ w4 (HZ3.out.go hb4) h4 ⟨few_small (by omega), few_small (by omega)⟩ rfl
    have HB4 : Hid (Below w3.heap.size w3 w4) := hb4
    clear hnew h4 hb4 x3 d3
    go_wp2_with fail
    refine hsb.mono ?_
    rintro e w5 ⟨rfl, h5, hg5⟩
    have HX5 : Hid (Sg x true (n % 18446744073709551616) w5) := (HX3.out.go HB4.out).other hg5 (fun e => HL.out.2.2.2.1 e.symm) (HZ3.out.go HB4.out).ib
    have HD5 : Hid (Sg w.heap.size false 18446744073709551616 w5) := (HD3.out.go HB4.out).other hg5 (fun e => by have := HL.out; omega) (HZ3.out.go HB4.out).ib
    have HF5 : Hid (Fr (fun k => k = z ∨ k = x) w w5) := (((Fr.of HB2.out).trans HF3.out).trans (Fr.of HB4.out)).trans (Fr.ofG hg5 (.inl rfl))
    have hsum : sumF true (n % 18446744073709551616) false 18446744073709551616 = (false, 18446744073709551616 - n % 18446744073709551616) := by
      unfold sumF
      rw [if_neg (by decide), if_neg (by have := HXT.out.2; omega)]
    have had := addG_any x w.heap.size (n % 18446744073709551616) 18446744073709551616 true false false w5 HX5.out HD5.out ⟨few_small (by omega), few_small (by omega)⟩ (by rw [hsum]; rfl)
    rw [hsum] at had
    clear hsum hsb h5 hg5
    go_wp2_with fail
    refine had.mono ?_
    rintro e w6 ⟨rfl, h6, hg6⟩
    have HE : Hid (DivOut z x (modF xn n) w w6) := ⟨by rw [HMD.out]; exact h6, HF5.out.trans (Fr.ofG hg6 (.inr rfl))⟩
    clear had h6 hg6
    go_wp2_with fail
    go_ret2
    exact ⟨rfl, HE.out⟩
  · have hs' : (xn && decide (n % 18446744073709551616 ≠ 0)) = false := by simpa using hs
    have HMD : Hid (modF xn n = n % 18446744073709551616) := if_neg hs
    have hq' := hq false hs'.symm
    clear hq hs hs'
    go_wp2_with fail
    refine hq'.mono ?_
    rintro e w3 ⟨rfl, hx3, _, hf3⟩
    have HE : Hid (DivOut z x (modF xn n) w w3) := ⟨by rw [HMD.out]; exact hx3, (Fr.of HB2.out).trans hf3⟩
    have x3 : w3.cell? ⟨x, 0, none⟩ = some (.bool false) := by obtain ⟨_, _, _, q, _⟩ := hx3; rw [Lib.cell_of_heap q]; rfl
    clear hq' hx3 hf3
    go_wp2_with fail
    go_ret2
    exact ⟨rfl, HE.out⟩
set_option maxRecDepth 20000 in
set_option maxHeartbeats 1000000 in
theorem modG_any (x y n : Nat) (xn : Bool) (w : World) (hx : Sg x xn n w) (hy : Sg y false 18446744073709551616 w) (hxy : x ≠ y) (hn : n < 4294967296 ^ 4) (hneg : xn = true → n < 18446744073709551616) :
    Calls Tryd.prog 22 #[.pointer (some ⟨x, 0, none⟩), .pointer (some ⟨x, 0, none⟩), .pointer (some ⟨y, 0, none⟩)] w fun e w' => e = .returned (.pointer (some ⟨x, 0, none⟩)) ∧ Sg x false (modF xn n) w' ∧ w.grownBy w' (some x) := by
  have hb0 : Below w.heap.size w (w.alloc (.cells #[.bool false, .slice none 0 0] 44)) := (Below.refl _ _).alloc (Nat.le_refl _) _
  have hxl := hx.lt
  have hyl := hy.lt
  have hd := divG_any w.heap.size x y n xn _ (Ib.born w) (hx.go hb0) (hy.go hb0) (by omega) (by omega) hxy hn hneg
  have HE : Hid (∀ w', DivOut w.heap.size x (modF xn n) (w.alloc (.cells #[.bool false, .slice none 0 0] 44)) w' → Sg x false (modF xn n) w' ∧ w.grownBy w' (some x)) := fun w' h => ⟨h.1, Fr.grown (((Fr.of hb0).trans h.2).mono fun k hk e => by
    rcases e with e | e
    · omega
    · exact e)⟩
  clear hx hy hxy hn hneg hb0 hxl hyl
  generalize modF xn n = R at *
  go_enter Tryd.func22, Tryd.ntmps22
  go_wp2_with fail
  refine hd.mono ?_
  rintro e w2 ⟨rfl, h2⟩
  have HE2 : Hid (Sg x false R w2 ∧ w.grownBy w2 (some x)) := HE.out _ h2
  clear h2 hd
  go_wp2_with fail
  go_ret
  exact ⟨rfl, HE2.out⟩
set_option maxRecDepth 20000 in
set_option maxHeartbeats 1000000 in
/-- the document's product of 64 bits -/
theorem times_any (a b n m : Nat) (w : World) (ha : Sg a false n w) (hb : Sg b false m w) (hn : n < 18446744073709551616) (hm : m < 18446744073709551616) :
    Calls Tryd.prog 20 #[.pointer (some ⟨a, 0, none⟩), .pointer (some ⟨b, 0, none⟩)] w fun e w' => e = .returned (.pointer (some ⟨w.heap.size, 0, none⟩)) ∧ Sg w.heap.size false (n * m % 18446744073709551616) w' ∧ Below w.heap.size w w' := by
  have hb0 : Below w.heap.size w (w.alloc (.cells #[.bool false, .slice none 0 0] 44)) := (Below.refl _ _).alloc (Nat.le_refl _) _
  have hal := ha.lt
  have hbl := hb.lt
  have hml := mulG_any w.heap.size a b n m _ (Ib.born w) (ha.go hb0) (hb.go hb0) (by omega) (by omega) ⟨few_small (by omega), hm⟩
  have HB0 : Hid (Below w.heap.size w (w.alloc (.cells #[.bool false, .slice none 0 0] 44))) := hb0
  have HPR : Hid (n * m < 4294967296 ^ 4 ∧ modF false (n * m) = n * m % 18446744073709551616) := ⟨by
    have h := Nat.mul_lt_mul'' hn hm
    exact Nat.lt_of_lt_of_le h (by decide), if_neg (by simp)⟩
  generalize n * m = N at *
  clear ha hb hn hm hb0 hal hbl
  go_enter Tryd.func20, Tryd.ntmps20
  go_wp2_with fail
  refine hml.mono ?_
  rintro e w2 ⟨rfl, h2, hg2⟩
  have HB2 : Hid (Below w.heap.size w w2) := HB0.out.trans (grown_to_below hg2 (Nat.le_refl _) HB0.out.size)
  have HX2 : Hid (Sg w.heap.size false N w2) := h2
  have hb3 : Below w2.heap.size w2 (w2.alloc (.cells #[.bool false, .slice none 0 0] 44)) := (Below.refl _ _).alloc (Nat.le_refl _) _
  have HI3 : Hid (Ib w2.heap.size (w2.alloc (.cells #[.bool false, .slice none 0 0] 44))) := Ib.born w2
  have HB3 : Hid (Below w2.heap.size w2 (w2.alloc (.cells #[.bool false, .slice none 0 0] 44))) := hb3
  have hs3 : (w2.alloc (.cells #[.bool false, .slice none 0 0] 44)).heap.size = w2.heap.size + 1 := Array.size_push _
  have hnew := newZ_any 1 false (w2.alloc (.cells #[.bool false, .slice none 0 0] 44)) (by omega) (by omega) rfl
  rw [show ((1 : Int)).natAbs = 1 from rfl, hs3] at hnew
  clear hml h2 hg2 hb3 hs3
  go_wp2_with fail
  refine hnew.mono ?_
  rintro e w4 ⟨rfl, h4, hb4⟩
  have HB4 : Hid (Below w2.heap.size w2 w4 ∧ w2.heap.size + 1 ≤ w4.heap.size) := ⟨HB3.out.trans (hb4.mono (Nat.le_succ _)), by have h9 := hb4.size; rw [show (w2.alloc (.cells #[.bool false, .slice none 0 0] 44)).heap.size = w2.heap.size + 1 from Array.size_push _] at h9; exact h9⟩
  have HI4 : Hid (Ib w2.heap.size w4) := HI3.out.go (by rw [show (w2.alloc (.cells #[.bool false, .slice none 0 0] 44)).heap.size = w2.heap.size + 1 from Array.size_push _]; exact hb4)
  have hls := lsh64_any w2.heap.size (w2.heap.size + 1) w4 HI4.out h4 (by omega)
  clear hnew h4 hb4
  go_wp2_with fail
  refine hls.mono ?_
  rintro e w5 ⟨rfl, h5, hg5⟩
  have HB5 : Hid (Below w2.heap.size w2 w5) := HB4.out.1.trans (grown_to_below hg5 (Nat.le_refl _) HB4.out.1.size)
  have hmd := modG_any w.heap.size w2.heap.size N false w5 (HX2.out.go HB5.out) h5 (by have := HX2.out.lt; omega) HPR.out.1 (fun e => by cases e)
  rw [HPR.out.2] at hmd
  clear hls h5 hg5
  go_wp2_with fail
  refine hmd.mono ?_
  rintro e w6 ⟨rfl, h6, hg6⟩
  have HE : Hid (Sg w.heap.size false (N % 18446744073709551616) w6 ∧ Below w.heap.size w w6) := ⟨h6, (HB2.out.trans (HB5.out.mono HB2.out.size)).trans (grown_to_below hg6 (Nat.le_refl _) (Nat.le_trans HB2.out.size HB5.out.size))⟩
  clear hmd h6 hg6
  go_wp2_with fail
  go_ret
  exact ⟨rfl, HE.out⟩
end Go.Proofs.YtekjcmejnhhpaaaDoor
