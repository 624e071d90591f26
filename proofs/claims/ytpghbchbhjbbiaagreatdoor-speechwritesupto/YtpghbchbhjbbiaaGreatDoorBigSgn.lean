/- The document's reading of a signed number: signed. -/
import Derived.Test.YtpghbchbhjbbiaaGreatDoorBigSigned
namespace Go.Proofs.YtpghbchbhjbbiaaGreatDoor
open Go.RowKit

theorem uint64_w (b n : Nat) (x' v : Value) (w : World) (hb : w.heap[b]? = some (.cells #[x', v] 70 (0, 0))) (h : Wd w (b + 1) v n) (hn : n < 18446744073709551616) :
    Calls Tryz.prog 68 #[.pointer (some ⟨b, 0, none⟩)] w fun e w' => e = .returned (.int .u64 n) ∧ w' = w := by
  obtain ⟨a, k, c, rfl, hk, hc, hk2, hnk, hp, h⟩ := h
  have hk3 := wd_few hn hp
  have c1 : w.cell? ⟨b, 1, none⟩ = some (.slice a k c) := by rw [Lib.cell_of_heap hb]; rfl
  clear hb
  have hcases : k = 0 ∨ k = 1 ∨ k = 2 := by omega
  rcases hcases with rfl | rfl | rfl
  · have h0 : n = 0 := by simp at hnk; exact hnk
    subst h0
    clear hp hnk h
    go_enter Tryz.func68, Tryz.ntmps68
    go_wp2_with fail
    go_ret
    exact ⟨rfl, rfl⟩
  · rcases h with h | ⟨b', off, rfl, _, hlt, hw⟩
    · omega
    have d0 := hw 0 (by omega)
    have h0 : wd n 0 = n := by rw [wd_two0]; simp at hnk; exact Nat.mod_eq_of_lt hnk
    rw [h0] at d0
    have hn1 : (n : Int) < 4294967296 := by simp at hnk; omega
    simp only [Nat.add_zero] at d0
    clear hp hnk hw h0
    go_enter Tryz.func68, Tryz.ntmps68
    go_wp2_with fail
    go_ret
    exact ⟨rfl, rfl⟩
  · rcases h with h | ⟨b', off, rfl, _, hlt, hw⟩
    · omega
    have d0 := hw 0 (by omega)
    have d1 := hw 1 (by omega)
    have h0 := wd_two0 n
    have h1 := wd_two1 n hn
    rw [h0] at d0
    rw [h1] at d1
    simp only [Nat.add_zero] at d0
    obtain ⟨x, hx⟩ : ∃ x, x = n % 4294967296 := ⟨_, rfl⟩
    obtain ⟨y, hy⟩ : ∃ y, y = n / 4294967296 := ⟨_, rfl⟩
    rw [← hx] at d0
    rw [← hy] at d1
    have hx2 : x < 4294967296 := by omega
    have hy2 : y < 4294967296 := by omega
    have HN : Hid (n = y * 4294967296 + x) := by show _ = _; omega
    have hor : bits .or .u64 (x : Int) ((y : Int) * 4294967296) = ((y * 4294967296 + x : Nat) : Int) := by
      have := bits_or_u64_nat x (y * 4294967296) (by omega) (by omega)
      rw [Nat.or_comm, or_word y x hx2] at this
      simpa using this
    clear hp hnk hw h0 h1 hx hy
    obtain ⟨z, hz⟩ : ∃ z, z = y * 4294967296 + x := ⟨_, rfl⟩
    rw [← hz] at hor
    have HZ : Hid (z = y * 4294967296 + x) := hz
    clear hz
    go_enter Tryz.func68, Tryz.ntmps68
    go_wp2_with fail
    go_ret
    exact ⟨ret_i (by rw [HN.out, ← HZ.out]), rfl⟩


theorem int64_sg (b n : Nat) (neg : Bool) (w : World) (h : IsSg b neg n w) (hn : n < 9223372036854775808) :
    Calls Tryz.prog 45 #[.pointer (some ⟨b, 0, none⟩)] w fun e w' => e = .returned (.int .i64 (sgV neg n)) ∧ w' = w := by
  obtain ⟨x, v, hb, hw, hx⟩ := h.parts
  have hu := uint64_w b n (.bool x) v w hb hw (by omega)
  have c0 : w.cell? ⟨b, 0, none⟩ = some (.bool x) := by rw [Lib.cell_of_heap hb]; rfl
  have hn2 : (n : Int) < 9223372036854775808 := by omega
  have HS : Hid (sgV neg n = if x = true then -(n : Int) else n) := by
    show _ = _
    rw [hx]
    unfold sgV
    cases neg <;> by_cases h0 : n = 0 <;> simp [h0]
  generalize sgV neg n = z at *
  clear hb hw h hx
  cases x with
  | false =>
    go_enter Tryz.func45, Tryz.ntmps45
    go_wp2_with fail
    refine hu.mono ?_
    rintro e w1 ⟨rfl, rfl⟩
    go_wp2_with fail
    go_ret
    exact ⟨ret_i (by rw [HS.out]; simp), rfl⟩
  | true =>
    go_enter Tryz.func45, Tryz.ntmps45
    go_wp2_with fail
    refine hu.mono ?_
    rintro e w1 ⟨rfl, rfl⟩
    go_wp2_with fail
    go_ret
    exact ⟨ret_i (by rw [HS.out]; simp), rfl⟩
theorem cmpW_ge (n m : Nat) : (0 ≤ cmpW n m) ↔ m ≤ n := by
  unfold cmpW
  by_cases h1 : n < m
  · simp [h1]
  · by_cases h2 : n = m
    · simp [h2]
    · simp [h1, h2]; omega
theorem okD_dig {D : List UInt8} (h : okD D = true) : ∀ c ∈ D, isDig c = true := by
  unfold okD at h
  simp at h
  intro c hc
  exact h.2 c hc
theorem decV_few (l : List UInt8) (h : okD (signOf l).2 = true) : decV (signOf l).2 < 10 ^ l.length := by
  have h1 := decV_lt _ (signOf l).2 rfl (okD_dig h)
  exact Nat.lt_of_lt_of_le h1 (Nat.pow_le_pow_right (by decide) (signOf_len l))
set_option maxHeartbeats 1000000 in
theorem signed_no (l : List UInt8) (w : World)
    (hs : Calls Tryz.prog 41 #[.pointer (some ⟨w.heap.size, 0, none⟩), .string ⟨l.toArray⟩, .int .i64 10] (w.alloc (.cells #[.bool false, .slice none 0 0] 70)) fun e w' => e = .returned (.tuple #[.pointer none, .bool false]) ∧ Below (w.heap.size + 1) (w.alloc (.cells #[.bool false, .slice none 0 0] 70)) w') :
    Calls Tryz.prog 23 #[.string ⟨l.toArray⟩] w fun e w' => e = .returned (.tuple #[.int .i64 0, .bool false]) ∧ Below w.heap.size w w' := by
  have hb0 : Below w.heap.size w (w.alloc (.cells #[.bool false, .slice none 0 0] 70)) := (Below.refl _ _).alloc (Nat.le_refl _) _
  generalize (⟨l.toArray⟩ : ByteArray) = T at *
  go_enter Tryz.func23, Tryz.ntmps23
  go_wp2_with fail
  refine hs.mono ?_
  rintro e w1 ⟨rfl, hb1⟩
  have HB : Hid (Below w.heap.size w w1) := hb0.trans (hb1.mono (by omega))
  clear hb0 hb1 hs
  go_wp2_with fail
  go_ret2
  exact ⟨rfl, HB.out⟩
/-- SetString went well -/
theorem grown_new {w w1 : World} {o : Obj} (h : (w.alloc o).grownBy w1 (some w.heap.size)) : Below w.heap.size w w1 := by
  have hs : (w.alloc o).heap.size = w.heap.size + 1 := by show (w.heap.push _).size = _; exact Array.size_push _
  have hb0 : Below w.heap.size w (w.alloc o) := (Below.refl _ _).alloc (Nat.le_refl _) _
  refine ⟨h.os, h.tape, h.output, by have := h.size; omega, fun j hj => ?_⟩
  rw [h.block j (by omega) (by simp; omega)]
  exact hb0.block j hj
set_option maxHeartbeats 1000000 in
theorem signed_ne (l : List UInt8) (neg : Bool) (n : Nat) (w : World) (hn : n < 10 ^ l.length) (hl : l.length ≤ 6000) (hne : Lib.itoa (sgV neg n) ≠ l)
    (hs : Calls Tryz.prog 41 #[.pointer (some ⟨w.heap.size, 0, none⟩), .string ⟨l.toArray⟩, .int .i64 10] (w.alloc (.cells #[.bool false, .slice none 0 0] 70)) fun e w' => e = .returned (.tuple #[.pointer (some ⟨w.heap.size, 0, none⟩), .bool true]) ∧ IsSg w.heap.size neg n w' ∧ (w.alloc (.cells #[.bool false, .slice none 0 0] 70)).grownBy w' (some w.heap.size)) :
    Calls Tryz.prog 23 #[.string ⟨l.toArray⟩] w fun e w' => e = .returned (.tuple #[.int .i64 0, .bool false]) ∧ Below w.heap.size w w' := by
  have hne2 : ¬ (⟨(Lib.itoa (sgV neg n)).toArray⟩ : ByteArray).toList = (⟨l.toArray⟩ : ByteArray).toList := by
    rw [ByteArray.toList_eq, ByteArray.toList_eq]
    exact hne
  have hst := fun W (h : IsSg w.heap.size neg n W) => string_any l.length w.heap.size neg n W h hn (by omega)
  generalize (⟨(Lib.itoa (sgV neg n)).toArray⟩ : ByteArray) = U at *
  clear hne hn hl
  generalize (⟨l.toArray⟩ : ByteArray) = T at *
  go_enter Tryz.func23, Tryz.ntmps23
  go_wp2_with fail
  refine hs.mono ?_
  rintro e w1 ⟨rfl, hi1, hg1⟩
  have HB : Hid (Below w.heap.size w w1) := grown_new hg1
  have hst := hst w1 hi1
  clear hg1 hs hi1
  go_wp2_with fail
  refine hst.mono ?_
  rintro e w2 ⟨rfl, hb2⟩
  have HB2 : Hid (Below w.heap.size w w2) := HB.out.trans (hb2.mono HB.out.size)
  clear HB hb2 hst
  go_wp2_with fail
  go_ret2
  exact ⟨rfl, HB2.out⟩
set_option maxHeartbeats 1000000 in
theorem signed_eq (l : List UInt8) (neg : Bool) (n : Nat) (w : World) (hn : n < 10 ^ l.length) (hl : l.length ≤ 6000) (hne : Lib.itoa (sgV neg n) = l)
    (hs : Calls Tryz.prog 41 #[.pointer (some ⟨w.heap.size, 0, none⟩), .string ⟨l.toArray⟩, .int .i64 10] (w.alloc (.cells #[.bool false, .slice none 0 0] 70)) fun e w' => e = .returned (.tuple #[.pointer (some ⟨w.heap.size, 0, none⟩), .bool true]) ∧ IsSg w.heap.size neg n w' ∧ (w.alloc (.cells #[.bool false, .slice none 0 0] 70)).grownBy w' (some w.heap.size)) :
    Calls Tryz.prog 23 #[.string ⟨l.toArray⟩] w fun e w' => e = .returned (.tuple #[.int .i64 (if n < 1000000000000000000 then sgV neg n else 0), .bool (decide (n < 1000000000000000000))]) ∧ Below w.heap.size w w' := by
  have hst := fun W (h : IsSg w.heap.size neg n W) => string_any l.length w.heap.size neg n W h hn (by omega)
  rw [hne] at hst
  clear hne hn hl
  generalize (⟨l.toArray⟩ : ByteArray) = T at *
  have hge := cmpW_ge n 1000000000000000000
  have HI := fun W (h : IsSg w.heap.size neg n W) (h2 : n < 1000000000000000000) => int64_sg w.heap.size n neg W h (by omega)
  have HI2 : Hid (∀ W (h : IsSg w.heap.size neg n W) (h2 : n < 1000000000000000000), Calls Tryz.prog 45 #[.pointer (some ⟨w.heap.size, 0, none⟩)] W fun e w' => e = .returned (.int .i64 (sgV neg n)) ∧ w' = W) := HI
  clear HI
  generalize sgV neg n = z at *
  by_cases hlt : n < 1000000000000000000
  · have hc : ¬ (0 ≤ cmpW n 1000000000000000000) := by omega
    have HC := fun W b' (h : IsSg w.heap.size neg n W) (h' : IsSg b' false 1000000000000000000 W) => cmpAbs_any w.heap.size b' neg false n 1000000000000000000 W h h'
    generalize cmpW n 1000000000000000000 = cv at *
    rw [if_pos hlt, decide_eq_true hlt]
    clear hge
    have HL : Hid (n < 1000000000000000000) := hlt
    clear hlt
    go_enter Tryz.func23, Tryz.ntmps23
    go_wp2_with fail
    refine hs.mono ?_
    rintro e w1 ⟨rfl, hi1, hg1⟩
    have HB : Hid (Below w.heap.size w w1) := grown_new hg1
    have hst := hst w1 hi1
    have HS1 : Hid (IsSg w.heap.size neg n w1) := hi1
    clear hg1 hs hi1
    go_wp2_with fail
    refine hst.mono ?_
    rintro e w2 ⟨rfl, hb2⟩
    have HB2 : Hid (Below w.heap.size w w2) := HB.out.trans (hb2.mono HB.out.size)
    have HS2 : Hid (IsSg w.heap.size neg n w2) := HS1.out.go hb2
    clear HB hb2 hst HS1
    have hnew := newInt_any 1000000000000000000 w2 (by omega)
    go_wp2_with fail
    refine hnew.mono ?_
    rintro e w3 ⟨rfl, hi3, hb3⟩
    have HB3 : Hid (Below w.heap.size w w3) := HB2.out.trans (hb3.mono HB2.out.size)
    have HS3 : Hid (IsSg w.heap.size neg n w3) := HS2.out.go hb3
    have hcmp := HC w3 w2.heap.size HS3.out (by unfold IsSg; rw [if_neg (by simp)]; exact hi3)
    clear HB2 HS2 hnew hi3 hb3 HC
    go_wp2_with fail
    refine hcmp.mono ?_
    rintro e w4 ⟨rfl, hb4⟩
    have HB4 : Hid (Below w.heap.size w w4) := HB3.out.trans (hb4.mono HB3.out.size)
    have hi := HI2.out w4 (HS3.out.go hb4) HL.out
    clear HB3 HS3 hcmp hb4 HI2
    go_wp2_with fail
    refine hi.mono ?_
    rintro e w5 ⟨rfl, rfl⟩
    clear hi
    go_wp2_with fail
    go_ret2
    exact ⟨rfl, HB4.out⟩
  · have hc : 0 ≤ cmpW n 1000000000000000000 := by omega
    have HC := fun W b' (h : IsSg w.heap.size neg n W) (h' : IsSg b' false 1000000000000000000 W) => cmpAbs_any w.heap.size b' neg false n 1000000000000000000 W h h'
    generalize cmpW n 1000000000000000000 = cv at *
    rw [if_neg hlt, decide_eq_false hlt]
    clear hge hlt HI2
    go_enter Tryz.func23, Tryz.ntmps23
    go_wp2_with fail
    refine hs.mono ?_
    rintro e w1 ⟨rfl, hi1, hg1⟩
    have HB : Hid (Below w.heap.size w w1) := grown_new hg1
    have hst := hst w1 hi1
    have HS1 : Hid (IsSg w.heap.size neg n w1) := hi1
    clear hg1 hs hi1
    go_wp2_with fail
    refine hst.mono ?_
    rintro e w2 ⟨rfl, hb2⟩
    have HB2 : Hid (Below w.heap.size w w2) := HB.out.trans (hb2.mono HB.out.size)
    have HS2 : Hid (IsSg w.heap.size neg n w2) := HS1.out.go hb2
    clear HB hb2 hst HS1
    have hnew := newInt_any 1000000000000000000 w2 (by omega)
    go_wp2_with fail
    refine hnew.mono ?_
    rintro e w3 ⟨rfl, hi3, hb3⟩
    have HB3 : Hid (Below w.heap.size w w3) := HB2.out.trans (hb3.mono HB2.out.size)
    have HS3 : Hid (IsSg w.heap.size neg n w3) := HS2.out.go hb3
    have hcmp := HC w3 w2.heap.size HS3.out (by unfold IsSg; rw [if_neg (by simp)]; exact hi3)
    clear HB2 HS2 hnew hi3 hb3 HC
    go_wp2_with fail
    refine hcmp.mono ?_
    rintro e w4 ⟨rfl, hb4⟩
    have HB4 : Hid (Below w.heap.size w w4) := HB3.out.trans (hb4.mono HB3.out.size)
    clear HB3 HS3 hcmp hb4
    go_wp2_with fail
    go_ret2
    exact ⟨rfl, HB4.out⟩
theorem signed_any (l : List UInt8) (w : World) (hl : l.length ≤ 6000) :
    Calls Tryz.prog 23 #[.string ⟨l.toArray⟩] w fun e w' => e = .returned (.tuple #[.int .i64 (signedF l).1, .bool (signedF l).2]) ∧ Below w.heap.size w w' := by
  have hs := setStr_any w.heap.size l (.bool false) (.slice none 0 0) (w.alloc (.cells #[.bool false, .slice none 0 0] 70)) (Go.Deep.blk_alloc_new _ _) hl
  unfold signedF
  by_cases h1 : okD (signOf l).2 = true
  · have hs1 : Calls Tryz.prog 41 #[.pointer (some ⟨w.heap.size, 0, none⟩), .string ⟨l.toArray⟩, .int .i64 10] (w.alloc (.cells #[.bool false, .slice none 0 0] 70)) fun e w' => e = .returned (.tuple #[.pointer (some ⟨w.heap.size, 0, none⟩), .bool true]) ∧ IsSg w.heap.size (signOf l).1 (decV (signOf l).2) w' ∧ (w.alloc (.cells #[.bool false, .slice none 0 0] 70)).grownBy w' (some w.heap.size) := by
      refine hs.mono ?_
      rintro e w' (⟨_, a, b, c⟩ | ⟨h, _⟩)
      · exact ⟨a, b, c⟩
      · rw [h1] at h; exact absurd h (by decide)
    by_cases h2 : Lib.itoa (sgV (signOf l).1 (decV (signOf l).2)) = l
    · refine (signed_eq l _ _ w (decV_few l h1) hl h2 hs1).mono ?_
      rintro e w' ⟨rfl, hb⟩
      refine ⟨?_, hb⟩
      by_cases h3 : decV (signOf l).2 < 1000000000000000000
      · rw [if_pos h3, if_pos ⟨h1, h2, h3⟩, decide_eq_true h3]
      · rw [if_neg h3, if_neg (fun h => h3 h.2.2), decide_eq_false h3]
    · rw [if_neg (fun h => h2 h.2.1)]
      exact signed_ne l _ _ w (decV_few l h1) hl h2 hs1
  · rw [if_neg (fun h => h1 h.1)]
    refine signed_no l w ?_
    refine hs.mono ?_
    rintro e w' (⟨h, _⟩ | ⟨_, a, b⟩)
    · exact absurd h h1
    · exact ⟨a, by
        have hsz : (w.alloc (.cells #[.bool false, .slice none 0 0] 70)).heap.size = w.heap.size + 1 := by show (w.heap.push _).size = _; exact Array.size_push _
        rwa [hsz] at b⟩
end Go.Proofs.YtpghbchbhjbbiaaGreatDoor
