/- rule.has, digits, Good and Text. -/
import Derived.Test.YtpghbchbhjbbiaaGreatDoorSpKit
import Derived.Test.YtpghbchbhjbbiaaGreatDoorSpShelf
import Derived.Deep.LoopGhost
import Derived.Deep.RegionHeld3
namespace Go.Proofs.YtpghbchbhjbbiaaGreatDoor
open Go.RowKit

theorem bits_one (a : Int) : bits .and .i64 a 1 = a % 2 := by
  have h : (BitVec.ofInt 64 a &&& BitVec.ofInt 64 1).toNat = (a % 2).toNat := by
    rw [BitVec.toNat_and, BitVec.toNat_ofInt, BitVec.toNat_ofInt]
    rw [show ((1 : Int) % ((2 ^ 64 : Nat) : Int)).toNat = 1 by decide, Nat.and_one_is_mod]
    have e : ((2 ^ 64 : Nat) : Int) = 18446744073709551616 := by decide
    rw [e]
    omega
  show IntKind.i64.wrap ((BitVec.ofInt 64 a &&& BitVec.ofInt 64 1).toNat : Int) = a % 2
  rw [h]
  obtain h | h : a % 2 = 0 ∨ a % 2 = 1 := by omega
  all_goals rw [h]; decide

/-- whether a set has a number -/
def hasB (x : Int) (n : Nat) : Bool := decide (x / 2 ^ n % 2 = 1)

set_option maxHeartbeats 400000 in
theorem has_any (x : Int) (n : Nat) (w : World) (hn : n ≤ 8) : Calls Tryz.prog 83 #[.int .i64 x, .int .i64 n] w fun e w' => e = .returned (.bool (hasB x n)) ∧ w' = w := by
  go_enter Tryz.func83, Tryz.ntmps83
  go_wp2
  go_ret
  rw [bits_one]
  refine ⟨?_, rfl⟩
  by_cases h : x / 2 ^ n % 2 = 1 <;> simp [hasB, h]


/-- the digits of a set, of the first k numbers -/
def digitsL (x : Int) : Nat → List UInt8
  | 0 => []
  | k + 1 => digitsL x k ++ if hasB x k then [UInt8.ofNat (48 + k)] else []

theorem digitsL_length (x : Int) : ∀ k, (digitsL x k).length ≤ k
  | 0 => Nat.le_refl _
  | k + 1 => by
    have := digitsL_length x k
    rw [digitsL, List.length_append]
    split <;> simp <;> omega

set_option maxHeartbeats 1000000 in
theorem digits_any (x : Int) (w : World) : Calls Tryz.prog 70 #[.int .i64 x] w fun e w' => e = .returned (.string ⟨(digitsL x 9).toArray⟩) ∧ Below w.heap.size w w' := by
  have hb0 : Below w.heap.size w (w.alloc (.cells #[.pointer none, .slice none 0 0] 92)) := (Below.refl _ _).alloc (Nat.le_refl _) _
  have hI0 : Lib.IsBuilder 92 5 w.heap.size w.heap.size (Lib.byteCells (digitsL x 0)) (w.alloc (.cells #[.pointer none, .slice none 0 0] 92)) :=
    Or.inl ⟨Nat.le_refl _, .slice none 0 0, by rw [← World.alloc_eq]; simp, World.ownsRow_nil _ _ _ _, by simp [Value.ownBlock]⟩
  go_enter Tryz.func70, Tryz.ntmps70
  go_wp2_with fail
  go_loopg [5] 9 (fun gk s5 wr => ∃ k : Nat, k ≤ 9 ∧ 9 - k ≤ gk ∧ s5 = .int .i64 k ∧ Below w.heap.size w wr ∧ Lib.IsBuilder 92 5 w.heap.size w.heap.size (Lib.byteCells (digitsL x k)) wr)
  case atStart => exact ⟨0, by omega, by omega, rfl, hb0, hI0⟩
  case round =>
    obtain ⟨k, hk, hg, rfl, hbr, hI⟩ := hrel
    have HI : Hid (Lib.IsBuilder 92 5 w.heap.size w.heap.size (Lib.byteCells (digitsL x k)) wr) := hI
    have HG : Hid (9 - k ≤ gk) := hg
    clear hI hg
    have hsz := hbr.size
    have hl := digitsL_length x k
    by_cases hlt : k < 9
    · have hq : (k : Int) < 9 := by omega
      have hq0 : (0 : Int) ≤ (k : Int) := by omega
      by_cases hh : hasB x k = true
      · go_wp2_with fail
        refine (has_any x k _ (by omega)).mono ?_
        rintro e w' ⟨rfl, hw⟩
        have hw2 := hw.symm
        subst hw2
        rw [hh]
        go_wp2_with fail
        refine (Tryz.Builder_WriteByte w.heap.size w.heap.size _ (48 + k) _ HI.out (by rw [Lib.byteCells_length]; omega) hsz).mono ?_
        rintro e w1 ⟨rfl, hA, hb1⟩
        go_wp2_with fail
        go_roundg (gk - 1)
        case measure => have := HG.out; omega
        case rel =>
          have := HG.out
          refine ⟨k + 1, by omega, by omega, by go_num, hbr.trans hb1, Or.inr ?_⟩
          have hd : Lib.byteCells (digitsL x (k + 1)) = Lib.byteCells (digitsL x k) ++ [.int .u8 (48 + k)] := by
            rw [digitsL, if_pos hh]
            simp [Lib.byteCells]
            omega
          rw [hd]
          exact hA
      · have hh2 : hasB x k = false := by simpa using hh
        go_wp2_with fail
        refine (has_any x k _ (by omega)).mono ?_
        rintro e w' ⟨rfl, hw⟩
        have hw2 := hw.symm
        subst hw2
        rw [hh2]
        go_wp2_with fail
        go_roundg (gk - 1)
        case measure => have := HG.out; omega
        case rel =>
          have := HG.out
          refine ⟨k + 1, by omega, by omega, by go_num, hbr, ?_⟩
          have hd : digitsL x (k + 1) = digitsL x k := by rw [digitsL, if_neg (by simp [hh2]), List.append_nil]
          rw [hd]
          exact HI.out
    · have hk9 : k = 9 := by omega
      subst hk9
      go_wp2_with fail
      refine (Tryz.Builder_String_any w.heap.size w.heap.size (digitsL x 9) _ HI.out hsz).mono ?_
      rintro e w1 ⟨rfl, hb1⟩
      go_wp2_with fail
      go_ret
      exact ⟨rfl, hbr.trans hb1⟩

/-- whether a number is a set of the numbers from 0 to 8 -/
def withinB (x : Int) : Bool := decide (0 ≤ x) && decide (x < 512)
/-- whether a rule is one -/
def goodB (b l : Int) : Bool := withinB b && withinB l && !hasB b 0

set_option maxHeartbeats 400000 in
theorem within_any (x : Int) (w : World) : Calls Tryz.prog 88 #[.int .i64 x] w fun e w' => e = .returned (.bool (withinB x)) ∧ w' = w := by
  by_cases h0 : 0 ≤ x
  · by_cases h1 : x < 512
    · go_enter Tryz.func88, Tryz.ntmps88
      go_wp2
      go_ret
      exact ⟨by simp [withinB, h0, h1], rfl⟩
    · go_enter Tryz.func88, Tryz.ntmps88
      go_wp2
      go_ret
      exact ⟨by simp [withinB, h1], rfl⟩
  · go_enter Tryz.func88, Tryz.ntmps88
    go_wp2
    go_ret
    exact ⟨by simp [withinB]; omega, rfl⟩

set_option maxHeartbeats 1000000 in
theorem good_any (b l : Int) (w : World) : Calls Tryz.prog 69 #[.agg #[.int .i64 b, .int .i64 l]] w fun e w' => e = .returned (.bool (goodB b l)) ∧ Below w.heap.size w w' := by
  have hw1 := fun W => within_any b W
  have hw2 := fun W => within_any l W
  have hw3 := fun W => has_any b 0 W (by omega)
  have hg : goodB b l = (withinB b && withinB l && !hasB b 0) := rfl
  generalize goodB b l = g at hg
  generalize withinB b = p at *
  generalize withinB l = q at *
  generalize hasB b 0 = r at *
  cases p <;> cases q <;> cases r
  all_goals
    simp at hg
    subst hg
    go_enter Tryz.func69, Tryz.ntmps69
    go_wp2_with (first | (go_at_call_of 88 b; refine (hw1 _).mono ?_; rintro e w' ⟨rfl, hw⟩; have hw2 := hw.symm; subst hw2) | (go_at_call 88; refine (hw2 _).mono ?_; rintro e w' ⟨rfl, hw⟩; have hw2 := hw.symm; subst hw2) | (go_at_call 83; refine (hw3 _).mono ?_; rintro e w' ⟨rfl, hw⟩; have hw2 := hw.symm; subst hw2))
  all_goals go_ret
  all_goals exact ⟨rfl, (Below.refl _ _).alloc (Nat.le_refl _) _⟩

theorem even_tmod (x : Int) (h0 : 0 ≤ x) : (x.tmod 2 == 0) = !hasB x 0 := by
  rw [Int.tmod_eq_emod_of_nonneg h0, hasB]
  simp only [Int.pow_zero, Int.ediv_one]
  by_cases h : x % 2 = 1
  · rw [h]; simp
  · have : x % 2 = 0 := by omega
    rw [this]; simp

/-- a rule's text -/
def textL (b l : Int) : List UInt8 := 66 :: digitsL b 9 ++ (47 :: 83 :: digitsL l 9)
/-- what Text answers -/
def textV (b l : Int) : Value := if goodB b l then .tuple #[.string ⟨(textL b l).toArray⟩, .int .i64 0] else .tuple #[.string ⟨#[]⟩, .int .i64 3]

theorem pair_go {w w1 w2 : World} {g : Nat} {x y : Value} (hs : w1.cell? ⟨g, 0, none⟩ = some x ∧ w1.cell? ⟨g, 1, none⟩ = some y ∧ g < w1.heap.size ∧ Below g w w1) (h : Below w1.heap.size w1 w2) :
    w2.cell? ⟨g, 0, none⟩ = some x ∧ w2.cell? ⟨g, 1, none⟩ = some y ∧ g < w2.heap.size ∧ Below g w w2 :=
  ⟨(h.cell (p := ⟨g, 0, none⟩) hs.2.2.1).trans hs.1, (h.cell (p := ⟨g, 1, none⟩) hs.2.2.1).trans hs.2.1, Nat.lt_of_lt_of_le hs.2.2.1 h.size, hs.2.2.2.trans (h.mono (Nat.le_of_lt hs.2.2.1))⟩
theorem pair_born (w : World) (x y : Value) (t : TypeId) : (w.alloc (.cells #[x, y] t)).cell? ⟨w.heap.size, 0, none⟩ = some x ∧ (w.alloc (.cells #[x, y] t)).cell? ⟨w.heap.size, 1, none⟩ = some y ∧ w.heap.size < (w.alloc (.cells #[x, y] t)).heap.size ∧ Below w.heap.size w (w.alloc (.cells #[x, y] t)) :=
  ⟨by rw [World.cell?_alloc_new]; rfl, by rw [World.cell?_alloc_new]; rfl, by simp, (Below.refl _ _).alloc (Nat.le_refl _) _⟩
theorem pair_drew {w w1 : World} {g : Nat} {x y : Value} (hs : w1.cell? ⟨g, 0, none⟩ = some x ∧ w1.cell? ⟨g, 1, none⟩ = some y ∧ g < w1.heap.size ∧ Below g w w1) :
    w1.drew.cell? ⟨g, 0, none⟩ = some x ∧ w1.drew.cell? ⟨g, 1, none⟩ = some y ∧ g < w1.drew.heap.size ∧ Below g w w1.drew := ⟨hs.1, hs.2.1, hs.2.2.1, hs.2.2.2.drew⟩

set_option maxHeartbeats 1000000 in
theorem text_any (b l : Int) (w : World) : Calls Tryz.prog 46 #[.agg #[.int .i64 b, .int .i64 l]] w fun e w' => e = .returned (textV b l) ∧ Below w.heap.size w w' := by
  have h0 := pair_born w (.int .i64 b) (.int .i64 l) 23
  by_cases hg : goodB b l = true
  · have hv : textV b l = .tuple #[.string ⟨(textL b l).toArray⟩, .int .i64 0] := by rw [textV, if_pos hg]
    rw [hv]
    have hd1 := fun W => digits_any b W
    have hd2 := fun W => digits_any l W
    have hs1 : (ByteArray.mk (digitsL b 9).toArray).size ≤ 9 := by rw [ByteArray.size_mk', List.size_toArray]; exact digitsL_length b 9
    have hs2 : (ByteArray.mk (digitsL l 9).toArray).size ≤ 9 := by rw [ByteArray.size_mk', List.size_toArray]; exact digitsL_length l 9
    have ht : (ByteArray.mk (textL b l).toArray) = ByteArray.mk #[66] ++ ByteArray.mk (digitsL b 9).toArray ++ ByteArray.mk #[47, 83] ++ ByteArray.mk (digitsL l 9).toArray := by
      apply ByteArray.ext
      simp [ByteArray.data_append, textL]
    rw [ht]
    generalize ByteArray.mk (digitsL b 9).toArray = d1 at *
    generalize ByteArray.mk (digitsL l 9).toArray = d2 at *
    have hc1 : ¬ 9223372036854775807 < 1 + d1.size := by omega
    have hc2 : ¬ 9223372036854775807 < 1 + d1.size + 2 := by omega
    have hc3 : ¬ 9223372036854775807 < 1 + d1.size + 2 + d2.size := by omega
    clear ht hv
    go_enter Tryz.func46, Tryz.ntmps46
    go_wp2_with fail
    refine (good_any b l _).mono ?_
    rintro e w1 ⟨rfl, hb1⟩
    have h1 := pair_drew (pair_go h0 hb1)
    clear h0 hb1
    rw [hg]
    go_wp2_with fail
    go_region_held3 (fun w' => w'.cell? ⟨w.heap.size, 0, none⟩ = some (.int .i64 b) ∧ w'.cell? ⟨w.heap.size, 1, none⟩ = some (.int .i64 l) ∧ w.heap.size < w'.heap.size ∧ Below w.heap.size w w') (first | exact h1 | exact pair_go (by assumption) hb | exact pair_go h1 hb)
      (first | (go_at_call_of 70 b; refine (hd1 _).mono ?_; rintro e w' ⟨rfl, hb⟩) | (go_at_call_of 70 l; refine (hd2 _).mono ?_; rintro e w' ⟨rfl, hb⟩))
    rename_i hH
    go_wp2_with fail
    go_ret2
    exact ⟨rfl, hH.2.2.2⟩
  · have hg2 : goodB b l = false := by simpa using hg
    go_enter Tryz.func46, Tryz.ntmps46
    go_wp2_with fail
    refine (good_any b l _).mono ?_
    rintro e w1 ⟨rfl, hb1⟩
    rw [hg2]
    go_wp2_with fail
    go_ret2
    exact ⟨by rw [textV, if_neg hg]; rfl, (pair_go h0 hb1).2.2.2⟩
end Go.Proofs.YtpghbchbhjbbiaaGreatDoor
