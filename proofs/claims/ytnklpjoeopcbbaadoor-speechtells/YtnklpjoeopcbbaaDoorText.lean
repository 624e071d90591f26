/- rule.digits: the digits of a set, rising. -/
import Derived.Test.YtnklpjoeopcbbaaDoorLives
import Derived.Test.YtnklpjoeopcbbaaDoorStr
import Derived.Deep.LoopGhost
import Derived.Deep.RegionHeld3
namespace Go.Proofs.YtnklpjoeopcbbaaDoor
open Go.RowKit

theorem writeByte_any (B b : Nat) (bs : List Value) (c : Int) (w : World) (h : Lib.IsBuilder 70 5 B b bs w) (hlen : bs.length + 1 ≤ 140737488355328) (hBw : B ≤ w.heap.size) :
    Calls Tryd.prog 67 #[.pointer (some ⟨b, 0, none⟩), .int .u8 c] w fun e w' => e = .returned .nilIface ∧ (Lib.BuilderAt 70 5 B b (.pointer (some ⟨b, 0, none⟩)) (bs ++ [.int .u8 c]) w' ∧ Below B w w') :=
  Any.Builder_WriteByte Tryd.writeByte Tryd.builderX B b bs c w h hlen hBw
theorem builderString_any (B b : Nat) (l : List UInt8) (w : World) (h : Lib.IsBuilder 70 5 B b (Lib.byteCells l) w) (hBw : B ≤ w.heap.size) :
    Calls Tryd.prog 45 #[.pointer (some ⟨b, 0, none⟩)] w fun e w' => e = .returned (.string ⟨l.toArray⟩) ∧ Below B w w' :=
  Any.Builder_String_any Tryd.builderString Tryd.builderX B b l w h hBw

/-- the digits of a set, of the first k numbers -/
def digitsL (x : Int) : Nat → List UInt8
  | 0 => []
  | k + 1 => digitsL x k ++ if hasB x k then [UInt8.ofNat (48 + k)] else []

theorem digitsL_length (x : Int) : ∀ k, (digitsL x k).length ≤ k
  | 0 => Nat.le_refl _
  | k + 1 => by
    have := digitsL_length x k
    rw [digitsL, List.length_append]
    split <;> simp <;> omega

set_option maxHeartbeats 1000000 in
theorem digits_any (x : Int) (w : World) : Calls Tryd.prog 63 #[.int .i64 x] w fun e w' => e = .returned (.string ⟨(digitsL x 9).toArray⟩) ∧ Below w.heap.size w w' := by
  have hb0 : Below w.heap.size w (w.alloc (.cells #[.pointer none, .slice none 0 0] 70)) := (Below.refl _ _).alloc (Nat.le_refl _) _
  have hI0 : Lib.IsBuilder 70 5 w.heap.size w.heap.size (Lib.byteCells (digitsL x 0)) (w.alloc (.cells #[.pointer none, .slice none 0 0] 70)) :=
    Or.inl ⟨Nat.le_refl _, .slice none 0 0, by rw [← World.alloc_eq]; simp, World.ownsRow_nil _ _ _ _, by simp [Value.ownBlock]⟩
  go_enter Tryd.func63, Tryd.ntmps63
  go_wp2_with fail
  go_loopg [5] 9 (fun gk s5 wr => ∃ k : Nat, k ≤ 9 ∧ 9 - k ≤ gk ∧ s5 = .int .i64 k ∧ Below w.heap.size w wr ∧ Lib.IsBuilder 70 5 w.heap.size w.heap.size (Lib.byteCells (digitsL x k)) wr)
  case atStart => exact ⟨0, by omega, by omega, rfl, hb0, hI0⟩
  case round =>
    obtain ⟨k, hk, hg, rfl, hbr, hI⟩ := hrel
    have HI : Hid (Lib.IsBuilder 70 5 w.heap.size w.heap.size (Lib.byteCells (digitsL x k)) wr) := hI
    have HG : Hid (9 - k ≤ gk) := hg
    clear hI hg
    have hsz := hbr.size
    have hl := digitsL_length x k
    by_cases hlt : k < 9
    · have hq : (k : Int) < 9 := by omega
      have hq0 : (0 : Int) ≤ (k : Int) := by omega
      by_cases hh : hasB x k = true
      · go_wp2_with fail
        refine (has_any x k _ (by omega)).mono ?_
        rintro e w' ⟨rfl, hw⟩
        have hw2 := hw.symm
        subst hw2
        rw [hh]
        go_wp2_with fail
        refine (writeByte_any w.heap.size w.heap.size _ (48 + k) _ HI.out (by rw [Lib.byteCells_length]; omega) hsz).mono ?_
        rintro e w1 ⟨rfl, hA, hb1⟩
        go_wp2_with fail
        go_roundg (gk - 1)
        case measure => have := HG.out; omega
        case rel =>
          have := HG.out
          refine ⟨k + 1, by omega, by omega, by go_num, hbr.trans hb1, Or.inr ?_⟩
          have hd : Lib.byteCells (digitsL x (k + 1)) = Lib.byteCells (digitsL x k) ++ [.int .u8 (48 + k)] := by
            rw [digitsL, if_pos hh]
            simp [Lib.byteCells]
            omega
          rw [hd]
          exact hA
      · have hh2 : hasB x k = false := by simpa using hh
        go_wp2_with fail
        refine (has_any x k _ (by omega)).mono ?_
        rintro e w' ⟨rfl, hw⟩
        have hw2 := hw.symm
        subst hw2
        rw [hh2]
        go_wp2_with fail
        go_roundg (gk - 1)
        case measure => have := HG.out; omega
        case rel =>
          have := HG.out
          refine ⟨k + 1, by omega, by omega, by go_num, hbr, ?_⟩
          have hd : digitsL x (k + 1) = digitsL x k := by rw [digitsL, if_neg (by simp [hh2]), List.append_nil]
          rw [hd]
          exact HI.out
    · have hk9 : k = 9 := by omega
      subst hk9
      go_wp2_with fail
      refine (builderString_any w.heap.size w.heap.size (digitsL x 9) _ HI.out hsz).mono ?_
      rintro e w1 ⟨rfl, hb1⟩
      go_wp2_with fail
      go_ret
      exact ⟨rfl, hbr.trans hb1⟩

/-- whether a number is a set of the numbers from 0 to 8 -/
def withinB (x : Int) : Bool := decide (0 ≤ x) && decide (x < 512)
/-- whether a rule is one -/
def goodB (b l : Int) : Bool := withinB b && withinB l && !hasB b 0

set_option maxHeartbeats 400000 in
theorem within_any (x : Int) (w : World) : Calls Tryd.prog 86 #[.int .i64 x] w fun e w' => e = .returned (.bool (withinB x)) ∧ w' = w := by
  by_cases h0 : 0 ≤ x
  · by_cases h1 : x < 512
    · go_enter Tryd.func86, Tryd.ntmps86
      go_wp2
      go_ret
      exact ⟨by simp [withinB, h0, h1], rfl⟩
    · go_enter Tryd.func86, Tryd.ntmps86
      go_wp2
      go_ret
      exact ⟨by simp [withinB, h1], rfl⟩
  · go_enter Tryd.func86, Tryd.ntmps86
    go_wp2
    go_ret
    exact ⟨by simp [withinB]; omega, rfl⟩

set_option maxHeartbeats 1000000 in
theorem good_any (b l : Int) (w : World) : Calls Tryd.prog 62 #[.agg #[.int .i64 b, .int .i64 l]] w fun e w' => e = .returned (.bool (goodB b l)) ∧ Below w.heap.size w w' := by
  have hw1 := fun W => within_any b W
  have hw2 := fun W => within_any l W
  have hw3 := fun W => has_any b 0 W (by omega)
  have hg : goodB b l = (withinB b && withinB l && !hasB b 0) := rfl
  generalize goodB b l = g at hg
  generalize withinB b = p at *
  generalize withinB l = q at *
  generalize hasB b 0 = r at *
  cases p <;> cases q <;> cases r
  all_goals
    simp at hg
    subst hg
    go_enter Tryd.func62, Tryd.ntmps62
    go_wp2_with (first | (go_at_call_of 86 b; refine (hw1 _).mono ?_; rintro e w' ⟨rfl, hw⟩; have hw2 := hw.symm; subst hw2) | (go_at_call 86; refine (hw2 _).mono ?_; rintro e w' ⟨rfl, hw⟩; have hw2 := hw.symm; subst hw2) | (go_at_call 87; refine (hw3 _).mono ?_; rintro e w' ⟨rfl, hw⟩; have hw2 := hw.symm; subst hw2))
  all_goals go_ret
  all_goals exact ⟨rfl, (Below.refl _ _).alloc (Nat.le_refl _) _⟩

theorem even_tmod (x : Int) (h0 : 0 ≤ x) : (x.tmod 2 == 0) = !hasB x 0 := by
  rw [Int.tmod_eq_emod_of_nonneg h0, hasB]
  simp only [Int.pow_zero, Int.ediv_one]
  by_cases h : x % 2 = 1
  · rw [h]; simp
  · have : x % 2 = 0 := by omega
    rw [this]; simp

/-- a rule's text -/
def textL (b l : Int) : List UInt8 := 66 :: digitsL b 9 ++ (47 :: 83 :: digitsL l 9)
/-- what Text answers -/
def textV (b l : Int) : Value := if goodB b l then .tuple #[.string ⟨(textL b l).toArray⟩, .int .i64 0] else .tuple #[.string ⟨#[]⟩, .int .i64 3]

theorem pair_go {w w1 w2 : World} {g : Nat} {x y : Value} (hs : w1.cell? ⟨g, 0, none⟩ = some x ∧ w1.cell? ⟨g, 1, none⟩ = some y ∧ g < w1.heap.size ∧ Below g w w1) (h : Below w1.heap.size w1 w2) :
    w2.cell? ⟨g, 0, none⟩ = some x ∧ w2.cell? ⟨g, 1, none⟩ = some y ∧ g < w2.heap.size ∧ Below g w w2 :=
  ⟨(h.cell (p := ⟨g, 0, none⟩) hs.2.2.1).trans hs.1, (h.cell (p := ⟨g, 1, none⟩) hs.2.2.1).trans hs.2.1, Nat.lt_of_lt_of_le hs.2.2.1 h.size, hs.2.2.2.trans (h.mono (Nat.le_of_lt hs.2.2.1))⟩
theorem pair_born (w : World) (x y : Value) (t : TypeId) : (w.alloc (.cells #[x, y] t)).cell? ⟨w.heap.size, 0, none⟩ = some x ∧ (w.alloc (.cells #[x, y] t)).cell? ⟨w.heap.size, 1, none⟩ = some y ∧ w.heap.size < (w.alloc (.cells #[x, y] t)).heap.size ∧ Below w.heap.size w (w.alloc (.cells #[x, y] t)) :=
  ⟨by rw [World.cell?_alloc_new]; rfl, by rw [World.cell?_alloc_new]; rfl, by simp, (Below.refl _ _).alloc (Nat.le_refl _) _⟩
theorem pair_drew {w w1 : World} {g : Nat} {x y : Value} (hs : w1.cell? ⟨g, 0, none⟩ = some x ∧ w1.cell? ⟨g, 1, none⟩ = some y ∧ g < w1.heap.size ∧ Below g w w1) :
    w1.drew.cell? ⟨g, 0, none⟩ = some x ∧ w1.drew.cell? ⟨g, 1, none⟩ = some y ∧ g < w1.drew.heap.size ∧ Below g w w1.drew := ⟨hs.1, hs.2.1, hs.2.2.1, hs.2.2.2.drew⟩

set_option maxHeartbeats 1000000 in
theorem text_any (b l : Int) (w : World) : Calls Tryd.prog 42 #[.agg #[.int .i64 b, .int .i64 l]] w fun e w' => e = .returned (textV b l) ∧ Below w.heap.size w w' := by
  have h0 := pair_born w (.int .i64 b) (.int .i64 l) 27
  by_cases hg : goodB b l = true
  · have hv : textV b l = .tuple #[.string ⟨(textL b l).toArray⟩, .int .i64 0] := by rw [textV, if_pos hg]
    rw [hv]
    have hd1 := fun W => digits_any b W
    have hd2 := fun W => digits_any l W
    have hs1 : (ByteArray.mk (digitsL b 9).toArray).size ≤ 9 := by rw [ByteArray.size_mk', List.size_toArray]; exact digitsL_length b 9
    have hs2 : (ByteArray.mk (digitsL l 9).toArray).size ≤ 9 := by rw [ByteArray.size_mk', List.size_toArray]; exact digitsL_length l 9
    have ht : (ByteArray.mk (textL b l).toArray) = ByteArray.mk #[66] ++ ByteArray.mk (digitsL b 9).toArray ++ ByteArray.mk #[47, 83] ++ ByteArray.mk (digitsL l 9).toArray := by
      apply ByteArray.ext
      simp [ByteArray.data_append, textL]
    rw [ht]
    generalize ByteArray.mk (digitsL b 9).toArray = d1 at *
    generalize ByteArray.mk (digitsL l 9).toArray = d2 at *
    have hc1 : ¬ 9223372036854775807 < 1 + d1.size := by omega
    have hc2 : ¬ 9223372036854775807 < 1 + d1.size + 2 := by omega
    have hc3 : ¬ 9223372036854775807 < 1 + d1.size + 2 + d2.size := by omega
    clear ht hv
    go_enter Tryd.func42, Tryd.ntmps42
    go_wp2_with fail
    refine (good_any b l _).mono ?_
    rintro e w1 ⟨rfl, hb1⟩
    have h1 := pair_drew (pair_go h0 hb1)
    clear h0 hb1
    rw [hg]
    go_wp2_with fail
    go_region_held3 (fun w' => w'.cell? ⟨w.heap.size, 0, none⟩ = some (.int .i64 b) ∧ w'.cell? ⟨w.heap.size, 1, none⟩ = some (.int .i64 l) ∧ w.heap.size < w'.heap.size ∧ Below w.heap.size w w') (first | exact h1 | exact pair_go (by assumption) hb | exact pair_go h1 hb)
      (first | (go_at_call_of 63 b; refine (hd1 _).mono ?_; rintro e w' ⟨rfl, hb⟩) | (go_at_call_of 63 l; refine (hd2 _).mono ?_; rintro e w' ⟨rfl, hb⟩))
    rename_i hH
    go_wp2_with fail
    go_ret2
    exact ⟨rfl, hH.2.2.2⟩
  · have hg2 : goodB b l = false := by simpa using hg
    go_enter Tryd.func42, Tryd.ntmps42
    go_wp2_with fail
    refine (good_any b l _).mono ?_
    rintro e w1 ⟨rfl, hb1⟩
    rw [hg2]
    go_wp2_with fail
    go_ret2
    exact ⟨by rw [textV, if_neg hg]; rfl, (pair_go h0 hb1).2.2.2⟩
end Go.Proofs.YtnklpjoeopcbbaaDoor
