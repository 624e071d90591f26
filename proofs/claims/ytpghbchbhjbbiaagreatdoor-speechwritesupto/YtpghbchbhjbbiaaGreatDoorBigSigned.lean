/- The document's reading of a signed number. -/
import Derived.Test.YtpghbchbhjbbiaaGreatDoorBigStr
namespace Go.Proofs.YtpghbchbhjbbiaaGreatDoor
open Go.RowKit

/-- a number by its sign and size -/
def sgV (neg : Bool) (n : Nat) : Int := if neg = true then -(n : Int) else (n : Int)
/-- what signed answers -/
def signedF (l : List UInt8) : Int × Bool :=
  if okD (signOf l).2 = true ∧ Lib.itoa (sgV (signOf l).1 (decV (signOf l).2)) = l ∧ decV (signOf l).2 < 1000000000000000000 then (sgV (signOf l).1 (decV (signOf l).2), true) else (0, false)
theorem string_any (D0 b : Nat) (neg : Bool) (n : Nat) (w : World) (h : IsSg b neg n w) (hn : n < 10 ^ D0) (hD0 : D0 ≤ 7000) :
    Calls Tryz.prog 42 #[.pointer (some ⟨b, 0, none⟩)] w fun e w' => e = .returned (.string ⟨(Lib.itoa (sgV neg n)).toArray⟩) ∧ Below w.heap.size w w' := by
  have ht : Calls Tryz.prog 65 #[.pointer (some ⟨b, 0, none⟩), .int .i64 10] w fun e w' => e = .returned (.string ⟨(Lib.itoa (sgV neg n)).toArray⟩) ∧ Below w.heap.size w w' := by
    unfold IsSg at h
    by_cases hc : neg = true ∧ n ≠ 0
    · rw [if_pos hc] at h
      have := textN_any D0 b n w h hc.2 hn hD0
      rwa [show sgV neg n = -(n : Int) by unfold sgV; rw [if_pos hc.1]]
    · rw [if_neg hc] at h
      have := text_any' D0 b n w h hn hD0
      rwa [show sgV neg n = (n : Int) by
        unfold sgV
        by_cases hg : neg = true
        · rw [if_pos hg]
          have : n = 0 := by
            rcases Nat.eq_zero_or_pos n with e | e
            · exact e
            · exact absurd ⟨hg, by omega⟩ hc
          subst this
          rfl
        · rw [if_neg hg]]
  clear h
  generalize (⟨(Lib.itoa (sgV neg n)).toArray⟩ : ByteArray) = T at *
  go_enter Tryz.func42, Tryz.ntmps42
  go_wp2_with fail
  refine ht.mono ?_
  rintro e w1 ⟨rfl, hb1⟩
  go_wp2_with fail
  go_ret
  exact ⟨rfl, hb1⟩
theorem IsSg.parts {b : Nat} {neg : Bool} {n : Nat} {w : World} (h : IsSg b neg n w) : ∃ x v, w.heap[b]? = some (.cells #[.bool x, v] 70 (0, 0)) ∧ Wd w (b + 1) v n ∧ x = (neg && decide (n ≠ 0)) := by
  unfold IsSg at h
  by_cases hc : neg = true ∧ n ≠ 0
  · rw [if_pos hc] at h
    obtain ⟨v, h1, h2⟩ := h
    exact ⟨true, v, h1, h2, by rw [hc.1]; simp [hc.2]⟩
  · rw [if_neg hc] at h
    obtain ⟨v, h1, h2⟩ := h
    refine ⟨false, v, h1, h2, ?_⟩
    cases neg with
    | false => rfl
    | true =>
      have : n = 0 := by
        rcases Nat.eq_zero_or_pos n with e | e
        · exact e
        · exact absurd ⟨rfl, by omega⟩ hc
      simp [this]
theorem IsSg.go {b : Nat} {neg : Bool} {n : Nat} {w w' : World} (h : IsSg b neg n w) (hb : Below w.heap.size w w') : IsSg b neg n w' := by
  unfold IsSg at *
  by_cases hc : neg = true ∧ n ≠ 0
  · rw [if_pos hc] at *
    obtain ⟨v, h1, h2⟩ := h
    exact ⟨v, (hb.block b (Array.getElem?_eq_some_iff.1 h1).1).trans h1, h2.below hb⟩
  · rw [if_neg hc] at *
    exact IsInt.go h hb
theorem cmpAbs_any (b b' : Nat) (neg neg' : Bool) (n m : Nat) (w : World) (h : IsSg b neg n w) (h' : IsSg b' neg' m w) :
    Calls Tryz.prog 43 #[.pointer (some ⟨b, 0, none⟩), .pointer (some ⟨b', 0, none⟩)] w fun e w' => e = .returned (.int .i64 (cmpW n m)) ∧ Below w.heap.size w w' := by
  obtain ⟨x, u, h1, hu, _⟩ := h.parts
  obtain ⟨x', v, h2, hv, _⟩ := h'.parts
  have c1 : w.drew.cell? ⟨b, 1, none⟩ = some u := (show w.cell? ⟨b, 1, none⟩ = some u by rw [Lib.cell_of_heap h1]; rfl)
  have c2 : w.drew.cell? ⟨b', 1, none⟩ = some v := (show w.cell? ⟨b', 1, none⟩ = some v by rw [Lib.cell_of_heap h2]; rfl)
  have hc := cmp_any (b + 1) (b' + 1) n m u v w.drew hu hv
  clear h1 h2 hu hv h h'
  go_enter Tryz.func43, Tryz.ntmps43
  go_wp2_with fail
  go_region_held3 (fun W => W.cell? ⟨b, 1, none⟩ = some u ∧ W.cell? ⟨b', 1, none⟩ = some v) (first | exact ⟨c1, c2⟩ | exact hk5)
    (first | (go_at_call 66; refine hc.mono ?_; rintro e w5 ⟨rfl, q5, rfl⟩; have hk5 : (w.drew.drewN q5).cell? ⟨b, 1, none⟩ = some u ∧ (w.drew.drewN q5).cell? ⟨b', 1, none⟩ = some v := ⟨c1, c2⟩))
  all_goals (go_wp2_with fail; go_ret; exact ⟨rfl, drewB w _⟩)
end Go.Proofs.YtpghbchbhjbbiaaGreatDoor
