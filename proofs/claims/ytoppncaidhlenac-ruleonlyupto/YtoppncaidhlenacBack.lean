/- RuleBack: the walk of the law itself. -/
import Derived.Test.YtoppncaidhlenacReads
namespace Go.Proofs.Ytoppncaidhlenac
open Go.RowKit

theorem rule_eq (a b x y : Int) (w : World) : (binOp .eql 23 (.agg #[.int .i64 a, .int .i64 b]) (.agg #[.int .i64 x, .int .i64 y])).run Try.prog w = .ok (.bool (decide ((a, b) = (x, y)))) w := by
  have hS : Try.prog.underlying 23 = some (.struct (Try.prog.fieldsOf 23)) := by kernel_rfl
  have hp : Try.prog.stoodInHeld 23 = false := by kernel_rfl
  rw [run_eql_struct, show (10000 : Nat) = 9999 + 1 from rfl, run_equalIn_agg w 9999 23 _ _ hS hp]
  simp only [Program.fieldsOf, Try.underlying23]
  go_simp
  by_cases h1 : a = x <;> by_cases h2 : b = y <;> simp [h1, h2]

set_option maxRecDepth 20000 in
theorem num_table : ∀ n : Fin 512, numF 0 (digitsL (n.val : Int) 9) = some (n.val : Int) := by decide +kernel
theorem num_digits {x : Int} (h0 : 0 ≤ x) (h1 : x < 512) : numF 0 (digitsL x 9) = some x := by
  obtain ⟨n, rfl⟩ := Int.eq_ofNat_of_zero_le h0
  exact num_table ⟨n, by omega⟩
theorem digits_no (x : Int) : ∀ k, k ≤ 9 → ∀ d ∈ digitsL x k, d ≠ 47
  | 0, _, d, h => by simp [digitsL] at h
  | k + 1, hk, d, h => by
    rw [digitsL, List.mem_append] at h
    rcases h with h | h
    · exact digits_no x k (by omega) d h
    · split at h
      · rw [List.mem_singleton] at h
        subst h
        have hm : k = 0 ∨ k = 1 ∨ k = 2 ∨ k = 3 ∨ k = 4 ∨ k = 5 ∨ k = 6 ∨ k = 7 ∨ k = 8 := by omega
        rcases hm with rfl | rfl | rfl | rfl | rfl | rfl | rfl | rfl | rfl <;> decide
      · cases h
theorem index_at : ∀ (D r : List UInt8), (∀ d ∈ D, d ≠ 47) → Lib.index (D ++ 47 :: 83 :: r) [47, 83] = D.length
  | [], r, _ => by simp [Lib.index, List.isPrefixOf]
  | d :: D, r, h => by
    have hd := h d (by simp)
    have ih := index_at D r (fun e he => h e (List.mem_cons_of_mem _ he))
    rw [List.cons_append, Lib.index, ih]
    have hp : [47, 83].isPrefixOf (d :: (D ++ 47 :: 83 :: r)) = false := by simp [List.isPrefixOf]; intro e; exact absurd e.symm hd
    rw [hp]
    simp
theorem cut_at (D r : List UInt8) (h : ∀ d ∈ D, d ≠ 47) : Lib.cut (D ++ 47 :: 83 :: r) [47, 83] = (D, r, true) := by
  unfold Lib.cut
  rw [index_at D r h, if_pos (by omega)]
  simp
theorem read_text {b l : Int} (hg : goodB b l = true) : readF (textL b l) = (b, l, 0) := by
  have hx : 0 ≤ b ∧ 0 ≤ l ∧ b < 512 ∧ l < 512 ∧ hasB b 0 = false := by
    simp [goodB, withinB] at hg
    exact ⟨by omega, by omega, by omega, by omega, hg.2⟩
  obtain ⟨h1, h2, h3, h4, h5⟩ := hx
  have e1 : Lib.trimPrefix (textL b l) [66] = digitsL b 9 ++ 47 :: 83 :: digitsL l 9 := by simp [Lib.trimPrefix, Lib.hasPrefix, textL, List.isPrefixOf]
  have e2 : Lib.hasPrefix (textL b l) [66] = true := by simp [Lib.hasPrefix, textL, List.isPrefixOf]
  unfold readF
  rw [e1, e2, cut_at _ _ (digits_no b 9 (by omega))]
  simp [num_digits h1 h3, num_digits h2 h4, h5]
theorem read_none : readF [] = (0, 0, 2) := by decide

set_option linter.unusedSimpArgs false in
set_option maxRecDepth 4000 in
set_option maxHeartbeats 2000000 in
theorem back_any (b l m : Int) (w : World) (hm : w.cell? ⟨0, 0, none⟩ = some (.int .i64 m)) :
    Calls Try.prog 3 #[.agg #[.int .i64 b, .int .i64 l]] w fun e w' => e = .returned (.bool true) ∧ Below w.heap.size w w' := by
  have h0 : 0 < w.heap.size := cell_lt hm
  have q0 := RuleIn.born w b l 23
  have htx := fun W => text_any b l W
  have hgd := fun W => good_any b l W
  by_cases hg : goodB b l = true
  · have hv : textV b l = .tuple #[.string ⟨(textL b l).toArray⟩, .int .i64 0] := by rw [textV, if_pos hg]
    have hl : (textL b l).length ≤ 30 := by
      have h1 := digitsL_length b 9
      have h2 := digitsL_length l 9
      simp [textL]
      omega
    have hrd := fun W (h : W.cell? ⟨0, 0, none⟩ = some (.int .i64 m)) => read_any ⟨(textL b l).toArray⟩ m W (by show (textL b l).toArray.size < _; rw [List.size_toArray]; omega) h
    have e3 : (⟨(textL b l).toArray⟩ : ByteArray).data.toList = textL b l := rfl
    simp only [e3, read_text hg] at hrd
    rw [hv] at htx
    rw [hg] at hgd
    clear e3 hv hl
    generalize (textL b l).toArray = TX at *
    have heq := rule_eq b l b l
    simp only [decide_true] at heq
    go_enter Try.func3, Try.ntmps3
    go_wp2_with fail
    refine (htx _).mono ?_
    rintro e w1 ⟨rfl, c1⟩
    have q1 := q0.go c1
    have hm1 : w1.cell? ⟨0, 0, none⟩ = some (.int .i64 m) := by rw [q1.2.2.2.2.2.cell (p := ⟨0, 0, none⟩) h0]; exact hm
    go_wp2_with fail
    refine (hrd _ hm1).mono ?_
    rintro e w2 ⟨rfl, c2⟩
    have q2 := q1.go c2
    clear q0 q1 c1 c2 hm1 hrd htx
    go_wp2_with fail
    have ca : Below w2.heap.size w2 (w2.alloc (.cells #[.int .i64 b, .int .i64 l] 23)) := (Below.refl _ _).alloc (Nat.le_refl _) _
    have x2 := RuleIn.born w2 b l 23
    have q3 := q2.go ca
    refine (livesOk_any _).mono ?_
    rintro e w3 ⟨rfl, c3⟩
    obtain ⟨x0, x1, _⟩ := x2.go c3
    have q4 := q3.go c3
    obtain ⟨f0, f1, _⟩ := id q4
    go_wp2_with fail
    refine (hgd _).mono ?_
    rintro e w4 ⟨rfl, c4⟩
    go_wp2_with fail
    go_ret
    exact ⟨rfl, (q4.go c4).2.2.2.2.2⟩
  · have hg2 : goodB b l = false := by simpa using hg
    have hv : textV b l = .tuple #[.string ⟨#[]⟩, .int .i64 3] := by rw [textV, if_neg hg]
    have hrd := fun W (h : W.cell? ⟨0, 0, none⟩ = some (.int .i64 m)) => read_any ⟨#[]⟩ m W (by decide) h
    have e3 : (⟨#[]⟩ : ByteArray).data.toList = [] := rfl
    simp only [e3, read_none] at hrd
    rw [hv] at htx
    rw [hg2] at hgd
    clear e3 hv
    go_enter Try.func3, Try.ntmps3
    go_wp2_with fail
    refine (htx _).mono ?_
    rintro e w1 ⟨rfl, c1⟩
    have q1 := q0.go c1
    have hm1 : w1.cell? ⟨0, 0, none⟩ = some (.int .i64 m) := by rw [q1.2.2.2.2.2.cell (p := ⟨0, 0, none⟩) h0]; exact hm
    go_wp2_with fail
    refine (hrd _ hm1).mono ?_
    rintro e w2 ⟨rfl, c2⟩
    have q2 := q1.go c2
    clear q0 q1 c1 c2 hm1 hrd htx
    go_wp2_with fail
    have ca : Below w2.heap.size w2 (w2.alloc (.cells #[.int .i64 0, .int .i64 0] 23)) := (Below.refl _ _).alloc (Nat.le_refl _) _
    have q3 := q2.go ca
    refine (livesOk_any _).mono ?_
    rintro e w3 ⟨rfl, c3⟩
    have q4 := q3.go c3
    obtain ⟨f0, f1, _⟩ := id q4
    go_wp2_with fail
    refine (hgd _).mono ?_
    rintro e w4 ⟨rfl, c4⟩
    go_wp2_with fail
    go_ret
    exact ⟨rfl, (q4.go c4).2.2.2.2.2⟩
end Go.Proofs.Ytoppncaidhlenac
