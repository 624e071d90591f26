/- A rule's text is read as the rule, and a text that is read is the rule's. -/
import Derived.Test.YtpghbchbhjbbiaaGreatDoorSpRuRead
namespace Go.Proofs.YtpghbchbhjbbiaaGreatDoor
open Go.RowKit

set_option maxRecDepth 20000 in
theorem num_table : ∀ n : Fin 512, numF 0 (digitsL (n.val : Int) 9) = some (n.val : Int) := by decide +kernel
theorem num_digits {x : Int} (h0 : 0 ≤ x) (h1 : x < 512) : numF 0 (digitsL x 9) = some x := by
  obtain ⟨n, rfl⟩ := Int.eq_ofNat_of_zero_le h0
  exact num_table ⟨n, by omega⟩
theorem digits_no (x : Int) : ∀ k, k ≤ 9 → ∀ d ∈ digitsL x k, d ≠ 47
  | 0, _, d, h => by simp [digitsL] at h
  | k + 1, hk, d, h => by
    rw [digitsL, List.mem_append] at h
    rcases h with h | h
    · exact digits_no x k (by omega) d h
    · split at h
      · rw [List.mem_singleton] at h
        subst h
        have hm : k = 0 ∨ k = 1 ∨ k = 2 ∨ k = 3 ∨ k = 4 ∨ k = 5 ∨ k = 6 ∨ k = 7 ∨ k = 8 := by omega
        rcases hm with rfl | rfl | rfl | rfl | rfl | rfl | rfl | rfl | rfl <;> decide
      · cases h
theorem index_at : ∀ (D r : List UInt8), (∀ d ∈ D, d ≠ 47) → Lib.index (D ++ 47 :: 83 :: r) [47, 83] = D.length
  | [], r, _ => by simp [Lib.index, List.isPrefixOf]
  | d :: D, r, h => by
    have hd := h d (by simp)
    have ih := index_at D r (fun e he => h e (List.mem_cons_of_mem _ he))
    rw [List.cons_append, Lib.index, ih]
    have hp : [47, 83].isPrefixOf (d :: (D ++ 47 :: 83 :: r)) = false := by simp [List.isPrefixOf]; intro e; exact absurd e.symm hd
    rw [hp]
    simp
theorem cut_at (D r : List UInt8) (h : ∀ d ∈ D, d ≠ 47) : Lib.cut (D ++ 47 :: 83 :: r) [47, 83] = (D, r, true) := by
  unfold Lib.cut
  rw [index_at D r h, if_pos (by omega)]
  simp
theorem read_text {b l : Int} (hg : goodB b l = true) : readF (textL b l) = (b, l, 0) := by
  have hx : 0 ≤ b ∧ 0 ≤ l ∧ b < 512 ∧ l < 512 ∧ hasB b 0 = false := by
    simp [goodB, withinB] at hg
    exact ⟨by omega, by omega, by omega, by omega, hg.2⟩
  obtain ⟨h1, h2, h3, h4, h5⟩ := hx
  have e1 : Lib.trimPrefix (textL b l) [66] = digitsL b 9 ++ 47 :: 83 :: digitsL l 9 := by simp [Lib.trimPrefix, Lib.hasPrefix, textL, List.isPrefixOf]
  have e2 : Lib.hasPrefix (textL b l) [66] = true := by simp [Lib.hasPrefix, textL, List.isPrefixOf]
  unfold readF
  rw [e1, e2, cut_at _ _ (digits_no b 9 (by omega))]
  simp [num_digits h1 h3, num_digits h2 h4, h5]



set_option maxRecDepth 20000 in
theorem digits_table : ∀ m : Fin 9, ∀ s : Fin 256, s.val < 2 ^ m.val → digitsL ((s.val + 2 ^ m.val : Nat) : Int) 9 = digitsL (s.val : Int) 9 ++ [UInt8.ofNat (48 + m.val)] := by decide +kernel

theorem num_back : ∀ (D : List UInt8) (set x : Int), 0 ≤ set → set < 512 → numF set D = some x → 0 ≤ x ∧ x < 512 ∧ digitsL x 9 = digitsL set 9 ++ D
  | [], set, x, h0, h1, h => by
    rw [numF] at h
    simp only [Option.some.injEq] at h
    subst h
    exact ⟨h0, h1, by simp⟩
  | d :: D, set, x, h0, h1, h => by
    rw [numF] at h
    split at h
    · cases h
    · rename_i hd
      split at h
      · cases h
      · rename_i hb
        obtain ⟨sn, rfl⟩ := Int.eq_ofNat_of_zero_le h0
        obtain ⟨m, hm⟩ : ∃ m, m = d.toNat - 48 := ⟨_, rfl⟩
        rw [← hm] at h hb
        have hm8 : m ≤ 8 := by omega
        have hpow : (2 : Nat) ^ m ≤ 2 ^ 8 := Nat.pow_le_pow_right (by omega) hm8
        have hlt : sn < 2 ^ m := by
          rw [Int.not_le] at hb
          exact_mod_cast hb
        have e1 : (sn : Int) + 2 ^ m = ((sn + 2 ^ m : Nat) : Int) := by simp
        rw [e1] at h
        obtain ⟨k0, k1, k2⟩ := num_back D _ x (by omega) (by omega) h
        refine ⟨k0, k1, ?_⟩
        have ht := digits_table ⟨m, by omega⟩ ⟨sn, by omega⟩ hlt
        have hdd : UInt8.ofNat (48 + m) = d := by
          have : 48 + m = d.toNat := by omega
          rw [this]
          simp
        simp only at ht
        rw [k2, ht, hdd]
        simp

theorem cut_found : ∀ (S : List UInt8) (i : Nat), Lib.index S [47, 83] = (i : Int) → S = S.take i ++ 47 :: 83 :: S.drop (i + 2)
  | [], i, h => by
    simp [Lib.index] at h
  | b :: l, i, h => by
    rw [Lib.index] at h
    split at h
    · rename_i hp
      have hi : i = 0 := by omega
      subst hi
      cases l with
      | nil => simp [List.isPrefixOf] at hp
      | cons c l =>
        simp [List.isPrefixOf] at hp
        obtain ⟨rfl, rfl⟩ := hp
        simp
    · split at h
      · omega
      · rename_i hne
        have hge := Lib.index_ge l [47, 83]
        obtain ⟨j, hj⟩ : ∃ j : Nat, i = j + 1 := ⟨i - 1, by
          have : Lib.index l [47, 83] ≠ -1 := by simpa using hne
          omega⟩
        subst hj
        have ih := cut_found l j (by omega)
        rw [List.take_succ_cons, List.cons_append, show j + 1 + 2 = (j + 2) + 1 by omega, List.drop_succ_cons, ← ih]

theorem read_only {L : List UInt8} {x y : Int} (h : readF L = (x, y, 0)) : goodB x y = true ∧ textL x y = L := by
  unfold readF at h
  simp only at h
  split at h
  · rename_i hc
    split at h
    · simp at h
    · rename_i hb
      simp only [Bool.and_eq_true] at hc
      obtain ⟨⟨⟨c1, c2⟩, c3⟩, c4⟩ := hc
      simp only [Prod.mk.injEq, and_true] at h
      obtain ⟨hx, hy⟩ := h
      rw [Option.isSome_iff_exists] at c3 c4
      obtain ⟨x', hx'⟩ := c3
      obtain ⟨y', hy'⟩ := c4
      rw [hx'] at hx hb
      rw [hy'] at hy
      simp only [Option.getD_some] at hx hy hb
      subst hx hy
      obtain ⟨k0, k1, k2⟩ := num_back _ 0 _ (by omega) (by omega) hx'
      obtain ⟨j0, j1, j2⟩ := num_back _ 0 _ (by omega) (by omega) hy'
      have d0 : digitsL 0 9 = [] := by decide
      rw [d0, List.nil_append] at k2 j2
      have hL : L = 66 :: Lib.trimPrefix L [66] := by
        cases L with
        | nil => simp [Lib.hasPrefix, List.isPrefixOf] at c1
        | cons a r =>
          simp [Lib.hasPrefix, List.isPrefixOf] at c1
          subst c1
          simp [Lib.trimPrefix, Lib.hasPrefix, List.isPrefixOf]
      refine ⟨by simp [goodB, withinB, k0, k1, j0, j1]; simpa using hb, ?_⟩
      rw [textL, k2, j2]
      conv => rhs; rw [hL]
      generalize Lib.trimPrefix L [66] = S at *
      unfold Lib.cut at c2 ⊢
      split at c2
      · rename_i hi
        rw [if_pos hi]
        have := cut_found S (Lib.index S [47, 83]).toNat (by omega)
        simp only [List.length_cons, List.length_nil]
        conv => rhs; rw [this]
        simp
      · cases c2
  · simp at h

end Go.Proofs.YtpghbchbhjbbiaaGreatDoor
