/- RuleOnly: the walk of the law itself. -/
import Derived.Test.YtoppncaidhlenacBack
namespace Go.Proofs.Ytoppncaidhlenac
open Go.RowKit

set_option maxRecDepth 20000 in
theorem digits_table : ∀ m : Fin 9, ∀ s : Fin 256, s.val < 2 ^ m.val → digitsL ((s.val + 2 ^ m.val : Nat) : Int) 9 = digitsL (s.val : Int) 9 ++ [UInt8.ofNat (48 + m.val)] := by decide +kernel

theorem num_back : ∀ (D : List UInt8) (set x : Int), 0 ≤ set → set < 512 → numF set D = some x → 0 ≤ x ∧ x < 512 ∧ digitsL x 9 = digitsL set 9 ++ D
  | [], set, x, h0, h1, h => by
    rw [numF] at h
    simp only [Option.some.injEq] at h
    subst h
    exact ⟨h0, h1, by simp⟩
  | d :: D, set, x, h0, h1, h => by
    rw [numF] at h
    split at h
    · cases h
    · rename_i hd
      split at h
      · cases h
      · rename_i hb
        obtain ⟨sn, rfl⟩ := Int.eq_ofNat_of_zero_le h0
        obtain ⟨m, hm⟩ : ∃ m, m = d.toNat - 48 := ⟨_, rfl⟩
        rw [← hm] at h hb
        have hm8 : m ≤ 8 := by omega
        have hpow : (2 : Nat) ^ m ≤ 2 ^ 8 := Nat.pow_le_pow_right (by omega) hm8
        have hlt : sn < 2 ^ m := by
          rw [Int.not_le] at hb
          exact_mod_cast hb
        have e1 : (sn : Int) + 2 ^ m = ((sn + 2 ^ m : Nat) : Int) := by simp
        rw [e1] at h
        obtain ⟨k0, k1, k2⟩ := num_back D _ x (by omega) (by omega) h
        refine ⟨k0, k1, ?_⟩
        have ht := digits_table ⟨m, by omega⟩ ⟨sn, by omega⟩ hlt
        have hdd : UInt8.ofNat (48 + m) = d := by
          have : 48 + m = d.toNat := by omega
          rw [this]
          simp
        simp only at ht
        rw [k2, ht, hdd]
        simp

theorem cut_found : ∀ (S : List UInt8) (i : Nat), Lib.index S [47, 83] = (i : Int) → S = S.take i ++ 47 :: 83 :: S.drop (i + 2)
  | [], i, h => by
    simp [Lib.index] at h
  | b :: l, i, h => by
    rw [Lib.index] at h
    split at h
    · rename_i hp
      have hi : i = 0 := by omega
      subst hi
      cases l with
      | nil => simp [List.isPrefixOf] at hp
      | cons c l =>
        simp [List.isPrefixOf] at hp
        obtain ⟨rfl, rfl⟩ := hp
        simp
    · split at h
      · omega
      · rename_i hne
        have hge := Lib.index_ge l [47, 83]
        obtain ⟨j, hj⟩ : ∃ j : Nat, i = j + 1 := ⟨i - 1, by
          have : Lib.index l [47, 83] ≠ -1 := by simpa using hne
          omega⟩
        subst hj
        have ih := cut_found l j (by omega)
        rw [List.take_succ_cons, List.cons_append, show j + 1 + 2 = (j + 2) + 1 by omega, List.drop_succ_cons, ← ih]

theorem read_only {L : List UInt8} {x y : Int} (h : readF L = (x, y, 0)) : goodB x y = true ∧ textL x y = L := by
  unfold readF at h
  simp only at h
  split at h
  · rename_i hc
    split at h
    · simp at h
    · rename_i hb
      simp only [Bool.and_eq_true] at hc
      obtain ⟨⟨⟨c1, c2⟩, c3⟩, c4⟩ := hc
      simp only [Prod.mk.injEq, and_true] at h
      obtain ⟨hx, hy⟩ := h
      rw [Option.isSome_iff_exists] at c3 c4
      obtain ⟨x', hx'⟩ := c3
      obtain ⟨y', hy'⟩ := c4
      rw [hx'] at hx hb
      rw [hy'] at hy
      simp only [Option.getD_some] at hx hy hb
      subst hx hy
      obtain ⟨k0, k1, k2⟩ := num_back _ 0 _ (by omega) (by omega) hx'
      obtain ⟨j0, j1, j2⟩ := num_back _ 0 _ (by omega) (by omega) hy'
      have d0 : digitsL 0 9 = [] := by decide
      rw [d0, List.nil_append] at k2 j2
      have hL : L = 66 :: Lib.trimPrefix L [66] := by
        cases L with
        | nil => simp [Lib.hasPrefix, List.isPrefixOf] at c1
        | cons a r =>
          simp [Lib.hasPrefix, List.isPrefixOf] at c1
          subst c1
          simp [Lib.trimPrefix, Lib.hasPrefix, List.isPrefixOf]
      refine ⟨by simp [goodB, withinB, k0, k1, j0, j1]; simpa using hb, ?_⟩
      rw [textL, k2, j2]
      conv => rhs; rw [hL]
      generalize Lib.trimPrefix L [66] = S at *
      unfold Lib.cut at c2 ⊢
      split at c2
      · rename_i hi
        rw [if_pos hi]
        have := cut_found S (Lib.index S [47, 83]).toNat (by omega)
        simp only [List.length_cons, List.length_nil]
        conv => rhs; rw [this]
        simp
      · cases c2
  · simp at h

set_option linter.unusedSimpArgs false in
set_option maxRecDepth 4000 in
set_option maxHeartbeats 2000000 in
theorem only_any (s : ByteArray) (m : Int) (w : World) (hs : s.size < 4294967281) (hm : w.cell? ⟨0, 0, none⟩ = some (.int .i64 m)) :
    Calls Try.prog 4 #[.string s] w fun e w' => e = .returned (.bool true) ∧ Below w.heap.size w w' := by
  have hrd := read_any s m w hs hm
  obtain ⟨x, y, c, hR⟩ : ∃ x y c, readF s.data.toList = (x, y, c) := ⟨_, _, _, rfl⟩
  rw [hR] at hrd
  simp only at hrd
  have htx := fun W => text_any x y W
  by_cases hc : c = 0
  · subst hc
    obtain ⟨hg, hL⟩ := read_only hR
    have hv : textV x y = .tuple #[.string ⟨(textL x y).toArray⟩, .int .i64 0] := by rw [textV, if_pos hg]
    have hse : (⟨(textL x y).toArray⟩ : ByteArray) = s := by rw [hL]
    rw [hv, hse] at htx
    clear hR hL hv hse hg
    go_enter Try.func4, Try.ntmps4
    go_wp2_with fail
    refine hrd.mono ?_
    rintro e w1 ⟨rfl, c1⟩
    have q1 := RuleIn.born w1 x y 23
    obtain ⟨f0, f1, _⟩ := id q1
    have b1 : Below w.heap.size w (w1.alloc (.cells #[.int .i64 x, .int .i64 y] 23)) := c1.alloc c1.size _
    go_wp2_with fail
    refine (htx _).mono ?_
    rintro e w2 ⟨rfl, c2⟩
    have b2 : Below w.heap.size w w2 := b1.trans (c2.mono b1.size)
    go_wp2_with fail
    refine (livesOk_any _).mono ?_
    rintro e w3 ⟨rfl, c3⟩
    have b3 : Below w.heap.size w w3 := b2.trans (c3.mono b2.size)
    go_wp2_with fail
    go_ret
    exact ⟨rfl, b3⟩
  · have hcb : (c == 0) = false := by simpa using hc
    obtain ⟨ts, tc, hv⟩ : ∃ (ts : ByteArray) (tc : Int), textV x y = .tuple #[.string ts, .int .i64 tc] := by
      unfold textV
      split
      · exact ⟨_, _, rfl⟩
      · exact ⟨_, _, rfl⟩
    rw [hv] at htx
    clear hR hv
    go_enter Try.func4, Try.ntmps4
    go_wp2_with fail
    refine hrd.mono ?_
    rintro e w1 ⟨rfl, c1⟩
    have q1 := RuleIn.born w1 x y 23
    obtain ⟨f0, f1, _⟩ := id q1
    have b1 : Below w.heap.size w (w1.alloc (.cells #[.int .i64 x, .int .i64 y] 23)) := c1.alloc c1.size _
    go_wp2_with fail
    refine (htx _).mono ?_
    rintro e w2 ⟨rfl, c2⟩
    have b2 : Below w.heap.size w w2 := b1.trans (c2.mono b1.size)
    go_wp2_with fail
    refine (livesOk_any _).mono ?_
    rintro e w3 ⟨rfl, c3⟩
    have b3 : Below w.heap.size w w3 := b2.trans (c3.mono b2.size)
    go_wp2_with fail
    go_ret
    exact ⟨rfl, b3⟩
end Go.Proofs.Ytoppncaidhlenac
