/- The document's reading of a rule's text, sign by sign, in plain words, and that it is rule.Read's. -/
import Derived.Test.YtpghbchbhjbbiaaGreatDoorSpRuRead
namespace Go.Proofs.YtpghbchbhjbbiaaGreatDoor
open Go.RowKit

/-- the answer at the text's end -/
def finF (part m0 m1 : Int) : Int × Int × Int := if part ≠ 1 then (0, 0, 2) else if m0 % 2 = 1 then (0, 0, 4) else (m0, m1, 0)
/-- what the rest of a text answers, behind its first sign -/
def scan : List UInt8 → Bool → Int → Int → Int → Int × Int × Int
  | [], p, _, m0, m1 => finF (if p then 1 else 0) m0 m1
  | 47 :: 83 :: r, false, _, m0, m1 => scan r true (-1) m0 m1
  | c :: r, p, la, m0, m1 =>
    if 48 ≤ c.toNat ∧ c.toNat ≤ 56 ∧ la < (c.toNat : Int) then (if p then scan r p c.toNat m0 (m1 + 2 ^ (c.toNat - 48)) else scan r p c.toNat (m0 + 2 ^ (c.toNat - 48)) m1) else (0, 0, 2)

/-- the last digit and the set hang together -/
def Inv (la m : Int) : Prop := (la = -1 ∧ m = 0) ∨ ∃ k : Nat, k ≤ 8 ∧ la = 48 + (k : Int) ∧ 2 ^ k ≤ m ∧ m < 2 ^ (k + 1)
theorem pow_le_iff {a b : Nat} (h : a ≤ b) : (2 : Int) ^ a ≤ 2 ^ b := by
  have := Nat.pow_le_pow_right (n := 2) (by omega) h
  exact_mod_cast this
theorem pow_pos' (a : Nat) : (0 : Int) < 2 ^ a := Int.pow_pos (by omega)
theorem inv_iff {la m : Int} (h : Inv la m) {c : Nat} (h0 : 48 ≤ c) (_h1 : c ≤ 56) : la < (c : Int) ↔ ¬ (2 : Int) ^ (c - 48) ≤ m := by
  rcases h with ⟨rfl, rfl⟩ | ⟨k, hk, rfl, h2, h3⟩
  · have := pow_pos' (c - 48)
    constructor <;> intro <;> omega
  · constructor
    · intro hlt
      have := pow_le_iff (show k + 1 ≤ c - 48 by omega)
      omega
    · intro hn
      by_cases hlt : 48 + (k : Int) < (c : Int)
      · exact hlt
      · have := pow_le_iff (show c - 48 ≤ k by omega)
        omega
theorem inv_step {la m : Int} (h : Inv la m) {c : Nat} (h0 : 48 ≤ c) (h1 : c ≤ 56) (h2 : la < (c : Int)) : Inv (c : Int) (m + 2 ^ (c - 48)) := by
  have hn := (inv_iff h h0 h1).1 h2
  have hm : 0 ≤ m := by
    rcases h with ⟨_, rfl⟩ | ⟨k, _, _, h3, _⟩
    · omega
    · have := pow_pos' k; omega
  refine Or.inr ⟨c - 48, by omega, by omega, by omega, ?_⟩
  have e : (2 : Int) ^ (c - 48 + 1) = 2 ^ (c - 48) * 2 := Int.pow_succ 2 (c - 48)
  omega

theorem digit_ne {c : UInt8} (h : 48 ≤ c.toNat) : c ≠ 47 := fun e => by subst e; exact absurd h (by decide)

theorem scan_two : ∀ (r : List UInt8) (la m0 m1 : Int), Inv la m1 → scan r true la m0 m1 = match numF m1 r with | some y => if m0 % 2 = 1 then (0, 0, 4) else (m0, y, 0) | none => (0, 0, 2)
  | [], la, m0, m1, _ => by simp [scan, numF, finF]
  | c :: r, la, m0, m1, h => by
    have e : scan (c :: r) true la m0 m1 = if 48 ≤ c.toNat ∧ c.toNat ≤ 56 ∧ la < (c.toNat : Int) then scan r true c.toNat m0 (m1 + 2 ^ (c.toNat - 48)) else (0, 0, 2) := by
      rw [scan]
      · simp
      · intros; simp_all
    rw [e, numF]
    by_cases hd : c.toNat < 48 ∨ 56 < c.toNat
    · rw [if_neg (by omega), if_pos hd]
    · rw [if_neg hd]
      by_cases hl : la < (c.toNat : Int)
      · rw [if_pos (by omega), if_neg ((inv_iff h (by omega) (by omega)).1 hl), scan_two r _ m0 _ (inv_step h (by omega) (by omega) hl)]
      · rw [if_neg (by omega), if_pos (Decidable.not_not.1 (mt (inv_iff h (by omega) (by omega)).2 hl))]

theorem cut_cons {c : UInt8} {r : List UInt8} (h : [47, 83].isPrefixOf (c :: r) = false) : Lib.cut (c :: r) [47, 83] = (if (Lib.cut r [47, 83]).2.2 then (c :: (Lib.cut r [47, 83]).1, (Lib.cut r [47, 83]).2.1, true) else (c :: r, [], false)) := by
  have hge := Lib.index_ge r [47, 83]
  unfold Lib.cut
  rw [Lib.index, h]
  simp only [Bool.false_eq_true, if_false]
  by_cases hi : Lib.index r [47, 83] = -1
  · simp [hi]
  · have hb : (Lib.index r [47, 83] == -1) = false := by simpa using hi
    rw [hb]
    simp only [Bool.false_eq_true, if_false]
    rw [if_pos (show 0 ≤ Lib.index r [47, 83] + 1 by omega), if_pos (show 0 ≤ Lib.index r [47, 83] by omega)]
    obtain ⟨j, hj⟩ := Int.eq_ofNat_of_zero_le (show 0 ≤ Lib.index r [47, 83] by omega)
    rw [hj]
    simp [show ((j : Int) + 1).toNat = j + 1 by omega]
theorem cut_here (r : List UInt8) : Lib.cut (47 :: 83 :: r) [47, 83] = ([], r, true) := by simp [Lib.cut, Lib.index, List.isPrefixOf]

/-- the answer by the cut -/
def byCut (m0 : Int) (r : List UInt8) : Int × Int × Int :=
  if (Lib.cut r [47, 83]).2.2 then (match numF m0 (Lib.cut r [47, 83]).1, numF 0 (Lib.cut r [47, 83]).2.1 with | some x, some y => if x % 2 = 1 then (0, 0, 4) else (x, y, 0) | _, _ => (0, 0, 2)) else (0, 0, 2)

theorem scan_one : ∀ (r : List UInt8) (la m0 : Int), Inv la m0 → scan r false la m0 0 = byCut m0 r
  | [], la, m0, _ => by simp [scan, finF, byCut, Lib.cut, Lib.index]
  | c :: r, la, m0, h => by
    by_cases hp : [47, 83].isPrefixOf (c :: r) = true
    · cases r with
      | nil => simp [List.isPrefixOf] at hp
      | cons d r =>
        simp [List.isPrefixOf] at hp
        obtain ⟨rfl, rfl⟩ := hp
        rw [scan, scan_two r (-1) m0 0 (Or.inl ⟨rfl, rfl⟩), byCut, cut_here]
        simp [numF]
        cases numF 0 r <;> rfl
    · have hp2 : [47, 83].isPrefixOf (c :: r) = false := Bool.eq_false_iff.2 hp
      have e : scan (c :: r) false la m0 0 = if 48 ≤ c.toNat ∧ c.toNat ≤ 56 ∧ la < (c.toNat : Int) then scan r false c.toNat (m0 + 2 ^ (c.toNat - 48)) 0 else (0, 0, 2) := by
        rw [scan]
        · simp
        · intros
          subst_vars
          simp [List.isPrefixOf] at hp2
      rw [e, byCut, cut_cons hp2]
      by_cases hd : c.toNat < 48 ∨ 56 < c.toNat
      · rw [if_neg (by omega)]
        split
        · simp [numF, hd]
        · simp
      · by_cases hl : la < (c.toNat : Int)
        · rw [if_pos (by omega), scan_one r _ _ (inv_step h (by omega) (by omega) hl), byCut]
          by_cases hf : (Lib.cut r [47, 83]).2.2 = true
          · rw [if_pos hf, if_pos hf]
            simp only [if_true]
            rw [numF, if_neg hd, if_neg ((inv_iff h (by omega) (by omega)).1 hl)]
          · rw [if_neg hf, if_neg hf]
            simp
        · have hle : (2 : Int) ^ (c.toNat - 48) ≤ m0 := Decidable.not_not.1 (mt (inv_iff h (by omega) (by omega)).2 hl)
          rw [if_neg (by omega)]
          split
          · simp [numF, hd, hle]
          · simp

/-- the document's answer -/
def refF : List UInt8 → Int × Int × Int
  | [] => (0, 0, 2)
  | c :: r => if c = 66 then scan r false (-1) 0 0 else (0, 0, 2)

theorem ref_is : ∀ L : List UInt8, readF L = refF L
  | [] => by decide
  | c :: r => by
    by_cases hc : c = 66
    · subst hc
      have e1 : Lib.trimPrefix (66 :: r) [66] = r := by simp [Lib.trimPrefix, Lib.hasPrefix, List.isPrefixOf]
      have e2 : Lib.hasPrefix (66 :: r) [66] = true := by simp [Lib.hasPrefix, List.isPrefixOf]
      have e3 : refF (66 :: r) = scan r false (-1) 0 0 := by simp [refF]
      rw [e3, scan_one r _ _ (Or.inl ⟨rfl, rfl⟩), byCut]
      simp only [readF, e1, e2]
      by_cases hf : (Lib.cut r [47, 83]).2.2 = true
      · rw [hf]
        cases h1 : numF 0 (Lib.cut r [47, 83]).1 <;> cases h2 : numF 0 (Lib.cut r [47, 83]).2.1 <;> simp [hasB]
      · have hf2 : (Lib.cut r [47, 83]).2.2 = false := by simpa using hf
        rw [hf2]
        simp
    · have e2 : Lib.hasPrefix (c :: r) [66] = false := by simp [Lib.hasPrefix, List.isPrefixOf]; exact fun e => hc e.symm
      have e3 : refF (c :: r) = (0, 0, 2) := by simp [refF, hc]
      rw [e3]
      simp [readF, e2]
end Go.Proofs.YtpghbchbhjbbiaaGreatDoor
