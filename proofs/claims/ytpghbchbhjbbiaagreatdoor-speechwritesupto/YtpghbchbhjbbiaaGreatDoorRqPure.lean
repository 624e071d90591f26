/- The document's numbers and cells are those of Read. -/
import Derived.Test.YtpghbchbhjbbiaaGreatDoorRqHead
import Derived.Lib.AtoiTie
namespace Go.Proofs.YtpghbchbhjbbiaaGreatDoor
open Go.RowKit

theorem nDigits_le : ∀ (k u : Nat), u < 10 ^ (k + 1) → Lib.nDigits u ≤ k + 1
  | 0, u, h => by rw [Lib.nDigits_small (by simpa using h)]; exact Nat.le_refl _
  | k + 1, u, h => by
    by_cases h1 : u < 10
    · rw [Lib.nDigits_small h1]; omega
    · rw [Lib.nDigits_big h1]
      have := nDigits_le k (u / 10) (by rw [Nat.pow_succ] at h; omega)
      omega
theorem dec_val (u : Nat) : decV (Lib.decDigits u) = u ∧ ∀ c ∈ Lib.decDigits u, isDig c = true := by
  induction u using Nat.strongRecOn with
  | _ u ih =>
    by_cases h : u < 10
    · rw [Lib.decDigits_one h]
      have e : (UInt8.ofNat (48 + u)).toNat = 48 + u := by rw [UInt8.toNat_ofNat']; omega
      refine ⟨by unfold decV; simp only [List.foldl_cons, List.foldl_nil, e]; omega, fun c hc => ?_⟩
      rw [List.mem_singleton] at hc
      subst hc
      unfold isDig
      rw [e]
      exact decide_eq_true (by omega)
    · rw [Lib.decDigits, dif_neg h]
      obtain ⟨h1, h2⟩ := ih (u / 10) (by omega)
      have e : (UInt8.ofNat (48 + u % 10)).toNat = 48 + u % 10 := by rw [UInt8.toNat_ofNat']; omega
      refine ⟨by rw [decV_snoc, h1, e]; omega, fun c hc => ?_⟩
      rcases List.mem_append.1 hc with hc | hc
      · exact h2 c hc
      · rw [List.mem_singleton] at hc
        subst hc
        unfold isDig
        rw [e]
        exact decide_eq_true (by omega)
theorem dec_from (u : Nat) : ∀ a : Nat, Lib.decFrom a (Lib.decDigits u) = some (a * 10 ^ Lib.nDigits u + u) := by
  induction u using Nat.strongRecOn with
  | _ u ih =>
    intro a
    by_cases h : u < 10
    · rw [Lib.decDigits_one h, Lib.nDigits_small h]
      have hd : Lib.digitVal (UInt8.ofNat (48 + u)) = some u := by
        unfold Lib.digitVal
        have : (UInt8.ofNat (48 + u)).toNat = 48 + u := by rw [UInt8.toNat_ofNat']; omega
        rw [this, if_pos (by omega)]
        simp
      simp only [Lib.decFrom, hd, Nat.pow_one]
    · rw [Lib.decDigits, dif_neg h, Lib.nDigits_big h]
      have key : ∀ (l m : List UInt8) (b : Nat), Lib.decFrom b (l ++ m) = (Lib.decFrom b l).bind fun v => Lib.decFrom v m := by
        intro l
        induction l with
        | nil => intro m b; rfl
        | cons c l il =>
          intro m b
          simp only [List.cons_append, Lib.decFrom]
          cases Lib.digitVal c with
          | none => rfl
          | some d => exact il m _
      rw [key, ih (u / 10) (by omega) a]
      have hd : Lib.digitVal (UInt8.ofNat (48 + u % 10)) = some (u % 10) := by
        unfold Lib.digitVal
        have : (UInt8.ofNat (48 + u % 10)).toNat = 48 + u % 10 := by rw [UInt8.toNat_ofNat']; omega
        rw [this, if_pos (by omega)]
        simp
      simp only [Option.bind_some, Lib.decFrom, hd, Nat.pow_succ]
      generalize 10 ^ Lib.nDigits (u / 10) = P
      rw [Nat.add_mul, Nat.mul_assoc]
      congr 1
      omega
theorem signOf_dig {l : List UInt8} (h : ∀ c ∈ l, isDig c = true) : signOf l = (false, l) := by
  cases l with
  | nil => rfl
  | cons c r =>
    have hc := h c List.mem_cons_self
    have h1 : c ≠ 45 := by rintro rfl; exact absurd hc (by decide)
    have h2 : c ≠ 43 := by rintro rfl; exact absurd hc (by decide)
    unfold signOf
    split
    · rename_i e; injection e with e1 e2; exact absurd e1 h1
    · rename_i e; injection e with e1 e2; exact absurd e1 h2
    · rfl
theorem signed_itoa (v : Int) (h0 : -1000000000000000000 < v) (h1 : v < 1000000000000000000) : signedF (Lib.itoa v) = (v, true) := by
  have hs : signOf (Lib.itoa v) = (decide (v < 0), Lib.decDigits v.natAbs) := by
    unfold Lib.itoa
    by_cases h : v < 0
    · rw [if_pos h, decide_eq_true h]; rfl
    · rw [if_neg h, decide_eq_false h, show v.toNat = v.natAbs from by omega]
      exact signOf_dig (dec_val _).2
  have hv : sgV (decide (v < 0)) v.natAbs = v := by
    unfold sgV
    by_cases h : v < 0
    · rw [decide_eq_true h, if_pos rfl]; omega
    · rw [decide_eq_false h, if_neg (by decide)]; omega
  have hok : okD (Lib.decDigits v.natAbs) = true := by
    unfold okD
    have := dec_ne v.natAbs
    rw [Bool.and_eq_true]
    exact ⟨by simpa using this, by rw [List.all_eq_true]; exact (dec_val v.natAbs).2⟩
  unfold signedF
  rw [hs]
  simp only
  rw [(dec_val v.natAbs).1, hv, if_pos ⟨hok, rfl, by omega⟩]
theorem num_itoa (v : Int) (h0 : -1000000000000000000 < v) (h1 : v < 1000000000000000000) : numOf (Lib.itoa v) = (v, true) := by
  have hat : Lib.atoiAll (Lib.itoa v) = .ok v := by
    have hl : (Lib.decDigits v.natAbs).length ≤ 18 := by
      rw [Lib.decDigits_length]
      exact nDigits_le 17 _ (by show _ < 1000000000000000000; omega)
    have hd : Lib.decNat (Lib.decDigits v.natAbs) = some v.natAbs := by
      unfold Lib.decNat
      have := dec_ne v.natAbs
      rw [if_neg (by simpa using this), dec_from]
      simp
    unfold Lib.itoa
    by_cases h : v < 0
    · rw [if_pos h, Lib.atoiAll_minus, Lib.signed_short hl, hd]
      show Lib.NumEnd.ok (-((v.natAbs : Nat) : Int)) = _
      congr 1
      omega
    · rw [if_neg h, show v.toNat = v.natAbs from by omega]
      have hdg := (dec_val v.natAbs).2
      have hss := Lib.signless_short hl
      rw [hd] at hss
      cases hc : Lib.decDigits v.natAbs with
      | nil => exact absurd hc (dec_ne _)
      | cons c r =>
        rw [hc] at hdg hss
        have hcd := hdg c List.mem_cons_self
        unfold isDig at hcd
        have hcd := of_decide_eq_true hcd
        rw [Lib.atoiAll_plain c r (by omega) (by omega), hss]
        show Lib.NumEnd.ok ((v.natAbs : Nat) : Int) = _
        congr 1
        omega
  rw [numOf_ok hat, decide_eq_true rfl, decide_eq_true h0, decide_eq_true h1]
  rfl
theorem num_is (l : List UInt8) : (numOf l).2 = (signedF l).2 ∧ ((signedF l).2 = true → (numOf l).1 = (signedF l).1) := by
  by_cases h : (numOf l).2 = true
  · obtain ⟨a, b, c⟩ := num_text h
    have hs := signed_itoa _ b c
    rw [a] at hs
    rw [hs, h]
    exact ⟨rfl, fun _ => rfl⟩
  · by_cases h2 : (signedF l).2 = true
    · have h3 := h2
      unfold signedF at h3
      split at h3
      · rename_i hc
        have hb : -1000000000000000000 < sgV (signOf l).1 (decV (signOf l).2) ∧ sgV (signOf l).1 (decV (signOf l).2) < 1000000000000000000 := by
          have := hc.2.2
          unfold sgV
          split <;> omega
        have hn := num_itoa _ hb.1 hb.2
        rw [hc.2.1] at hn
        exact absurd (by rw [hn]) h
      · cases h3
    · have e1 := Bool.eq_false_iff.2 h
      have e2 := Bool.eq_false_iff.2 h2
      exact ⟨by rw [e1, e2], fun h => absurd h h2⟩
theorem itoa_no44 (v : Int) : (44 : UInt8) ∉ Lib.itoa v := by
  have hd : ∀ u, (44 : UInt8) ∉ Lib.decDigits u := fun u h => absurd ((dec_val u).2 _ h) (by decide)
  unfold Lib.itoa
  split
  · intro h
    rcases List.mem_cons.1 h with h | h
    · exact absurd h (by decide)
    · exact hd _ h
  · exact hd _
theorem num_no44 {l : List UInt8} (h : (44 : UInt8) ∈ l) : (numOf l).2 = false := by
  by_cases h1 : (numOf l).2 = true
  · have := (num_text h1).1
    rw [← this] at h
    exact absurd h (itoa_no44 _)
  · exact Bool.eq_false_iff.2 h1
theorem spl_cut (c : UInt8) : ∀ l : List UInt8, (Lib.index l [c] = -1 ∧ spl c l = [l]) ∨ (∃ i : Nat, Lib.index l [c] = i ∧ spl c l = l.take i :: spl c (l.drop (i + 1)))
  | [] => Or.inl ⟨rfl, rfl⟩
  | b :: l => by
    by_cases hb : b = c
    · subst hb
      refine Or.inr ⟨0, by simp [Lib.index, List.isPrefixOf], ?_⟩
      rw [spl, if_pos rfl]
      rfl
    · have hp : [c].isPrefixOf (b :: l) = false := by simp [List.isPrefixOf]; exact fun e => hb e.symm
      rw [Lib.index, hp, spl, if_neg hb]
      simp only [Bool.false_eq_true, if_false]
      rcases spl_cut c l with ⟨h1, h2⟩ | ⟨i, h1, h2⟩
      · rw [h1, h2]
        exact Or.inl ⟨rfl, rfl⟩
      · have e1 : (Lib.index l [c] == -1) = false := by rw [h1]; simp
        rw [e1, h2, h1]
        refine Or.inr ⟨i + 1, by simp, ?_⟩
        rw [List.take_succ_cons, List.drop_succ_cons]
theorem pair_is (p : ByteArray) : pairF p = if ((numOf (Lib.cut p.data.toList [44]).1).2 && (numOf (Lib.cut p.data.toList [44]).2.1).2) = true then some ((numOf (Lib.cut p.data.toList [44]).1).1, (numOf (Lib.cut p.data.toList [44]).2.1).1) else none := by
  unfold pairF
  generalize p.data.toList = l
  have hnil : (numOf []).2 = false := rfl
  rcases spl_cut 44 l with ⟨h1, h2⟩ | ⟨i, h1, h2⟩
  · have hc : Lib.cut l [44] = (l, [], false) := by unfold Lib.cut; rw [if_neg (by rw [h1]; decide)]
    rw [h2, hc]
    simp [hnil]
  · have hc : Lib.cut l [44] = (l.take i, l.drop (i + 1), true) := by
      unfold Lib.cut
      rw [if_pos (by rw [h1]; omega), h1]
      rfl
    rw [h2, hc]
    simp only
    rcases spl_cut 44 (l.drop (i + 1)) with ⟨h3, h4⟩ | ⟨j, h3, h4⟩
    · rw [h4]
      simp only
      obtain ⟨a1, a2⟩ := num_is (l.take i)
      obtain ⟨b1, b2⟩ := num_is (l.drop (i + 1))
      rw [a1, b1]
      by_cases hab : (signedF (l.take i)).2 = true ∧ (signedF (l.drop (i + 1))).2 = true
      · rw [if_pos hab, if_pos (by rw [hab.1, hab.2]; rfl), a2 hab.1, b2 hab.2]
      · rw [if_neg hab, if_neg (by rw [Bool.and_eq_true]; exact hab)]
    · have hm : (44 : UInt8) ∈ l.drop (i + 1) := by
        rw [index_found 44 _ j h3]
        simp
      have hs := spl_ne 44 ((l.drop (i + 1)).drop (j + 1))
      rw [h4, num_no44 hm, Bool.and_false, if_neg (by decide)]
      cases hsp : spl 44 ((l.drop (i + 1)).drop (j + 1)) with
      | nil => exact absurd hsp hs
      | cons q qs => rfl
theorem cell_is (y : ByteArray) (t : List ByteArray) : (∃ c, pairF y = some c ∧ Rd.cell ⟨y :: t, 0⟩ = (c, ⟨t, 0⟩)) ∨ (pairF y = none ∧ (Rd.cell ⟨y :: t, 0⟩).2 = ⟨t, 2⟩) := by
  rw [pair_is]
  have hc : Rd.cell ⟨y :: t, 0⟩ = (((numOf (Lib.cut y.data.toList [44]).1).1, (numOf (Lib.cut y.data.toList [44]).2.1).1), Rd.need ⟨t, 0⟩ ((numOf (Lib.cut y.data.toList [44]).1).2 && (numOf (Lib.cut y.data.toList [44]).2.1).2) 2) := rfl
  rw [hc]
  by_cases h : ((numOf (Lib.cut y.data.toList [44]).1).2 && (numOf (Lib.cut y.data.toList [44]).2.1).2) = true
  · rw [if_pos h, h]
    exact Or.inl ⟨_, rfl, rfl⟩
  · rw [if_neg h, Bool.eq_false_iff.2 h]
    exact Or.inr ⟨rfl, rfl⟩
theorem pairs_is : ∀ (ws : List ByteArray) (acc : List (Int × Int)), (∃ cs, pairsF acc ws = some (acc ++ cs) ∧ Rd.cells ⟨ws, 0⟩ = (cs, ⟨[], 0⟩)) ∨ (pairsF acc ws = none ∧ (Rd.cells ⟨ws, 0⟩).2.e = 2)
  | [], acc => Or.inl ⟨[], by simp [pairsF], by rw [cells_nil rfl]⟩
  | y :: t, acc => by
    rw [cells_cons, pairsF]
    rcases cell_is y t with ⟨c, h1, h2⟩ | ⟨h1, h2⟩
    · rw [h1, h2]
      simp only
      rcases pairs_is t (acc ++ [c]) with ⟨cs, h3, h4⟩ | ⟨h3, h4⟩
      · rw [h3, h4]
        exact Or.inl ⟨c :: cs, by simp, rfl⟩
      · rw [h3]
        exact Or.inr ⟨rfl, h4⟩
    · rw [h1, h2]
      refine Or.inr ⟨rfl, ?_⟩
      show (Rd.cells ⟨t, 2⟩).2.e = 2
      rw [cells_err (r := ⟨t, 2⟩) (fun h : (2 : Int) = 0 => absurd h (by decide))]
end Go.Proofs.YtpghbchbhjbbiaaGreatDoor
