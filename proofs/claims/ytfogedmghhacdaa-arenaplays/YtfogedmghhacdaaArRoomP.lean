/- Quotas that have room never lack it. -/
import Derived.Test.YtfogedmghhacdaaRsPure
namespace Go.Proofs.Ytfogedmghhacdaa.A
open Go.RowKit Go.Maps

def lsum (L : List Nat) (f : Nat → Int) : Int := (L.map f).sum
theorem lsum_nil (f : Nat → Int) : lsum [] f = 0 := rfl
theorem lsum_cons (a : Nat) (L : List Nat) (f : Nat → Int) : lsum (a :: L) f = f a + lsum L f := by unfold lsum; rw [List.map_cons, List.sum_cons]
theorem lsum_add (L : List Nat) (f g : Nat → Int) : lsum L (fun u => f u + g u) = lsum L f + lsum L g := by
  induction L with
  | nil => rfl
  | cons a L ih => rw [lsum_cons, lsum_cons, lsum_cons, ih]; omega
theorem lsum_le {L : List Nat} {f g : Nat → Int} (h : ∀ u ∈ L, f u ≤ g u) : lsum L f ≤ lsum L g := by
  induction L with
  | nil => exact Int.le_refl _
  | cons a L ih =>
    rw [lsum_cons, lsum_cons]
    have := h a (by simp)
    have := ih fun u hu => h u (by simp [hu])
    omega
theorem lsum_lt {L : List Nat} {f g : Nat → Int} {t : Nat} (ht : t ∈ L) (h : ∀ u ∈ L, f u ≤ g u) (hlt : f t < g t) : lsum L f < lsum L g := by
  induction L with
  | nil => cases ht
  | cons a L ih =>
    rw [lsum_cons, lsum_cons]
    have h1 := h a (by simp)
    have h2 : lsum L f ≤ lsum L g := lsum_le fun u hu => h u (by simp [hu])
    rcases List.mem_cons.1 ht with e | e
    · subst e; omega
    · have := ih e fun u hu => h u (by simp [hu])
      omega
theorem lsum_one {L : List Nat} {f : Nat → Int} {t : Nat} (ht : t ∈ L) (h : ∀ u ∈ L, 0 ≤ f u) : f t ≤ lsum L f := by
  induction L with
  | nil => cases ht
  | cons a L ih =>
    rw [lsum_cons]
    have h1 := h a (by simp)
    have h2 : 0 ≤ lsum L f := by
      have := lsum_le (L := L) (f := fun _ => 0) (g := f) fun u hu => h u (List.mem_cons_of_mem _ hu)
      have z : ∀ M : List Nat, lsum M (fun _ => 0) = 0 := fun M => by
        induction M with
        | nil => rfl
        | cons a M ih => rw [lsum_cons, ih]; rfl
      rw [z] at this
      exact this
    rcases List.mem_cons.1 ht with e | e
    · subst e; omega
    · have := ih e fun u hu => h u (by simp [hu])
      omega
def tens : List Nat := List.range 64
def bit1 (x : Th) (u : Nat) : Int := if x.mask.testBit u = true then 1 else 0
theorem mask_bit {m : Nat} (h0 : m ≠ 0) (hm : m < 18446744073709551616) : ∃ u, u < 64 ∧ m.testBit u = true := by
  obtain ⟨u, hu⟩ := Nat.exists_testBit_of_ne_zero h0
  refine ⟨u, Nat.lt_of_not_le fun h => ?_, hu⟩
  rw [Nat.testBit_lt_two_pow (Nat.lt_of_lt_of_le (show m < 2 ^ 64 by simpa using hm) (Nat.pow_le_pow_right (by omega) h))] at hu
  cases hu
theorem live_own : ∀ (l : List Th), (∀ x ∈ l, x.mask < 18446744073709551616) → (liveN (swL l) : Int) ≤ lsum tens fun u => (ownN l u : Int)
  | [], _ => by
    show (0 : Int) ≤ lsum tens fun _ => 0
    decide
  | x :: l, hm => by
    have ih := live_own l fun y hy => hm y (by simp [hy])
    have e : (lsum tens fun u => (ownN (x :: l) u : Int)) = (lsum tens fun u => (ownN l u : Int)) + lsum tens (bit1 x) := by
      rw [← lsum_add]
      congr 1
      funext u
      unfold ownN bit1
      rw [List.countP_cons]
      split <;> simp
    rw [e]
    have e2 : liveN (swL (x :: l)) = liveN (swL l) + if (clrT x).k != 0 then 1 else 0 := by
      unfold liveN swL
      rw [List.map_cons, List.countP_cons]
    rw [e2]
    have h0 : 0 ≤ lsum tens (bit1 x) := Int.le_trans (show 0 ≤ bit1 x 0 by unfold bit1; split <;> decide) (lsum_one (by decide) fun u _ => by unfold bit1; split <;> decide)
    by_cases hk : (clrT x).k != 0
    · rw [if_pos hk]
      have hx0 : x.mask ≠ 0 := fun e0 => by
        have : (clrT x).k = 0 := by
          unfold clrT gone
          rw [e0]
          by_cases hx : x.k = 0
          · simp [hx]
          · simp [hx, noTh]
        rw [this] at hk
        simp at hk
      obtain ⟨u, hu, hb⟩ := mask_bit hx0 (hm x (by simp))
      have h1 : (1 : Int) ≤ lsum tens (bit1 x) := Int.le_trans (show 1 ≤ bit1 x u by unfold bit1; rw [if_pos hb]; decide) (lsum_one (by unfold tens; simpa using hu) fun u _ => by unfold bit1; split <;> decide)
      omega
    · rw [if_neg hk]
      omega
/-- what each tenant may have at most, so that there is room for all of it -/
structure Roomy (A : Ar) (q : Nat → Int) : Prop where
  le : ∀ u, u < 64 → A.cnt u ≤ q u
  sum : lsum tens q ≤ A.room
theorem roomy_live {A : Ar} (hS : Sound A) : (liveN A.swept.ths : Int) ≤ lsum tens A.cnt := by
  refine Int.le_trans (live_own A.ths hS.mask) (Int.le_of_eq ?_)
  have : ∀ L : List Nat, (∀ u ∈ L, u < 64) → lsum L (fun u => (ownN A.ths u : Int)) = lsum L A.cnt := fun L hL => by
    induction L with
    | nil => rfl
    | cons a L ih =>
      rw [lsum_cons, lsum_cons, ih fun u hu => hL u (by simp [hu]), hS.cnt a (hL a (by simp))]
  exact this tens fun u hu => by unfold tens at hu; simpa using hu
/-- there is room for a tenant that has less than it may -/
theorem roomy_not {A : Ar} {q : Nat → Int} {t : Nat} (hS : Sound A) (h : Roomy A q) (ht : t < 64) (hlt : A.cnt t < q t) : ¬ A.made.room ≤ (liveN A.made.ths : Int) := by
  have hr := (made_rest A).1
  unfold Ar.made at *
  by_cases h7 : A.room ≤ (liveN A.ths : Int)
  · rw [if_pos h7]
    have h1 := roomy_live hS
    have h2 : lsum tens A.cnt < lsum tens q := lsum_lt (t := t) (by unfold tens; simpa using ht) (fun u hu => h.le u (by unfold tens at hu; simpa using hu)) hlt
    have h3 := h.sum
    show ¬ A.room ≤ _
    omega
  · rw [if_neg h7]; exact h7
theorem beco_full {A : Ar} {q : Nat → Int} {t : Nat} {x : Th} (hS : Sound A) (h : Roomy A q) (ht : t < 64) (hq : A.lim t ≤ q t) : (A.beco t x).2.2 ≠ 5 := by
  unfold Ar.beco
  cases hs : spotF A.ths x.key with
  | some i =>
    simp only
    split
    · exact (by decide : (0 : Int) ≠ 5)
    · split
      · exact (by decide : (9 : Int) ≠ 5)
      · exact (by decide : (0 : Int) ≠ 5)
  | none =>
    simp only
    split
    · exact (by decide : (9 : Int) ≠ 5)
    · rename_i hc
      rw [if_neg (roomy_not hS h ht (by omega))]
      exact (by decide : (0 : Int) ≠ 5)
/-- what becomes of counts and limits -/
theorem beco_rest (A : Ar) (t : Nat) (x : Th) : (A.beco t x).1.lim = A.lim ∧ (A.beco t x).1.room = A.room ∧ (∀ u, u ≠ t → (A.beco t x).1.cnt u = A.cnt u) ∧ A.cnt t ≤ (A.beco t x).1.cnt t ∧ ((A.beco t x).1.cnt t ≤ A.lim t ∨ (A.beco t x).1.cnt t = A.cnt t) := by
  have g : ∀ (B : Ar) (i : Nat) (y : Th), A.cnt t < A.lim t → B.lim = A.lim → B.room = A.room → B.cnt = A.cnt → (B.give t i y).lim = A.lim ∧ (B.give t i y).room = A.room ∧ (∀ u, u ≠ t → (B.give t i y).cnt u = A.cnt u) ∧ A.cnt t ≤ (B.give t i y).cnt t ∧ ((B.give t i y).cnt t ≤ A.lim t ∨ (B.give t i y).cnt t = A.cnt t) := fun B i y hlt h1 h2 h3 => by
    refine ⟨h1, h2, fun u hu => ?_, ?_, ?_⟩
    · show upd B.cnt t (B.cnt t + 1) u = _
      unfold upd; rw [if_neg hu, h3]
    · show A.cnt t ≤ upd B.cnt t (B.cnt t + 1) t
      rw [upd_same, h3]; omega
    · left
      show upd B.cnt t (B.cnt t + 1) t ≤ _
      rw [upd_same, h3]; omega
  obtain ⟨m1, m2, m3, m4⟩ := made_rest A
  unfold Ar.beco
  cases hs : spotF A.ths x.key with
  | some i =>
    simp only
    split
    · exact ⟨rfl, rfl, fun _ _ => rfl, Int.le_refl _, .inr rfl⟩
    · split
      · exact ⟨rfl, rfl, fun _ _ => rfl, Int.le_refl _, .inr rfl⟩
      · rename_i hc
        exact g A i _ (by omega) rfl rfl rfl
  | none =>
    simp only
    split
    · exact ⟨rfl, rfl, fun _ _ => rfl, Int.le_refl _, .inr rfl⟩
    · rename_i hc
      split
      · exact ⟨m2, m1, fun u _ => by rw [m3], by rw [m3]; exact Int.le_refl _, .inr (by rw [m3])⟩
      · obtain ⟨l1, l2, l3, _⟩ := laid_rest A.made x
        exact g _ _ _ (by omega) (l2.trans m2) (l1.trans m1) (l3.trans m3)
theorem beco_roomy {A : Ar} {q : Nat → Int} {t : Nat} {x : Th} (h : Roomy A q) (hq : A.lim t ≤ q t) : Roomy (A.beco t x).1 q := by
  obtain ⟨_, h2, h3, _, h5⟩ := beco_rest A t x
  refine ⟨fun u hu => ?_, by rw [h2]; exact h.sum⟩
  by_cases e : u = t
  · subst e
    rcases h5 with e | e
    · omega
    · rw [e]; exact h.le u hu
  · rw [h3 u e]; exact h.le u hu
theorem lose_roomy {A : Ar} {q : Nat → Int} {t : Nat} (ids f : List Int) (h : Roomy A q) : Roomy (A.lose t ids f) q := by
  obtain ⟨_, _, r3, _⟩ := takes_rest A t ids
  refine ⟨fun u hu => ?_, by show lsum tens q ≤ (A.takes t ids).room; rw [r3]; exact h.sum⟩
  show (A.takes t ids).cnt u ≤ _
  rw [takes_cnt]
  unfold upd
  split
  · rename_i e; subst e; have := h.le u hu; omega
  · exact h.le u hu
theorem lose_rest (A : Ar) (t : Nat) (ids f : List Int) : (A.lose t ids f).lim = A.lim ∧ (A.lose t ids f).room = A.room := ⟨(takes_rest A t ids).2.1, (takes_rest A t ids).2.2.1⟩
theorem join_sound {A : Ar} {t : Nat} {q0 q1 q2 q3 : Int} (hS : Sound A) (ht : t < 64) (h0 : Fits q0) (h1 : Fits q1) (h2 : Fits q2) (h3 : Fits q3) : Sound (A.joinP t q0 q1 q2 q3).1 := by
  unfold Ar.joinP
  split
  · rename_i hj
    refine beco_sound hS ht ?_ fits_zero rfl (by show (1 : Int) ≠ 0; omega) ⟨⟨by show (_ : Int) ≤ 1; omega, by show (1 : Int) ≤ _; omega⟩, h0, h1, h2, h3⟩
    show 0 ≤ (joinE A t q0 q1 q2 q3).2 + 1 ∧ (joinE A t q0 q1 q2 q3).2 + 1 ≤ 44
    revert hj
    unfold joinE joinL
    split
    · rename_i a b c d ha _ _ _
      split
      · intro _
        have := level_lo hS ha
        show 0 ≤ a + 1 ∧ a + 1 ≤ 44
        omega
      · intro h; cases h
    · intro h; cases h
  · exact hS
theorem join_roomy {A : Ar} {q : Nat → Int} {t : Nat} {q0 q1 q2 q3 : Int} (h : Roomy A q) (hq : A.lim t ≤ q t) : Roomy (A.joinP t q0 q1 q2 q3).1 q := by
  unfold Ar.joinP
  split
  · exact beco_roomy h hq
  · exact h
theorem joinE_code (A : Ar) (t : Nat) (q0 q1 q2 q3 : Int) : (joinE A t q0 q1 q2 q3).1 = 0 ∨ (joinE A t q0 q1 q2 q3).1 = 6 ∨ (joinE A t q0 q1 q2 q3).1 = 8 := by
  unfold joinE joinL
  split
  · split
    · exact .inl rfl
    · exact .inr (.inr rfl)
  · exact .inr (.inl rfl)
theorem join_full {A : Ar} {q : Nat → Int} {t : Nat} {q0 q1 q2 q3 : Int} (hS : Sound A) (h : Roomy A q) (ht : t < 64) (hq : A.lim t ≤ q t) : (A.joinP t q0 q1 q2 q3).2.2 ≠ 5 := by
  unfold Ar.joinP
  split
  · exact beco_full hS h ht hq
  · rcases joinE_code A t q0 q1 q2 q3 with e | e | e <;> (simp only; rw [e]; decide)
theorem join_rest (A : Ar) (t : Nat) (q0 q1 q2 q3 : Int) : (A.joinP t q0 q1 q2 q3).1.lim = A.lim ∧ (A.joinP t q0 q1 q2 q3).1.room = A.room := by
  unfold Ar.joinP
  split
  · exact ⟨(beco_rest _ _ _).1, (beco_rest _ _ _).2.1⟩
  · exact ⟨rfl, rfl⟩
theorem note_sound {A : Ar} {t : Nat} {s r j v : Int} (hS : Sound A) (ht : t < 64) (hs : Fits s) (hr : Fits r) (hj : Fits j) (hv : Fits v) : Sound (A.noteP t s r j v).1 := by
  unfold Ar.noteP
  split
  · split
    · exact hS
    · exact beco_sound hS ht (by show (0 : Int) ≤ 0 ∧ (0 : Int) ≤ 44; decide) hv rfl (by show (2 : Int) ≠ 0; omega) (nkey_fit hs hr hj)
  · exact hS
theorem note_roomy {A : Ar} {q : Nat → Int} {t : Nat} {s r j v : Int} (h : Roomy A q) (hq : A.lim t ≤ q t) : Roomy (A.noteP t s r j v).1 q := by
  unfold Ar.noteP
  split
  · split
    · exact h
    · exact beco_roomy h hq
  · exact h
theorem note_full {A : Ar} {q : Nat → Int} {t : Nat} {s r j v : Int} (hS : Sound A) (h : Roomy A q) (ht : t < 64) (hq : A.lim t ≤ q t) : (A.noteP t s r j v).2 ≠ 5 := by
  unfold Ar.noteP
  split
  · split
    · exact (by decide : (7 : Int) ≠ 5)
    · exact beco_full hS h ht hq
  · exact (by decide : (6 : Int) ≠ 5)
theorem note_rest (A : Ar) (t : Nat) (s r j v : Int) : (A.noteP t s r j v).1.lim = A.lim ∧ (A.noteP t s r j v).1.room = A.room := by
  unfold Ar.noteP
  split
  · split
    · exact ⟨rfl, rfl⟩
    · exact ⟨(beco_rest _ _ _).1, (beco_rest _ _ _).2.1⟩
  · exact ⟨rfl, rfl⟩
/-- the number that Join answers -/
theorem join_fits {A : Ar} {t : Nat} {q0 q1 q2 q3 : Int} (hS : Sound A) : Fits (A.joinP t q0 q1 q2 q3).2.1 := by
  have hl := hS.len
  have hr := hS.room1
  have key : ∀ x : Th, Fits (A.beco t x).2.1 := fun x => by
    unfold Ar.beco
    cases hs : spotF A.ths x.key with
    | some i =>
      simp only
      obtain ⟨y, hy, _⟩ := spot_at hs
      have := (List.getElem?_eq_some_iff.1 hy).1
      split
      · exact ⟨by show _ ≤ (i : Int) + 2; omega, by show (i : Int) + 2 ≤ _; omega⟩
      · split
        · exact fits_zero
        · exact ⟨by show _ ≤ (i : Int) + 2; omega, by show (i : Int) + 2 ≤ _; omega⟩
    | none =>
      simp only
      split
      · exact fits_zero
      · split
        · exact fits_zero
        · have h1 := (List.getElem?_eq_some_iff.1 (laid_at A.made x)).1
          have h2 := (laid_len A.made x).1
          have h3 := (made_sound hS).len
          rw [(made_rest A).1] at h3
          exact ⟨by show _ ≤ ((A.made.laid x).2 : Int) + 2; omega, by show ((A.made.laid x).2 : Int) + 2 ≤ _; omega⟩
  unfold Ar.joinP
  split
  · exact key _
  · exact fits_zero
end Go.Proofs.Ytfogedmghhacdaa.A
