/- What is written of a list is read as it, and written again as the same text: in plain words. -/
import Derived.Test.YtmpjlbafjmocbadGreatDoorEncPure
import Derived.Test.YtmpjlbafjmocbadGreatDoorRuleText
import Derived.Test.YtmpjlbafjmocbadGreatDoorOrderLaw
namespace Go.Proofs.YtmpjlbafjmocbadGreatDoor
open Go.RowKit

theorem corner_mv (x0 y0 : Int) (l : List (Int × Int)) : l.map (toCorner x0 y0) = l.map (mvP (-x0) (-y0)) := rfl

theorem tidied_self {l : List (Int × Int)} (ht : Tidy l) (hc : tcode l = 0) : Tidied l l := ⟨ht, fun p => by rw [hc]; simp⟩

theorem lo_mv (l : List (Int × Int)) (dx dy : Int) (h : l.length ≠ 0) : loX (l.map (mvP dx dy)) = loX l + dx ∧ loY (l.map (mvP dx dy)) = loY l + dy ∧ hiX (l.map (mvP dx dy)) = hiX l + dx ∧ hiY (l.map (mvP dx dy)) = hiY l + dy := by
  have h' : (l.map (mvP dx dy)).length ≠ 0 := by rw [List.length_map]; exact h
  obtain ⟨⟨p1, hp1, e1⟩, ⟨p2, hp2, e2⟩, ⟨p3, hp3, e3⟩, ⟨p4, hp4, e4⟩⟩ := box_mem l h
  obtain ⟨⟨q1, hq1, f1⟩, ⟨q2, hq2, f2⟩, ⟨q3, hq3, f3⟩, ⟨q4, hq4, f4⟩⟩ := box_mem _ h'
  have up : ∀ p ∈ l, mvP dx dy p ∈ l.map (mvP dx dy) := fun p hp => List.mem_map_of_mem hp
  have dn : ∀ q ∈ l.map (mvP dx dy), ∃ p ∈ l, q = mvP dx dy p := fun q hq => by
    rw [List.mem_map] at hq
    obtain ⟨p, hp, e⟩ := hq
    exact ⟨p, hp, e.symm⟩
  have a1 := mem_box _ _ (up p1 hp1)
  have a2 := mem_box _ _ (up p2 hp2)
  have a3 := mem_box _ _ (up p3 hp3)
  have a4 := mem_box _ _ (up p4 hp4)
  obtain ⟨r1, hr1, g1⟩ := dn q1 hq1
  obtain ⟨r2, hr2, g2⟩ := dn q2 hq2
  obtain ⟨r3, hr3, g3⟩ := dn q3 hq3
  obtain ⟨r4, hr4, g4⟩ := dn q4 hq4
  have b1 := mem_box _ _ hr1
  have b2 := mem_box _ _ hr2
  have b3 := mem_box _ _ hr3
  have b4 := mem_box _ _ hr4
  subst g1 g2 g3 g4
  simp only [mvP] at *
  omega
theorem enc_mv (l : List (Int × Int)) (dx dy b v : Int) : encT (l.map (mvP dx dy)) b v = encT l b v := by
  by_cases h : l.length = 0
  · have : l = [] := List.length_eq_zero_iff.1 h
    subst this
    rfl
  · obtain ⟨h1, h2, h3, h4⟩ := lo_mv l dx dy h
    unfold encT wOf hOf
    rw [List.length_map, if_neg h, if_neg h, if_neg h, if_neg h, h1, h2, h3, h4, body_mv]
    rw [show hiX l + dx - (loX l + dx) + 1 = hiX l - loX l + 1 by omega, show hiY l + dy - (loY l + dy) + 1 = hiY l - loY l + 1 by omega]
theorem tidy_mv (l : List (Int × Int)) (dx dy : Int) (h : Tidy l) : Tidy (l.map (mvP dx dy)) := by
  unfold Tidy at *
  rw [List.pairwise_map]
  refine h.imp ?_
  intro a b hab
  unfold ahead at *
  simp only [mvP]
  omega
theorem textL_no (b l : Int) : ∀ c ∈ textL b l, c ≠ 10 := by
  have hd : ∀ (x : Int) (k : Nat), k ≤ 9 → ∀ d ∈ digitsL x k, d ≠ 10 := by
    intro x k
    induction k with
    | zero => intro _ d h; simp [digitsL] at h
    | succ k ih =>
      intro hk d h
      rw [digitsL, List.mem_append] at h
      rcases h with h | h
      · exact ih (by omega) d h
      · split at h
        · rw [List.mem_singleton] at h
          subst h
          have hm : k = 0 ∨ k = 1 ∨ k = 2 ∨ k = 3 ∨ k = 4 ∨ k = 5 ∨ k = 6 ∨ k = 7 ∨ k = 8 := by omega
          rcases hm with rfl | rfl | rfl | rfl | rfl | rfl | rfl | rfl | rfl <;> decide
        · cases h
  intro c hc
  simp only [textL, List.cons_append, List.mem_cons, List.mem_append] at hc
  rcases hc with rfl | hc | rfl | rfl | hc
  · decide
  · exact hd b 9 (by omega) c hc
  · decide
  · decide
  · exact hd l 9 (by omega) c hc

/-- what is written is read -/
theorem dec_of_enc (l : List (Int × Int)) (b v : Int) (ht : Tidy l) (hl : l.length ≤ 4096) (hg : goodB b v = true) (hw : wOf l < 1000000000000) (hh : hOf l < 1000000000000) (hlen : (encT l b v).length ≤ 20000) :
    decF readF (encT l b v) = (l.map (toCorner (loX l) (loY l)), (b, v), 0) := by
  obtain ⟨w0, h0⟩ := wOf_nonneg l
  obtain ⟨W, hW⟩ := Int.eq_ofNat_of_zero_le w0
  obtain ⟨H, hH⟩ := Int.eq_ofNat_of_zero_le h0
  have hb : ∀ p ∈ l, p.1 - loX l < wOf l ∧ p.2 - loY l < hOf l := fun p hp => by
    have hne : l.length ≠ 0 := fun e => by rw [List.length_eq_zero_iff.1 e] at hp; simp at hp
    have := mem_box l p hp
    unfold wOf hOf
    rw [if_neg hne, if_neg hne]
    omega
  have htd := told_box l ht (wOf l) (hOf l) (fun p hp => (hb p hp).1) (fun p hp => (hb p hp).2)
  unfold encT at hlen ⊢
  rw [hW, hH] at htd hlen ⊢
  exact dec_enc readF (loX l) (loY l) W H (textL b v) b v l (by omega) (by omega) (read_text hg) (textL_no b v) htd hl hlen

/-- what Decode answers may be written -/
theorem dec_good (s : List UInt8) (h : (decF readF s).2.2 = 0) :
    Tidy (decF readF s).1 ∧ (decF readF s).1.length ≤ 4096 ∧ tcode (decF readF s).1 = 0 ∧ goodB (decF readF s).2.1.1 (decF readF s).2.1.2 = true ∧ wOf (decF readF s).1 < 1000000000000 ∧ hOf (decF readF s).1 < 1000000000000 := by
  obtain ⟨W, H, x, y, hW, hH, hp, t, ht, _⟩ := dec_page readF s h
  generalize (decF readF s).1 = l at *
  have hnear : l.any farP = false := by
    rw [List.any_eq_false]
    intro p hpm
    have := hp.box p hpm
    have h1 : farI p.1 = false := by unfold farI; simp; omega
    have h2 : farI p.2 = false := by unfold farI; simp; omega
    simp [farP, h1, h2]
  refine ⟨hp.order, hp.few, tcode_zero.2 ⟨hp.few, hnear⟩, (read_only ht).1, ?_, ?_⟩
  · unfold wOf
    by_cases h0 : l.length = 0
    · rw [if_pos h0]; omega
    · rw [if_neg h0]
      obtain ⟨⟨p, hp1, e1⟩, _, ⟨q, hq1, e2⟩, _⟩ := box_mem l h0
      have a := hp.box p hp1
      have b := hp.box q hq1
      omega
  · unfold hOf
    by_cases h0 : l.length = 0
    · rw [if_pos h0]; omega
    · rw [if_neg h0]
      obtain ⟨_, ⟨p, hp1, e1⟩, _, ⟨q, hq1, e2⟩⟩ := box_mem l h0
      have a := hp.box p hp1
      have b := hp.box q hq1
      omega

/-- numbers of pieces are small -/
theorem pieces_ok (x0 y0 W H : Int) (hW : W ≤ 4398046511104) (hH : H ≤ 4398046511104) : ∀ (f : Nat) (x y : Int) (l : List (Int × Int)), l.length ≤ 4096 → Told x0 y0 W H x y l → ∀ p ∈ pieces x0 f x y l, 1 ≤ p.1 ∧ p.1 ≤ 9223372036854775807 ∧ p.2 ≠ 10
  | 0, _, _, _, _, _, p, hp => by simp [pieces] at hp
  | f + 1, _, _, [], _, _, p, hp => by simp [pieces] at hp
  | f + 1, x, y, c :: r, hl, ht, p, hp => by
    have htail := ht.tail
    have hnext := ht.next c (by simp)
    have hleft := ht.left c (by simp)
    have hat := ht.at0
    have hn := runN_le (c.1 + 1) c.2 r
    have hl' : r.length + 1 ≤ 4096 := by simpa using hl
    rw [pieces] at hp
    simp only [List.mem_append, List.mem_cons] at hp
    rcases hp with (hp | hp) | hp | hp
    · split at hp
      · simp at hp; subst hp; exact ⟨by simp only; omega, by simp only; omega, by simp⟩
      · simp at hp
    · by_cases h3 : y < c.2
      · simp [h3] at hp
        obtain ⟨h4, rfl⟩ := hp
        exact ⟨by simp only; omega, by simp only; omega, by simp⟩
      · simp [h3] at hp
        obtain ⟨h4, rfl⟩ := hp
        exact ⟨by simp only; omega, by simp only; omega, by simp⟩
    · subst hp; exact ⟨by simp only; omega, by simp only; omega, by simp⟩
    · exact pieces_ok x0 y0 W H hW hH f _ _ _ (by rw [List.length_drop]; omega) htail p hp
/-- lines of a text are short, and the last one ends -/
theorem enc_lines (l : List (Int × Int)) (b v : Int) (ht : Tidy l) (hl : l.length ≤ 4096) (hn : l.any farP = false) : scanL 0 true (encT l b v) = some (0, false) := by
  have hb := box_near l hn
  exact scan_text _ _ _ _ l _ (textL_no b v) (pieces_ok (loX l) (loY l) 4398046511104 4398046511104 (by omega) (by omega) _ _ _ _ hl
    (told_box l ht _ _ (fun p hp => by have := mem_box l p hp; omega) (fun p hp => by have := mem_box l p hp; omega)))
end Go.Proofs.YtmpjlbafjmocbadGreatDoor
