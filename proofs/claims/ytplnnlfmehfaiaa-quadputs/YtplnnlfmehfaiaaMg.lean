/- What merge answers. -/
import Derived.Test.YtplnnlfmehfaiaaTidyLaw
namespace Go.Proofs.Ytplnnlfmehfaiaa
open Go.RowKit Go.Lib Go.Sort

/-- the first cell of two lists, and which of them begin with it -/
def firstF : List (Int × Int) → List (Int × Int) → (Int × Int) × Bool × Bool
  | a :: _, [] => (a, true, false)
  | [], b :: _ => (b, false, true)
  | a :: _, b :: _ => if 0 < cmpP a b then (b, false, true) else (a, true, cmpP a b == 0)
  | [], [] => ((0, 0), false, false)
/-- a list without its first cell, if it is to go -/
def cutF (go : Bool) (l : List (Int × Int)) : List (Int × Int) := if go then l.tail else l
/-- the cells that are kept -/
def mg (keep : Bool → Bool → Bool) : Nat → List (Int × Int) → List (Int × Int) → List (Int × Int)
  | 0, _, _ => []
  | f + 1, la, lb => if la = [] ∧ lb = [] then [] else
      (if keep (firstF la lb).2.1 (firstF la lb).2.2 then [(firstF la lb).1] else []) ++ mg keep f (cutF (firstF la lb).2.1 la) (cutF (firstF la lb).2.2 lb)

theorem cmpP_pos (p q : Int × Int) : 0 < cmpP p q ↔ ahead q p := by
  unfold cmpP orI cmpI ahead
  split <;> split <;> (try split) <;> (try split) <;> omega

/-- what the first cell is -/
theorem firstF_spec (la lb : List (Int × Int)) (ha : Tidy la) (hb : Tidy lb) (hne : ¬ (la = [] ∧ lb = [])) :
    ((firstF la lb).2.1 = true → la = (firstF la lb).1 :: la.tail) ∧ ((firstF la lb).2.2 = true → lb = (firstF la lb).1 :: lb.tail) ∧ ((firstF la lb).2.1 = true ∨ (firstF la lb).2.2 = true) ∧
    (∀ p, p ∈ cutF (firstF la lb).2.1 la → ahead (firstF la lb).1 p) ∧ (∀ p, p ∈ cutF (firstF la lb).2.2 lb → ahead (firstF la lb).1 p) := by
  cases la with
  | nil =>
    cases lb with
    | nil => exact absurd ⟨rfl, rfl⟩ hne
    | cons b lb =>
      have h := (List.pairwise_cons.1 hb).1
      exact ⟨fun h => by simp [firstF] at h, fun _ => rfl, Or.inr rfl, fun p hp => by simp [firstF, cutF] at hp, fun p hp => h p (by simpa [firstF, cutF] using hp)⟩
  | cons a la =>
    have h1 := (List.pairwise_cons.1 ha).1
    cases lb with
    | nil => exact ⟨fun _ => rfl, fun h => by simp [firstF] at h, Or.inl rfl, fun p hp => h1 p (by simpa [firstF, cutF] using hp), fun p hp => by simp [firstF, cutF] at hp⟩
    | cons b lb =>
      have h2 := (List.pairwise_cons.1 hb).1
      by_cases hc : 0 < cmpP a b
      · have e : firstF (a :: la) (b :: lb) = (b, false, true) := by simp [firstF, hc]
        have hba := (cmpP_pos a b).1 hc
        rw [e]
        refine ⟨fun h => by simp at h, fun _ => rfl, Or.inr rfl, fun p hp => ?_, fun p hp => h2 p (by simpa [cutF] using hp)⟩
        rcases List.mem_cons.1 (show p ∈ a :: la by simpa [cutF] using hp) with rfl | hp
        · exact hba
        · exact ahead_trans hba (h1 p hp)
      · have e : firstF (a :: la) (b :: lb) = (a, true, cmpP a b == 0) := by simp [firstF, hc]
        rw [e]
        by_cases h0 : cmpP a b = 0
        · have hab := (cmpP_zero a b).1 h0
          subst hab
          have e0 : (cmpP a a == 0) = true := by simpa using h0
          rw [e0]
          exact ⟨fun _ => rfl, fun _ => rfl, Or.inl rfl, fun p hp => h1 p (by simpa [cutF] using hp), fun p hp => h2 p (by simpa [cutF] using hp)⟩
        · have e0 : (cmpP a b == 0) = false := by simpa using h0
          have hab : ahead a b := (cmpP_neg a b).1 (by omega)
          rw [e0]
          refine ⟨fun _ => rfl, fun h => by simp at h, Or.inl rfl, fun p hp => h1 p (by simpa [cutF] using hp), fun p hp => ?_⟩
          rcases List.mem_cons.1 (show p ∈ b :: lb by simpa [cutF] using hp) with rfl | hp
          · exact hab
          · exact ahead_trans hab (h2 p hp)

theorem cutF_tidy {go : Bool} {l : List (Int × Int)} (h : Tidy l) : Tidy (cutF go l) := by
  unfold cutF
  split
  · exact h.tail
  · exact h
theorem cutF_length {go : Bool} {l : List (Int × Int)} {c : Int × Int} (h : go = true → l = c :: l.tail) : (cutF go l).length + (if go then 1 else 0) = l.length := by
  cases go with
  | false => simp [cutF]
  | true => have := h rfl; rw [this]; simp [cutF]
theorem cutF_mem {go : Bool} {l : List (Int × Int)} {c : Int × Int} (h : go = true → l = c :: l.tail) (p : Int × Int) : p ∈ l ↔ (go = true ∧ p = c) ∨ p ∈ cutF go l := by
  cases go with
  | false => simp [cutF]
  | true => rw [h rfl]; simp [cutF]

/-- in order, each once, and of each cell: kept by which of the lists it is in -/
theorem mg_spec (keep : Bool → Bool → Bool) : ∀ (f : Nat) (la lb : List (Int × Int)), Tidy la → Tidy lb → la.length + lb.length ≤ f →
    Tidy (mg keep f la lb) ∧ (∀ p, p ∈ mg keep f la lb ↔ (p ∈ la ∨ p ∈ lb) ∧ keep (decide (p ∈ la)) (decide (p ∈ lb)) = true)
  | 0, la, lb, _, _, hl => by
    have h1 : la = [] := List.length_eq_zero_iff.1 (by omega)
    have h2 : lb = [] := List.length_eq_zero_iff.1 (by omega)
    subst h1 h2
    exact ⟨List.Pairwise.nil, fun p => by simp [mg]⟩
  | f + 1, la, lb, ha, hb, hl => by
    by_cases hne : la = [] ∧ lb = []
    · obtain ⟨rfl, rfl⟩ := hne
      exact ⟨by simp [mg, Tidy], fun p => by simp [mg]⟩
    · obtain ⟨s1, s2, s3, s4, s5⟩ := firstF_spec la lb ha hb hne
      rw [mg, if_neg hne]
      generalize hF : firstF la lb = F at *
      obtain ⟨c, i, j⟩ := F
      simp only at s1 s2 s3 s4 s5 ⊢
      have l1 := cutF_length s1
      have l2 := cutF_length s2
      have hlen : (cutF i la).length + (cutF j lb).length ≤ f := by
        rcases s3 with h | h
        · have l1' : (cutF i la).length + 1 = la.length := by rw [← l1, if_pos h]
          omega
        · have l2' : (cutF j lb).length + 1 = lb.length := by rw [← l2, if_pos h]
          omega
      obtain ⟨t1, t2⟩ := mg_spec keep f (cutF i la) (cutF j lb) (cutF_tidy ha) (cutF_tidy hb) hlen
      have hcA : ¬ c ∈ cutF i la := fun h => ahead_irrefl c (s4 c h)
      have hcB : ¬ c ∈ cutF j lb := fun h => ahead_irrefl c (s5 c h)
      have mA := fun p => cutF_mem s1 p
      have mB := fun p => cutF_mem s2 p
      constructor
      · refine List.pairwise_append.2 ⟨?_, t1, fun p hp q hq => ?_⟩
        · split
          · exact List.pairwise_singleton _ _
          · exact List.Pairwise.nil
        · have hpc : p = c := by
            split at hp
            · simpa using hp
            · simp at hp
          subst hpc
          rcases ((t2 q).1 hq).1 with h | h
          · exact s4 q h
          · exact s5 q h
      · intro p
        rw [List.mem_append, t2 p]
        by_cases hpc : p = c
        · subst hpc
          have dA : decide (p ∈ la) = i := by
            cases i with
            | true => rw [decide_eq_true_eq]; exact (mA p).2 (Or.inl ⟨rfl, rfl⟩)
            | false => rw [decide_eq_false_iff_not, mA p]; simp [hcA]
          have dB : decide (p ∈ lb) = j := by
            cases j with
            | true => rw [decide_eq_true_eq]; exact (mB p).2 (Or.inl ⟨rfl, rfl⟩)
            | false => rw [decide_eq_false_iff_not, mB p]; simp [hcB]
          rw [dA, dB]
          have hor : p ∈ la ∨ p ∈ lb := by
            rcases s3 with h | h
            · left; exact (mA p).2 (Or.inl ⟨h, rfl⟩)
            · right; exact (mB p).2 (Or.inl ⟨h, rfl⟩)
          constructor
          · rintro (h | h)
            · refine ⟨hor, ?_⟩
              split at h
              · assumption
              · simp at h
            · rcases h.1 with h | h
              · exact absurd h hcA
              · exact absurd h hcB
          · rintro ⟨_, h⟩
            left
            rw [if_pos h]
            simp
        · have nA : (p ∈ la ↔ p ∈ cutF i la) := by rw [mA p]; simp [hpc]
          have nB : (p ∈ lb ↔ p ∈ cutF j lb) := by rw [mB p]; simp [hpc]
          have dA : decide (p ∈ la) = decide (p ∈ cutF i la) := decide_eq_decide.2 nA
          have dB : decide (p ∈ lb) = decide (p ∈ cutF j lb) := decide_eq_decide.2 nB
          rw [dA, dB, nA, nB]
          constructor
          · rintro (h | h)
            · split at h
              · exact absurd (by simpa using h) hpc
              · simp at h
            · exact h
          · intro h
            exact Or.inr h
end Go.Proofs.Ytplnnlfmehfaiaa

namespace Go.Proofs.Ytplnnlfmehfaiaa
open Go.RowKit Go.Lib Go.Sort

theorem mg_length (keep : Bool → Bool → Bool) : ∀ (f : Nat) (la lb : List (Int × Int)), (mg keep f la lb).length ≤ f
  | 0, _, _ => by simp [mg]
  | f + 1, la, lb => by
    rw [mg]
    split
    · simp
    · have := mg_length keep f (cutF (firstF la lb).2.1 la) (cutF (firstF la lb).2.2 lb)
      rw [List.length_append]
      split <;> simp <;> omega

/-- the error's number and the list that merge answers -/
def mergeF (keep : Bool → Bool → Bool) (tc uc : Int) (ys ts : List (Int × Int)) : Int × List (Int × Int) :=
  if tc ≠ 0 then (tc, []) else if uc ≠ 0 then (uc, []) else if 4096 < (mg keep (ys.length + ts.length) ys ts).length then (5, []) else (0, mg keep (ys.length + ts.length) ys ts)
def MergeOut (keep : Bool → Bool → Bool) (za zb : List (Int × Int)) (w : World) (e : Ending) (w' : World) : Prop :=
  ∃ u ys ts, Tidied za ys ∧ Tidied zb ts ∧ e = .returned (.tuple #[u, .int .i64 (mergeF keep (tcode za) (tcode zb) ys ts).1]) ∧ Below w.heap.size w w' ∧ Row w' u (mergeF keep (tcode za) (tcode zb) ys ts).2

theorem ORow.rrow {w : World} {base : Nat} {v : Value} {zs : List (Int × Int)} (h : ORow w base v zs) : RRow w v zs := h.read.isRow

theorem mg_none (keep : Bool → Bool → Bool) (f : Nat) : mg keep f [] [] = [] := by
  cases f <;> simp [mg]
/-- there is such a list -/
theorem tidied_exists (zs : List (Int × Int)) : ∃ ys, Tidied zs ys := by
  by_cases hc : tcode zs = 0
  · have : ∀ l : List (Int × Int), ∃ m, Tidy m ∧ ∀ p, p ∈ m ↔ p ∈ l := by
      intro l
      induction l with
      | nil => exact ⟨[], List.Pairwise.nil, fun p => Iff.rfl⟩
      | cons c l ih =>
        obtain ⟨m, h1, h2⟩ := ih
        obtain ⟨t1, t2⟩ := mg_spec (fun _ _ => true) (1 + m.length) [c] m (List.pairwise_singleton _ _) h1 (by simp)
        exact ⟨_, t1, fun p => by rw [t2 p]; simp [h2 p]⟩
    obtain ⟨m, h1, h2⟩ := this zs
    exact ⟨m, h1, fun p => by rw [h2 p, hc]; simp⟩
  · exact ⟨[], List.Pairwise.nil, fun p => by simp [hc]⟩

theorem len_le : ∀ {ys zs : List (Int × Int)}, ys.Nodup → (∀ p, p ∈ ys → p ∈ zs) → ys.length ≤ zs.length
  | [], _, _, _ => Nat.zero_le _
  | p :: r, zs, hn, hs => by
    have h1 := List.nodup_cons.1 hn
    have hp : p ∈ zs := hs p (by simp)
    have h2 : r.length ≤ (zs.erase p).length := len_le h1.2 fun q hq => by
      have hne : q ≠ p := fun e => h1.1 (by rw [← e]; exact hq)
      exact (List.mem_erase_of_ne hne).2 (hs q (by simp [hq]))
    have h3 := List.length_erase_of_mem hp
    have h4 : 0 < zs.length := List.length_pos_of_mem hp
    rw [List.length_cons]
    omega
theorem tidied_short {zs ys : List (Int × Int)} (h : Tidied zs ys) (hz : tcode zs = 0) : ys.length ≤ 4096 := by
  have h1 : ys.Nodup := by
    refine h.1.imp ?_
    intro a b hab e
    subst e
    exact ahead_irrefl a hab
  have h2 : ys.length ≤ zs.length := len_le h1 (fun p hp => ((h.2 p).1 hp).1)
  have h3 : zs.length ≤ 4096 := by
    unfold tcode at hz
    by_cases c1 : 4096 < zs.length
    · rw [if_pos c1] at hz; omega
    · omega
  omega
end Go.Proofs.Ytplnnlfmehfaiaa
