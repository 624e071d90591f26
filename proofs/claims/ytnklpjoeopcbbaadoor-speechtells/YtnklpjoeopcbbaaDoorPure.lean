/- Lists of cells in order, each once: what is plain mathematics of them. -/
import Derived.Test.YtnklpjoeopcbbaaDoorOrd
import Derived.Lib.SlicesCompact
namespace Go.Proofs.YtnklpjoeopcbbaaDoor
open Go.Lib Go.Sort

theorem ahead_irrefl (p : Int × Int) : ¬ ahead p p := by unfold ahead; omega
theorem ahead_trans {p q r : Int × Int} (h : ahead p q) (k : ahead q r) : ahead p r := by unfold ahead at *; omega
theorem ahead_asymm {p q : Int × Int} (h : ahead p q) : ¬ ahead q p := by unfold ahead at *; omega
theorem ahead_or (p q : Int × Int) : ahead p q ∨ p = q ∨ ahead q p := by
  obtain ⟨a, b⟩ := p
  obtain ⟨c, d⟩ := q
  simp only [ahead, Prod.mk.injEq]
  omega

/-- in order, each once -/
def Tidy (l : List (Int × Int)) : Prop := l.Pairwise ahead

/-- two lists in order, each once, of the same cells are one -/
theorem tidy_unique : ∀ (l m : List (Int × Int)), Tidy l → Tidy m → (∀ p, p ∈ l ↔ p ∈ m) → l = m
  | [], [], _, _, _ => rfl
  | [], q :: m, _, _, h => absurd ((h q).2 (by simp)) (by simp)
  | p :: l, [], _, _, h => absurd ((h p).1 (by simp)) (by simp)
  | p :: l, q :: m, hl, hm, h => by
    have h1 := List.pairwise_cons.1 hl
    have h2 := List.pairwise_cons.1 hm
    have e : p = q := by
      rcases List.mem_cons.1 ((h p).1 (by simp)) with e | e
      · exact e
      · rcases List.mem_cons.1 ((h q).2 (by simp)) with e' | e'
        · exact e'.symm
        · exact absurd (h2.1 p e) (ahead_asymm (h1.1 q e'))
    subst e
    congr 1
    refine tidy_unique l m h1.2 h2.2 fun r => ?_
    constructor
    · intro hr
      rcases List.mem_cons.1 ((h r).1 (by simp [hr])) with e | e
      · subst e; exact absurd (h1.1 r hr) (ahead_irrefl r)
      · exact e
    · intro hr
      rcases List.mem_cons.1 ((h r).2 (by simp [hr])) with e | e
      · subst e; exact absurd (h2.1 r hr) (ahead_irrefl r)
      · exact e

/-- what Compact keeps of a sorted row: in order, each once, the same cells -/
theorem compact_tidy (d : Array (Int × Int)) (n : Nat) (hs : ∀ i j, i < j → j < n → ¬ ahead d[j]! d[i]!) :
    ∀ m, m ≤ n → Tidy (compactUpTo d m) ∧ ∀ p, p ∈ compactUpTo d m ↔ ∃ j, j < m ∧ d[j]! = p := by
  intro m
  induction m with
  | zero => intro _; exact ⟨List.Pairwise.nil, fun p => by simp [compactUpTo]⟩
  | succ m ih =>
    intro hm
    obtain ⟨h1, h2⟩ := ih (by omega)
    rw [compactUpTo_succ]
    by_cases hk : keeps d m = true
    · rw [if_pos hk]
      have hk' : m = 0 ∨ d[m]! ≠ d[m - 1]! := by simpa [keeps] using hk
      constructor
      · refine List.pairwise_append.2 ⟨h1, List.pairwise_singleton _ _, fun p hp q hq => ?_⟩
        rw [List.mem_singleton] at hq
        subst hq
        obtain ⟨j, hj, rfl⟩ := (h2 p).1 hp
        have a := hs j m hj (by omega)
        rcases ahead_or d[j]! d[m]! with h | h | h
        · exact h
        · rcases hk' with h0 | h0
          · omega
          · exfalso
            by_cases e : j = m - 1
            · subst e; exact h0 h.symm
            · have b := hs j (m - 1) (by omega) (by omega)
              have c := hs (m - 1) m (by omega) (by omega)
              rw [h] at b
              rcases ahead_or d[m]! d[m - 1]! with x | x | x
              · exact c x
              · exact h0 x
              · exact b x
        · exact absurd h a
      · intro p
        rw [List.mem_append, h2 p, List.mem_singleton]
        constructor
        · rintro (⟨j, hj, e⟩ | e)
          · exact ⟨j, by omega, e⟩
          · exact ⟨m, by omega, e.symm⟩
        · rintro ⟨j, hj, e⟩
          by_cases h : j = m
          · subst h; exact Or.inr e.symm
          · exact Or.inl ⟨j, by omega, e⟩
    · rw [if_neg hk, List.append_nil]
      refine ⟨h1, fun p => ?_⟩
      have hk' : ¬ (m = 0 ∨ d[m]! ≠ d[m - 1]!) := by simpa [keeps] using hk
      rw [h2 p]
      constructor
      · rintro ⟨j, hj, e⟩; exact ⟨j, by omega, e⟩
      · rintro ⟨j, hj, e⟩
        by_cases h : j = m
        · subst h
          refine ⟨j - 1, by omega, ?_⟩
          rw [← e]
          exact (Classical.byContradiction fun c => hk' (Or.inr fun x => c x.symm))
        · exact ⟨j, by omega, e⟩
end Go.Proofs.YtnklpjoeopcbbaaDoor
