/- A cell put into a list in order, and the memory of it: plain mathematics, and the built-in copy of cells. -/
import Derived.Test.YtnklpjoeopcbbaaDoorSame
import Derived.Laws.CopyOwn
namespace Go.Proofs.YtnklpjoeopcbbaaDoor
open Go.RowKit Go.Lib Go.Sort

theorem mem_take_get {zs : List (Int × Int)} {k : Nat} {p : Int × Int} (h : p ∈ zs.take k) : ∃ j, j < k ∧ j < zs.length ∧ zs[j]! = p := by
  obtain ⟨j, hj, e⟩ := List.getElem_of_mem h
  have h1 : j < k ∧ j < zs.length := by simp at hj; omega
  refine ⟨j, h1.1, h1.2, ?_⟩
  rw [getElem!_pos zs j h1.2, ← e, List.getElem_take]
theorem mem_drop_get {zs : List (Int × Int)} {k : Nat} {p : Int × Int} (h : p ∈ zs.drop k) : ∃ j, k ≤ j ∧ j < zs.length ∧ zs[j]! = p := by
  obtain ⟨j, hj, e⟩ := List.getElem_of_mem h
  have h1 : k + j < zs.length := by simp at hj; omega
  refine ⟨k + j, by omega, h1, ?_⟩
  rw [getElem!_pos zs (k + j) h1, ← e, List.getElem_drop]
theorem tidy_get {zs : List (Int × Int)} (h : Tidy zs) {i j : Nat} (hij : i < j) (hj : j < zs.length) : ahead zs[i]! zs[j]! := by
  rw [getElem!_pos zs i (by omega), getElem!_pos zs j hj]
  exact List.pairwise_iff_getElem.1 h i j (by omega) hj hij

theorem put_tidy {zs : List (Int × Int)} {c : Int × Int} {k : Nat} (hT : Tidy zs) (hk : k ≤ zs.length) (hlo : ∀ j, j < k → ahead zs[j]! c) (hhi : ∀ j, k ≤ j → j < zs.length → ¬ ahead zs[j]! c) (hne : k < zs.length → zs[k]! ≠ c) :
    Tidy (zs.take k ++ c :: zs.drop k) ∧ ∀ p, p ∈ zs.take k ++ c :: zs.drop k ↔ p = c ∨ p ∈ zs := by
  have hT' : (zs.take k ++ zs.drop k).Pairwise ahead := by rw [List.take_append_drop]; exact hT
  obtain ⟨t1, t2, t3⟩ := List.pairwise_append.1 hT'
  have hc : ∀ p ∈ zs.drop k, ahead c p := by
    intro p hp
    obtain ⟨j, hj, hl, rfl⟩ := mem_drop_get hp
    rcases ahead_or zs[j]! c with h | h | h
    · exact absurd h (hhi j hj hl)
    · exfalso
      by_cases e : j = k
      · subst e; exact hne hl h
      · have := tidy_get hT (show k < j by omega) hl
        rw [h] at this
        exact hhi k (Nat.le_refl _) (by omega) this
    · exact h
  constructor
  · refine List.pairwise_append.2 ⟨t1, List.pairwise_cons.2 ⟨hc, t2⟩, fun p hp q hq => ?_⟩
    rcases List.mem_cons.1 hq with rfl | hq
    · obtain ⟨j, hj, _, rfl⟩ := mem_take_get hp
      exact hlo j hj
    · exact t3 p hp q hq
  · intro p
    rw [List.mem_append, List.mem_cons]
    have : p ∈ zs ↔ p ∈ zs.take k ∨ p ∈ zs.drop k := by
      rw [← List.mem_append, List.take_append_drop]
    rw [this]
    constructor
    · rintro (h | h | h)
      · exact Or.inr (Or.inl h)
      · exact Or.inl h
      · exact Or.inr (Or.inr h)
    · rintro (h | h | h)
      · exact Or.inr (Or.inl h)
      · exact Or.inl h
      · exact Or.inr (Or.inr h)

/-- a list's cells in memory, one behind the other -/
def cellsL (zs : List (Int × Int)) : List Value := zs.flatMap encPt
theorem cellsL_cons (p : Int × Int) (zs : List (Int × Int)) : cellsL (p :: zs) = .int .i64 p.1 :: .int .i64 p.2 :: cellsL zs := rfl
theorem cellsL_append (a b : List (Int × Int)) : cellsL (a ++ b) = cellsL a ++ cellsL b := List.flatMap_append
theorem cellsL_length : ∀ zs : List (Int × Int), (cellsL zs).length = zs.length * 2
  | [] => rfl
  | p :: zs => by rw [cellsL_cons, List.length_cons, List.length_cons, cellsL_length zs, List.length_cons]; omega
theorem cellsL_one (zs : List (Int × Int)) (u : Value) (h : u ∈ cellsL zs) : u.oneCell' = true := by
  obtain ⟨p, _, hu⟩ := List.mem_flatMap.1 h
  exact encPt_one p u hu
theorem cellsL_get : ∀ (zs : List (Int × Int)) (j : Nat), j < zs.length → (cellsL zs)[j * 2]? = some (.int .i64 (zs[j]!).1) ∧ (cellsL zs)[j * 2 + 1]? = some (.int .i64 (zs[j]!).2)
  | [], j, h => by simp at h
  | p :: zs, 0, _ => ⟨rfl, rfl⟩
  | p :: zs, j + 1, h => by
    have := cellsL_get zs j (by simpa using h)
    rw [cellsL_cons, show (j + 1) * 2 = j * 2 + 1 + 1 by omega, show j * 2 + 1 + 1 + 1 = (j * 2 + 1) + 1 + 1 by omega]
    simp only [List.getElem?_cons_succ]
    have e : (p :: zs)[j + 1]! = zs[j]! := by simp
    rw [e]
    exact this
theorem cellsL_take : ∀ (zs : List (Int × Int)) (k : Nat), cellsL (zs.take k) = (cellsL zs).take (k * 2)
  | [], k => by simp [cellsL]
  | p :: zs, 0 => rfl
  | p :: zs, k + 1 => by
    rw [List.take_succ_cons, cellsL_cons, cellsL_cons, cellsL_take zs k, show (k + 1) * 2 = k * 2 + 1 + 1 by omega, List.take_succ_cons, List.take_succ_cons]
theorem cellsL_drop : ∀ (zs : List (Int × Int)) (k : Nat), cellsL (zs.drop k) = (cellsL zs).drop (k * 2)
  | [], k => by simp [cellsL]
  | p :: zs, 0 => rfl
  | p :: zs, k + 1 => by
    rw [List.drop_succ_cons, cellsL_cons, cellsL_drop zs k, show (k + 1) * 2 = k * 2 + 1 + 1 by omega, List.drop_succ_cons, List.drop_succ_cons]

theorem holdsR_of_owns {w : World} {base g n cap : Nat} {zs : List (Int × Int)} (h : w.ownsRow base 59 2 (.slice (some ⟨g, 0, none⟩) n cap) n (cellsL zs)) : HoldsR w g 0 zs := by
  intro j hj
  obtain ⟨e0, e1⟩ := cellsL_get zs j hj
  have h0 := h.cells rfl _ _ e0
  have h1 := h.cells rfl _ _ e1
  rw [addP] at h0 h1
  exact ⟨h0, by rw [← h1]; congr 2⟩

/-- the built-in copy, of cells, within a row of the call's own -/
theorem copy_run (w : World) (ty : TypeId) (g o dLen dCap : Nat) (a : Addr) (sLen sCap : Nat) (cur : Array Value) (t : TypeId) (cs : List Value) (n : Nat)
    (hg : w.heap[g]? = some (.cells cur t (0, 0))) (hn : n = Nat.min sLen dLen) (hl : cs.length = n * 2)
    (hsrc : ∀ j v, cs[j]? = some v → w.cell? (a.add j) = some v) (hfit : o + cs.length ≤ cur.size) (h1 : ∀ v ∈ cs, v.oneCell' = true) :
    (Builtin.copy_ #[28, 28] ty #[.slice (some ⟨g, o, none⟩) dLen dCap, .slice (some a) sLen sCap]).run Tryd.prog w =
      .ok (goInt n) (w.setRow g (cur.toList.take o ++ cs ++ cur.toList.drop (o + cs.length)).toArray) := by
  have hld := run_loadCells_list (P := Tryd.prog) w a cs hsrc
  have hst := run_storeCells_at Tryd.prog g o t cs 0 cur w hg (by simpa using hfit) h1
  rw [hl] at hld
  simp [Builtin.copy_, run_underlying Tryd.underlying28, Builtin.lenOf, Builtin.firstCells, Tryd.sizeOf59, ← hn, hld, hst]
end Go.Proofs.YtnklpjoeopcbbaaDoor
