/- What the laws of quad share. -/
import Derived.Test.YtkcngkcfcokboaaSqMade
import Derived.Test.YtkcngkcfcokboaaSqBoxRoot
namespace Go.Proofs.Ytkcngkcfcokboaa.A
open Go.RowKit Go.Maps

/-- a list's first 300 cells -/
theorem cut_row {w : World} {a : Option Addr} {c : Nat} {zs : List (Int × Int)} (h : RRow w (.slice a zs.length c) zs) (hl : 300 < zs.length) : RRow w (.slice a 300 c) (zs.take 300) := by
  obtain ⟨a', c', e, hc, hm, ha, h⟩ := h
  simp only [Value.slice.injEq] at e
  obtain ⟨rfl, _, rfl⟩ := e
  have hlen : (zs.take 300).length = 300 := by rw [List.length_take]; omega
  refine ⟨a, c, by rw [hlen], by rw [hlen]; omega, hm, ha, ?_⟩
  rcases h with h | ⟨b, off, hb, hlt, hp⟩
  · omega
  · refine Or.inr ⟨b, off, hb, hlt, fun j hj => ?_⟩
    rw [hlen] at hj
    have := hp j (by omega)
    have e : (zs.take 300)[j]! = zs[j]! := by
      rw [getElem!_pos _ j (by rw [hlen]; exact hj), getElem!_pos zs j (by omega), List.getElem_take]
    show w.cell? _ = some (.int .i64 ((zs.take 300)[j]!).1) ∧ w.cell? _ = some (.int .i64 ((zs.take 300)[j]!).2)
    rw [e]
    exact this
theorem tidy_ins (c : Int × Int) : ∀ m : List (Int × Int), Tidy m → ∃ m', Tidy m' ∧ ∀ p, p ∈ m' ↔ p = c ∨ p ∈ m
  | [], _ => ⟨[c], List.pairwise_singleton _ _, fun p => by simp⟩
  | d :: m, h => by
    have h2 := List.pairwise_cons.1 h
    rcases ahead_or c d with e | e | e
    · refine ⟨c :: d :: m, List.pairwise_cons.2 ⟨fun q hq => ?_, h⟩, fun p => by simp⟩
      rcases List.mem_cons.1 hq with rfl | hq
      · exact e
      · exact ahead_trans e (h2.1 q hq)
    · subst e
      exact ⟨c :: m, h, fun p => by simp⟩
    · obtain ⟨m', h3, h4⟩ := tidy_ins c m h2.2
      refine ⟨d :: m', List.pairwise_cons.2 ⟨fun q hq => ?_, h3⟩, fun p => ?_⟩
      · rcases (h4 q).1 hq with rfl | hq
        · exact e
        · exact h2.1 q hq
      · rw [List.mem_cons, h4, List.mem_cons]
        constructor
        · rintro (h | h | h)
          · exact Or.inr (Or.inl h)
          · exact Or.inl h
          · exact Or.inr (Or.inr h)
        · rintro (h | h | h)
          · exact Or.inr (Or.inl h)
          · exact Or.inl h
          · exact Or.inr (Or.inr h)
theorem tidied_exists (zs : List (Int × Int)) : ∃ ys, Tidied zs ys := by
  by_cases hc : tcode zs = 0
  · have : ∀ l : List (Int × Int), ∃ m, Tidy m ∧ ∀ p, p ∈ m ↔ p ∈ l := by
      intro l
      induction l with
      | nil => exact ⟨[], List.Pairwise.nil, fun p => Iff.rfl⟩
      | cons c l ih =>
        obtain ⟨m, h1, h2⟩ := ih
        obtain ⟨m', t1, t2⟩ := tidy_ins c m h1
        exact ⟨m', t1, fun p => by rw [t2 p]; simp [h2 p]⟩
    obtain ⟨m, h1, h2⟩ := this zs
    exact ⟨m, h1, fun p => by rw [h2 p, hc]; simp⟩
  · exact ⟨[], List.Pairwise.nil, fun p => by simp [hc]⟩
/-- as many cells in the square as in the list -/
theorem made_len {l : List Th} {n : Nat} {id : Int} {ys : List (Int × Int)} (hG : Good l) (hg : glevel l id = some (n : Int)) (hT : Tidy ys) (hc : ∀ p : Int × Int, p ∈ cellsF l n id ↔ (p.1 - (halfN n : Int), p.2 - (halfN n : Int)) ∈ ys) : (cellsF l n id).length = ys.length := by
  have e : (shiftL (-(halfN n : Int)) (-(halfN n : Int)) (cellsF l n id)).length = ys.length := by
    have n1 : (shiftL (-(halfN n : Int)) (-(halfN n : Int)) (cellsF l n id)).Nodup := by
      unfold shiftL
      refine List.Pairwise.map _ (fun a b hab e => hab ?_) (cells_nodup hG n id hg)
      have e1 := congrArg Prod.fst e
      have e2 := congrArg Prod.snd e
      simp only at e1 e2
      exact Prod.ext (by omega) (by omega)
    refine List.Perm.length_eq ((List.perm_ext_iff_of_nodup n1 (tidy_nodup hT)).2 fun p => ?_)
    rw [mem_shift, hc]
    simp only
    rw [show p.1 - -(halfN n : Int) - (halfN n : Int) = p.1 by omega, show p.2 - -(halfN n : Int) - (halfN n : Int) = p.2 by omega]
  rw [shift_len] at e
  exact e
theorem made_mem {l : List Th} {n : Nat} {id : Int} {ys : List (Int × Int)} (hc : ∀ p : Int × Int, p ∈ cellsF l n id ↔ (p.1 - (halfN n : Int), p.2 - (halfN n : Int)) ∈ ys) : ∀ p, p ∈ shiftL (-(halfN n : Int)) (-(halfN n : Int)) (cellsF l n id) ↔ p ∈ ys := fun p => by
  rw [mem_shift, hc]
  simp only
  rw [show p.1 - -(halfN n : Int) - (halfN n : Int) = p.1 by omega, show p.2 - -(halfN n : Int) - (halfN n : Int) = p.2 by omega]
theorem BoxOr.same {ys zs : List (Int × Int)} {x0 y0 x1 y1 : Int} (h : BoxOr ys x0 y0 x1 y1) (k : ∀ p, p ∈ ys ↔ p ∈ zs) : BoxOr zs x0 y0 x1 y1 := by
  rcases h with ⟨rfl, h⟩ | h
  · refine Or.inl ⟨?_, h⟩
    rcases zs with _ | ⟨c, zs⟩
    · rfl
    · have := (k c).2 (by simp); cases this
  · exact Or.inr (h.same k)
/-- what Bounds tells, in these words -/
theorem refBounds_or (u : Value) (ys : List (Int × Int)) (W : World) (h : Row W u ys) : ∃ x0 y0 x1 y1, BoxOr ys x0 y0 x1 y1 ∧ Calls Try.prog 46 #[u] W fun e w' => e = .returned (.tuple #[.agg #[.int .i64 x0, .int .i64 y0, .int .i64 x1, .int .i64 y1], .bool (decide (ys ≠ []))]) ∧ Below W.heap.size W w' := by
  by_cases h0 : ys = []
  · subst h0
    exact ⟨0, 0, 0, 0, Or.inl ⟨rfl, rfl, rfl, rfl, rfl⟩, ref_any u 0 (fun j => (([] : List (Int × Int))[j]!).1) (fun j => (([] : List (Int × Int))[j]!).2) W h.isRow⟩
  · have hl : 0 < ys.length := List.length_pos_iff.2 h0
    refine ⟨_, _, _, _, Or.inr (box_is h0), ?_⟩
    have := ref_any u ys.length (fun j => (ys[j]!).1) (fun j => (ys[j]!).2) W h.isRow
    unfold boxOf at this
    rw [show decide (0 < ys.length) = decide (ys ≠ []) by simp [h0, hl]] at this
    exact this
end Go.Proofs.Ytkcngkcfcokboaa.A
