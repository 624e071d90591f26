/- quarters: the walk. -/
import Derived.Test.YtofbcngcblleaabGreatQuQuart
namespace Go.Proofs.YtofbcngcblleaabGreat.A
open Go.RowKit Go.Maps
theorem hnw (p q : Int) (W : World) : ∀ (j : Nat) (u : Value), [Value.int .i64 p, .int .i64 q][j]? = some u → (W.alloc (.cells #[.int .i64 p, .int .i64 q] 27)).drew.cell? ((⟨W.heap.size, 0, none⟩ : Addr).add j) = some u :=
  World.news_of_block (cs := #[.int .i64 p, .int .i64 q]) (t := 27) (fr := (0, 0)) (heap_alloc_new W _)
theorem row_slice {w : World} {B e n sz : Nat} {v : Value} {xs : List Value} (h : w.ownsRow B e sz v n xs) : ∃ a c, v = .slice a n c := by
  obtain ⟨_, ⟨h1, h2⟩ | ⟨g, cap, cur, h1, _⟩⟩ := h
  · exact ⟨none, 0, by rw [h1, h2]⟩
  · exact ⟨_, _, h1⟩
theorem hone (p q : Int) : ∀ u ∈ [Value.int .i64 p, .int .i64 q], u.oneCell' = true := by
  intro u hu
  simp at hu
  rcases hu with rfl | rfl <;> rfl
set_option maxRecDepth 20000 in
set_option maxHeartbeats 8000000 in
theorem quarters_some (b off cp : Nat) (zs : List (Int × Int)) (x y : Int) (w : World) (hb : b < w.heap.size) (hn : zs.length ≤ 4096) (hH : HoldsR w b off zs) :
    Calls Tryz.prog 56 #[.slice (some ⟨b, off, none⟩) zs.length cp, .int .i64 x, .int .i64 y] w fun e w' => ∃ vs : Nat → Value, e = .returned (.agg #[vs 0, vs 1, vs 2, vs 3]) ∧ (∀ i, i < 4 → w'.ownsRow (w.heap.size + 2) 27 2 (vs i) (part x y zs i).length (cL (part x y zs i))) ∧ Below w.heap.size w w' := by
  obtain ⟨i0, hi, hz0, hz1, hz2⟩ := info_parts Tryz.info27
  have Q0 : QS w ((w.alloc (.cells nil4 101)).alloc (.cells nil4 101)) x y (zs.take 0) (fun _ => .slice none 0 0) :=
    ⟨heap_alloc2_new w _ _, heap_alloc2_old w _ _, fun i _ => ⟨by simp [part, cL], Or.inl ⟨rfl, by simp [part]⟩⟩, fun i j b _ _ h1 _ => by simp [Value.ownBlock] at h1, ((Below.refl _ _).alloc (Nat.le_refl _) _).alloc (by simp) _⟩
  have HH : Hid (HoldsR w b off zs) := hH
  have HZ : Hid (∀ k, k < zs.length → zs.take (k + 1) = zs.take k ++ [zs[k]!]) := fun k hk => by
    rw [List.take_add_one, List.getElem?_eq_getElem hk]; simp [hk]
  have HTA : Hid (zs.take zs.length = zs) := List.take_length
  clear hH
  go_enter Tryz.func56, Tryz.ntmps56
  go_wp2_with fail
  go_loopg [13] zs.length (fun g s13 wr => ∃ (k : Nat) (vs : Nat → Value), k + g = zs.length ∧ s13 = .int .i64 k ∧ QS w wr x y (zs.take k) vs)
  case atStart => exact ⟨0, _, by omega, rfl, Q0⟩
  case round =>
    clear Q0
    obtain ⟨k, vs, hkg, rfl, Q⟩ := hrel
    have HI : Hid (k + gk = zs.length) := hkg
    have hqlt : w.heap.size + 1 < wr.heap.size := (Array.getElem?_eq_some_iff.1 Q.blk).1
    clear hkg
    by_cases hk : k < zs.length
    · obtain ⟨e0, e1⟩ := HH.out k hk
      have f0 : wr.cell? ⟨b, off + k * 2, none⟩ = some (.int .i64 (zs[k]!).1) := (Q.bel.cell (p := ⟨b, off + k * 2, none⟩) hb).trans e0
      have f1 : wr.cell? ⟨b, off + k * 2 + 1, none⟩ = some (.int .i64 (zs[k]!).2) := (Q.bel.cell (p := ⟨b, off + k * 2 + 1, none⟩) hb).trans e1
      have HT : Hid (zs.take (k + 1) = zs.take k ++ [zs[k]!]) := HZ.out k hk
      clear e0 e1
      generalize zs[k]! = c at *
      obtain ⟨p, q⟩ := c
      simp only at f0 f1
      by_cases hx : x ≤ p
      · by_cases hy : y ≤ q
        · have HQ : Hid (qi x y (p, q) = 3) := by show _ = _; simp [qi, hx, hy]
          have hrow := Q.row 3 (by omega)
          have hlen := part_le x y (zs.take k) 3
          have cq : wr.cell? ⟨w.heap.size + 1, 3, none⟩ = some (vs 3) := Lib.cell_of_heap Q.blk 3
          go_wp2_with fail
          have hsz1 : wr.heap.size + 1 ≤ (wr.alloc (.cells #[.int .i64 p, .int .i64 q] 27)).heap.size := by simp
          have bW : Below wr.heap.size wr (wr.alloc (.cells #[.int .i64 p, .int .i64 q] 27)) := (Below.refl _ _).alloc (Nat.le_refl _) _
          have hXc : (wr.alloc (.cells #[.int .i64 p, .int .i64 q] 27)).heap[wr.heap.size]? = some (.cells #[.int .i64 p, .int .i64 q] 27 (0, 0)) := heap_alloc_new wr _
          generalize wr.alloc (.cells #[.int .i64 p, .int .i64 q] 27) = W1 at *
          have cq1 : W1.cell? ⟨w.heap.size + 1, 3, none⟩ = some (vs 3) := (bW.cell (p := ⟨w.heap.size + 1, 3, none⟩) hqlt).trans cq
          have cq2 : (W1.alloc (.cells #[.int .i64 p, .int .i64 q] 27)).cell? ⟨w.heap.size + 1, 3, none⟩ = some (vs 3) := (World.cell?_of_block (a := ⟨w.heap.size + 1, 3, none⟩) (push_old (show w.heap.size + 1 < W1.heap.size by omega))).trans cq1
          have d0 := Lib.cell_of_heap hXc 0
          have d1 := Lib.cell_of_heap hXc 1
          have hrow1 := row_other (w' := W1) hrow (fun j hj => bW.block j ((World.ownsRow.lt hrow j hj).2))
          have OW : Hid (∀ o, (W1.alloc o).drew.ownsRow (w.heap.size + 2) 27 2 (vs 3) (part x y (zs.take k) 3).length (cL (part x y (zs.take k) 3))) := fun o => World.ownsRow.alloc hrow1 o
          have hob : (vs 3).ownBlock ≠ some (w.heap.size + 1) := fun e => by have := (World.ownsRow.lt hrow _ e).1; omega
          have HST : Hid (∀ o w5 g5 cap5, w5.ownsRow (w.heap.size + 2) 27 2 (.slice (some ⟨g5, 0, none⟩) ((part x y (zs.take k) 3).length + 1) cap5) ((part x y (zs.take k) 3).length + 1) (cL (part x y (zs.take k) 3) ++ [.int .i64 p, .int .i64 q]) → (W1.alloc o).drew.grownBy w5 (vs 3).ownBlock → ((vs 3).ownBlock = some g5 ∨ g5 = W1.heap.size + 1) → QS w (w5.setCell ⟨w.heap.size + 1, 3, none⟩ (.slice (some ⟨g5, 0, none⟩) ((part x y (zs.take k) 3).length + 1) cap5)) x y (zs.take (k + 1)) (updV vs 3 (.slice (some ⟨g5, 0, none⟩) ((part x y (zs.take k) 3).length + 1) cap5))) := fun o w5 g5 cap5 h1 h2 h3 => by
            rw [HT.out]
            exact Q.step (W := (W1.alloc o).drew) HQ.out (by omega) (bW.alloc (by omega) o).drew h1 h2 (by rcases h3 with h | h; exact Or.inl h; exact Or.inr (by omega))
          have HC : Hid (∀ o w5, (W1.alloc o).drew.grownBy w5 (vs 3).ownBlock → w5.heap[w.heap.size + 1]? = some (.cells #[vs 0, vs 1, vs 2, vs 3] 101 (0, 0))) := fun o w5 hg => (grown_blk hg (by omega) hob).trans ((bW.block _ hqlt).trans Q.blk)
          have hlq : (part x y (zs.take k) 3).length ≤ 4096 := by have := hlen; simp at this; omega
          generalize (part x y (zs.take k) 3) = pl at *
          generalize hvi : vs 3 = vi at *
          clear hrow hrow1 hXc hlen hx hy cq
          go_region_law (refine step_append_lies _ (by rfl) _ _ 28 (by rfl) (w.heap.size + 2) 27 i0 (.agg #[.int .i64 0, .int .i64 0]) 2 16 Tryz.underlying28 hi hz0 hz1 hz2 rfl (by decide) vi pl.length (cL pl) (by rfl) (OW.out _) ⟨W1.heap.size, 0, none⟩ 1 1 [.int .i64 p, .int .i64 q] (by rfl) rfl (hnw p q _) (hone p q) (by omega) (by unfold maxLen; omega) (by omega) (by simp; omega) (W1.heap.size + 1) (by simp) ?_; intro g5 cap5 w5 hown5 hgrow5 hat5 hlt5; have q3 := HC.out _ _ hgrow5; have q4 := Lib.cell_of_heap q3 3; have q5 := Lib.frozen_of_heap q3 3)
          all_goals
            go_wp2_with fail
            go_roundg (gk - 1)
            case measure => have := HI.out; omega
            case rel => exact ⟨k + 1, _, by have := HI.out; omega, by go_num, HST.out _ _ _ _ hown5 hgrow5 hat5⟩
        · have HQ : Hid (qi x y (p, q) = 1) := by show _ = _; simp [qi, hx, hy]
          have hrow := Q.row 1 (by omega)
          have hlen := part_le x y (zs.take k) 1
          have cq : wr.cell? ⟨w.heap.size + 1, 1, none⟩ = some (vs 1) := Lib.cell_of_heap Q.blk 1
          go_wp2_with fail
          have hsz1 : wr.heap.size + 1 ≤ (wr.alloc (.cells #[.int .i64 p, .int .i64 q] 27)).heap.size := by simp
          have bW : Below wr.heap.size wr (wr.alloc (.cells #[.int .i64 p, .int .i64 q] 27)) := (Below.refl _ _).alloc (Nat.le_refl _) _
          have hXc : (wr.alloc (.cells #[.int .i64 p, .int .i64 q] 27)).heap[wr.heap.size]? = some (.cells #[.int .i64 p, .int .i64 q] 27 (0, 0)) := heap_alloc_new wr _
          generalize wr.alloc (.cells #[.int .i64 p, .int .i64 q] 27) = W1 at *
          have cq1 : W1.cell? ⟨w.heap.size + 1, 1, none⟩ = some (vs 1) := (bW.cell (p := ⟨w.heap.size + 1, 1, none⟩) hqlt).trans cq
          have cq2 : (W1.alloc (.cells #[.int .i64 p, .int .i64 q] 27)).cell? ⟨w.heap.size + 1, 1, none⟩ = some (vs 1) := (World.cell?_of_block (a := ⟨w.heap.size + 1, 1, none⟩) (push_old (show w.heap.size + 1 < W1.heap.size by omega))).trans cq1
          have d0 := Lib.cell_of_heap hXc 0
          have d1 := Lib.cell_of_heap hXc 1
          have hrow1 := row_other (w' := W1) hrow (fun j hj => bW.block j ((World.ownsRow.lt hrow j hj).2))
          have OW : Hid (∀ o, (W1.alloc o).drew.ownsRow (w.heap.size + 2) 27 2 (vs 1) (part x y (zs.take k) 1).length (cL (part x y (zs.take k) 1))) := fun o => World.ownsRow.alloc hrow1 o
          have hob : (vs 1).ownBlock ≠ some (w.heap.size + 1) := fun e => by have := (World.ownsRow.lt hrow _ e).1; omega
          have HST : Hid (∀ o w5 g5 cap5, w5.ownsRow (w.heap.size + 2) 27 2 (.slice (some ⟨g5, 0, none⟩) ((part x y (zs.take k) 1).length + 1) cap5) ((part x y (zs.take k) 1).length + 1) (cL (part x y (zs.take k) 1) ++ [.int .i64 p, .int .i64 q]) → (W1.alloc o).drew.grownBy w5 (vs 1).ownBlock → ((vs 1).ownBlock = some g5 ∨ g5 = W1.heap.size + 1) → QS w (w5.setCell ⟨w.heap.size + 1, 1, none⟩ (.slice (some ⟨g5, 0, none⟩) ((part x y (zs.take k) 1).length + 1) cap5)) x y (zs.take (k + 1)) (updV vs 1 (.slice (some ⟨g5, 0, none⟩) ((part x y (zs.take k) 1).length + 1) cap5))) := fun o w5 g5 cap5 h1 h2 h3 => by
            rw [HT.out]
            exact Q.step (W := (W1.alloc o).drew) HQ.out (by omega) (bW.alloc (by omega) o).drew h1 h2 (by rcases h3 with h | h; exact Or.inl h; exact Or.inr (by omega))
          have HC : Hid (∀ o w5, (W1.alloc o).drew.grownBy w5 (vs 1).ownBlock → w5.heap[w.heap.size + 1]? = some (.cells #[vs 0, vs 1, vs 2, vs 3] 101 (0, 0))) := fun o w5 hg => (grown_blk hg (by omega) hob).trans ((bW.block _ hqlt).trans Q.blk)
          have hlq : (part x y (zs.take k) 1).length ≤ 4096 := by have := hlen; simp at this; omega
          generalize (part x y (zs.take k) 1) = pl at *
          generalize hvi : vs 1 = vi at *
          clear hrow hrow1 hXc hlen hx hy cq
          go_region_law (refine step_append_lies _ (by rfl) _ _ 28 (by rfl) (w.heap.size + 2) 27 i0 (.agg #[.int .i64 0, .int .i64 0]) 2 16 Tryz.underlying28 hi hz0 hz1 hz2 rfl (by decide) vi pl.length (cL pl) (by rfl) (OW.out _) ⟨W1.heap.size, 0, none⟩ 1 1 [.int .i64 p, .int .i64 q] (by rfl) rfl (hnw p q _) (hone p q) (by omega) (by unfold maxLen; omega) (by omega) (by simp; omega) (W1.heap.size + 1) (by simp) ?_; intro g5 cap5 w5 hown5 hgrow5 hat5 hlt5; have q3 := HC.out _ _ hgrow5; have q4 := Lib.cell_of_heap q3 1; have q5 := Lib.frozen_of_heap q3 1)
          all_goals
            go_wp2_with fail
            go_roundg (gk - 1)
            case measure => have := HI.out; omega
            case rel => exact ⟨k + 1, _, by have := HI.out; omega, by go_num, HST.out _ _ _ _ hown5 hgrow5 hat5⟩
      · by_cases hy : y ≤ q
        · have HQ : Hid (qi x y (p, q) = 2) := by show _ = _; simp [qi, hx, hy]
          have hrow := Q.row 2 (by omega)
          have hlen := part_le x y (zs.take k) 2
          have cq : wr.cell? ⟨w.heap.size + 1, 2, none⟩ = some (vs 2) := Lib.cell_of_heap Q.blk 2
          go_wp2_with fail
          have hsz1 : wr.heap.size + 1 ≤ (wr.alloc (.cells #[.int .i64 p, .int .i64 q] 27)).heap.size := by simp
          have bW : Below wr.heap.size wr (wr.alloc (.cells #[.int .i64 p, .int .i64 q] 27)) := (Below.refl _ _).alloc (Nat.le_refl _) _
          have hXc : (wr.alloc (.cells #[.int .i64 p, .int .i64 q] 27)).heap[wr.heap.size]? = some (.cells #[.int .i64 p, .int .i64 q] 27 (0, 0)) := heap_alloc_new wr _
          generalize wr.alloc (.cells #[.int .i64 p, .int .i64 q] 27) = W1 at *
          have cq1 : W1.cell? ⟨w.heap.size + 1, 2, none⟩ = some (vs 2) := (bW.cell (p := ⟨w.heap.size + 1, 2, none⟩) hqlt).trans cq
          have cq2 : (W1.alloc (.cells #[.int .i64 p, .int .i64 q] 27)).cell? ⟨w.heap.size + 1, 2, none⟩ = some (vs 2) := (World.cell?_of_block (a := ⟨w.heap.size + 1, 2, none⟩) (push_old (show w.heap.size + 1 < W1.heap.size by omega))).trans cq1
          have d0 := Lib.cell_of_heap hXc 0
          have d1 := Lib.cell_of_heap hXc 1
          have hrow1 := row_other (w' := W1) hrow (fun j hj => bW.block j ((World.ownsRow.lt hrow j hj).2))
          have OW : Hid (∀ o, (W1.alloc o).drew.ownsRow (w.heap.size + 2) 27 2 (vs 2) (part x y (zs.take k) 2).length (cL (part x y (zs.take k) 2))) := fun o => World.ownsRow.alloc hrow1 o
          have hob : (vs 2).ownBlock ≠ some (w.heap.size + 1) := fun e => by have := (World.ownsRow.lt hrow _ e).1; omega
          have HST : Hid (∀ o w5 g5 cap5, w5.ownsRow (w.heap.size + 2) 27 2 (.slice (some ⟨g5, 0, none⟩) ((part x y (zs.take k) 2).length + 1) cap5) ((part x y (zs.take k) 2).length + 1) (cL (part x y (zs.take k) 2) ++ [.int .i64 p, .int .i64 q]) → (W1.alloc o).drew.grownBy w5 (vs 2).ownBlock → ((vs 2).ownBlock = some g5 ∨ g5 = W1.heap.size + 1) → QS w (w5.setCell ⟨w.heap.size + 1, 2, none⟩ (.slice (some ⟨g5, 0, none⟩) ((part x y (zs.take k) 2).length + 1) cap5)) x y (zs.take (k + 1)) (updV vs 2 (.slice (some ⟨g5, 0, none⟩) ((part x y (zs.take k) 2).length + 1) cap5))) := fun o w5 g5 cap5 h1 h2 h3 => by
            rw [HT.out]
            exact Q.step (W := (W1.alloc o).drew) HQ.out (by omega) (bW.alloc (by omega) o).drew h1 h2 (by rcases h3 with h | h; exact Or.inl h; exact Or.inr (by omega))
          have HC : Hid (∀ o w5, (W1.alloc o).drew.grownBy w5 (vs 2).ownBlock → w5.heap[w.heap.size + 1]? = some (.cells #[vs 0, vs 1, vs 2, vs 3] 101 (0, 0))) := fun o w5 hg => (grown_blk hg (by omega) hob).trans ((bW.block _ hqlt).trans Q.blk)
          have hlq : (part x y (zs.take k) 2).length ≤ 4096 := by have := hlen; simp at this; omega
          generalize (part x y (zs.take k) 2) = pl at *
          generalize hvi : vs 2 = vi at *
          clear hrow hrow1 hXc hlen hx hy cq
          go_region_law (refine step_append_lies _ (by rfl) _ _ 28 (by rfl) (w.heap.size + 2) 27 i0 (.agg #[.int .i64 0, .int .i64 0]) 2 16 Tryz.underlying28 hi hz0 hz1 hz2 rfl (by decide) vi pl.length (cL pl) (by rfl) (OW.out _) ⟨W1.heap.size, 0, none⟩ 1 1 [.int .i64 p, .int .i64 q] (by rfl) rfl (hnw p q _) (hone p q) (by omega) (by unfold maxLen; omega) (by omega) (by simp; omega) (W1.heap.size + 1) (by simp) ?_; intro g5 cap5 w5 hown5 hgrow5 hat5 hlt5; have q3 := HC.out _ _ hgrow5; have q4 := Lib.cell_of_heap q3 2; have q5 := Lib.frozen_of_heap q3 2)
          all_goals
            go_wp2_with fail
            go_roundg (gk - 1)
            case measure => have := HI.out; omega
            case rel => exact ⟨k + 1, _, by have := HI.out; omega, by go_num, HST.out _ _ _ _ hown5 hgrow5 hat5⟩
        · have HQ : Hid (qi x y (p, q) = 0) := by show _ = _; simp [qi, hx, hy]
          have hrow := Q.row 0 (by omega)
          have hlen := part_le x y (zs.take k) 0
          have cq : wr.cell? ⟨w.heap.size + 1, 0, none⟩ = some (vs 0) := Lib.cell_of_heap Q.blk 0
          go_wp2_with fail
          have hsz1 : wr.heap.size + 1 ≤ (wr.alloc (.cells #[.int .i64 p, .int .i64 q] 27)).heap.size := by simp
          have bW : Below wr.heap.size wr (wr.alloc (.cells #[.int .i64 p, .int .i64 q] 27)) := (Below.refl _ _).alloc (Nat.le_refl _) _
          have hXc : (wr.alloc (.cells #[.int .i64 p, .int .i64 q] 27)).heap[wr.heap.size]? = some (.cells #[.int .i64 p, .int .i64 q] 27 (0, 0)) := heap_alloc_new wr _
          generalize wr.alloc (.cells #[.int .i64 p, .int .i64 q] 27) = W1 at *
          have cq1 : W1.cell? ⟨w.heap.size + 1, 0, none⟩ = some (vs 0) := (bW.cell (p := ⟨w.heap.size + 1, 0, none⟩) hqlt).trans cq
          have cq2 : (W1.alloc (.cells #[.int .i64 p, .int .i64 q] 27)).cell? ⟨w.heap.size + 1, 0, none⟩ = some (vs 0) := (World.cell?_of_block (a := ⟨w.heap.size + 1, 0, none⟩) (push_old (show w.heap.size + 1 < W1.heap.size by omega))).trans cq1
          have d0 := Lib.cell_of_heap hXc 0
          have d1 := Lib.cell_of_heap hXc 1
          have hrow1 := row_other (w' := W1) hrow (fun j hj => bW.block j ((World.ownsRow.lt hrow j hj).2))
          have OW : Hid (∀ o, (W1.alloc o).drew.ownsRow (w.heap.size + 2) 27 2 (vs 0) (part x y (zs.take k) 0).length (cL (part x y (zs.take k) 0))) := fun o => World.ownsRow.alloc hrow1 o
          have hob : (vs 0).ownBlock ≠ some (w.heap.size + 1) := fun e => by have := (World.ownsRow.lt hrow _ e).1; omega
          have HST : Hid (∀ o w5 g5 cap5, w5.ownsRow (w.heap.size + 2) 27 2 (.slice (some ⟨g5, 0, none⟩) ((part x y (zs.take k) 0).length + 1) cap5) ((part x y (zs.take k) 0).length + 1) (cL (part x y (zs.take k) 0) ++ [.int .i64 p, .int .i64 q]) → (W1.alloc o).drew.grownBy w5 (vs 0).ownBlock → ((vs 0).ownBlock = some g5 ∨ g5 = W1.heap.size + 1) → QS w (w5.setCell ⟨w.heap.size + 1, 0, none⟩ (.slice (some ⟨g5, 0, none⟩) ((part x y (zs.take k) 0).length + 1) cap5)) x y (zs.take (k + 1)) (updV vs 0 (.slice (some ⟨g5, 0, none⟩) ((part x y (zs.take k) 0).length + 1) cap5))) := fun o w5 g5 cap5 h1 h2 h3 => by
            rw [HT.out]
            exact Q.step (W := (W1.alloc o).drew) HQ.out (by omega) (bW.alloc (by omega) o).drew h1 h2 (by rcases h3 with h | h; exact Or.inl h; exact Or.inr (by omega))
          have HC : Hid (∀ o w5, (W1.alloc o).drew.grownBy w5 (vs 0).ownBlock → w5.heap[w.heap.size + 1]? = some (.cells #[vs 0, vs 1, vs 2, vs 3] 101 (0, 0))) := fun o w5 hg => (grown_blk hg (by omega) hob).trans ((bW.block _ hqlt).trans Q.blk)
          have hlq : (part x y (zs.take k) 0).length ≤ 4096 := by have := hlen; simp at this; omega
          generalize (part x y (zs.take k) 0) = pl at *
          generalize hvi : vs 0 = vi at *
          clear hrow hrow1 hXc hlen hx hy cq
          go_region_law (refine step_append_lies _ (by rfl) _ _ 28 (by rfl) (w.heap.size + 2) 27 i0 (.agg #[.int .i64 0, .int .i64 0]) 2 16 Tryz.underlying28 hi hz0 hz1 hz2 rfl (by decide) vi pl.length (cL pl) (by rfl) (OW.out _) ⟨W1.heap.size, 0, none⟩ 1 1 [.int .i64 p, .int .i64 q] (by rfl) rfl (hnw p q _) (hone p q) (by omega) (by unfold maxLen; omega) (by omega) (by simp; omega) (W1.heap.size + 1) (by simp) ?_; intro g5 cap5 w5 hown5 hgrow5 hat5 hlt5; have q3 := HC.out _ _ hgrow5; have q4 := Lib.cell_of_heap q3 0; have q5 := Lib.frozen_of_heap q3 0)
          all_goals
            go_wp2_with fail
            go_roundg (gk - 1)
            case measure => have := HI.out; omega
            case rel => exact ⟨k + 1, _, by have := HI.out; omega, by go_num, HST.out _ _ _ _ hown5 hgrow5 hat5⟩
    · have HK : Hid (k = zs.length) := by have := HI.out; show _ = _; omega
      obtain ⟨a0, c0, hv0⟩ := row_slice (Q.row 0 (by omega))
      have HV0 : Hid (vs 0 = .slice a0 (part x y (zs.take k) 0).length c0) := hv0
      obtain ⟨a1, c1, hv1⟩ := row_slice (Q.row 1 (by omega))
      have HV1 : Hid (vs 1 = .slice a1 (part x y (zs.take k) 1).length c1) := hv1
      obtain ⟨a2, c2, hv2⟩ := row_slice (Q.row 2 (by omega))
      have HV2 : Hid (vs 2 = .slice a2 (part x y (zs.take k) 2).length c2) := hv2
      obtain ⟨a3, c3, hv3⟩ := row_slice (Q.row 3 (by omega))
      have HV3 : Hid (vs 3 = .slice a3 (part x y (zs.take k) 3).length c3) := hv3
      generalize (part x y (zs.take k) 0).length = n0 at HV0 hv0
      generalize (part x y (zs.take k) 1).length = n1 at HV1 hv1
      generalize (part x y (zs.take k) 2).length = n2 at HV2 hv2
      generalize (part x y (zs.take k) 3).length = n3 at HV3 hv3
      have k0 : wr.cell? ⟨w.heap.size + 1, 0, none⟩ = some (.slice a0 n0 c0) := by rw [← hv0]; exact Lib.cell_of_heap Q.blk 0
      have k1 : wr.cell? ⟨w.heap.size + 1, 1, none⟩ = some (.slice a1 n1 c1) := by rw [← hv1]; exact Lib.cell_of_heap Q.blk 1
      have k2 : wr.cell? ⟨w.heap.size + 1, 2, none⟩ = some (.slice a2 n2 c2) := by rw [← hv2]; exact Lib.cell_of_heap Q.blk 2
      have k3 : wr.cell? ⟨w.heap.size + 1, 3, none⟩ = some (.slice a3 n3 c3) := by rw [← hv3]; exact Lib.cell_of_heap Q.blk 3
      have j0 : wr.cell? ⟨w.heap.size, 0, none⟩ = some (.slice none 0 0) := Lib.cell_of_heap Q.res 0
      have j1 : wr.cell? ⟨w.heap.size, 1, none⟩ = some (.slice none 0 0) := Lib.cell_of_heap Q.res 1
      have j2 : wr.cell? ⟨w.heap.size, 2, none⟩ = some (.slice none 0 0) := Lib.cell_of_heap Q.res 2
      have j3 : wr.cell? ⟨w.heap.size, 3, none⟩ = some (.slice none 0 0) := Lib.cell_of_heap Q.res 3
      have z0 := Lib.frozen_of_heap Q.res 0
      have z1 := Lib.frozen_of_heap Q.res 1
      have z2 := Lib.frozen_of_heap Q.res 2
      have z3 := Lib.frozen_of_heap Q.res 3
      have hk2 : ¬ ((k : Int) < (zs.length : Int)) := by omega
      clear hv0 hv1 hv2 hv3
      go_wp2_with fail
      have hR : ((((wr.setCell ⟨w.heap.size, 0, none⟩ (.slice a0 n0 c0)).setCell ⟨w.heap.size, 1, none⟩ (.slice a1 n1 c1)).setCell ⟨w.heap.size, 2, none⟩ (.slice a2 n2 c2)).setCell ⟨w.heap.size, 3, none⟩ (.slice a3 n3 c3)).heap[w.heap.size]? = some (.cells #[.slice a0 n0 c0, .slice a1 n1 c1, .slice a2 n2 c2, .slice a3 n3 c3] 101 (0, 0)) := Go.Joins.block_setCell (Go.Joins.block_setCell (Go.Joins.block_setCell (Go.Joins.block_setCell Q.res _) _) _) _
      have ho : ∀ j, j ≠ w.heap.size → ((((wr.setCell ⟨w.heap.size, 0, none⟩ (.slice a0 n0 c0)).setCell ⟨w.heap.size, 1, none⟩ (.slice a1 n1 c1)).setCell ⟨w.heap.size, 2, none⟩ (.slice a2 n2 c2)).setCell ⟨w.heap.size, 3, none⟩ (.slice a3 n3 c3)).heap[j]? = wr.heap[j]? := fun j hk => by
        rw [Below.heap_setCell _ _ _ _ hk, Below.heap_setCell _ _ _ _ hk, Below.heap_setCell _ _ _ _ hk, Below.heap_setCell _ _ _ _ hk]
      refine bodyPost_ret (v := .agg #[.slice a0 n0 c0, .slice a1 n1 c1, .slice a2 n2 c2, .slice a3 n3 c3]) ?_ rfl ⟨vs, by rw [HV0.out, HV1.out, HV2.out, HV3.out], fun i hi => ?_, ?_⟩
      · simp [results, Tryz.results56, go_sem, Lib.cell_of_heap hR]
      · have hq := Q.row i hi
        rw [HK.out, HTA.out] at hq
        exact row_other hq fun j hj => ho j (by have := (World.ownsRow.lt hq j hj).1; omega)
      · exact (((Q.bel.setCell (p := ⟨w.heap.size, 0, none⟩) (Nat.le_refl _) _).setCell (p := ⟨w.heap.size, 1, none⟩) (Nat.le_refl _) _).setCell (p := ⟨w.heap.size, 2, none⟩) (Nat.le_refl _) _).setCell (p := ⟨w.heap.size, 3, none⟩) (Nat.le_refl _) _
end Go.Proofs.YtofbcngcblleaabGreat.A
