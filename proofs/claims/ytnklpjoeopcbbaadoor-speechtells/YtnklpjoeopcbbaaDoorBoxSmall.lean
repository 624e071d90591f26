/- The small cases of both Bounds: one cell without room, no cell, nil; and what the law's own copy of a list is. -/
import Derived.Test.YtnklpjoeopcbbaaDoorFour
namespace Go.Proofs.YtnklpjoeopcbbaaDoor
open Go.RowKit

set_option maxHeartbeats 400000 in
theorem bounds_one (b off : Nat) (x y : Int) (w : World) (hb : b < w.heap.size) (hx0 : w.cell? ⟨b, off, none⟩ = some (.int .i64 x)) (hy0 : w.cell? ⟨b, off + 1, none⟩ = some (.int .i64 y)) :
    Calls Tryd.prog 26 #[.slice (some ⟨b, off, none⟩) 1 1] w fun e w' => e = .returned (.tuple #[.agg #[.int .i64 x, .int .i64 y, .int .i64 x, .int .i64 y], .bool true]) ∧ Below w.heap.size w w' := by
  have hne : b ≠ w.heap.size := by omega
  go_enter Tryd.func26, Tryd.ntmps26
  go_wp2
  go_region
  go_wp2
  refine wp_loop_rounds 1 ?_
  rw [rounds_succ]
  go_wp2
  refine bodyPost_ret (v := .tuple #[.agg #[.int .i64 x, .int .i64 y, .int .i64 x, .int .i64 y], .bool true]) ?_ rfl ⟨rfl, ?_⟩
  · simp [results, Tryd.results26, go_sem]
  · exact (((Below.refl _ _).alloc (Nat.le_refl _) _).alloc (by simp) _).drew

set_option maxHeartbeats 400000 in
theorem bounds_none (a : Option Addr) (c : Nat) (w : World) :
    Calls Tryd.prog 26 #[.slice a 0 c] w fun e w' => e = .returned (.tuple #[.agg #[.int .i64 0, .int .i64 0, .int .i64 0, .int .i64 0], .bool false]) ∧ Below w.heap.size w w' := by
  go_enter Tryd.func26, Tryd.ntmps26
  go_wp2
  refine bodyPost_ret (v := .tuple #[.agg #[.int .i64 0, .int .i64 0, .int .i64 0, .int .i64 0], .bool false]) ?_ rfl ⟨rfl, ?_⟩
  · simp [results, Tryd.results26, go_sem]
  · exact (Below.refl _ _).alloc (Nat.le_refl _) _

theorem Tryd.info59 : (Tryd.prog.info? 59).map (fun i => (i.zero, i.size, i.bytes)) = some (some (.agg #[.int .i64 0, .int .i64 0]), 2, 16) := by kernel_rfl

theorem addP (b off i : Nat) : (⟨b, off, none⟩ : Addr).add i = ⟨b, off + i, none⟩ := by unfold Addr.add; split <;> simp_all

/-- the cells of n pairs of numbers, in a row -/
def pairCells (X Y : Nat → Int) (n : Nat) : List Value := (List.range (n * 2)).map fun i => if i % 2 = 0 then .int .i64 (X (i / 2)) else .int .i64 (Y (i / 2))
theorem pairCells_length (X Y : Nat → Int) (n : Nat) : (pairCells X Y n).length = n * 2 := by simp [pairCells]
theorem pairCells_one (X Y : Nat → Int) (n : Nat) (u : Value) (h : u ∈ pairCells X Y n) : u.oneCell' = true := by
  simp only [pairCells, List.mem_map, List.mem_range] at h
  obtain ⟨i, _, rfl⟩ := h
  split <;> rfl
theorem pairCells_at {w : World} {b off n : Nat} {X Y : Nat → Int} (hp : Pairs w b off n X Y) (j : Nat) (u : Value) (h : (pairCells X Y n)[j]? = some u) : w.cell? ((⟨b, off, none⟩ : Addr).add j) = some u := by
  simp only [pairCells, List.getElem?_map, Option.map_eq_some_iff] at h
  obtain ⟨i, hi, rfl⟩ := h
  have hj : j < n * 2 := by
    have := (List.getElem?_eq_some_iff.1 hi).1
    simpa using this
  rw [List.getElem?_range hj] at hi
  simp only [Option.some.injEq] at hi
  subst hi
  obtain ⟨h0, h1⟩ := hp (j / 2) (by omega)
  rw [addP]
  by_cases hm : j % 2 = 0
  · rw [if_pos hm, ← h0]; congr 2; omega
  · rw [if_neg hm, ← h1]; congr 2; omega
theorem pairs_of {w : World} {g n : Nat} {X Y : Nat → Int} (h : ∀ j u, (pairCells X Y n)[j]? = some u → w.cell? ((⟨g, 0, none⟩ : Addr).add j) = some u) : Pairs w g 0 n X Y := by
  intro j hj
  have h0 := h (j * 2) (.int .i64 (X j)) (by simp [pairCells, List.getElem?_range (show j * 2 < n * 2 by omega)])
  have h1 := h (j * 2 + 1) (.int .i64 (Y j)) (by
    rw [pairCells, List.getElem?_map, List.getElem?_range (show j * 2 + 1 < n * 2 by omega)]
    simp only [Option.map_some, Option.some.injEq]
    rw [if_neg (by omega), show (j * 2 + 1) / 2 = j by omega])
  rw [addP] at h0 h1
  exact ⟨h0, by rw [← h1]; congr 2⟩

set_option maxHeartbeats 400000 in
theorem cells_some (b off n c : Nat) (X Y : Nat → Int) (w : World) (hn : n * 16 ≤ 140737488355328) (hp : Pairs w b off n X Y) :
    Calls Tryd.prog 9 #[.slice (some ⟨b, off, none⟩) n c] w fun e w' => ∃ v, e = .returned v ∧ Below w.heap.size w w' ∧
      ((n = 0 ∧ v = .slice none 0 0) ∨ ∃ g cap, v = .slice (some ⟨g, 0, none⟩) n cap ∧ w.heap.size ≤ g ∧ g < w'.heap.size ∧ n ≤ cap ∧ cap ≤ maxLen ∧ Pairs w' g 0 n X Y) := by
  obtain ⟨i0, hi, hz0, hz1, hz2⟩ := info_parts Tryd.info59
  go_enter Tryd.func9, Tryd.ntmps9
  go_wp2_with (at_builtin; refine wpList_append_own _ rfl _ _ 28 rfl w.heap.size 59 i0 (.agg #[.int .i64 0, .int .i64 0]) 2 16 Tryd.underlying28 hi hz0 hz1 hz2 rfl (by decide) (.slice none 0 0) 0 [] rfl (World.ownsRow_nil _ _ _ _) ⟨b, off, none⟩ n c (pairCells X Y n) rfl (pairCells_length X Y n) (pairCells_at hp) (pairCells_one X Y n) (by unfold maxLen; omega) (by omega) (Nat.le_refl _) ?_; intro v' w1 hown hgrow hnil)
  go_ret
  refine ⟨v', rfl, (Below.refl _ _).grown hgrow (Nat.le_refl _) (by intro k hk; simp [Value.ownBlock] at hk), ?_⟩
  rw [Nat.zero_add, List.nil_append] at hown
  rcases id hown with ⟨_, ⟨hv, h0⟩ | ⟨g, cap, cur, hv, hg, hblk, hcap, hmax, _, _⟩⟩
  · exact Or.inl ⟨h0, hv⟩
  · exact Or.inr ⟨g, cap, hv, hg, (hown.lt g (by rw [hv]; rfl)).2, hcap, hmax, pairs_of (hown.cells (by rw [hv]; rfl))⟩

set_option maxHeartbeats 400000 in
theorem cells_nil (w : World) : Calls Tryd.prog 9 #[.slice none 0 0] w fun e w' => e = .returned (.slice none 0 0) ∧ w' = w := by
  go_enter Tryd.func9, Tryd.ntmps9
  go_wp2
  go_ret
  exact ⟨rfl, rfl⟩
set_option maxHeartbeats 400000 in
theorem cells_zero (ad : Addr) (c : Nat) (w : World) : Calls Tryd.prog 9 #[.slice (some ad) 0 c] w fun e w' => e = .returned (.slice none 0 0) ∧ Below w.heap.size w w' := by
  obtain ⟨i0, hi, hz0, hz1, hz2⟩ := info_parts Tryd.info59
  go_enter Tryd.func9, Tryd.ntmps9
  go_wp2_with (at_builtin; refine wpList_append_own _ rfl _ _ 28 rfl w.heap.size 59 i0 (.agg #[.int .i64 0, .int .i64 0]) 2 16 Tryd.underlying28 hi hz0 hz1 hz2 rfl (by decide) (.slice none 0 0) 0 [] rfl (World.ownsRow_nil _ _ _ _) ad 0 c [] rfl rfl (by simp) (by simp) (by unfold maxLen; omega) (by omega) (Nat.le_refl _) ?_; intro v' w1 hown hgrow hnil)
  go_ret
  refine ⟨?_, (Below.refl _ _).grown hgrow (Nat.le_refl _) (by intro k hk; simp [Value.ownBlock] at hk)⟩
  have hv : v' = .slice none 0 0 := hnil.2 ⟨trivial, trivial⟩
  rw [hv]
  rfl
end Go.Proofs.YtnklpjoeopcbbaaDoor
