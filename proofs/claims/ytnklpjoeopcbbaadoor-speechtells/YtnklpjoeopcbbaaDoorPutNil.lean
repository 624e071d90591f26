/- put into a list without cells; put into any list in order. -/
import Derived.Test.YtnklpjoeopcbbaaDoorPut
namespace Go.Proofs.YtnklpjoeopcbbaaDoor
open Go.RowKit Go.Lib Go.Sort

set_option maxHeartbeats 2000000 in
theorem put_nil (base : Nat) (c : Int × Int) (w : World) (hbase : base ≤ w.heap.size) :
    Calls Tryd.prog 49 #[.slice none 0 0, .agg #[.int .i64 c.1, .int .i64 c.2]] w fun e w' => PutOut base [] c w e w' := by
  obtain ⟨i0, hi, hz0, hz1, hz2⟩ := info_parts Tryd.info59
  go_enter Tryd.func49, Tryd.ntmps49
  go_wp2
  refine wp_loop_rounds 1 ?_
  rw [rounds_succ]
  go_wp2
  go_region
  go_wp2_with (at_builtin; refine wpList_append_lies _ rfl _ _ 28 rfl base 59 i0 (.agg #[.int .i64 0, .int .i64 0]) 2 16 Tryd.underlying28 hi hz0 hz1 hz2 rfl (by decide) (.slice none 0 0) 0 [] rfl (by exact World.ownsRow_nil _ _ _ _) ⟨w.heap.size + 1, 0, none⟩ 1 1 [.int .i64 c.1, .int .i64 c.2] rfl rfl (by intro j u hj; rw [addP]; match j, hj with | 0, hj => simp at hj; rw [← hj]; exact (World.cell?_alloc_at _ _ _ _ (by simp)).trans rfl | 1, hj => simp at hj; rw [← hj]; exact (World.cell?_alloc_at _ _ _ _ (by simp)).trans rfl) (by intro u hu; simp at hu; rcases hu with rfl | rfl <;> rfl) (by omega) (by unfold maxLen; omega) (by omega) (by simp; omega) (w.heap.size + 1 + 1) (by simp) ?_; intro g2 cap2 w1 hown2 hgrow hat hlt2)
  have hcap2 : 1 ≤ cap2 := by
    rcases hown2.2 with ⟨e, _⟩ | ⟨g', cap', cur, e, _, _, hle', _⟩
    · cases e
    · injection e with _ _ e3
      omega
  have hcm2 : cap2 ≤ 9223372036854775807 := by
    rcases hown2.2 with ⟨e, _⟩ | ⟨g', cap', cur, e, _, _, _, hmx, _⟩
    · cases e
    · injection e with _ _ e3
      unfold maxLen at hmx
      omega
  have hat' : g2 = w.heap.size + 1 + 1 := by
    rcases hat with h | h
    · simp [Value.ownBlock] at h
    · exact h
  clear hat
  have hj2 : (1 : Int) ≤ (cap2 : Int) := by omega
  obtain ⟨curL, hblk, hcl, htake⟩ := owns_block hown2
  clear hown2
  have hcp := copy_zero
  have b0 : w1.cell? ⟨w.heap.size, 0, none⟩ = some (.int .i64 c.1) := hgrow.cell (a := ⟨w.heap.size, 0, none⟩) (by show ((w.alloc _).alloc _).cell? _ = _; rw [World.cell?_alloc2_first]; rfl) (by simp [Value.ownBlock])
  have b1 : w1.cell? ⟨w.heap.size, 1, none⟩ = some (.int .i64 c.2) := hgrow.cell (a := ⟨w.heap.size, 1, none⟩) (by show ((w.alloc _).alloc _).cell? _ = _; rw [World.cell?_alloc2_first]; rfl) (by simp [Value.ownBlock])
  have hform : curL = cellsL (([] : List (Int × Int)).take 0) ++ .int .i64 c.1 :: .int .i64 c.2 :: (cellsL (([] : List (Int × Int)).drop 0) ++ curL.drop 2) := by
    have := List.take_append_drop 2 curL
    rw [show (2 : Nat) = (0 + 1) * 2 from rfl, htake] at this
    simpa [cellsL] using this.symm
  have hblk2 : w1.heap[g2]? = some (.cells (cellsL (([] : List (Int × Int)).take 0) ++ .int .i64 c.1 :: .int .i64 c.2 :: (cellsL (([] : List (Int × Int)).drop 0) ++ curL.drop 2)).toArray 59 (0, 0)) := by rw [← hform]; exact hblk
  have s0 : w1.cell? ⟨g2, 0, none⟩ = some (.int .i64 c.1) := cell_of_block w1 g2 0 _ hblk2
  have s1 : w1.cell? ⟨g2, 1, none⟩ = some (.int .i64 c.2) := cell_of_block w1 g2 1 _ hblk2
  have t0 := free_of_block w1 g2 0 _ hblk2
  have t1 := free_of_block w1 g2 1 _ hblk2
  have PF := @put_final w1 base g2 0 0 cap2 [] c _ _ _ (by omega) (by omega) rfl hcap2 hcm2 hblk2 (by rw [← hform]; exact hcl)
  have hB2 : Below base w w1 ∧ base ≤ g2 := ⟨(((Below.refl _ _).alloc (by omega) _).alloc (by simp; omega) _).drew.grown hgrow (by simp; omega) (by intro k hk; simp [Value.ownBlock] at hk), by omega⟩
  have LAST : Hid (PutOut base [] c w (.returned (.slice (some ⟨g2, 0, none⟩) 1 cap2)) (((w1.setCell ⟨g2, 0, none⟩ (.int .i64 c.1)).setCell ⟨g2, 1, none⟩ (.int .i64 c.2)).drew)) :=
    ⟨_, [c], rfl, List.pairwise_singleton _ _, fun p => by simp, by simp, by simp, PF, ((hB2.1.setCell hB2.2 _).setCell hB2.2 _).drew⟩
  have hne2 : w.heap.size < g2 := by omega
  clear PF hblk2 hblk hform htake hcl hB2 hgrow hat'
  by_cases hce : cap2 = 1
  · subst hce
    go_region
    go_wp2
    go_ret
    exact LAST.out
  · go_region
    go_wp2
    go_ret
    exact LAST.out

/-- a list in order in a row of its own: nil if there is none -/
def Kept (w : World) (base : Nat) (v : Value) (ys : List (Int × Int)) : Prop := (ys = [] ∧ v = .slice none 0 0) ∨ (ys ≠ [] ∧ w.ownsRow base 59 2 v ys.length (cellsL ys))

theorem put_any (v : Value) (base : Nat) (ys : List (Int × Int)) (c : Int × Int) (w : World) (hbase : base ≤ w.heap.size) (h : Kept w base v ys) (hT : Tidy ys) (hn : ys.length ≤ 100000) :
    Calls Tryd.prog 49 #[v, .agg #[.int .i64 c.1, .int .i64 c.2]] w fun e w' => PutOut base ys c w e w' := by
  rcases h with ⟨rfl, rfl⟩ | ⟨hz, hown⟩
  · exact put_nil base c w hbase
  · rcases id hown with ⟨_, ⟨_, h0⟩ | ⟨g, cap, cur, hv, _⟩⟩
    · exact absurd (List.length_eq_zero_iff.1 h0) hz
    · subst hv
      exact put_some g cap base ys c w hown hT hn
theorem Kept.row {w : World} {base : Nat} {v : Value} {ys : List (Int × Int)} (h : Kept w base v ys) : Row w v ys := by
  rcases h with ⟨rfl, rfl⟩ | ⟨hz, hown⟩
  · exact Or.inl ⟨rfl, rfl⟩
  · rcases id hown with ⟨_, ⟨_, h0⟩ | ⟨g, cap, cur, hv, _, _, hc, hm, _⟩⟩
    · exact absurd (List.length_eq_zero_iff.1 h0) hz
    · subst hv
      exact Or.inr ⟨hz, g, 0, cap, rfl, (hown.lt g rfl).2, hc, hm, holdsR_of_owns hown⟩
theorem Kept.block {w w' : World} {base : Nat} {v : Value} {ys : List (Int × Int)} (h : Kept w base v ys) (hb : ∀ g, g < w.heap.size → w'.heap[g]? = w.heap[g]?) : Kept w' base v ys := by
  rcases h with h | ⟨hz, hown⟩
  · exact Or.inl h
  · exact Or.inr ⟨hz, owns_of_block hown (fun g hg => hb g (hown.lt g hg).2)⟩
end Go.Proofs.YtnklpjoeopcbbaaDoor
