/- TurnsFair: the start. -/
import Derived.Test.YtcgmnpofpnpfcaaTuFPop
namespace Go.Proofs.Ytcgmnpofpnpfcaa
open Go.RowKit

theorem two_rows (W : World) (B N : Nat) (hN : N ≤ 64) (hB : B ≤ W.heap.size) : IRow ((W.alloc (.cells (madeCells #[.int .i64 0] N) 3)).alloc (.cells (madeCells #[.int .i64 0] N) 3)) B W.heap.size N (List.replicate N 0) ∧ IRow ((W.alloc (.cells (madeCells #[.int .i64 0] N) 3)).alloc (.cells (madeCells #[.int .i64 0] N) 3)) B (W.heap.size + 1) N (List.replicate N 0) ∧ Below W.heap.size W ((W.alloc (.cells (madeCells #[.int .i64 0] N) 3)).alloc (.cells (madeCells #[.int .i64 0] N) 3)) := by
  refine ⟨(irow_new W B N hN hB).alloc _, ?_, ((Below.refl _ _).alloc (Nat.le_refl _) _).alloc (by simp) _⟩
  have h := irow_new (W.alloc (.cells (madeCells #[.int .i64 0] N) 3)) B N hN (by simp; omega)
  rw [show (W.alloc (.cells (madeCells #[.int .i64 0] N) 3)).heap.size = W.heap.size + 1 by simp] at h
  exact h
def F0 (S G N : Nat) : Nat → Option (List Nat) := upd (upd (fun _ => none) G (List.replicate N 0)) S (List.replicate N 0)
theorem fs_start {w w2 wc : World} {b R S G N : Nat} {vs : List Value} (h1 : 1 ≤ N) (h6 : N ≤ 6) (ht : TuAt w2 w.heap.size b R vs ⟨N, 0, List.replicate N []⟩) (hb : Below w.heap.size w w2) (hne : S ≠ G) (hS : w2.heap.size ≤ S) (hG : w2.heap.size ≤ G) (rS : IRow wc w.heap.size S N (List.replicate N 0)) (rG : IRow wc w.heap.size G N (List.replicate N 0)) (hc : Below w2.heap.size w2 wc) :
    FS w (wc.alloc (.cells (madeCells #[.slice none 0 0] N) 40)) b R wc.heap.size vs (List.replicate N (.slice none 0 0)) ⟨N, 0, List.replicate N []⟩ (F0 S G N) ∧ Fv ⟨N, 0, List.replicate N []⟩ (F0 S G N) S G (List.replicate N (.slice none 0 0)) (List.replicate N 0) (List.replicate N 0) (fun _ => []) 0 := by
  have hv : ∀ (i : Nat) v, (List.replicate N (Value.slice none 0 0))[i]? = some v → v = .slice none 0 0 := fun i v h => by
    rw [List.getElem?_replicate] at h
    split at h
    · exact (Option.some.inj h).symm
    · cases h
  have hb2 : Below w2.heap.size w2 (wc.alloc (.cells (madeCells #[.slice none 0 0] N) 40)) := hc.alloc hc.size _
  have hfS : F0 S G N S = some (List.replicate N 0) := upd_same _ _ _
  have hfG : F0 S G N G = some (List.replicate N 0) := by unfold F0; rw [upd_other _ _ _ _ hne.symm]; exact upd_same _ _ _
  have hf : ∀ g xs, F0 S G N g = some xs → (g = S ∨ g = G) ∧ xs = List.replicate N 0 := fun g xs h => by
    by_cases e : g = S
    · rw [e, hfS] at h; exact ⟨.inl e, (Option.some.inj h).symm⟩
    · by_cases e2 : g = G
      · rw [e2, hfG] at h; exact ⟨.inr e2, (Option.some.inj h).symm⟩
      · unfold F0 at h
        rw [upd_other _ _ _ _ e, upd_other _ _ _ _ e2] at h
        cases h
  refine ⟨⟨ht.below hb2, ?_, ?_, ?_, ?_, hb.trans (hb2.mono hb.size)⟩, ⟨h1, by simp, hfS, hfG, by simp, by simp, by simp, hne, ?_, ?_, ?_, ?_, ?_, ?_, ?_⟩⟩
  · have h := World.ownsRow_lit (base := w.heap.size) (e := 40) (size := 1) wc (madeCells #[.slice none 0 0] N) N (Nat.le_trans hb.size hc.size) (by unfold maxLen; omega) (by rw [size_madeCells, Nat.mul_one])
    rw [toList_madeCells_one] at h
    exact h
  · intro g xs hg
    obtain ⟨h2, rfl⟩ := hf g xs hg
    have hlt : ∀ k, TuOwn b R vs k → k < w2.heap.size := fun k hk => (ht.lt k hk).2
    rcases h2 with rfl | rfl
    · exact ⟨World.ownsRow.alloc rS _, (fun hk => by have := hlt _ hk; omega), by have := (rS.lt g rfl).2; omega⟩
    · exact ⟨World.ownsRow.alloc rG _, (fun hk => by have := hlt _ hk; omega), by have := (rG.lt g rfl).2; omega⟩
  · intro i u q hu hq
    rw [hv i u hu] at hq
    cases hq
  · intro hk
    have := (ht.lt _ hk).2
    have := hc.size
    omega
  · intro k _; exact Nat.le_refl _
  · intro k _; rw [gd_zero]; exact Nat.le_refl _
  · intro k hk
    show (List.replicate N [])[k]? = _
    have hk' : k < N := hk
    rw [List.getElem?_replicate, if_pos hk', gd_zero]
    rfl
  · intro i _ hlt
    exact absurd hlt (Nat.lt_irrefl _)
  · intro i u q hu hq
    rw [hv i u hu] at hq
    cases hq
  · intro i l u v q hu _ hqu _
    rw [hv i u hu] at hqu
    cases hqu
  · intro i _ hlt
    exact absurd hlt (Nat.lt_irrefl _)
end Go.Proofs.Ytcgmnpofpnpfcaa
