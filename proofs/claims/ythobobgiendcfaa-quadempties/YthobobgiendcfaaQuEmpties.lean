/- quad.Empty, in an arena with room. -/
import Derived.Test.YthobobgiendcfaaSqLaw
namespace Go.Proofs.Ythobobgiendcfaa.A
open Go.RowKit Go.Maps

/-- what Empty leaves -/
def EmptyOut (w : World) (b n t k c : Nat) (F : Nat → Prop) (id : Int) (w' : World) : Prop :=
  ∃ (F' : Nat → Prop) (A' : Ar) (E : List Int), ArAt w' b F' n A' ∧ (∀ j, F' j → F j ∨ w.heap.size ≤ j) ∧ Apart F w w' ∧ Emp A'.ths t E ∧ E[k]? = some id ∧ Bud A' c

set_option maxRecDepth 20000 in
set_option maxHeartbeats 8000000 in
theorem Empty_any (b n t k c : Nat) (hc : 2 ≤ c) (F : Nat → Prop) (A : Ar) (w : World) (hA : ArAt w b F n A) (ht : t < 64) (hn : n < 900000000) (hk : k ≤ 44) (hB : Bud A (k + c)) (hG : Good A.ths) (hq : A.cnt t + (k + c : Nat) ≤ A.lim t) (level : Int) (hlev : level = (k : Int)) :
    Calls Try.prog 52 #[.pointer (some ⟨b, 0, none⟩), .int .i64 t, .int .i64 level] w fun x w' => ∃ id, x = .returned (.tuple #[.int .i64 id, .int .i64 0]) ∧ EmptyOut w b (n + k) t k c F id w' := by
  have hsteps := steps_more (A := A) (t := t) (k := k) (c := c) hc hG hB hq ht hk
  have hE := fun hb H W (hW : ArAt W b F n A) (hH : HandIn W hb b t 0 [0] H) (hd : ∀ k, F k → ¬ H k) => empty_any hb b n t 0 k F H (A, [0]) W hW hH hd (fun i hi => (hsteps i (by omega)).2.2.2.2.2.1 hi) ht hn rfl (by omega) level (by omega)
  obtain ⟨_, bd, _, em, el, _, _, _, _⟩ := hsteps k (Nat.le_refl _)
  rw [show k + c - k = c by omega] at bd
  simp only [Nat.zero_add] at hE
  generalize emptyN t (A, [0]) k = S at *
  have hnth : S.2[k]? = some (nth S.2 k) := by
    unfold nth
    rw [getElem!_pos S.2 k (by omega)]
    exact List.getElem?_eq_getElem (by omega)
  generalize nth S.2 k = id at *
  have hflt := hA.flt
  have h0 : ¬ level < 0 := by omega
  have h44 : ¬ 44 < level := by omega
  clear hsteps hlev
  go_enter Try.func52, Try.ntmps52
  go_wp2_with fail
  refine (newHand_any b t _).mono ?_
  rintro e w2 ⟨rfl, hE2, hb2⟩
  have l2 : w.heap.size + 1 < w2.heap.size := (Array.getElem?_eq_some_iff.1 hE2).1
  have bX : Below w2.heap.size w2 (w2.alloc (.cells #[.pointer (some ⟨b, 0, none⟩), .int .i64 t, .int .i64 0, .slice (some ⟨w.heap.size + 1, 0, none⟩) 1 1] 131)) := (Below.refl _ _).alloc (Nat.le_refl _) _
  have x0 : (w2.alloc (.cells #[.pointer (some ⟨b, 0, none⟩), .int .i64 t, .int .i64 0, .slice (some ⟨w.heap.size + 1, 0, none⟩) 1 1] 131)).heap[w2.heap.size]? = some (.cells #[.pointer (some ⟨b, 0, none⟩), .int .i64 t, .int .i64 0, .slice (some ⟨w.heap.size + 1, 0, none⟩) 1 1] 131 (0, 0)) := heap_alloc_new w2 _
  have sX : (w2.alloc (.cells #[.pointer (some ⟨b, 0, none⟩), .int .i64 t, .int .i64 0, .slice (some ⟨w.heap.size + 1, 0, none⟩) 1 1] 131)).heap.size = w2.heap.size + 1 := by simp
  go_wp2_with fail
  generalize w2.alloc (.cells #[.pointer (some ⟨b, 0, none⟩), .int .i64 t, .int .i64 0, .slice (some ⟨w.heap.size + 1, 0, none⟩) 1 1] 131) = X at *
  have b0 : Below w.heap.size w X := hb2.trans (bX.mono hb2.size)
  have hH : HandIn X w2.heap.size b t 0 [0] (fun k => k = w2.heap.size ∨ k = w.heap.size + 1) := by
    refine ⟨_, HandAt.of (l := []) x0, ?_, Or.inl rfl, fun k hk => ?_, fun e => ?_, fun k hk => ?_⟩
    · refine ⟨rfl, Or.inr ⟨w.heap.size + 1, 1, #[.int .i64 0], rfl, Nat.zero_le _, ?_, Nat.le_refl _, by unfold maxLen; omega, rfl, rfl⟩⟩
      exact (bX.block _ l2).trans hE2
    · simp only [Value.ownBlock, Option.some.injEq] at hk
      exact Or.inr hk.symm
    · simp only [Value.ownBlock, Option.some.injEq] at e
      omega
    · rcases hk with h | h <;> omega
  refine (hE _ _ X (hA.below b0) hH (fun j hj e => by have := hflt j hj; omega)).mono ?_
  rintro e w4 ⟨rfl, F', H', hA4, hH4, hd4, hs4, hP4⟩
  have HF : Hid (EmptyOut w b (n + k) t k c F id w4) := by
    refine ⟨F', S.1, S.2, hA4, fun j hj => ?_, ?_, em, hnth, bd⟩
    · have hz := b0.size
      rcases hs4 j (Or.inl hj) with (e | e) | e
      · exact Or.inl e
      · exact Or.inr (by rcases e with e | e <;> omega)
      · exact Or.inr (Nat.le_trans hz e)
    · have hz4 := b0.size
      refine ⟨hP4.os.trans b0.os, hP4.tape.trans b0.tape, hP4.output.trans b0.output, Nat.le_trans hz4 hP4.size, fun j hj hn => (hP4.block j (Nat.lt_of_lt_of_le hj hz4) ?_).trans (b0.block j hj)⟩
      rintro (e | e)
      · exact hn e
      · rcases e with e | e <;> omega
  obtain ⟨v4, hh4, _⟩ := hH4
  clear hE bX x0 hE2 hH hA4 hd4 hs4 hP4 em bd hnth
  go_wp2_with fail
  refine (answer_ok _ b t _ v4 _ hh4).mono ?_
  rintro e w7 ⟨rfl, rfl⟩
  go_wp2_with fail
  go_ret2
  exact ⟨_, rfl, HF.out⟩
end Go.Proofs.Ythobobgiendcfaa.A
