/- PROVED: for every pair of lists of cells, of whatever lengths slices may have (made so: at most 100 cells each, nearer to 0 than 2^30): what a tenant was given since its mark, and only that, is taken away by Undo, which says how much that is; the square of the first list still has its cells; and the second list, made again, is the very same square, at the same cost; the inputs are left as they were (P4.5, P4.6). No condition. -/
import Derived.Test.YthobobgiendcfaaUndoesLaw
import Derived.Test.YthobobgiendcfaaSqOpenC
namespace Go.Proofs.Ythobobgiendcfaa
open Go.ChangeShapes Go.WideShapes Go.ChangeAt Go.RowKit Go.Joins

set_option maxRecDepth 100000 in
theorem arenaUndoes_lifted (os : Os) (started : os.Started) (H : Type) (enc : TypeId × Value → H) :
    ReturnsInHanded {} Try.checked os 17 .any (Rows.arenaUndoesSpec.pre6 enc Try.prog Try.f17 Rows.arenaUndoesRow.domain false) (Rows.arenaUndoesSpec.post enc Try.prog Try.f17 false true false false) := by
  refine returnsInHanded_of_change_sized (C := Try.checked) (by kernel_rfl) started (by kernel_rfl) Try.func17
    (ChangeSpec.witness6 (enc := enc) (C := Try.checked) false ⟨#[], #[.slice none 0 0, .slice none 0 0], []⟩ 8 (by kernel_rfl) (by kernel_rfl) (by kernel_rfl) (by kernel_rfl)) ?_
  intro W base args ds gs before hval0 hW _ hsz0 _
  have hsz : (DataW.weightsEach Try.prog (Try.f17.params.toList ++ Rows.arenaUndoesSpec.plain.varTypes Try.prog) (ds ++ gs)).all (· ≤ reachBytes) = true := hsz0
  clear hsz0
  have hval : ∀ (j : Nat) t v, Try.f17.params[j]? = some t → args[j]? = some v → Value.okWide Try.prog W .any base t v := hval0
  have hW' := hW
  obtain ⟨p, q, hA0, hV, rfl, _, _⟩ := hW
  have hA : DataW.TrodAll enc Try.prog W 0 (fun _ => true) true Try.f17.params.toList args.toList ds p := hA0
  rw [Try.params17] at hA hval hsz
  obtain ⟨v0, v1, d0, d1, p0, p1, rfl, rfl, rfl, h0, h1⟩ := trodAll_two hA
  obtain ⟨rfl, rfl⟩ := trodVars_none hV
  clear hA0 hval0
  simp only [List.append_nil] at hW'
  have hlt : ∀ x ∈ p0, x.block < W.heap.size := fun x hx => by
    have := hW'.lt x (by simp [hx])
    simpa using this
  have hlt1 : ∀ x ∈ p1, x.block < W.heap.size := fun x hx => by
    have := hW'.lt x (by simp [hx])
    simpa using this
  obtain ⟨zs, hrow, hn, _⟩ := open_list 0 hsz rfl rfl h0 hlt (by obtain ⟨a, l, c, e⟩ := okWide_slice Try.underlying69 (hval 0 69 v0 rfl rfl); exact ⟨a, l, c, e⟩)
  obtain ⟨zs', hrow', hn', _⟩ := open_list 1 hsz rfl rfl h1 hlt1 (by obtain ⟨a, l, c, e⟩ := okWide_slice Try.underlying69 (hval 1 69 v1 rfl rfl); exact ⟨a, l, c, e⟩)
  have hargs : ∀ (W' : World), Below W.heap.size W W' → DataW.Trod enc Try.prog W' 0 (fun b => decide (b < W.heap.size)) true 69 v0 d0 p0 :=
    fun W' hb => Below.trod A.Try.laidOut (by kernel_rfl) (of_decide_eq_true (by kernel_rfl)) h0 hb hlt
  have hargs1 : ∀ (W' : World), Below W.heap.size W W' → DataW.Trod enc Try.prog W' 0 (fun b => decide (b < W.heap.size)) true 69 v1 d1 p1 :=
    fun W' hb => Below.trod A.Try.laidOut (by kernel_rfl) (of_decide_eq_true (by kernel_rfl)) h1 hb hlt1
  refine (A.undoes_any v0 v1 zs zs' W hrow hrow').mono fun e W' ⟨he, hb⟩ => ?_
  subst he
  refine ⟨_, rfl, _, _, _, [], p0 ++ p1, [], hW', ?_, ?_, rfl, hb.frame _, fun h => by cases h⟩
  · exact trodAll_mk1 (shut_bool Try.underlying4 true)
  · exact trodAll_mk2 (hargs _ hb) (hargs1 _ hb)

theorem arenaUndoes_holds : Rows.ArenaUndoesSaid :=
  OpenClaim.holds_of_wide 17 Try.f17 rfl rfl rfl rfl rfl rfl rfl ⟨rfl, rfl, rfl, rfl, rfl⟩ rfl rfl rfl rfl rfl (by kernel_rfl) Try.func17 (by kernel_rfl)
    (of_decide_eq_true (by kernel_rfl)) (by unfold Func.isWrapper; first | (rw [if_pos (by decide +kernel)]; kernel_rfl) | (rw [if_neg (by decide +kernel)]; exact ⟨rfl, rfl⟩))
    (fun os started H enc _ => arenaUndoes_lifted os started H enc)

#print axioms arenaUndoes_holds
end Go.Proofs.Ythobobgiendcfaa
