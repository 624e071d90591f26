/- PROVED: for all moves (at most 200) and quotas that together have room (made so), nobody has more than it may, nothing is refused for want of room, and no more things live than there is room; the input is left as it was (P4.1 to P4.6). No condition. -/
import Derived.Test.YtchdnkdobfegmaaArRoomLaw
import Derived.Test.YtchdnkdobfegmaaArOpenD
namespace Go.Proofs.Ytchdnkdobfegmaa.A
open Go.ChangeShapes Go.WideShapes Go.ChangeAt Go.RowKit Go.Joins Go.Deep

theorem Try.cellsDeed : Try.prog.cellsOf 55 = 6 := by kernel_rfl
theorem Try.cellsDeeds : Try.prog.cellsOf 48 = 1 := by kernel_rfl
set_option maxRecDepth 100000 in
theorem room_lifted (os : Os) (started : os.Started) (H : Type) (enc : TypeId × Value → H) :
    ReturnsInHanded {} Try.checked os 5 .any (Rows.arenaRoomSpec.pre6 enc Try.prog Try.f5 Rows.arenaRoomRow.domain false) (Rows.arenaRoomSpec.post enc Try.prog Try.f5 false true false false) := by
  refine returnsInHanded_of_change_sized (C := Try.checked) Try.ownK started (by kernel_rfl) Try.func5
    (ChangeSpec.witness6 (enc := enc) (C := Try.checked) false ⟨#[], #[.slice none 0 0, .agg #[.int .i64 0, .int .i64 0, .int .i64 0, .int .i64 0]], []⟩ 8 (by kernel_rfl) (by kernel_rfl) (by kernel_rfl) (by kernel_rfl)) ?_
  intro W base args ds gs before hval0 hW _ _ _
  have hval : ∀ (j : Nat) t v, Try.f5.params[j]? = some t → args[j]? = some v → Value.okWide Try.prog W .any base t v := hval0
  have hW' := hW
  obtain ⟨p, q, hA0, hV, rfl, _, _⟩ := hW
  have hA : DataW.TrodAll enc Try.prog W 0 (fun _ => true) true Try.f5.params.toList args.toList ds p := hA0
  rw [Try.params5] at hA hval
  obtain ⟨v0, v1, d0, d1, p0, p1, rfl, rfl, rfl, h0, h1⟩ := trodAll_two hA
  obtain ⟨rfl, rfl⟩ := trodVars_none hV
  obtain ⟨y0, y1, y2, y3, rfl, rfl, _, _, _, _, hr⟩ := open_four (hval 1 35 v1 rfl rfl) h1
  clear hA0 hval0
  simp only [List.append_nil] at hW'
  have hlt : ∀ x ∈ p0, x.block < W.heap.size := fun x hx => by simpa using hW'.lt x (by simp [hx])
  obtain ⟨sa, sl, sc, rfl⟩ := okWide_slice Try.underlying48 (hval 0 48 v0 rfl rfl)
  have hargs : ∀ (W' : World), Below W.heap.size W W' → DataW.Trod enc Try.prog W' 0 (fun b => decide (b < W.heap.size)) true 48 (.slice sa sl sc) d0 p0 :=
    fun W' hb => Below.trod Try.laidOut (by kernel_rfl) (of_decide_eq_true (by kernel_rfl)) h0 hb hlt
  obtain ⟨fuel, hf⟩ := h0
  obtain ⟨u, l, e1, hrow⟩ := open_deeds Try.underlying48 Try.underlying55 Try.cellsDeed rfl rfl rfl rfl rfl rfl hf hlt
  have e2 : Value.slice sa sl sc = u := by simpa [Value.cells] using e1
  subst e2
  refine (room_law _ l y0 y1 y2 y3 W hrow).mono fun e W' ⟨he, hb⟩ => ?_
  subst he
  refine ⟨_, rfl, _, _, _, [], p0, [], hW', ?_, ?_, rfl, hb.frame _, fun h => by cases h⟩
  · exact trodAll_mk1 (shut_bool Try.underlying4 true)
  · have hx := trodAll_mk2 (hargs _ hb) (hr W' (fun b => decide (b < W.heap.size)))
    rw [List.append_nil] at hx
    exact hx

theorem room_holds : Rows.ArenaRoomSaid :=
  OpenClaim.holds_of_wide 5 Try.f5 rfl rfl rfl rfl rfl rfl rfl ⟨rfl, rfl, rfl, rfl, rfl⟩ rfl rfl rfl rfl rfl (by kernel_rfl) Try.func5 (by kernel_rfl)
    (of_decide_eq_true (by kernel_rfl)) (by unfold Func.isWrapper; first | (rw [if_pos (by decide +kernel)]; kernel_rfl) | (rw [if_neg (by decide +kernel)]; exact ⟨rfl, rfl⟩))
    (fun os started H enc _ => room_lifted os started H enc)
end Go.Proofs.Ytchdnkdobfegmaa.A
namespace Go.Proofs.Ytchdnkdobfegmaa
theorem room_holds : Rows.ArenaRoomSaid := A.room_holds
#print axioms room_holds
end Go.Proofs.Ytchdnkdobfegmaa
