/- PROVED: for every rule, rule.Text and rule.Good answer exactly what the document's own text and its own word on good rules say, and the rule is left as it was. No condition. -/
import Derived.Test.YtoppncaidhlenabRefText
import Derived.Test.YtoppncaidhlenabLivesProof
namespace Go.Proofs.Ytoppncaidhlenab
open Go.ChangeShapes Go.WideShapes Go.ChangeAt Go.RowKit Go.Joins

theorem textV_shape (b l : Int) : ∃ (s : ByteArray) (e : Int), textV b l = .tuple #[.string s, .int .i64 e] := by
  unfold textV
  split
  · exact ⟨_, _, rfl⟩
  · exact ⟨_, _, rfl⟩

set_option maxHeartbeats 1000000 in
theorem textsLaw_any (b l : Int) (w : World) : Calls Try.prog 4 #[.agg #[.int .i64 b, .int .i64 l]] w fun e w' => e = .returned (.bool true) ∧ Below w.heap.size w w' := by
  have h0 := pair_born w (.int .i64 b) (.int .i64 l) 37
  have hx1 := fun W => text_any b l W
  have hx2 := fun W => refText_any b l W
  have hx3 := fun W => good_any b l W
  have hx4 := fun W => refGood_any b l W
  obtain ⟨s, e, hv⟩ := textV_shape b l
  rw [hv] at hx1 hx2
  clear hv
  go_enter Try.func4, Try.ntmps4
  go_wp2_with fail
  refine (hx1 _).mono ?_
  rintro e w1 ⟨rfl, hb1⟩
  have h1 := pair_go h0 hb1
  obtain ⟨c0, c1, _, _⟩ := id h1
  clear h0 hb1
  go_wp2_with fail
  refine (hx2 _).mono ?_
  rintro e w2 ⟨rfl, hb2⟩
  have h2 := pair_drew (pair_go h1 hb2)
  clear h1 hb2 c0 c1
  go_wp2_with fail
  go_region_held3 (fun w' => w'.cell? ⟨w.heap.size, 0, none⟩ = some (.int .i64 b) ∧ w'.cell? ⟨w.heap.size, 1, none⟩ = some (.int .i64 l) ∧ w.heap.size < w'.heap.size ∧ Below w.heap.size w w') (first | exact h2 | exact pair_go (by assumption) hb | exact pair_go h2 hb)
    (first | (go_at_call 18; refine (hx3 _).mono ?_; rintro e w' ⟨rfl, hb⟩) | (go_at_call 19; refine (hx4 _).mono ?_; rintro e w' ⟨rfl, hb⟩))
  rename_i hH
  go_wp2_with fail
  go_ret
  exact ⟨rfl, hH.2.2.2⟩

set_option maxRecDepth 100000 in
theorem texts_lifted (os : Os) (started : os.Started) (H : Type) (enc : TypeId × Value → H) :
    ReturnsInHanded {} Try.checked os 4 .any (Rows.ruleTextsSpec.pre6 enc Try.prog Try.f4 Rows.ruleTextsRow.domain false) (Rows.ruleTextsSpec.post enc Try.prog Try.f4 false true false false) := by
  refine returnsInHanded_of_change_sized (C := Try.checked) Try.own started (by kernel_rfl) Try.func4
    (ChangeSpec.witness6 (enc := enc) (C := Try.checked) false ⟨#[], #[.agg #[.int .i64 0, .int .i64 0]], []⟩ 8 (by kernel_rfl) (by kernel_rfl) (by kernel_rfl) (by kernel_rfl)) ?_
  intro W base args ds gs before hval0 hW _ _ _
  have hval : ∀ (j : Nat) t v, Try.f4.params[j]? = some t → args[j]? = some v → Value.okWide Try.prog W .any base t v := hval0
  have hW' := hW
  obtain ⟨p, q, hA0, hV, rfl, _, _⟩ := hW
  have hA : DataW.TrodAll enc Try.prog W 0 (fun _ => true) true Try.f4.params.toList args.toList ds p := hA0
  rw [Try.params4] at hA hval
  obtain ⟨v0, d0, rfl, rfl, h0⟩ := trodAll_one hA
  obtain ⟨rfl, rfl⟩ := trodVars_none hV
  obtain ⟨b, l, rfl, rfl, _, _, hr⟩ := open_rule (hval 0 37 v0 rfl rfl) h0
  clear hA0 hval0
  refine (textsLaw_any b l W).mono fun e W' ⟨he, hb⟩ => ?_
  subst he
  refine ⟨_, rfl, _, _, _, [], [], [], hW', ?_, ?_, rfl, hb.frame _, fun h => by cases h⟩
  · exact trodAll_mk1 (shut_bool Try.underlying4 true)
  · exact trodAll_mk1 (hr _ _)

theorem texts_hold : Rows.RuleTextsSaid :=
  OpenClaim.holds_of_wide 4 Try.f4 rfl rfl rfl rfl rfl rfl rfl ⟨rfl, rfl, rfl, rfl, rfl⟩ rfl rfl rfl rfl rfl (by kernel_rfl) Try.func4 (by kernel_rfl)
    (of_decide_eq_true (by kernel_rfl)) (by unfold Func.isWrapper; first | (rw [if_pos (by decide +kernel)]; kernel_rfl) | (rw [if_neg (by decide +kernel)]; exact ⟨rfl, rfl⟩))
    (fun os started H enc _ => texts_lifted os started H enc)

#print axioms texts_hold
end Go.Proofs.Ytoppncaidhlenab
