/- PROVED: for all arguments, a nil arena answers exactly what P4.7 says (Limit, Join, Note, Mark: ErrState; Level, Kids: ErrNone; all else 0, false or none), and the input is left as it was. No condition. -/
import Derived.Test.YthobobgiendcfaaNil
import Derived.Laws.IdiomArrays
namespace Go.Proofs.Ythobobgiendcfaa
open Go.ChangeShapes Go.WideShapes Go.ChangeAt Go.RowKit Go.Joins

theorem Try.own : ownKnob Try.prog.godebug = none := by kernel_rfl
theorem Try.cells35 : Try.prog.cellsOf 35 = 4 := by kernel_rfl
theorem Try.cells3 : Try.prog.cellsOf 3 = 1 := by kernel_rfl
theorem Try.under35 : Try.prog.underlying 35 = some (.array 4 3) := by kernel_rfl

theorem trod_four_mk {H : Type} {enc : TypeId × Value → H} {P : Program} {W : World} {sp : Nat → Bool} {t e : TypeId} {n : Nat} {c0 c1 c2 c3 : Value} {y0 y1 y2 y3 : DataW H × List MemPlace} (ht : P.underlying t = some (.array 4 e)) (hce : P.cellsOf e = 1) (hct : P.cellsOf t = 4)
    (h0 : DataW.trod enc P W 0 sp true n e [c0] = some y0) (h1 : DataW.trod enc P W 0 sp true n e [c1] = some y1) (h2 : DataW.trod enc P W 0 sp true n e [c2] = some y2) (h3 : DataW.trod enc P W 0 sp true n e [c3] = some y3) :
    DataW.trod enc P W 0 sp true (n + 1) t [c0, c1, c2, c3] = some (.agg [y0.1, y1.1, y2.1, y3.1], y0.2 ++ (y1.2 ++ (y2.2 ++ y3.2))) := by
  unfold DataW.trod
  rw [ht]
  have r4 : List.range 4 = [0, 1, 2, 3] := rfl
  simp [r4, hce, hct, h0, h1, h2, h3]

set_option maxRecDepth 100000 in
/-- four numbers among the arguments, opened -/
theorem open_four {H : Type} {enc : TypeId × Value → H} {W : World} {v : Value} {d : DataW H} {p : List MemPlace} {r : Reach} {b0 : Nat} {spare : Nat → Bool}
    (hv : Value.okWide Try.prog W r b0 35 v) (h : DataW.Trod enc Try.prog W 0 spare true 35 v d p) :
    ∃ a b c e : Int, v = .agg #[.int .i64 a, .int .i64 b, .int .i64 c, .int .i64 e] ∧ p = [] ∧ (Lit.int .i64 a).wf = true ∧ (Lit.int .i64 b).wf = true ∧ (Lit.int .i64 c).wf = true ∧ (Lit.int .i64 e).wf = true ∧ ∀ (W' : World) (sp : Nat → Bool), DataW.Trod enc Try.prog W' 0 sp true 35 v d [] := by
  simp only [Value.okWide, Try.under35] at hv
  obtain ⟨cs, rfl, hsz, _⟩ := hv
  obtain ⟨c0, c1, c2, c3, rfl⟩ := array4 (hsz.trans Try.cells35)
  obtain ⟨fuel, hf⟩ := h
  obtain ⟨⟨y0, p0⟩, ⟨y1, p1⟩, ⟨y2, p2⟩, ⟨y3, p3⟩, n, hx, h0, h1, h2, h3⟩ := trod_array4 Try.under35 Try.cells3 hf
  obtain ⟨x0, e0, d0, w0⟩ := DataW.trod_int Try.underlying3 h0
  obtain ⟨x1, e1, d1, w1⟩ := DataW.trod_int Try.underlying3 h1
  obtain ⟨x2, e2, d2, w2⟩ := DataW.trod_int Try.underlying3 h2
  obtain ⟨x3, e3, d3, w3⟩ := DataW.trod_int Try.underlying3 h3
  simp only [List.cons.injEq, and_true, Prod.mk.injEq] at e0 e1 e2 e3 d0 d1 d2 d3 hx
  obtain ⟨rfl, rfl⟩ := d0
  obtain ⟨rfl, rfl⟩ := d1
  obtain ⟨rfl, rfl⟩ := d2
  obtain ⟨rfl, rfl⟩ := d3
  subst e0 e1 e2 e3
  obtain ⟨rfl, rfl⟩ := hx
  refine ⟨x0, x1, x2, x3, rfl, rfl, w0, w1, w2, w3, fun W' sp => ?_⟩
  have k0 := fun x hw => trod_int_mk (enc := enc) (P := Try.prog) (w := W') (base := 0) (spare := sp) (held := true) (t := 3) (n := x) 0 Try.underlying3 hw
  exact ⟨_, trod_four_mk Try.under35 Try.cells3 Try.cells35 (k0 _ w0) (k0 _ w1) (k0 _ w2) (k0 _ w3)⟩

set_option maxRecDepth 100000 in
theorem nil_lifted (os : Os) (started : os.Started) (H : Type) (enc : TypeId × Value → H) :
    ReturnsInHanded {} Try.checked os 4 .any (Rows.arenaNilSpec.pre6 enc Try.prog Try.f4 Rows.arenaNilRow.domain false) (Rows.arenaNilSpec.post enc Try.prog Try.f4 false true false false) := by
  refine returnsInHanded_of_change_sized (C := Try.checked) Try.own started (by kernel_rfl) Try.func4
    (ChangeSpec.witness6 (enc := enc) (C := Try.checked) false ⟨#[], #[.int .i64 0, .agg #[.int .i64 0, .int .i64 0, .int .i64 0, .int .i64 0]], []⟩ 8 (by kernel_rfl) (by kernel_rfl) (by kernel_rfl) (by kernel_rfl)) ?_
  intro W base args ds gs before hval0 hW _ _ _
  have hval : ∀ (j : Nat) t v, Try.f4.params[j]? = some t → args[j]? = some v → Value.okWide Try.prog W .any base t v := hval0
  have hW' := hW
  obtain ⟨p, q, hA0, hV, rfl, _, _⟩ := hW
  have hA : DataW.TrodAll enc Try.prog W 0 (fun _ => true) true Try.f4.params.toList args.toList ds p := hA0
  rw [Try.params4] at hA hval
  obtain ⟨v0, v1, d0, d1, p0, p1, rfl, rfl, rfl, h0, h1⟩ := trodAll_two hA
  obtain ⟨rfl, rfl⟩ := trodVars_none hV
  obtain ⟨n, rfl, rfl, rfl, wn⟩ := open_int Try.underlying3 (hval 0 3 v0 rfl rfl) h0
  obtain ⟨a, b, c, d, rfl, rfl, _, _, _, _, hr⟩ := open_four (hval 1 35 v1 rfl rfl) h1
  clear hA0 hval0
  refine (nilLaw_any n a b c d W).mono fun e W' ⟨he, hb⟩ => ?_
  subst he
  refine ⟨_, rfl, _, _, _, [], [] ++ [], [], hW', ?_, ?_, rfl, hb.frame _, fun h => by cases h⟩
  · exact trodAll_mk1 (shut_bool Try.underlying4 true)
  · exact trodAll_mk2 (shut_int Try.underlying3 wn) (hr _ _)

theorem nil_hold : Rows.ArenaNilSaid :=
  OpenClaim.holds_of_wide 4 Try.f4 rfl rfl rfl rfl rfl rfl rfl ⟨rfl, rfl, rfl, rfl, rfl⟩ rfl rfl rfl rfl rfl (by kernel_rfl) Try.func4 (by kernel_rfl)
    (of_decide_eq_true (by kernel_rfl)) (by unfold Func.isWrapper; first | (rw [if_pos (by decide +kernel)]; kernel_rfl) | (rw [if_neg (by decide +kernel)]; exact ⟨rfl, rfl⟩))
    (fun os started H enc _ => nil_lifted os started H enc)

#print axioms nil_hold
end Go.Proofs.Ythobobgiendcfaa
