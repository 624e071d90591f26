/- PROVED: for all rules, states and numbers, rule.Lives answers exactly what the document's own Lives does, and the input is left as it was. No condition. -/
import Derived.Test.YtoppncaidhlenabLives
import Derived.Test.YtoppncaidhlenabOpen
import Derived.Lib.SmallJoins
import Derived.Deep.RegionHeld3
namespace Go.Proofs.Ytoppncaidhlenab
open Go.ChangeShapes Go.WideShapes Go.ChangeAt Go.RowKit Go.Joins

theorem two_go {w w1 w2 : World} {g : Nat} {x y : Value} (hs : w1.cell? ⟨g, 0, none⟩ = some x ∧ w1.cell? ⟨g, 1, none⟩ = some y ∧ g < w1.heap.size ∧ Below g w w1) (h : Below w1.heap.size w1 w2) :
    w2.cell? ⟨g, 0, none⟩ = some x ∧ w2.cell? ⟨g, 1, none⟩ = some y ∧ g < w2.heap.size ∧ Below g w w2 :=
  ⟨(h.cell (p := ⟨g, 0, none⟩) hs.2.2.1).trans hs.1, (h.cell (p := ⟨g, 1, none⟩) hs.2.2.1).trans hs.2.1, Nat.lt_of_lt_of_le hs.2.2.1 h.size, hs.2.2.2.trans (h.mono (Nat.le_of_lt hs.2.2.1))⟩

set_option maxHeartbeats 1000000 in
theorem livesLaw_any (b l : Int) (now : Bool) (n : Int) (w : World) :
    Calls Try.prog 6 #[.agg #[.int .i64 b, .int .i64 l], .bool now, .int .i64 n] w fun e w' => e = .returned (.bool true) ∧ Below w.heap.size w w' := by
  have e8 : livesB 8 0 false 3 = true := by decide
  have h8 := fun w => lives_any 8 0 false 3 w
  simp only [e8] at h8
  have hb0 : Below w.heap.size w (w.alloc (.cells #[.int .i64 b, .int .i64 l] 37)).drew := ((Below.refl _ _).alloc (Nat.le_refl _) _).drew
  have hl0 : w.heap.size < (w.alloc (.cells #[.int .i64 b, .int .i64 l] 37)).drew.heap.size := by show w.heap.size < (w.alloc _).heap.size; simp
  have hc0 : (w.alloc (.cells #[.int .i64 b, .int .i64 l] 37)).drew.cell? ⟨w.heap.size, 0, none⟩ = some (.int .i64 b) := by rw [World.cell?_drew, World.cell?_alloc_new]; rfl
  have hc1 : (w.alloc (.cells #[.int .i64 b, .int .i64 l] 37)).drew.cell? ⟨w.heap.size, 1, none⟩ = some (.int .i64 l) := by rw [World.cell?_drew, World.cell?_alloc_new]; rfl
  go_enter Try.func6, Try.ntmps6
  go_wp2_with fail
  go_region_held3 (fun w' => w'.cell? ⟨w.heap.size, 0, none⟩ = some (.int .i64 b) ∧ w'.cell? ⟨w.heap.size, 1, none⟩ = some (.int .i64 l) ∧ w.heap.size < w'.heap.size ∧ Below w.heap.size w w') (first | exact ⟨hc0, hc1, hl0, hb0⟩ | exact two_go (by assumption) hb | exact two_go ⟨hc0, hc1, hl0, hb0⟩ hb)
    (first | (go_at_call_of 22 now; refine (lives_any b l now n _).mono ?_; rintro e w' ⟨rfl, hb⟩) | (go_at_call 23; refine (refLives_any b l now n _).mono ?_; rintro e w' ⟨rfl, hb⟩) | (go_at_call 22; refine (h8 _).mono ?_; rintro e w' ⟨rfl, hb⟩))
  rename_i hH
  go_wp2_with fail
  go_ret
  exact ⟨rfl, hH.2.2.2⟩

theorem Try.cells37 : Try.prog.cellsOf 37 = 2 := by kernel_rfl

set_option maxRecDepth 100000 in
/-- a rule among the arguments, opened: two numbers, read as such in whatever world -/
theorem open_rule {H : Type} {enc : TypeId × Value → H} {W : World} {v : Value} {d : DataW H} {p : List MemPlace} {r : Reach} {b0 : Nat} {spare : Nat → Bool}
    (hv : Value.okWide Try.prog W r b0 37 v) (h : DataW.Trod enc Try.prog W 0 spare true 37 v d p) :
    ∃ b l : Int, v = .agg #[.int .i64 b, .int .i64 l] ∧ p = [] ∧ Fits b ∧ Fits l ∧ ∀ (W' : World) (sp : Nat → Bool), DataW.Trod enc Try.prog W' 0 sp true 37 v d [] := by
  obtain ⟨v0, v1, ⟨y0, p0⟩, ⟨y1, p1⟩, n, rfl, rfl, rfl, h0, h1⟩ := open_agg2 Try.underlying37 (by kernel_rfl) Try.cells37 hv h
  obtain ⟨x, e0, d0, w0⟩ := DataW.trod_int Try.underlying3 h0
  obtain ⟨y, e1, d1, w1⟩ := DataW.trod_int Try.underlying3 h1
  simp only [List.cons.injEq, and_true, Prod.mk.injEq] at e0 e1 d0 d1
  obtain ⟨rfl, rfl⟩ := d0
  obtain ⟨rfl, rfl⟩ := d1
  subst e0 e1
  refine ⟨x, y, rfl, rfl, fits_of_wf w0, fits_of_wf w1, fun W' sp => ?_⟩
  exact shut_agg2 (y0 := (.lit (.int .i64 x), [])) (y1 := (.lit (.int .i64 y), [])) Try.underlying37 (by kernel_rfl) Try.cells37 ⟨_, trod_int_mk 0 Try.underlying3 w0⟩ ⟨_, trod_int_mk 0 Try.underlying3 w1⟩

set_option maxRecDepth 100000 in
theorem lives_lifted (os : Os) (started : os.Started) (H : Type) (enc : TypeId × Value → H) :
    ReturnsInHanded {} Try.checked os 6 .any (Rows.ruleLivesSpec.pre6 enc Try.prog Try.f6 Rows.ruleLivesRow.domain false) (Rows.ruleLivesSpec.post enc Try.prog Try.f6 false true false false) := by
  refine returnsInHanded_of_change_sized (C := Try.checked) Try.own started (by kernel_rfl) Try.func6
    (ChangeSpec.witness6 (enc := enc) (C := Try.checked) false ⟨#[], #[.agg #[.int .i64 0, .int .i64 0], .bool false, .int .i64 0], []⟩ 8 (by kernel_rfl) (by kernel_rfl) (by kernel_rfl) (by kernel_rfl)) ?_
  intro W base args ds gs before hval0 hW _ _ _
  have hval : ∀ (j : Nat) t v, Try.f6.params[j]? = some t → args[j]? = some v → Value.okWide Try.prog W .any base t v := hval0
  have hW' := hW
  obtain ⟨p, q, hA0, hV, rfl, _, _⟩ := hW
  have hA : DataW.TrodAll enc Try.prog W 0 (fun _ => true) true Try.f6.params.toList args.toList ds p := hA0
  rw [Try.params6] at hA hval
  obtain ⟨v0, v1, v2, d0, d1, d2, p0, p1, p2, rfl, rfl, rfl, h0, h1, h2⟩ := trodAll_three hA
  obtain ⟨rfl, rfl⟩ := trodVars_none hV
  obtain ⟨b, l, rfl, rfl, _, _, hr⟩ := open_rule (hval 0 37 v0 rfl rfl) h0
  obtain ⟨now, rfl, rfl, rfl⟩ := open_bool Try.underlying4 (hval 1 4 v1 rfl rfl) h1
  obtain ⟨n, rfl, rfl, rfl, wn⟩ := open_int Try.underlying3 (hval 2 3 v2 rfl rfl) h2
  clear hA0 hval0
  refine (livesLaw_any b l now n W).mono fun e W' ⟨he, hb⟩ => ?_
  subst he
  refine ⟨_, rfl, _, _, _, [], [] ++ ([] ++ []), [], hW', ?_, ?_, rfl, hb.frame _, fun h => by cases h⟩
  · exact trodAll_mk1 (shut_bool Try.underlying4 true)
  · exact trodAll_mk3 (hr _ _) (shut_bool Try.underlying4 now) (shut_int Try.underlying3 wn)

theorem lives_hold : Rows.RuleLivesSaid :=
  OpenClaim.holds_of_wide 6 Try.f6 rfl rfl rfl rfl rfl rfl rfl ⟨rfl, rfl, rfl, rfl, rfl⟩ rfl rfl rfl rfl rfl (by kernel_rfl) Try.func6 (by kernel_rfl)
    (of_decide_eq_true (by kernel_rfl)) (by unfold Func.isWrapper; first | (rw [if_pos (by decide +kernel)]; kernel_rfl) | (rw [if_neg (by decide +kernel)]; exact ⟨rfl, rfl⟩))
    (fun os started H enc _ => lives_lifted os started H enc)

#print axioms lives_hold
end Go.Proofs.Ytoppncaidhlenab
