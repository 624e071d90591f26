/- PROVED: for all rules, states and numbers, rule.Lives answers exactly what the document's own Lives does, and the input is left as it was. No condition. -/
import Derived.Test.YtoppncaidhlenacLives
import Derived.Test.YtoppncaidhlenacOpen
import Derived.Lib.SmallJoins
import Derived.Deep.RegionHeld3
namespace Go.Proofs.Ytoppncaidhlenac
open Go.ChangeShapes Go.WideShapes Go.ChangeAt Go.RowKit Go.Joins

theorem two_go {w w1 w2 : World} {g : Nat} {x y : Value} (hs : w1.cell? ⟨g, 0, none⟩ = some x ∧ w1.cell? ⟨g, 1, none⟩ = some y ∧ g < w1.heap.size ∧ Below g w w1) (h : Below w1.heap.size w1 w2) :
    w2.cell? ⟨g, 0, none⟩ = some x ∧ w2.cell? ⟨g, 1, none⟩ = some y ∧ g < w2.heap.size ∧ Below g w w2 :=
  ⟨(h.cell (p := ⟨g, 0, none⟩) hs.2.2.1).trans hs.1, (h.cell (p := ⟨g, 1, none⟩) hs.2.2.1).trans hs.2.1, Nat.lt_of_lt_of_le hs.2.2.1 h.size, hs.2.2.2.trans (h.mono (Nat.le_of_lt hs.2.2.1))⟩

theorem Try.cells23 : Try.prog.cellsOf 23 = 2 := by kernel_rfl

set_option maxRecDepth 100000 in
/-- a rule among the arguments, opened: two numbers, read as such in whatever world -/
theorem open_rule {H : Type} {enc : TypeId × Value → H} {W : World} {v : Value} {d : DataW H} {p : List MemPlace} {r : Reach} {b0 : Nat} {spare : Nat → Bool}
    (hv : Value.okWide Try.prog W r b0 23 v) (h : DataW.Trod enc Try.prog W 0 spare true 23 v d p) :
    ∃ b l : Int, v = .agg #[.int .i64 b, .int .i64 l] ∧ p = [] ∧ Fits b ∧ Fits l ∧ ∀ (W' : World) (sp : Nat → Bool), DataW.Trod enc Try.prog W' 0 sp true 23 v d [] := by
  obtain ⟨v0, v1, ⟨y0, p0⟩, ⟨y1, p1⟩, n, rfl, rfl, rfl, h0, h1⟩ := open_agg2 Try.underlying23 (by kernel_rfl) Try.cells23 hv h
  obtain ⟨x, e0, d0, w0⟩ := DataW.trod_int Try.underlying3 h0
  obtain ⟨y, e1, d1, w1⟩ := DataW.trod_int Try.underlying3 h1
  simp only [List.cons.injEq, and_true, Prod.mk.injEq] at e0 e1 d0 d1
  obtain ⟨rfl, rfl⟩ := d0
  obtain ⟨rfl, rfl⟩ := d1
  subst e0 e1
  refine ⟨x, y, rfl, rfl, fits_of_wf w0, fits_of_wf w1, fun W' sp => ?_⟩
  exact shut_agg2 (y0 := (.lit (.int .i64 x), [])) (y1 := (.lit (.int .i64 y), [])) Try.underlying23 (by kernel_rfl) Try.cells23 ⟨_, trod_int_mk 0 Try.underlying3 w0⟩ ⟨_, trod_int_mk 0 Try.underlying3 w1⟩

end Go.Proofs.Ytoppncaidhlenac
