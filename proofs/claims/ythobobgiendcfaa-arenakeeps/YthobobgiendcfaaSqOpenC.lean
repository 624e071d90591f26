/- A cell among the arguments. -/
import Derived.Test.YthobobgiendcfaaSqOpen
import Derived.Lib.SmallJoins
namespace Go.Proofs.Ythobobgiendcfaa
open Go.ChangeShapes Go.WideShapes Go.ChangeAt Go.RowKit Go.Joins

theorem A.Try.cells87 : Try.prog.cellsOf 87 = 2 := by kernel_rfl
set_option maxRecDepth 100000 in
/-- a cell among the arguments, opened: two numbers, read as such in whatever world -/
theorem A.open_cell {H : Type} {enc : TypeId × Value → H} {W : World} {v : Value} {d : DataW H} {p : List MemPlace} {r : Reach} {b0 : Nat} {spare : Nat → Bool}
    (hv : Value.okWide Try.prog W r b0 87 v) (h : DataW.Trod enc Try.prog W 0 spare true 87 v d p) :
    ∃ b l : Int, v = .agg #[.int .i64 b, .int .i64 l] ∧ p = [] ∧ Fits b ∧ Fits l ∧ ∀ (W' : World) (sp : Nat → Bool), DataW.Trod enc Try.prog W' 0 sp true 87 v d [] := by
  obtain ⟨v0, v1, ⟨y0, p0⟩, ⟨y1, p1⟩, n, rfl, rfl, rfl, h0, h1⟩ := open_agg2 Try.underlying87 (by kernel_rfl) A.Try.cells87 hv h
  obtain ⟨x, e0, d0, w0⟩ := DataW.trod_int Try.underlying3 h0
  obtain ⟨y, e1, d1, w1⟩ := DataW.trod_int Try.underlying3 h1
  simp only [List.cons.injEq, and_true, Prod.mk.injEq] at e0 e1 d0 d1
  obtain ⟨rfl, rfl⟩ := d0
  obtain ⟨rfl, rfl⟩ := d1
  subst e0 e1
  refine ⟨x, y, rfl, rfl, fits_of_wf w0, fits_of_wf w1, fun W' sp => ?_⟩
  exact shut_agg2 (y0 := (.lit (.int .i64 x), [])) (y1 := (.lit (.int .i64 y), [])) Try.underlying87 (by kernel_rfl) A.Try.cells87 ⟨_, trod_int_mk 0 Try.underlying3 w0⟩ ⟨_, trod_int_mk 0 Try.underlying3 w1⟩

end Go.Proofs.Ythobobgiendcfaa
