/- Keys of things in an arena's map. -/
import Derived.Test.YtfogedmghhacdaaArLevel
import Derived.Maps.OwnSet
namespace Go.Proofs.Ytfogedmghhacdaa.A
open Go.RowKit Go.Maps

theorem Try.laidOut : laidOutB Try.prog = true := by kernel_rfl
theorem Try.row112 : (80 : TypeId) < Try.prog.types.size := of_decide_eq_true (by kernel_rfl)
set_option maxRecDepth 100000 in
theorem Try.wide112 : (match Try.prog.underlying 80 with | some (.array _ _) | some (.struct _) => true | _ => false) = true := by rw [Try.underlying80]
set_option maxRecDepth 100000 in
theorem thLaw : Keyed Try.prog 80 := Keyed.of_law (deep_law_laid Try.laidOut (m := 5) (by omega) Try.row112 (by kernel_rfl) Try.wide112)
theorem Try.zero3 (w : World) : (zeroValue 3).run Try.prog w = .ok (.int .i64 0) w := by kernel_rfl

/-- a key: kind and parts -/
structure Ky where
  k : Int
  p0 : Int
  p1 : Int
  p2 : Int
  p3 : Int
  deriving DecidableEq
def Ky.val (q : Ky) : Value := .agg #[.int .i64 q.k, .int .i64 q.p0, .int .i64 q.p1, .int .i64 q.p2, .int .i64 q.p3]
def Fits (x : Int) : Prop := -9223372036854775808 ≤ x ∧ x ≤ 9223372036854775807
structure Ky.Fit (q : Ky) : Prop where
  k : Fits q.k
  p0 : Fits q.p0
  p1 : Fits q.p1
  p2 : Fits q.p2
  p3 : Fits q.p3
theorem wf_of_fits {x : Int} (h : Fits x) : (Lit.int .i64 x).wf = true := by
  have h1 : IntKind.i64.min = -9223372036854775808 := rfl
  have h2 : IntKind.i64.max = 9223372036854775807 := rfl
  unfold Fits at h
  simp only [Lit.wf, Bool.and_eq_true, decide_eq_true_eq]
  omega
/-- what a key reads as -/
def kl (q : Ky) : Lit := .string (keyBytes [.int .i64 q.k, .int .i64 q.p0, .int .i64 q.p1, .int .i64 q.p2, .int .i64 q.p3])

theorem Try.keyType112 : Try.prog.keyType 80 = true := by kernel_rfl
theorem Try.someTypes : ∃ d, Try.prog.types.size = d + 2 := ⟨Try.prog.types.size - 2, by have : 1 < Try.prog.types.size := of_decide_eq_true (by kernel_rfl); omega⟩
theorem Try.cells80 : Try.prog.cellsOf 80 = 5 := by kernel_rfl
theorem Try.cells35 : Try.prog.cellsOf 35 = 4 := by kernel_rfl
theorem Try.cells3 : Try.prog.cellsOf 3 = 1 := by kernel_rfl
theorem keyLits_int {x : Int} (d : Nat) (h : (Lit.int .i64 x).wf = true) : Try.prog.keyLits (d + 1) 3 [.int .i64 x] = some [.int .i64 x] := by
  unfold Program.keyLits
  simp only [Try.underlying3, h, and_self, if_true]
theorem keyLits_four {a b c e : Int} (d : Nat) (h0 : (Lit.int .i64 a).wf = true) (h1 : (Lit.int .i64 b).wf = true) (h2 : (Lit.int .i64 c).wf = true) (h3 : (Lit.int .i64 e).wf = true) : Try.prog.keyLits (d + 1 + 1) 35 [.int .i64 a, .int .i64 b, .int .i64 c, .int .i64 e] = some [.int .i64 a, .int .i64 b, .int .i64 c, .int .i64 e] := by
  unfold Program.keyLits
  simp only [Try.underlying35, Try.cells35, Try.cells3]
  simp [List.range, List.range.loop, keyLits_int d h0, keyLits_int d h1, keyLits_int d h2, keyLits_int d h3]
theorem keyLits_ky {k a b c e : Int} (d : Nat) (h : (Lit.int .i64 k).wf = true) (h0 : (Lit.int .i64 a).wf = true) (h1 : (Lit.int .i64 b).wf = true) (h2 : (Lit.int .i64 c).wf = true) (h3 : (Lit.int .i64 e).wf = true) : Try.prog.keyLits (d + 1 + 1 + 1) 80 [.int .i64 k, .int .i64 a, .int .i64 b, .int .i64 c, .int .i64 e] = some [.int .i64 k, .int .i64 a, .int .i64 b, .int .i64 c, .int .i64 e] := by
  unfold Program.keyLits
  simp only [Try.underlying80, Try.cells80]
  simp [Try.cells3, Try.cells35, keyLits_int (d + 1) h, keyLits_four d h0 h1 h2 h3]
theorem formed_ky (q : Ky) : q.val.formed Try.prog 80 = true := by
  unfold Ky.val Value.formed
  rw [Try.underlying80]
  simp only [Try.cells80]
  rfl
theorem key_ky {q : Ky} (h : q.Fit) : keyOf Try.prog 80 q.val = some (kl q) := by
  have hl : Try.prog.keyLits (Try.prog.types.size + 1) 80 q.val.cells.toList = some [.int .i64 q.k, .int .i64 q.p0, .int .i64 q.p1, .int .i64 q.p2, .int .i64 q.p3] := by
    obtain ⟨d, hd⟩ := Try.someTypes
    rw [hd]
    exact keyLits_ky d (wf_of_fits h.k) (wf_of_fits h.p0) (wf_of_fits h.p1) (wf_of_fits h.p2) (wf_of_fits h.p3)
  unfold keyOf
  rw [Try.underlying80]
  simp only [Try.keyType112, formed_ky, Bool.and_self, if_true, hl]
  rfl
theorem kl_inj {p q : Ky} (hp : p.Fit) (hq : q.Fit) (h : kl p = kl q) : p = q := by
  have h1 := key_ky hp
  have h2 := key_ky hq
  rw [h] at h1
  have := thLaw.inj h1 h2
  simp only [Ky.val, Value.agg.injEq] at this
  simp at this
  obtain ⟨a, b, c, d, e⟩ := this
  cases p; cases q
  simp_all
theorem kl_key (q : Ky) : WideAt.IsKeyLit (kl q) := trivial

/-- a thing's key -/
def Th.key (x : Th) : Ky := ⟨x.k, x.p0, x.p1, x.p2, x.p3⟩
/-- where the thing of a key is -/
def spotF (l : List Th) (q : Ky) : Option Nat := l.findIdx? fun x => decide (x.key = q)
/-- its number; 0: none -/
def numF (l : List Th) (q : Ky) : Int := match spotF l q with | some i => (i : Int) + 2 | none => 0
/-- an arena's map: the number of each key that a thing has -/
def NumIs (D : DataW Unit) (l : List Th) : Prop := ∀ q : Ky, q.Fit → q.k ≠ 0 → Maps.has D (kl q) = (spotF l q).isSome ∧ D.atKey (kl q) (.lit (.int .i64 0)) = .lit (.int .i64 (numF l q))
theorem NumIs.empty : NumIs (.map []) [] := fun _ _ _ => ⟨rfl, rfl⟩
end Go.Proofs.Ytfogedmghhacdaa.A
