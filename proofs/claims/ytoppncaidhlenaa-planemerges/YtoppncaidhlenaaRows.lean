/-
  No cell of these rows narrows 'for every input' (looked for: loops, veiled, ifaces, maps, wideKeys, modest, calm, conditions, laid).
  DERIVED. THE GIVEN ROWS OF THIS SEAT. 6 by the template 'for every input the law returns true; each argument reads behind the call as it read before'; 0 by the template 'total and deterministic' (their statements: YtoppncaidhlenaaTotals.lean).
  GIVEN WITH THE SEED: the statements are not yours to turn. If you find one false, say at which input.
  Laid BY PROGRAM, IN A SANDBOX (cutbox-rows.mjs): the forced cells as the released guide's own fill.sh prints them over the translation 9e7e23206e4dd65d… (all of the seat's roots in one cut). By AI agents, Wed Nov 11 2026. No macro, syntax, notation, axiom, sorry.
-/
import Derived.Test.YtoppncaidhlenaaChecked
import GoSem.Claim
import GoSem.ClaimJoined
import GoSem.ClaimMapViews
import Derived.JoinedTies
import Derived.KernelRfl
namespace Go.Proofs.Ytoppncaidhlenaa
/- THE CELL 'sum', in the pinned program and in every row, IS THE sha256 OF THE DUMP (.gsa) THAT YtoppncaidhlenaaProg.lean LOADS. Nothing in Lean hashes anything: it is a label: what it is worth is what the hold of that sum in a sandbox is worth. -/
noncomputable def Try.pinned : Pinned := { name := "ytoppncaidhlenaa", sum := "9e7e23206e4dd65d42cc286829e6d4d56a758a4f7b8e66b873521ca32e8c8048", checked := Try.checked }
namespace Rows
def none {H : Type} : Left H := { results := [], args := [] }

/-- 'lifelodgelaw.PlaneTidies': WHATEVER THE INPUT: true; the input reads as it did. -/
def planeTidiesSpec : ChangeSpec := { name := "planeTidies", fn := fun _ => fun
  | [d] => { results := [.lit (.bool true)], args := [d] }
  | _ => none }
def planeTidiesRow : OpenClaim := { program := "ytoppncaidhlenaa", sum := "9e7e23206e4dd65d42cc286829e6d4d56a758a4f7b8e66b873521ca32e8c8048", func := "lifelodge/lifelodgelaw.PlaneTidies", spec := "planeTidies", unfollowed := true, recurses := true, plainKeys := false, apart := false }
def PlaneTidiesSaid : Prop := planeTidiesRow.holds Try.pinned (OpenSpec.ofChange planeTidiesSpec)

/-- ITS FALSE NEIGHBOUR: 'it returns false'. Refute it at one input. -/
def planeTidiesWrong : ChangeSpec := { name := "planeTidies", fn := fun _ => fun
  | [d] => { results := [.lit (.bool false)], args := [d] }
  | _ => none }
def PlaneTidiesWrongFalsely : Prop := planeTidiesRow.holds Try.pinned (OpenSpec.ofChange planeTidiesWrong)

/-- 'lifelodgelaw.PlaneMerges': WHATEVER THE INPUT: true; the input reads as it did. -/
def planeMergesSpec : ChangeSpec := { name := "planeMerges", fn := fun _ => fun
  | [d1, d2] => { results := [.lit (.bool true)], args := [d1, d2] }
  | _ => none }
def planeMergesRow : OpenClaim := { program := "ytoppncaidhlenaa", sum := "9e7e23206e4dd65d42cc286829e6d4d56a758a4f7b8e66b873521ca32e8c8048", func := "lifelodge/lifelodgelaw.PlaneMerges", spec := "planeMerges", unfollowed := true, recurses := true, plainKeys := false, apart := false }
def PlaneMergesSaid : Prop := planeMergesRow.holds Try.pinned (OpenSpec.ofChange planeMergesSpec)

/-- ITS FALSE NEIGHBOUR: 'it returns false'. Refute it at one input. -/
def planeMergesWrong : ChangeSpec := { name := "planeMerges", fn := fun _ => fun
  | [d1, d2] => { results := [.lit (.bool false)], args := [d1, d2] }
  | _ => none }
def PlaneMergesWrongFalsely : Prop := planeMergesRow.holds Try.pinned (OpenSpec.ofChange planeMergesWrong)

/-- 'lifelodgelaw.PlaneShifts': WHATEVER THE INPUT: true; the input reads as it did. -/
def planeShiftsSpec : ChangeSpec := { name := "planeShifts", fn := fun _ => fun
  | [d1, d2, d3] => { results := [.lit (.bool true)], args := [d1, d2, d3] }
  | _ => none }
def planeShiftsRow : OpenClaim := { program := "ytoppncaidhlenaa", sum := "9e7e23206e4dd65d42cc286829e6d4d56a758a4f7b8e66b873521ca32e8c8048", func := "lifelodge/lifelodgelaw.PlaneShifts", spec := "planeShifts", unfollowed := true, recurses := true, plainKeys := false, apart := false }
def PlaneShiftsSaid : Prop := planeShiftsRow.holds Try.pinned (OpenSpec.ofChange planeShiftsSpec)

/-- ITS FALSE NEIGHBOUR: 'it returns false'. Refute it at one input. -/
def planeShiftsWrong : ChangeSpec := { name := "planeShifts", fn := fun _ => fun
  | [d1, d2, d3] => { results := [.lit (.bool false)], args := [d1, d2, d3] }
  | _ => none }
def PlaneShiftsWrongFalsely : Prop := planeShiftsRow.holds Try.pinned (OpenSpec.ofChange planeShiftsWrong)

/-- 'lifelodgelaw.PlaneBoxes': WHATEVER THE INPUT: true; the input reads as it did. -/
def planeBoxesSpec : ChangeSpec := { name := "planeBoxes", fn := fun _ => fun
  | [d] => { results := [.lit (.bool true)], args := [d] }
  | _ => none }
def planeBoxesRow : OpenClaim := { program := "ytoppncaidhlenaa", sum := "9e7e23206e4dd65d42cc286829e6d4d56a758a4f7b8e66b873521ca32e8c8048", func := "lifelodge/lifelodgelaw.PlaneBoxes", spec := "planeBoxes", plainKeys := false, apart := false }
def PlaneBoxesSaid : Prop := planeBoxesRow.holds Try.pinned (OpenSpec.ofChange planeBoxesSpec)

/-- ITS FALSE NEIGHBOUR: 'it returns false'. Refute it at one input. -/
def planeBoxesWrong : ChangeSpec := { name := "planeBoxes", fn := fun _ => fun
  | [d] => { results := [.lit (.bool false)], args := [d] }
  | _ => none }
def PlaneBoxesWrongFalsely : Prop := planeBoxesRow.holds Try.pinned (OpenSpec.ofChange planeBoxesWrong)

/-- 'lifelodgekeep.PlaneSets': WHATEVER THE INPUT: true; the input reads as it did. -/
def planeSetsSpec : ChangeSpec := { name := "planeSets", fn := fun _ => fun
  | [d1, d2, d3] => { results := [.lit (.bool true)], args := [d1, d2, d3] }
  | _ => none }
def planeSetsRow : OpenClaim := { program := "ytoppncaidhlenaa", sum := "9e7e23206e4dd65d42cc286829e6d4d56a758a4f7b8e66b873521ca32e8c8048", func := "lifelodge/lifelodgekeep.PlaneSets", spec := "planeSets", unfollowed := true, recurses := true, plainKeys := false, apart := false }
def PlaneSetsSaid : Prop := planeSetsRow.holds Try.pinned (OpenSpec.ofChange planeSetsSpec)

/-- ITS FALSE NEIGHBOUR: 'it returns false'. Refute it at one input. -/
def planeSetsWrong : ChangeSpec := { name := "planeSets", fn := fun _ => fun
  | [d1, d2, d3] => { results := [.lit (.bool false)], args := [d1, d2, d3] }
  | _ => none }
def PlaneSetsWrongFalsely : Prop := planeSetsRow.holds Try.pinned (OpenSpec.ofChange planeSetsWrong)

/-- 'lifelodgekeep.PlaneOrder': WHATEVER THE INPUT: true; the input reads as it did. -/
def planeOrderSpec : ChangeSpec := { name := "planeOrder", fn := fun _ => fun
  | [d1, d2] => { results := [.lit (.bool true)], args := [d1, d2] }
  | _ => none }
def planeOrderRow : OpenClaim := { program := "ytoppncaidhlenaa", sum := "9e7e23206e4dd65d42cc286829e6d4d56a758a4f7b8e66b873521ca32e8c8048", func := "lifelodge/lifelodgekeep.PlaneOrder", spec := "planeOrder", unfollowed := true, recurses := true, plainKeys := false, apart := false }
def PlaneOrderSaid : Prop := planeOrderRow.holds Try.pinned (OpenSpec.ofChange planeOrderSpec)

/-- ITS FALSE NEIGHBOUR: 'it returns false'. Refute it at one input. -/
def planeOrderWrong : ChangeSpec := { name := "planeOrder", fn := fun _ => fun
  | [d1, d2] => { results := [.lit (.bool false)], args := [d1, d2] }
  | _ => none }
def PlaneOrderWrongFalsely : Prop := planeOrderRow.holds Try.pinned (OpenSpec.ofChange planeOrderWrong)

/- THE SECOND FORM. 'bulk': how many values and letters a reading holds, each counted each time it is reached (what is shared counts as often as it is met; a slice's spare places count too). A statement '..UptoSaid' is the law's where the arguments, and the package variables that the reading takes, are together of bulk at most 1048576: NARROWER than '..Said'. Prove '..Said' where nothing that the law and all that it calls make is longer than what came in: it says more and counts as full. Else prove '..UptoSaid'. A law counts once. -/
mutual
def uptoBulk {H : Type} : DataW H → Nat
  | .lit (.string bytes) => bytes.length + 1
  | .lit _ => 1
  | .nil => 1
  | .ptr d => uptoBulk d + 1
  | .slice elems spare => uptoBulkAll elems + uptoBulkAll spare + 1
  | .agg parts => uptoBulkAll parts + 1
  | .iface _ d => uptoBulk d + 1
  | .map entries => uptoBulkEntries entries + 1
  | .held _ => 1
def uptoBulkAll {H : Type} : List (DataW H) → Nat
  | [] => 0
  | d :: r => uptoBulk d + uptoBulkAll r
def uptoBulkEntries {H : Type} : List (Lit × DataW H) → Nat
  | [] => 0
  | x :: r => uptoBulkEntry x + uptoBulkEntries r
def uptoBulkEntry {H : Type} : Lit × DataW H → Nat
  | (.string bytes, d) => bytes.length + uptoBulk d + 1
  | (_, d) => uptoBulk d + 1
 end
def uptoSmall : (H : Type) → List (DataW H) → Bool := fun _ ds => decide (uptoBulkAll ds ≤ 1048576)
def OpenSpec.upto (s : _root_.Go.ChangeSpec) : _root_.Go.OpenSpec := { _root_.Go.OpenSpec.ofChange s with cond := some uptoSmall }

/-- 'lifelodgelaw.PlaneTidies', WHERE WHAT IT READS IS OF BULK AT MOST 1048576: true; the input reads as it did. -/
def planeTidiesUptoRow : OpenClaim := { program := "ytoppncaidhlenaa", sum := "9e7e23206e4dd65d42cc286829e6d4d56a758a4f7b8e66b873521ca32e8c8048", func := "lifelodge/lifelodgelaw.PlaneTidies", spec := "planeTidies", unfollowed := true, recurses := true, plainKeys := false, apart := false, narrowed := true }
def PlaneTidiesUptoSaid : Prop := planeTidiesUptoRow.holds Try.pinned (OpenSpec.upto planeTidiesSpec)

/-- 'lifelodgelaw.PlaneMerges', WHERE WHAT IT READS IS OF BULK AT MOST 1048576: true; the input reads as it did. -/
def planeMergesUptoRow : OpenClaim := { program := "ytoppncaidhlenaa", sum := "9e7e23206e4dd65d42cc286829e6d4d56a758a4f7b8e66b873521ca32e8c8048", func := "lifelodge/lifelodgelaw.PlaneMerges", spec := "planeMerges", unfollowed := true, recurses := true, plainKeys := false, apart := false, narrowed := true }
def PlaneMergesUptoSaid : Prop := planeMergesUptoRow.holds Try.pinned (OpenSpec.upto planeMergesSpec)

/-- 'lifelodgelaw.PlaneShifts', WHERE WHAT IT READS IS OF BULK AT MOST 1048576: true; the input reads as it did. -/
def planeShiftsUptoRow : OpenClaim := { program := "ytoppncaidhlenaa", sum := "9e7e23206e4dd65d42cc286829e6d4d56a758a4f7b8e66b873521ca32e8c8048", func := "lifelodge/lifelodgelaw.PlaneShifts", spec := "planeShifts", unfollowed := true, recurses := true, plainKeys := false, apart := false, narrowed := true }
def PlaneShiftsUptoSaid : Prop := planeShiftsUptoRow.holds Try.pinned (OpenSpec.upto planeShiftsSpec)

/-- 'lifelodgelaw.PlaneBoxes', WHERE WHAT IT READS IS OF BULK AT MOST 1048576: true; the input reads as it did. -/
def planeBoxesUptoRow : OpenClaim := { program := "ytoppncaidhlenaa", sum := "9e7e23206e4dd65d42cc286829e6d4d56a758a4f7b8e66b873521ca32e8c8048", func := "lifelodge/lifelodgelaw.PlaneBoxes", spec := "planeBoxes", plainKeys := false, apart := false, narrowed := true }
def PlaneBoxesUptoSaid : Prop := planeBoxesUptoRow.holds Try.pinned (OpenSpec.upto planeBoxesSpec)

/-- 'lifelodgekeep.PlaneSets', WHERE WHAT IT READS IS OF BULK AT MOST 1048576: true; the input reads as it did. -/
def planeSetsUptoRow : OpenClaim := { program := "ytoppncaidhlenaa", sum := "9e7e23206e4dd65d42cc286829e6d4d56a758a4f7b8e66b873521ca32e8c8048", func := "lifelodge/lifelodgekeep.PlaneSets", spec := "planeSets", unfollowed := true, recurses := true, plainKeys := false, apart := false, narrowed := true }
def PlaneSetsUptoSaid : Prop := planeSetsUptoRow.holds Try.pinned (OpenSpec.upto planeSetsSpec)

/-- 'lifelodgekeep.PlaneOrder', WHERE WHAT IT READS IS OF BULK AT MOST 1048576: true; the input reads as it did. -/
def planeOrderUptoRow : OpenClaim := { program := "ytoppncaidhlenaa", sum := "9e7e23206e4dd65d42cc286829e6d4d56a758a4f7b8e66b873521ca32e8c8048", func := "lifelodge/lifelodgekeep.PlaneOrder", spec := "planeOrder", unfollowed := true, recurses := true, plainKeys := false, apart := false, narrowed := true }
def PlaneOrderUptoSaid : Prop := planeOrderUptoRow.holds Try.pinned (OpenSpec.upto planeOrderSpec)

end Rows
end Go.Proofs.Ytoppncaidhlenaa
