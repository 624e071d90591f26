/-
  No cell of these rows narrows 'for every input' (looked for: loops, veiled, ifaces, maps, wideKeys, modest, calm, conditions, laid).
  DERIVED. THE GIVEN ROWS OF THIS SEAT. 6 by the template 'for every input the law returns true; each argument reads behind the call as it read before'; 0 by the template 'total and deterministic' (their statements: YtoppncaidhlenacTotals.lean).
  GIVEN WITH THE SEED: the statements are not yours to turn. If you find one false, say at which input.
  Laid BY PROGRAM, IN A SANDBOX (cutbox-rows.mjs): the forced cells as the released guide's own fill.sh prints them over the translation 47714e02de398a93… (all of the seat's roots in one cut). By AI agents, Wed Nov 11 2026. No macro, syntax, notation, axiom, sorry.
-/
import Derived.Test.YtoppncaidhlenacChecked
import GoSem.Claim
import GoSem.ClaimJoined
import GoSem.ClaimMapViews
import Derived.JoinedTies
import Derived.KernelRfl
namespace Go.Proofs.Ytoppncaidhlenac
/- THE CELL 'sum', in the pinned program and in every row, IS THE sha256 OF THE DUMP (.gsa) THAT YtoppncaidhlenacProg.lean LOADS. Nothing in Lean hashes anything: it is a label: what it is worth is what the hold of that sum in a sandbox is worth. -/
noncomputable def Try.pinned : Pinned := { name := "ytoppncaidhlenac", sum := "47714e02de398a932d13c35bb1a02e773bdf80aa5646aca568e6bf3936f3aee3", checked := Try.checked }
namespace Rows
def none {H : Type} : Left H := { results := [], args := [] }

/-- 'lifelodgekeep.RuleBack': WHATEVER THE INPUT: true; the input reads as it did. -/
def ruleBackSpec : ChangeSpec := { name := "ruleBack", fn := fun _ => fun
  | [d] => { results := [.lit (.bool true)], args := [d] }
  | _ => none }
def ruleBackRow : OpenClaim := { program := "ytoppncaidhlenac", sum := "47714e02de398a932d13c35bb1a02e773bdf80aa5646aca568e6bf3936f3aee3", func := "lifelodge/lifelodgekeep.RuleBack", spec := "ruleBack", inPlace := ["internal/abi.NoEscape", "internal/bytealg.IndexByteString", "internal/bytealg.IndexString"], unfollowed := true, recurses := true, named := ["internal/bytealg.MaxLen"], plainKeys := false, apart := false }
def RuleBackSaid : Prop := ruleBackRow.holds Try.pinned (OpenSpec.ofChange ruleBackSpec)

/-- ITS FALSE NEIGHBOUR: 'it returns false'. Refute it at one input. -/
def ruleBackWrong : ChangeSpec := { name := "ruleBack", fn := fun _ => fun
  | [d] => { results := [.lit (.bool false)], args := [d] }
  | _ => none }
def RuleBackWrongFalsely : Prop := ruleBackRow.holds Try.pinned (OpenSpec.ofChange ruleBackWrong)

/-- 'lifelodgekeep.RuleOnly': WHATEVER THE INPUT: true; the input reads as it did. -/
def ruleOnlySpec : ChangeSpec := { name := "ruleOnly", fn := fun _ => fun
  | [d] => { results := [.lit (.bool true)], args := [d] }
  | _ => none }
def ruleOnlyRow : OpenClaim := { program := "ytoppncaidhlenac", sum := "47714e02de398a932d13c35bb1a02e773bdf80aa5646aca568e6bf3936f3aee3", func := "lifelodge/lifelodgekeep.RuleOnly", spec := "ruleOnly", inPlace := ["internal/bytealg.IndexByteString", "internal/bytealg.IndexString", "internal/abi.NoEscape"], unfollowed := true, recurses := true, named := ["internal/bytealg.MaxLen"], plainKeys := false, apart := false }
def RuleOnlySaid : Prop := ruleOnlyRow.holds Try.pinned (OpenSpec.ofChange ruleOnlySpec)

/-- ITS FALSE NEIGHBOUR: 'it returns false'. Refute it at one input. -/
def ruleOnlyWrong : ChangeSpec := { name := "ruleOnly", fn := fun _ => fun
  | [d] => { results := [.lit (.bool false)], args := [d] }
  | _ => none }
def RuleOnlyWrongFalsely : Prop := ruleOnlyRow.holds Try.pinned (OpenSpec.ofChange ruleOnlyWrong)

/-- 'lifelodgekeep.RuleMoves': WHATEVER THE INPUT: true; the input reads as it did. -/
def ruleMovesSpec : ChangeSpec := { name := "ruleMoves", fn := fun _ => fun
  | [d1, d2, d3, d4] => { results := [.lit (.bool true)], args := [d1, d2, d3, d4] }
  | _ => none }
def ruleMovesRow : OpenClaim := { program := "ytoppncaidhlenac", sum := "47714e02de398a932d13c35bb1a02e773bdf80aa5646aca568e6bf3936f3aee3", func := "lifelodge/lifelodgekeep.RuleMoves", spec := "ruleMoves", unfollowed := true, recurses := true, plainKeys := false, apart := false }
def RuleMovesSaid : Prop := ruleMovesRow.holds Try.pinned (OpenSpec.ofChange ruleMovesSpec)

/-- ITS FALSE NEIGHBOUR: 'it returns false'. Refute it at one input. -/
def ruleMovesWrong : ChangeSpec := { name := "ruleMoves", fn := fun _ => fun
  | [d1, d2, d3, d4] => { results := [.lit (.bool false)], args := [d1, d2, d3, d4] }
  | _ => none }
def RuleMovesWrongFalsely : Prop := ruleMovesRow.holds Try.pinned (OpenSpec.ofChange ruleMovesWrong)

/-- 'lifelodgekeep.RuleMirrors': WHATEVER THE INPUT: true; the input reads as it did. -/
def ruleMirrorsSpec : ChangeSpec := { name := "ruleMirrors", fn := fun _ => fun
  | [d1, d2, d3] => { results := [.lit (.bool true)], args := [d1, d2, d3] }
  | _ => none }
def ruleMirrorsRow : OpenClaim := { program := "ytoppncaidhlenac", sum := "47714e02de398a932d13c35bb1a02e773bdf80aa5646aca568e6bf3936f3aee3", func := "lifelodge/lifelodgekeep.RuleMirrors", spec := "ruleMirrors", unfollowed := true, recurses := true, plainKeys := false, apart := false }
def RuleMirrorsSaid : Prop := ruleMirrorsRow.holds Try.pinned (OpenSpec.ofChange ruleMirrorsSpec)

/-- ITS FALSE NEIGHBOUR: 'it returns false'. Refute it at one input. -/
def ruleMirrorsWrong : ChangeSpec := { name := "ruleMirrors", fn := fun _ => fun
  | [d1, d2, d3] => { results := [.lit (.bool false)], args := [d1, d2, d3] }
  | _ => none }
def RuleMirrorsWrongFalsely : Prop := ruleMirrorsRow.holds Try.pinned (OpenSpec.ofChange ruleMirrorsWrong)

/-- 'lifelodgekeep.RuleNear': WHATEVER THE INPUT: true; the input reads as it did. -/
def ruleNearSpec : ChangeSpec := { name := "ruleNear", fn := fun _ => fun
  | [d1, d2] => { results := [.lit (.bool true)], args := [d1, d2] }
  | _ => none }
def ruleNearRow : OpenClaim := { program := "ytoppncaidhlenac", sum := "47714e02de398a932d13c35bb1a02e773bdf80aa5646aca568e6bf3936f3aee3", func := "lifelodge/lifelodgekeep.RuleNear", spec := "ruleNear", unfollowed := true, recurses := true, plainKeys := false, apart := false }
def RuleNearSaid : Prop := ruleNearRow.holds Try.pinned (OpenSpec.ofChange ruleNearSpec)

/-- ITS FALSE NEIGHBOUR: 'it returns false'. Refute it at one input. -/
def ruleNearWrong : ChangeSpec := { name := "ruleNear", fn := fun _ => fun
  | [d1, d2] => { results := [.lit (.bool false)], args := [d1, d2] }
  | _ => none }
def RuleNearWrongFalsely : Prop := ruleNearRow.holds Try.pinned (OpenSpec.ofChange ruleNearWrong)

/-- 'lifelodgekeep.RuleCuts': WHATEVER THE INPUT: true; the input reads as it did. -/
def ruleCutsSpec : ChangeSpec := { name := "ruleCuts", fn := fun _ => fun
  | [d1, d2, d3, d4] => { results := [.lit (.bool true)], args := [d1, d2, d3, d4] }
  | _ => none }
def ruleCutsRow : OpenClaim := { program := "ytoppncaidhlenac", sum := "47714e02de398a932d13c35bb1a02e773bdf80aa5646aca568e6bf3936f3aee3", func := "lifelodge/lifelodgekeep.RuleCuts", spec := "ruleCuts", unfollowed := true, recurses := true, plainKeys := false, apart := false }
def RuleCutsSaid : Prop := ruleCutsRow.holds Try.pinned (OpenSpec.ofChange ruleCutsSpec)

/-- ITS FALSE NEIGHBOUR: 'it returns false'. Refute it at one input. -/
def ruleCutsWrong : ChangeSpec := { name := "ruleCuts", fn := fun _ => fun
  | [d1, d2, d3, d4] => { results := [.lit (.bool false)], args := [d1, d2, d3, d4] }
  | _ => none }
def RuleCutsWrongFalsely : Prop := ruleCutsRow.holds Try.pinned (OpenSpec.ofChange ruleCutsWrong)

/- THE SECOND FORM. 'bulk': how many values and letters a reading holds, each counted each time it is reached (what is shared counts as often as it is met; a slice's spare places count too). A statement '..UptoSaid' is the law's where the arguments, and the package variables that the reading takes, are together of bulk at most 1048576: NARROWER than '..Said'. Prove '..Said' where nothing that the law and all that it calls make is longer than what came in: it says more and counts as full. Else prove '..UptoSaid'. A law counts once. -/
mutual
def uptoBulk {H : Type} : DataW H → Nat
  | .lit (.string bytes) => bytes.length + 1
  | .lit _ => 1
  | .nil => 1
  | .ptr d => uptoBulk d + 1
  | .slice elems spare => uptoBulkAll elems + uptoBulkAll spare + 1
  | .agg parts => uptoBulkAll parts + 1
  | .iface _ d => uptoBulk d + 1
  | .map entries => uptoBulkEntries entries + 1
  | .held _ => 1
def uptoBulkAll {H : Type} : List (DataW H) → Nat
  | [] => 0
  | d :: r => uptoBulk d + uptoBulkAll r
def uptoBulkEntries {H : Type} : List (Lit × DataW H) → Nat
  | [] => 0
  | x :: r => uptoBulkEntry x + uptoBulkEntries r
def uptoBulkEntry {H : Type} : Lit × DataW H → Nat
  | (.string bytes, d) => bytes.length + uptoBulk d + 1
  | (_, d) => uptoBulk d + 1
 end
def uptoSmall : (H : Type) → List (DataW H) → Bool := fun _ ds => decide (uptoBulkAll ds ≤ 1048576)
def OpenSpec.upto (s : _root_.Go.ChangeSpec) : _root_.Go.OpenSpec := { _root_.Go.OpenSpec.ofChange s with cond := some uptoSmall }

/-- 'lifelodgekeep.RuleBack', WHERE WHAT IT READS IS OF BULK AT MOST 1048576: true; the input reads as it did. -/
def ruleBackUptoRow : OpenClaim := { program := "ytoppncaidhlenac", sum := "47714e02de398a932d13c35bb1a02e773bdf80aa5646aca568e6bf3936f3aee3", func := "lifelodge/lifelodgekeep.RuleBack", spec := "ruleBack", inPlace := ["internal/abi.NoEscape", "internal/bytealg.IndexByteString", "internal/bytealg.IndexString"], unfollowed := true, recurses := true, named := ["internal/bytealg.MaxLen"], plainKeys := false, apart := false, narrowed := true }
def RuleBackUptoSaid : Prop := ruleBackUptoRow.holds Try.pinned (OpenSpec.upto ruleBackSpec)

/-- 'lifelodgekeep.RuleOnly', WHERE WHAT IT READS IS OF BULK AT MOST 1048576: true; the input reads as it did. -/
def ruleOnlyUptoRow : OpenClaim := { program := "ytoppncaidhlenac", sum := "47714e02de398a932d13c35bb1a02e773bdf80aa5646aca568e6bf3936f3aee3", func := "lifelodge/lifelodgekeep.RuleOnly", spec := "ruleOnly", inPlace := ["internal/bytealg.IndexByteString", "internal/bytealg.IndexString", "internal/abi.NoEscape"], unfollowed := true, recurses := true, named := ["internal/bytealg.MaxLen"], plainKeys := false, apart := false, narrowed := true }
def RuleOnlyUptoSaid : Prop := ruleOnlyUptoRow.holds Try.pinned (OpenSpec.upto ruleOnlySpec)

/-- 'lifelodgekeep.RuleMoves', WHERE WHAT IT READS IS OF BULK AT MOST 1048576: true; the input reads as it did. -/
def ruleMovesUptoRow : OpenClaim := { program := "ytoppncaidhlenac", sum := "47714e02de398a932d13c35bb1a02e773bdf80aa5646aca568e6bf3936f3aee3", func := "lifelodge/lifelodgekeep.RuleMoves", spec := "ruleMoves", unfollowed := true, recurses := true, plainKeys := false, apart := false, narrowed := true }
def RuleMovesUptoSaid : Prop := ruleMovesUptoRow.holds Try.pinned (OpenSpec.upto ruleMovesSpec)

/-- 'lifelodgekeep.RuleMirrors', WHERE WHAT IT READS IS OF BULK AT MOST 1048576: true; the input reads as it did. -/
def ruleMirrorsUptoRow : OpenClaim := { program := "ytoppncaidhlenac", sum := "47714e02de398a932d13c35bb1a02e773bdf80aa5646aca568e6bf3936f3aee3", func := "lifelodge/lifelodgekeep.RuleMirrors", spec := "ruleMirrors", unfollowed := true, recurses := true, plainKeys := false, apart := false, narrowed := true }
def RuleMirrorsUptoSaid : Prop := ruleMirrorsUptoRow.holds Try.pinned (OpenSpec.upto ruleMirrorsSpec)

/-- 'lifelodgekeep.RuleNear', WHERE WHAT IT READS IS OF BULK AT MOST 1048576: true; the input reads as it did. -/
def ruleNearUptoRow : OpenClaim := { program := "ytoppncaidhlenac", sum := "47714e02de398a932d13c35bb1a02e773bdf80aa5646aca568e6bf3936f3aee3", func := "lifelodge/lifelodgekeep.RuleNear", spec := "ruleNear", unfollowed := true, recurses := true, plainKeys := false, apart := false, narrowed := true }
def RuleNearUptoSaid : Prop := ruleNearUptoRow.holds Try.pinned (OpenSpec.upto ruleNearSpec)

/-- 'lifelodgekeep.RuleCuts', WHERE WHAT IT READS IS OF BULK AT MOST 1048576: true; the input reads as it did. -/
def ruleCutsUptoRow : OpenClaim := { program := "ytoppncaidhlenac", sum := "47714e02de398a932d13c35bb1a02e773bdf80aa5646aca568e6bf3936f3aee3", func := "lifelodge/lifelodgekeep.RuleCuts", spec := "ruleCuts", unfollowed := true, recurses := true, plainKeys := false, apart := false, narrowed := true }
def RuleCutsUptoSaid : Prop := ruleCutsUptoRow.holds Try.pinned (OpenSpec.upto ruleCutsSpec)

end Rows
end Go.Proofs.Ytoppncaidhlenac
