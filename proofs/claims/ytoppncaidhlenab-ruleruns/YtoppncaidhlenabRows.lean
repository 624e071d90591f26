/-
  No cell of these rows narrows 'for every input' (looked for: loops, veiled, ifaces, maps, wideKeys, modest, calm, conditions, laid).
  DERIVED. THE GIVEN ROWS OF THIS SEAT. 6 by the template 'for every input the law returns true; each argument reads behind the call as it read before'; 0 by the template 'total and deterministic' (their statements: YtoppncaidhlenabTotals.lean).
  GIVEN WITH THE SEED: the statements are not yours to turn. If you find one false, say at which input.
  Laid BY PROGRAM, IN A SANDBOX (cutbox-rows.mjs): the forced cells as the released guide's own fill.sh prints them over the translation 22e5f076cb43a0f1… (all of the seat's roots in one cut). By AI agents, Wed Nov 11 2026. No macro, syntax, notation, axiom, sorry.
-/
import Derived.Test.YtoppncaidhlenabChecked
import GoSem.Claim
import GoSem.ClaimJoined
import GoSem.ClaimMapViews
import Derived.JoinedTies
import Derived.KernelRfl
namespace Go.Proofs.Ytoppncaidhlenab
/- THE CELL 'sum', in the pinned program and in every row, IS THE sha256 OF THE DUMP (.gsa) THAT YtoppncaidhlenabProg.lean LOADS. Nothing in Lean hashes anything: it is a label: what it is worth is what the hold of that sum in a sandbox is worth. -/
noncomputable def Try.pinned : Pinned := { name := "ytoppncaidhlenab", sum := "22e5f076cb43a0f1f7450590983963efca0e3cdb96d61ec8d317a4edd8cc0b8f", checked := Try.checked }
namespace Rows
def none {H : Type} : Left H := { results := [], args := [] }

/-- 'lifelodgekeep.PlaneBack': WHATEVER THE INPUT: true; the input reads as it did. -/
def planeBackSpec : ChangeSpec := { name := "planeBack", fn := fun _ => fun
  | [d1, d2, d3] => { results := [.lit (.bool true)], args := [d1, d2, d3] }
  | _ => none }
def planeBackRow : OpenClaim := { program := "ytoppncaidhlenab", sum := "22e5f076cb43a0f1f7450590983963efca0e3cdb96d61ec8d317a4edd8cc0b8f", func := "lifelodge/lifelodgekeep.PlaneBack", spec := "planeBack", unfollowed := true, recurses := true, plainKeys := false, apart := false }
def PlaneBackSaid : Prop := planeBackRow.holds Try.pinned (OpenSpec.ofChange planeBackSpec)

/-- ITS FALSE NEIGHBOUR: 'it returns false'. Refute it at one input. -/
def planeBackWrong : ChangeSpec := { name := "planeBack", fn := fun _ => fun
  | [d1, d2, d3] => { results := [.lit (.bool false)], args := [d1, d2, d3] }
  | _ => none }
def PlaneBackWrongFalsely : Prop := planeBackRow.holds Try.pinned (OpenSpec.ofChange planeBackWrong)

/-- 'lifelodgelaw.RuleTexts': WHATEVER THE INPUT: true; the input reads as it did. -/
def ruleTextsSpec : ChangeSpec := { name := "ruleTexts", fn := fun _ => fun
  | [d] => { results := [.lit (.bool true)], args := [d] }
  | _ => none }
def ruleTextsRow : OpenClaim := { program := "ytoppncaidhlenab", sum := "22e5f076cb43a0f1f7450590983963efca0e3cdb96d61ec8d317a4edd8cc0b8f", func := "lifelodge/lifelodgelaw.RuleTexts", spec := "ruleTexts", inPlace := ["internal/abi.NoEscape"], plainKeys := false, apart := false }
def RuleTextsSaid : Prop := ruleTextsRow.holds Try.pinned (OpenSpec.ofChange ruleTextsSpec)

/-- ITS FALSE NEIGHBOUR: 'it returns false'. Refute it at one input. -/
def ruleTextsWrong : ChangeSpec := { name := "ruleTexts", fn := fun _ => fun
  | [d] => { results := [.lit (.bool false)], args := [d] }
  | _ => none }
def RuleTextsWrongFalsely : Prop := ruleTextsRow.holds Try.pinned (OpenSpec.ofChange ruleTextsWrong)

/-- 'lifelodgelaw.RuleReads': WHATEVER THE INPUT: true; the input reads as it did. -/
def ruleReadsSpec : ChangeSpec := { name := "ruleReads", fn := fun _ => fun
  | [d] => { results := [.lit (.bool true)], args := [d] }
  | _ => none }
def ruleReadsRow : OpenClaim := { program := "ytoppncaidhlenab", sum := "22e5f076cb43a0f1f7450590983963efca0e3cdb96d61ec8d317a4edd8cc0b8f", func := "lifelodge/lifelodgelaw.RuleReads", spec := "ruleReads", inPlace := ["internal/bytealg.IndexByteString", "internal/bytealg.IndexString"], named := ["internal/bytealg.MaxLen"], plainKeys := false, apart := false }
def RuleReadsSaid : Prop := ruleReadsRow.holds Try.pinned (OpenSpec.ofChange ruleReadsSpec)

/-- ITS FALSE NEIGHBOUR: 'it returns false'. Refute it at one input. -/
def ruleReadsWrong : ChangeSpec := { name := "ruleReads", fn := fun _ => fun
  | [d] => { results := [.lit (.bool false)], args := [d] }
  | _ => none }
def RuleReadsWrongFalsely : Prop := ruleReadsRow.holds Try.pinned (OpenSpec.ofChange ruleReadsWrong)

/-- 'lifelodgelaw.RuleLives': WHATEVER THE INPUT: true; the input reads as it did. -/
def ruleLivesSpec : ChangeSpec := { name := "ruleLives", fn := fun _ => fun
  | [d1, d2, d3] => { results := [.lit (.bool true)], args := [d1, d2, d3] }
  | _ => none }
def ruleLivesRow : OpenClaim := { program := "ytoppncaidhlenab", sum := "22e5f076cb43a0f1f7450590983963efca0e3cdb96d61ec8d317a4edd8cc0b8f", func := "lifelodge/lifelodgelaw.RuleLives", spec := "ruleLives", plainKeys := false, apart := false }
def RuleLivesSaid : Prop := ruleLivesRow.holds Try.pinned (OpenSpec.ofChange ruleLivesSpec)

/-- ITS FALSE NEIGHBOUR: 'it returns false'. Refute it at one input. -/
def ruleLivesWrong : ChangeSpec := { name := "ruleLives", fn := fun _ => fun
  | [d1, d2, d3] => { results := [.lit (.bool false)], args := [d1, d2, d3] }
  | _ => none }
def RuleLivesWrongFalsely : Prop := ruleLivesRow.holds Try.pinned (OpenSpec.ofChange ruleLivesWrong)

/-- 'lifelodgelaw.RuleNexts': WHATEVER THE INPUT: true; the input reads as it did. -/
def ruleNextsSpec : ChangeSpec := { name := "ruleNexts", fn := fun _ => fun
  | [d1, d2] => { results := [.lit (.bool true)], args := [d1, d2] }
  | _ => none }
def ruleNextsRow : OpenClaim := { program := "ytoppncaidhlenab", sum := "22e5f076cb43a0f1f7450590983963efca0e3cdb96d61ec8d317a4edd8cc0b8f", func := "lifelodge/lifelodgelaw.RuleNexts", spec := "ruleNexts", unfollowed := true, recurses := true, plainKeys := false, apart := false }
def RuleNextsSaid : Prop := ruleNextsRow.holds Try.pinned (OpenSpec.ofChange ruleNextsSpec)

/-- ITS FALSE NEIGHBOUR: 'it returns false'. Refute it at one input. -/
def ruleNextsWrong : ChangeSpec := { name := "ruleNexts", fn := fun _ => fun
  | [d1, d2] => { results := [.lit (.bool false)], args := [d1, d2] }
  | _ => none }
def RuleNextsWrongFalsely : Prop := ruleNextsRow.holds Try.pinned (OpenSpec.ofChange ruleNextsWrong)

/-- 'lifelodgelaw.RuleRuns': WHATEVER THE INPUT: true; the input reads as it did. -/
def ruleRunsSpec : ChangeSpec := { name := "ruleRuns", fn := fun _ => fun
  | [d1, d2, d3] => { results := [.lit (.bool true)], args := [d1, d2, d3] }
  | _ => none }
def ruleRunsRow : OpenClaim := { program := "ytoppncaidhlenab", sum := "22e5f076cb43a0f1f7450590983963efca0e3cdb96d61ec8d317a4edd8cc0b8f", func := "lifelodge/lifelodgelaw.RuleRuns", spec := "ruleRuns", unfollowed := true, recurses := true, plainKeys := false, apart := false }
def RuleRunsSaid : Prop := ruleRunsRow.holds Try.pinned (OpenSpec.ofChange ruleRunsSpec)

/-- ITS FALSE NEIGHBOUR: 'it returns false'. Refute it at one input. -/
def ruleRunsWrong : ChangeSpec := { name := "ruleRuns", fn := fun _ => fun
  | [d1, d2, d3] => { results := [.lit (.bool false)], args := [d1, d2, d3] }
  | _ => none }
def RuleRunsWrongFalsely : Prop := ruleRunsRow.holds Try.pinned (OpenSpec.ofChange ruleRunsWrong)

/- THE SECOND FORM. 'bulk': how many values and letters a reading holds, each counted each time it is reached (what is shared counts as often as it is met; a slice's spare places count too). A statement '..UptoSaid' is the law's where the arguments, and the package variables that the reading takes, are together of bulk at most 1048576: NARROWER than '..Said'. Prove '..Said' where nothing that the law and all that it calls make is longer than what came in: it says more and counts as full. Else prove '..UptoSaid'. A law counts once. -/
mutual
def uptoBulk {H : Type} : DataW H → Nat
  | .lit (.string bytes) => bytes.length + 1
  | .lit _ => 1
  | .nil => 1
  | .ptr d => uptoBulk d + 1
  | .slice elems spare => uptoBulkAll elems + uptoBulkAll spare + 1
  | .agg parts => uptoBulkAll parts + 1
  | .iface _ d => uptoBulk d + 1
  | .map entries => uptoBulkEntries entries + 1
  | .held _ => 1
def uptoBulkAll {H : Type} : List (DataW H) → Nat
  | [] => 0
  | d :: r => uptoBulk d + uptoBulkAll r
def uptoBulkEntries {H : Type} : List (Lit × DataW H) → Nat
  | [] => 0
  | x :: r => uptoBulkEntry x + uptoBulkEntries r
def uptoBulkEntry {H : Type} : Lit × DataW H → Nat
  | (.string bytes, d) => bytes.length + uptoBulk d + 1
  | (_, d) => uptoBulk d + 1
 end
def uptoSmall : (H : Type) → List (DataW H) → Bool := fun _ ds => decide (uptoBulkAll ds ≤ 1048576)
def OpenSpec.upto (s : _root_.Go.ChangeSpec) : _root_.Go.OpenSpec := { _root_.Go.OpenSpec.ofChange s with cond := some uptoSmall }

/-- 'lifelodgekeep.PlaneBack', WHERE WHAT IT READS IS OF BULK AT MOST 1048576: true; the input reads as it did. -/
def planeBackUptoRow : OpenClaim := { program := "ytoppncaidhlenab", sum := "22e5f076cb43a0f1f7450590983963efca0e3cdb96d61ec8d317a4edd8cc0b8f", func := "lifelodge/lifelodgekeep.PlaneBack", spec := "planeBack", unfollowed := true, recurses := true, plainKeys := false, apart := false, narrowed := true }
def PlaneBackUptoSaid : Prop := planeBackUptoRow.holds Try.pinned (OpenSpec.upto planeBackSpec)

/-- 'lifelodgelaw.RuleTexts', WHERE WHAT IT READS IS OF BULK AT MOST 1048576: true; the input reads as it did. -/
def ruleTextsUptoRow : OpenClaim := { program := "ytoppncaidhlenab", sum := "22e5f076cb43a0f1f7450590983963efca0e3cdb96d61ec8d317a4edd8cc0b8f", func := "lifelodge/lifelodgelaw.RuleTexts", spec := "ruleTexts", inPlace := ["internal/abi.NoEscape"], plainKeys := false, apart := false, narrowed := true }
def RuleTextsUptoSaid : Prop := ruleTextsUptoRow.holds Try.pinned (OpenSpec.upto ruleTextsSpec)

/-- 'lifelodgelaw.RuleReads', WHERE WHAT IT READS IS OF BULK AT MOST 1048576: true; the input reads as it did. -/
def ruleReadsUptoRow : OpenClaim := { program := "ytoppncaidhlenab", sum := "22e5f076cb43a0f1f7450590983963efca0e3cdb96d61ec8d317a4edd8cc0b8f", func := "lifelodge/lifelodgelaw.RuleReads", spec := "ruleReads", inPlace := ["internal/bytealg.IndexByteString", "internal/bytealg.IndexString"], named := ["internal/bytealg.MaxLen"], plainKeys := false, apart := false, narrowed := true }
def RuleReadsUptoSaid : Prop := ruleReadsUptoRow.holds Try.pinned (OpenSpec.upto ruleReadsSpec)

/-- 'lifelodgelaw.RuleLives', WHERE WHAT IT READS IS OF BULK AT MOST 1048576: true; the input reads as it did. -/
def ruleLivesUptoRow : OpenClaim := { program := "ytoppncaidhlenab", sum := "22e5f076cb43a0f1f7450590983963efca0e3cdb96d61ec8d317a4edd8cc0b8f", func := "lifelodge/lifelodgelaw.RuleLives", spec := "ruleLives", plainKeys := false, apart := false, narrowed := true }
def RuleLivesUptoSaid : Prop := ruleLivesUptoRow.holds Try.pinned (OpenSpec.upto ruleLivesSpec)

/-- 'lifelodgelaw.RuleNexts', WHERE WHAT IT READS IS OF BULK AT MOST 1048576: true; the input reads as it did. -/
def ruleNextsUptoRow : OpenClaim := { program := "ytoppncaidhlenab", sum := "22e5f076cb43a0f1f7450590983963efca0e3cdb96d61ec8d317a4edd8cc0b8f", func := "lifelodge/lifelodgelaw.RuleNexts", spec := "ruleNexts", unfollowed := true, recurses := true, plainKeys := false, apart := false, narrowed := true }
def RuleNextsUptoSaid : Prop := ruleNextsUptoRow.holds Try.pinned (OpenSpec.upto ruleNextsSpec)

/-- 'lifelodgelaw.RuleRuns', WHERE WHAT IT READS IS OF BULK AT MOST 1048576: true; the input reads as it did. -/
def ruleRunsUptoRow : OpenClaim := { program := "ytoppncaidhlenab", sum := "22e5f076cb43a0f1f7450590983963efca0e3cdb96d61ec8d317a4edd8cc0b8f", func := "lifelodge/lifelodgelaw.RuleRuns", spec := "ruleRuns", unfollowed := true, recurses := true, plainKeys := false, apart := false, narrowed := true }
def RuleRunsUptoSaid : Prop := ruleRunsUptoRow.holds Try.pinned (OpenSpec.upto ruleRunsSpec)

end Rows
end Go.Proofs.Ytoppncaidhlenab
