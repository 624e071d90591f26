/-
  No cell of these rows narrows 'for every input' (looked for: loops, veiled, ifaces, maps, wideKeys, modest, calm, conditions, laid).
  DERIVED. THE GIVEN ROWS OF THIS SEAT. 15 by the template 'for every input the law returns true; each argument reads behind the call as it read before'; 0 by the template 'total and deterministic' (their statements: YthobobgiendcfaaTotals.lean).
  GIVEN WITH THE SEED: the statements are not yours to turn. If you find one false, say at which input.
  Laid BY PROGRAM, IN A SANDBOX (cutbox-rows.mjs): the forced cells as the released guide's own fill.sh prints them over the translation a8df3f0739cd86df… (all of the seat's roots in one cut). By AI agents, Wed Nov 11 2026. No macro, syntax, notation, axiom, sorry.
-/
import Derived.Test.YthobobgiendcfaaChecked
import GoSem.Claim
import GoSem.ClaimJoined
import GoSem.ClaimMapViews
import Derived.JoinedTies
import Derived.KernelRfl
namespace Go.Proofs.Ythobobgiendcfaa
/- THE CELL 'sum', in the pinned program and in every row, IS THE sha256 OF THE DUMP (.gsa) THAT YthobobgiendcfaaProg.lean LOADS. Nothing in Lean hashes anything: it is a label: what it is worth is what the hold of that sum in a sandbox is worth. -/
noncomputable def Try.pinned : Pinned := { name := "ythobobgiendcfaa", sum := "a8df3f0739cd86dfe13069e2d922c8b45a268230a1d8880aca5a918e00291a6b", checked := Try.checked }
namespace Rows
def none {H : Type} : Left H := { results := [], args := [] }

/-- 'lifelodgelaw.ArenaPlays': WHATEVER THE INPUT: true; the input reads as it did. -/
def arenaPlaysSpec : ChangeSpec := { name := "arenaPlays", fn := fun _ => fun
  | [d1, d2] => { results := [.lit (.bool true)], args := [d1, d2] }
  | _ => none }
def arenaPlaysRow : OpenClaim := { program := "ythobobgiendcfaa", sum := "a8df3f0739cd86dfe13069e2d922c8b45a268230a1d8880aca5a918e00291a6b", func := "lifelodge/lifelodgelaw.ArenaPlays", spec := "arenaPlays", unfollowed := true, recurses := true, plainKeys := false, apart := false }
def ArenaPlaysSaid : Prop := arenaPlaysRow.holds Try.pinned (OpenSpec.ofChange arenaPlaysSpec)

/-- ITS FALSE NEIGHBOUR: 'it returns false'. Refute it at one input. -/
def arenaPlaysWrong : ChangeSpec := { name := "arenaPlays", fn := fun _ => fun
  | [d1, d2] => { results := [.lit (.bool false)], args := [d1, d2] }
  | _ => none }
def ArenaPlaysWrongFalsely : Prop := arenaPlaysRow.holds Try.pinned (OpenSpec.ofChange arenaPlaysWrong)

/-- 'lifelodgelaw.ArenaNil': WHATEVER THE INPUT: true; the input reads as it did. -/
def arenaNilSpec : ChangeSpec := { name := "arenaNil", fn := fun _ => fun
  | [d1, d2] => { results := [.lit (.bool true)], args := [d1, d2] }
  | _ => none }
def arenaNilRow : OpenClaim := { program := "ythobobgiendcfaa", sum := "a8df3f0739cd86dfe13069e2d922c8b45a268230a1d8880aca5a918e00291a6b", func := "lifelodge/lifelodgelaw.ArenaNil", spec := "arenaNil", unfollowed := true, recurses := true, plainKeys := false, apart := false }
def ArenaNilSaid : Prop := arenaNilRow.holds Try.pinned (OpenSpec.ofChange arenaNilSpec)

/-- ITS FALSE NEIGHBOUR: 'it returns false'. Refute it at one input. -/
def arenaNilWrong : ChangeSpec := { name := "arenaNil", fn := fun _ => fun
  | [d1, d2] => { results := [.lit (.bool false)], args := [d1, d2] }
  | _ => none }
def ArenaNilWrongFalsely : Prop := arenaNilRow.holds Try.pinned (OpenSpec.ofChange arenaNilWrong)

/-- 'lifelodgekeep.ArenaAlone': WHATEVER THE INPUT: true; the input reads as it did. -/
def arenaAloneSpec : ChangeSpec := { name := "arenaAlone", fn := fun _ => fun
  | [d1, d2] => { results := [.lit (.bool true)], args := [d1, d2] }
  | _ => none }
def arenaAloneRow : OpenClaim := { program := "ythobobgiendcfaa", sum := "a8df3f0739cd86dfe13069e2d922c8b45a268230a1d8880aca5a918e00291a6b", func := "lifelodge/lifelodgekeep.ArenaAlone", spec := "arenaAlone", unfollowed := true, recurses := true, plainKeys := false, apart := false }
def ArenaAloneSaid : Prop := arenaAloneRow.holds Try.pinned (OpenSpec.ofChange arenaAloneSpec)

/-- ITS FALSE NEIGHBOUR: 'it returns false'. Refute it at one input. -/
def arenaAloneWrong : ChangeSpec := { name := "arenaAlone", fn := fun _ => fun
  | [d1, d2] => { results := [.lit (.bool false)], args := [d1, d2] }
  | _ => none }
def ArenaAloneWrongFalsely : Prop := arenaAloneRow.holds Try.pinned (OpenSpec.ofChange arenaAloneWrong)

/-- 'lifelodgekeep.ArenaRoom': WHATEVER THE INPUT: true; the input reads as it did. -/
def arenaRoomSpec : ChangeSpec := { name := "arenaRoom", fn := fun _ => fun
  | [d1, d2] => { results := [.lit (.bool true)], args := [d1, d2] }
  | _ => none }
def arenaRoomRow : OpenClaim := { program := "ythobobgiendcfaa", sum := "a8df3f0739cd86dfe13069e2d922c8b45a268230a1d8880aca5a918e00291a6b", func := "lifelodge/lifelodgekeep.ArenaRoom", spec := "arenaRoom", unfollowed := true, recurses := true, plainKeys := false, apart := false }
def ArenaRoomSaid : Prop := arenaRoomRow.holds Try.pinned (OpenSpec.ofChange arenaRoomSpec)

/-- ITS FALSE NEIGHBOUR: 'it returns false'. Refute it at one input. -/
def arenaRoomWrong : ChangeSpec := { name := "arenaRoom", fn := fun _ => fun
  | [d1, d2] => { results := [.lit (.bool false)], args := [d1, d2] }
  | _ => none }
def ArenaRoomWrongFalsely : Prop := arenaRoomRow.holds Try.pinned (OpenSpec.ofChange arenaRoomWrong)

/-- 'lifelodgelaw.QuadFroms': WHATEVER THE INPUT: true; the input reads as it did. -/
def quadFromsSpec : ChangeSpec := { name := "quadFroms", fn := fun _ => fun
  | [d] => { results := [.lit (.bool true)], args := [d] }
  | _ => none }
def quadFromsRow : OpenClaim := { program := "ythobobgiendcfaa", sum := "a8df3f0739cd86dfe13069e2d922c8b45a268230a1d8880aca5a918e00291a6b", func := "lifelodge/lifelodgelaw.QuadFroms", spec := "quadFroms", unfollowed := true, recurses := true, plainKeys := false, apart := false }
def QuadFromsSaid : Prop := quadFromsRow.holds Try.pinned (OpenSpec.ofChange quadFromsSpec)

/-- ITS FALSE NEIGHBOUR: 'it returns false'. Refute it at one input. -/
def quadFromsWrong : ChangeSpec := { name := "quadFroms", fn := fun _ => fun
  | [d] => { results := [.lit (.bool false)], args := [d] }
  | _ => none }
def QuadFromsWrongFalsely : Prop := quadFromsRow.holds Try.pinned (OpenSpec.ofChange quadFromsWrong)

/-- 'lifelodgelaw.QuadReads': WHATEVER THE INPUT: true; the input reads as it did. -/
def quadReadsSpec : ChangeSpec := { name := "quadReads", fn := fun _ => fun
  | [d] => { results := [.lit (.bool true)], args := [d] }
  | _ => none }
def quadReadsRow : OpenClaim := { program := "ythobobgiendcfaa", sum := "a8df3f0739cd86dfe13069e2d922c8b45a268230a1d8880aca5a918e00291a6b", func := "lifelodge/lifelodgelaw.QuadReads", spec := "quadReads", unfollowed := true, recurses := true, plainKeys := false, apart := false }
def QuadReadsSaid : Prop := quadReadsRow.holds Try.pinned (OpenSpec.ofChange quadReadsSpec)

/-- ITS FALSE NEIGHBOUR: 'it returns false'. Refute it at one input. -/
def quadReadsWrong : ChangeSpec := { name := "quadReads", fn := fun _ => fun
  | [d] => { results := [.lit (.bool false)], args := [d] }
  | _ => none }
def QuadReadsWrongFalsely : Prop := quadReadsRow.holds Try.pinned (OpenSpec.ofChange quadReadsWrong)

/-- 'lifelodgelaw.QuadWraps': WHATEVER THE INPUT: true; the input reads as it did. -/
def quadWrapsSpec : ChangeSpec := { name := "quadWraps", fn := fun _ => fun
  | [d] => { results := [.lit (.bool true)], args := [d] }
  | _ => none }
def quadWrapsRow : OpenClaim := { program := "ythobobgiendcfaa", sum := "a8df3f0739cd86dfe13069e2d922c8b45a268230a1d8880aca5a918e00291a6b", func := "lifelodge/lifelodgelaw.QuadWraps", spec := "quadWraps", unfollowed := true, recurses := true, plainKeys := false, apart := false }
def QuadWrapsSaid : Prop := quadWrapsRow.holds Try.pinned (OpenSpec.ofChange quadWrapsSpec)

/-- ITS FALSE NEIGHBOUR: 'it returns false'. Refute it at one input. -/
def quadWrapsWrong : ChangeSpec := { name := "quadWraps", fn := fun _ => fun
  | [d] => { results := [.lit (.bool false)], args := [d] }
  | _ => none }
def QuadWrapsWrongFalsely : Prop := quadWrapsRow.holds Try.pinned (OpenSpec.ofChange quadWrapsWrong)

/-- 'lifelodgelaw.QuadPuts': WHATEVER THE INPUT: true; the input reads as it did. -/
def quadPutsSpec : ChangeSpec := { name := "quadPuts", fn := fun _ => fun
  | [d1, d2, d3] => { results := [.lit (.bool true)], args := [d1, d2, d3] }
  | _ => none }
def quadPutsRow : OpenClaim := { program := "ythobobgiendcfaa", sum := "a8df3f0739cd86dfe13069e2d922c8b45a268230a1d8880aca5a918e00291a6b", func := "lifelodge/lifelodgelaw.QuadPuts", spec := "quadPuts", unfollowed := true, recurses := true, plainKeys := false, apart := false }
def QuadPutsSaid : Prop := quadPutsRow.holds Try.pinned (OpenSpec.ofChange quadPutsSpec)

/-- ITS FALSE NEIGHBOUR: 'it returns false'. Refute it at one input. -/
def quadPutsWrong : ChangeSpec := { name := "quadPuts", fn := fun _ => fun
  | [d1, d2, d3] => { results := [.lit (.bool false)], args := [d1, d2, d3] }
  | _ => none }
def QuadPutsWrongFalsely : Prop := quadPutsRow.holds Try.pinned (OpenSpec.ofChange quadPutsWrong)

/-- 'lifelodgelaw.QuadEmpties': WHATEVER THE INPUT: true; the input reads as it did. -/
def quadEmptiesSpec : ChangeSpec := { name := "quadEmpties", fn := fun _ => fun
  | [d] => { results := [.lit (.bool true)], args := [d] }
  | _ => none }
def quadEmptiesRow : OpenClaim := { program := "ythobobgiendcfaa", sum := "a8df3f0739cd86dfe13069e2d922c8b45a268230a1d8880aca5a918e00291a6b", func := "lifelodge/lifelodgelaw.QuadEmpties", spec := "quadEmpties", unfollowed := true, recurses := true, plainKeys := false, apart := false }
def QuadEmptiesSaid : Prop := quadEmptiesRow.holds Try.pinned (OpenSpec.ofChange quadEmptiesSpec)

/-- ITS FALSE NEIGHBOUR: 'it returns false'. Refute it at one input. -/
def quadEmptiesWrong : ChangeSpec := { name := "quadEmpties", fn := fun _ => fun
  | [d] => { results := [.lit (.bool false)], args := [d] }
  | _ => none }
def QuadEmptiesWrongFalsely : Prop := quadEmptiesRow.holds Try.pinned (OpenSpec.ofChange quadEmptiesWrong)

/-- 'lifelodgelaw.QuadStrange': WHATEVER THE INPUT: true; the input reads as it did. -/
def quadStrangeSpec : ChangeSpec := { name := "quadStrange", fn := fun _ => fun
  | [d1, d2] => { results := [.lit (.bool true)], args := [d1, d2] }
  | _ => none }
def quadStrangeRow : OpenClaim := { program := "ythobobgiendcfaa", sum := "a8df3f0739cd86dfe13069e2d922c8b45a268230a1d8880aca5a918e00291a6b", func := "lifelodge/lifelodgelaw.QuadStrange", spec := "quadStrange", unfollowed := true, recurses := true, plainKeys := false, apart := false }
def QuadStrangeSaid : Prop := quadStrangeRow.holds Try.pinned (OpenSpec.ofChange quadStrangeSpec)

/-- ITS FALSE NEIGHBOUR: 'it returns false'. Refute it at one input. -/
def quadStrangeWrong : ChangeSpec := { name := "quadStrange", fn := fun _ => fun
  | [d1, d2] => { results := [.lit (.bool false)], args := [d1, d2] }
  | _ => none }
def QuadStrangeWrongFalsely : Prop := quadStrangeRow.holds Try.pinned (OpenSpec.ofChange quadStrangeWrong)

/-- 'lifelodgekeep.QuadOne': WHATEVER THE INPUT: true; the input reads as it did. -/
def quadOneSpec : ChangeSpec := { name := "quadOne", fn := fun _ => fun
  | [d1, d2] => { results := [.lit (.bool true)], args := [d1, d2] }
  | _ => none }
def quadOneRow : OpenClaim := { program := "ythobobgiendcfaa", sum := "a8df3f0739cd86dfe13069e2d922c8b45a268230a1d8880aca5a918e00291a6b", func := "lifelodge/lifelodgekeep.QuadOne", spec := "quadOne", unfollowed := true, recurses := true, plainKeys := false, apart := false }
def QuadOneSaid : Prop := quadOneRow.holds Try.pinned (OpenSpec.ofChange quadOneSpec)

/-- ITS FALSE NEIGHBOUR: 'it returns false'. Refute it at one input. -/
def quadOneWrong : ChangeSpec := { name := "quadOne", fn := fun _ => fun
  | [d1, d2] => { results := [.lit (.bool false)], args := [d1, d2] }
  | _ => none }
def QuadOneWrongFalsely : Prop := quadOneRow.holds Try.pinned (OpenSpec.ofChange quadOneWrong)

/-- 'lifelodgekeep.QuadShared': WHATEVER THE INPUT: true; the input reads as it did. -/
def quadSharedSpec : ChangeSpec := { name := "quadShared", fn := fun _ => fun
  | [d1, d2, d3] => { results := [.lit (.bool true)], args := [d1, d2, d3] }
  | _ => none }
def quadSharedRow : OpenClaim := { program := "ythobobgiendcfaa", sum := "a8df3f0739cd86dfe13069e2d922c8b45a268230a1d8880aca5a918e00291a6b", func := "lifelodge/lifelodgekeep.QuadShared", spec := "quadShared", unfollowed := true, recurses := true, plainKeys := false, apart := false }
def QuadSharedSaid : Prop := quadSharedRow.holds Try.pinned (OpenSpec.ofChange quadSharedSpec)

/-- ITS FALSE NEIGHBOUR: 'it returns false'. Refute it at one input. -/
def quadSharedWrong : ChangeSpec := { name := "quadShared", fn := fun _ => fun
  | [d1, d2, d3] => { results := [.lit (.bool false)], args := [d1, d2, d3] }
  | _ => none }
def QuadSharedWrongFalsely : Prop := quadSharedRow.holds Try.pinned (OpenSpec.ofChange quadSharedWrong)

/-- 'lifelodgekeep.QuadEras': WHATEVER THE INPUT: true; the input reads as it did. -/
def quadErasSpec : ChangeSpec := { name := "quadEras", fn := fun _ => fun
  | [d1, d2] => { results := [.lit (.bool true)], args := [d1, d2] }
  | _ => none }
def quadErasRow : OpenClaim := { program := "ythobobgiendcfaa", sum := "a8df3f0739cd86dfe13069e2d922c8b45a268230a1d8880aca5a918e00291a6b", func := "lifelodge/lifelodgekeep.QuadEras", spec := "quadEras", unfollowed := true, recurses := true, plainKeys := false, apart := false }
def QuadErasSaid : Prop := quadErasRow.holds Try.pinned (OpenSpec.ofChange quadErasSpec)

/-- ITS FALSE NEIGHBOUR: 'it returns false'. Refute it at one input. -/
def quadErasWrong : ChangeSpec := { name := "quadEras", fn := fun _ => fun
  | [d1, d2] => { results := [.lit (.bool false)], args := [d1, d2] }
  | _ => none }
def QuadErasWrongFalsely : Prop := quadErasRow.holds Try.pinned (OpenSpec.ofChange quadErasWrong)

/-- 'lifelodgekeep.ArenaKeeps': WHATEVER THE INPUT: true; the input reads as it did. -/
def arenaKeepsSpec : ChangeSpec := { name := "arenaKeeps", fn := fun _ => fun
  | [d1, d2] => { results := [.lit (.bool true)], args := [d1, d2] }
  | _ => none }
def arenaKeepsRow : OpenClaim := { program := "ythobobgiendcfaa", sum := "a8df3f0739cd86dfe13069e2d922c8b45a268230a1d8880aca5a918e00291a6b", func := "lifelodge/lifelodgekeep.ArenaKeeps", spec := "arenaKeeps", unfollowed := true, recurses := true, plainKeys := false, apart := false }
def ArenaKeepsSaid : Prop := arenaKeepsRow.holds Try.pinned (OpenSpec.ofChange arenaKeepsSpec)

/-- ITS FALSE NEIGHBOUR: 'it returns false'. Refute it at one input. -/
def arenaKeepsWrong : ChangeSpec := { name := "arenaKeeps", fn := fun _ => fun
  | [d1, d2] => { results := [.lit (.bool false)], args := [d1, d2] }
  | _ => none }
def ArenaKeepsWrongFalsely : Prop := arenaKeepsRow.holds Try.pinned (OpenSpec.ofChange arenaKeepsWrong)

/-- 'lifelodgekeep.ArenaUndoes': WHATEVER THE INPUT: true; the input reads as it did. -/
def arenaUndoesSpec : ChangeSpec := { name := "arenaUndoes", fn := fun _ => fun
  | [d1, d2] => { results := [.lit (.bool true)], args := [d1, d2] }
  | _ => none }
def arenaUndoesRow : OpenClaim := { program := "ythobobgiendcfaa", sum := "a8df3f0739cd86dfe13069e2d922c8b45a268230a1d8880aca5a918e00291a6b", func := "lifelodge/lifelodgekeep.ArenaUndoes", spec := "arenaUndoes", unfollowed := true, recurses := true, plainKeys := false, apart := false }
def ArenaUndoesSaid : Prop := arenaUndoesRow.holds Try.pinned (OpenSpec.ofChange arenaUndoesSpec)

/-- ITS FALSE NEIGHBOUR: 'it returns false'. Refute it at one input. -/
def arenaUndoesWrong : ChangeSpec := { name := "arenaUndoes", fn := fun _ => fun
  | [d1, d2] => { results := [.lit (.bool false)], args := [d1, d2] }
  | _ => none }
def ArenaUndoesWrongFalsely : Prop := arenaUndoesRow.holds Try.pinned (OpenSpec.ofChange arenaUndoesWrong)

/- THE SECOND FORM. 'bulk': how many values and letters a reading holds, each counted each time it is reached (what is shared counts as often as it is met; a slice's spare places count too). A statement '..UptoSaid' is the law's where the arguments, and the package variables that the reading takes, are together of bulk at most 1048576: NARROWER than '..Said'. Prove '..Said' where nothing that the law and all that it calls make is longer than what came in: it says more and counts as full. Else prove '..UptoSaid'. A law counts once. -/
mutual
def uptoBulk {H : Type} : DataW H → Nat
  | .lit (.string bytes) => bytes.length + 1
  | .lit _ => 1
  | .nil => 1
  | .ptr d => uptoBulk d + 1
  | .slice elems spare => uptoBulkAll elems + uptoBulkAll spare + 1
  | .agg parts => uptoBulkAll parts + 1
  | .iface _ d => uptoBulk d + 1
  | .map entries => uptoBulkEntries entries + 1
  | .held _ => 1
def uptoBulkAll {H : Type} : List (DataW H) → Nat
  | [] => 0
  | d :: r => uptoBulk d + uptoBulkAll r
def uptoBulkEntries {H : Type} : List (Lit × DataW H) → Nat
  | [] => 0
  | x :: r => uptoBulkEntry x + uptoBulkEntries r
def uptoBulkEntry {H : Type} : Lit × DataW H → Nat
  | (.string bytes, d) => bytes.length + uptoBulk d + 1
  | (_, d) => uptoBulk d + 1
 end
def uptoSmall : (H : Type) → List (DataW H) → Bool := fun _ ds => decide (uptoBulkAll ds ≤ 1048576)
def OpenSpec.upto (s : _root_.Go.ChangeSpec) : _root_.Go.OpenSpec := { _root_.Go.OpenSpec.ofChange s with cond := some uptoSmall }

/-- 'lifelodgelaw.ArenaPlays', WHERE WHAT IT READS IS OF BULK AT MOST 1048576: true; the input reads as it did. -/
def arenaPlaysUptoRow : OpenClaim := { program := "ythobobgiendcfaa", sum := "a8df3f0739cd86dfe13069e2d922c8b45a268230a1d8880aca5a918e00291a6b", func := "lifelodge/lifelodgelaw.ArenaPlays", spec := "arenaPlays", unfollowed := true, recurses := true, plainKeys := false, apart := false, narrowed := true }
def ArenaPlaysUptoSaid : Prop := arenaPlaysUptoRow.holds Try.pinned (OpenSpec.upto arenaPlaysSpec)

/-- 'lifelodgelaw.ArenaNil', WHERE WHAT IT READS IS OF BULK AT MOST 1048576: true; the input reads as it did. -/
def arenaNilUptoRow : OpenClaim := { program := "ythobobgiendcfaa", sum := "a8df3f0739cd86dfe13069e2d922c8b45a268230a1d8880aca5a918e00291a6b", func := "lifelodge/lifelodgelaw.ArenaNil", spec := "arenaNil", unfollowed := true, recurses := true, plainKeys := false, apart := false, narrowed := true }
def ArenaNilUptoSaid : Prop := arenaNilUptoRow.holds Try.pinned (OpenSpec.upto arenaNilSpec)

/-- 'lifelodgekeep.ArenaAlone', WHERE WHAT IT READS IS OF BULK AT MOST 1048576: true; the input reads as it did. -/
def arenaAloneUptoRow : OpenClaim := { program := "ythobobgiendcfaa", sum := "a8df3f0739cd86dfe13069e2d922c8b45a268230a1d8880aca5a918e00291a6b", func := "lifelodge/lifelodgekeep.ArenaAlone", spec := "arenaAlone", unfollowed := true, recurses := true, plainKeys := false, apart := false, narrowed := true }
def ArenaAloneUptoSaid : Prop := arenaAloneUptoRow.holds Try.pinned (OpenSpec.upto arenaAloneSpec)

/-- 'lifelodgekeep.ArenaRoom', WHERE WHAT IT READS IS OF BULK AT MOST 1048576: true; the input reads as it did. -/
def arenaRoomUptoRow : OpenClaim := { program := "ythobobgiendcfaa", sum := "a8df3f0739cd86dfe13069e2d922c8b45a268230a1d8880aca5a918e00291a6b", func := "lifelodge/lifelodgekeep.ArenaRoom", spec := "arenaRoom", unfollowed := true, recurses := true, plainKeys := false, apart := false, narrowed := true }
def ArenaRoomUptoSaid : Prop := arenaRoomUptoRow.holds Try.pinned (OpenSpec.upto arenaRoomSpec)

/-- 'lifelodgelaw.QuadFroms', WHERE WHAT IT READS IS OF BULK AT MOST 1048576: true; the input reads as it did. -/
def quadFromsUptoRow : OpenClaim := { program := "ythobobgiendcfaa", sum := "a8df3f0739cd86dfe13069e2d922c8b45a268230a1d8880aca5a918e00291a6b", func := "lifelodge/lifelodgelaw.QuadFroms", spec := "quadFroms", unfollowed := true, recurses := true, plainKeys := false, apart := false, narrowed := true }
def QuadFromsUptoSaid : Prop := quadFromsUptoRow.holds Try.pinned (OpenSpec.upto quadFromsSpec)

/-- 'lifelodgelaw.QuadReads', WHERE WHAT IT READS IS OF BULK AT MOST 1048576: true; the input reads as it did. -/
def quadReadsUptoRow : OpenClaim := { program := "ythobobgiendcfaa", sum := "a8df3f0739cd86dfe13069e2d922c8b45a268230a1d8880aca5a918e00291a6b", func := "lifelodge/lifelodgelaw.QuadReads", spec := "quadReads", unfollowed := true, recurses := true, plainKeys := false, apart := false, narrowed := true }
def QuadReadsUptoSaid : Prop := quadReadsUptoRow.holds Try.pinned (OpenSpec.upto quadReadsSpec)

/-- 'lifelodgelaw.QuadWraps', WHERE WHAT IT READS IS OF BULK AT MOST 1048576: true; the input reads as it did. -/
def quadWrapsUptoRow : OpenClaim := { program := "ythobobgiendcfaa", sum := "a8df3f0739cd86dfe13069e2d922c8b45a268230a1d8880aca5a918e00291a6b", func := "lifelodge/lifelodgelaw.QuadWraps", spec := "quadWraps", unfollowed := true, recurses := true, plainKeys := false, apart := false, narrowed := true }
def QuadWrapsUptoSaid : Prop := quadWrapsUptoRow.holds Try.pinned (OpenSpec.upto quadWrapsSpec)

/-- 'lifelodgelaw.QuadPuts', WHERE WHAT IT READS IS OF BULK AT MOST 1048576: true; the input reads as it did. -/
def quadPutsUptoRow : OpenClaim := { program := "ythobobgiendcfaa", sum := "a8df3f0739cd86dfe13069e2d922c8b45a268230a1d8880aca5a918e00291a6b", func := "lifelodge/lifelodgelaw.QuadPuts", spec := "quadPuts", unfollowed := true, recurses := true, plainKeys := false, apart := false, narrowed := true }
def QuadPutsUptoSaid : Prop := quadPutsUptoRow.holds Try.pinned (OpenSpec.upto quadPutsSpec)

/-- 'lifelodgelaw.QuadEmpties', WHERE WHAT IT READS IS OF BULK AT MOST 1048576: true; the input reads as it did. -/
def quadEmptiesUptoRow : OpenClaim := { program := "ythobobgiendcfaa", sum := "a8df3f0739cd86dfe13069e2d922c8b45a268230a1d8880aca5a918e00291a6b", func := "lifelodge/lifelodgelaw.QuadEmpties", spec := "quadEmpties", unfollowed := true, recurses := true, plainKeys := false, apart := false, narrowed := true }
def QuadEmptiesUptoSaid : Prop := quadEmptiesUptoRow.holds Try.pinned (OpenSpec.upto quadEmptiesSpec)

/-- 'lifelodgelaw.QuadStrange', WHERE WHAT IT READS IS OF BULK AT MOST 1048576: true; the input reads as it did. -/
def quadStrangeUptoRow : OpenClaim := { program := "ythobobgiendcfaa", sum := "a8df3f0739cd86dfe13069e2d922c8b45a268230a1d8880aca5a918e00291a6b", func := "lifelodge/lifelodgelaw.QuadStrange", spec := "quadStrange", unfollowed := true, recurses := true, plainKeys := false, apart := false, narrowed := true }
def QuadStrangeUptoSaid : Prop := quadStrangeUptoRow.holds Try.pinned (OpenSpec.upto quadStrangeSpec)

/-- 'lifelodgekeep.QuadOne', WHERE WHAT IT READS IS OF BULK AT MOST 1048576: true; the input reads as it did. -/
def quadOneUptoRow : OpenClaim := { program := "ythobobgiendcfaa", sum := "a8df3f0739cd86dfe13069e2d922c8b45a268230a1d8880aca5a918e00291a6b", func := "lifelodge/lifelodgekeep.QuadOne", spec := "quadOne", unfollowed := true, recurses := true, plainKeys := false, apart := false, narrowed := true }
def QuadOneUptoSaid : Prop := quadOneUptoRow.holds Try.pinned (OpenSpec.upto quadOneSpec)

/-- 'lifelodgekeep.QuadShared', WHERE WHAT IT READS IS OF BULK AT MOST 1048576: true; the input reads as it did. -/
def quadSharedUptoRow : OpenClaim := { program := "ythobobgiendcfaa", sum := "a8df3f0739cd86dfe13069e2d922c8b45a268230a1d8880aca5a918e00291a6b", func := "lifelodge/lifelodgekeep.QuadShared", spec := "quadShared", unfollowed := true, recurses := true, plainKeys := false, apart := false, narrowed := true }
def QuadSharedUptoSaid : Prop := quadSharedUptoRow.holds Try.pinned (OpenSpec.upto quadSharedSpec)

/-- 'lifelodgekeep.QuadEras', WHERE WHAT IT READS IS OF BULK AT MOST 1048576: true; the input reads as it did. -/
def quadErasUptoRow : OpenClaim := { program := "ythobobgiendcfaa", sum := "a8df3f0739cd86dfe13069e2d922c8b45a268230a1d8880aca5a918e00291a6b", func := "lifelodge/lifelodgekeep.QuadEras", spec := "quadEras", unfollowed := true, recurses := true, plainKeys := false, apart := false, narrowed := true }
def QuadErasUptoSaid : Prop := quadErasUptoRow.holds Try.pinned (OpenSpec.upto quadErasSpec)

/-- 'lifelodgekeep.ArenaKeeps', WHERE WHAT IT READS IS OF BULK AT MOST 1048576: true; the input reads as it did. -/
def arenaKeepsUptoRow : OpenClaim := { program := "ythobobgiendcfaa", sum := "a8df3f0739cd86dfe13069e2d922c8b45a268230a1d8880aca5a918e00291a6b", func := "lifelodge/lifelodgekeep.ArenaKeeps", spec := "arenaKeeps", unfollowed := true, recurses := true, plainKeys := false, apart := false, narrowed := true }
def ArenaKeepsUptoSaid : Prop := arenaKeepsUptoRow.holds Try.pinned (OpenSpec.upto arenaKeepsSpec)

/-- 'lifelodgekeep.ArenaUndoes', WHERE WHAT IT READS IS OF BULK AT MOST 1048576: true; the input reads as it did. -/
def arenaUndoesUptoRow : OpenClaim := { program := "ythobobgiendcfaa", sum := "a8df3f0739cd86dfe13069e2d922c8b45a268230a1d8880aca5a918e00291a6b", func := "lifelodge/lifelodgekeep.ArenaUndoes", spec := "arenaUndoes", unfollowed := true, recurses := true, plainKeys := false, apart := false, narrowed := true }
def ArenaUndoesUptoSaid : Prop := arenaUndoesUptoRow.holds Try.pinned (OpenSpec.upto arenaUndoesSpec)

end Rows
end Go.Proofs.Ythobobgiendcfaa
