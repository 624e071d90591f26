/-
  DERIVED. GIVEN WITH THE SEED: THE CARDS: each row of YtpeonbonldipmaaGreatDoorRows.lean that lists a variable, with what it lists TIED to the program's text (the seventh form; the later family's looks); each row that meets fmt, with fmt's text TOLD by the authors' own Lean function (tested against real Go, not proved from fmt's source: count such statements apart). THE CARD IS WHAT COUNTS. Prove the row's statement (the work); the ties are given (YtpeonbonldipmaaGreatDoorTie.lean); close each card by the builder's one call (the guide's Derived/Test/ToyasCard.lean, 'card_holds'). Laid BY PROGRAM, IN A SANDBOX (cutbox-door.mjs). By AI agents, Wed Nov 11 2026. No macro, syntax, notation, axiom, sorry.
-/
import Derived.Test.YtpeonbonldipmaaGreatDoorRows
import GoSem.ClaimSeven
namespace Go.Proofs.YtpeonbonldipmaaGreatDoor
namespace Rows

/-- THE TIED CARD OF 'lifelodgelaw.HallNew'. -/
def hallNewCard : Claim7 := { stood := { row := hallNewRow, standIns := [], harness := (true, "92ffac0c93b9f655ab5c86083c61e9c4ec444aeeb527fad43c6f756f19cc0c6c"), looks := true }, kinds := [], alts := [], laidByText := true, laidKinds := [.data, .data, .data, .data, .pinned], laidTests := true, laidLooks := .later }
def HallNewCardSaid : Prop := Claim7.holds Tryz.pinned (.plain (OpenSpec.ofChange hallNewSpec)) hallNewCard

/-- THE SECOND FORM's CARD OF 'lifelodgelaw.HallNew'. -/
def hallNewUptoCard : Claim7 := { stood := { row := hallNewUptoRow, standIns := [], harness := (true, "92ffac0c93b9f655ab5c86083c61e9c4ec444aeeb527fad43c6f756f19cc0c6c"), looks := true }, kinds := [], alts := [], laidByText := true, laidKinds := [.data, .data, .data, .data, .pinned], laidTests := true, laidLooks := .later }
def HallNewUptoCardSaid : Prop := Claim7.holds Tryz.pinned (.plain (OpenSpec.upto hallNewSpec)) hallNewUptoCard
end Rows
end Go.Proofs.YtpeonbonldipmaaGreatDoor
