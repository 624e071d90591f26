/-
  DERIVED. GIVEN WITH THE SEED: THE CARDS: each row of YtnklpjoeopcbbaaDoorRows.lean that lists a variable, with what it lists TIED to the program's text (the seventh form; the later family's looks); each row that meets fmt, with fmt's text TOLD by the authors' own Lean function (tested against real Go, not proved from fmt's source: count such statements apart). THE CARD IS WHAT COUNTS. Prove the row's statement (the work); the ties are given (YtnklpjoeopcbbaaDoorTie.lean); close each card by the builder's one call (the guide's Derived/Test/ToyasCard.lean, 'card_holds'). Laid BY PROGRAM, IN A SANDBOX (cutbox-door.mjs). By AI agents, Wed Nov 11 2026. No macro, syntax, notation, axiom, sorry.
-/
import Derived.Test.YtnklpjoeopcbbaaDoorRows
import GoSem.ClaimSeven
namespace Go.Proofs.YtnklpjoeopcbbaaDoor
namespace Rows

/-- THE TIED CARD OF 'lifelodgelaw.SpeechNames'. -/
def speechNamesCard : Claim7 := { stood := { row := speechNamesRow, standIns := [], harness := (true, "8b1cf16f2e5054c98de8d3eb227a444968be7d64f45e0f202961a88c87e2e261"), looks := false }, kinds := [], alts := [], laidByText := true, laidKinds := [.data, .pinned], laidTests := true, laidLooks := .later }
def SpeechNamesCardSaid : Prop := Claim7.holds Tryd.pinned (.plain (OpenSpec.ofChange speechNamesSpec)) speechNamesCard

/-- THE TIED CARD OF 'lifelodgelaw.SpeechTells'. -/
def speechTellsCard : Claim7 := { stood := { row := speechTellsRow, standIns := [], harness := (true, "8b1cf16f2e5054c98de8d3eb227a444968be7d64f45e0f202961a88c87e2e261"), looks := false }, kinds := [], alts := [], laidByText := true, laidKinds := [.data, .data, .data], laidTests := true, laidLooks := .later }
def SpeechTellsCardSaid : Prop := Claim7.holds Tryd.pinned (.plain (OpenSpec.ofChange speechTellsSpec)) speechTellsCard

/-- THE SECOND FORM's CARD OF 'lifelodgelaw.SpeechNames'. -/
def speechNamesUptoCard : Claim7 := { stood := { row := speechNamesUptoRow, standIns := [], harness := (true, "8b1cf16f2e5054c98de8d3eb227a444968be7d64f45e0f202961a88c87e2e261"), looks := false }, kinds := [], alts := [], laidByText := true, laidKinds := [.data, .pinned], laidTests := true, laidLooks := .later }
def SpeechNamesUptoCardSaid : Prop := Claim7.holds Tryd.pinned (.plain (OpenSpec.upto speechNamesSpec)) speechNamesUptoCard

/-- THE SECOND FORM's CARD OF 'lifelodgelaw.SpeechTells'. -/
def speechTellsUptoCard : Claim7 := { stood := { row := speechTellsUptoRow, standIns := [], harness := (true, "8b1cf16f2e5054c98de8d3eb227a444968be7d64f45e0f202961a88c87e2e261"), looks := false }, kinds := [], alts := [], laidByText := true, laidKinds := [.data, .data, .data], laidTests := true, laidLooks := .later }
def SpeechTellsUptoCardSaid : Prop := Claim7.holds Tryd.pinned (.plain (OpenSpec.upto speechTellsSpec)) speechTellsUptoCard
end Rows
end Go.Proofs.YtnklpjoeopcbbaaDoor
