/-
  DERIVED. GIVEN WITH THE SEED: THE CARDS: each row of YtpghbchbhjbbiaaGreatDoorRows.lean that lists a variable, with what it lists TIED to the program's text (the seventh form; the later family's looks); each row that meets fmt, with fmt's text TOLD by the authors' own Lean function (tested against real Go, not proved from fmt's source: count such statements apart). THE CARD IS WHAT COUNTS. Prove the row's statement (the work); the ties are given (YtpghbchbhjbbiaaGreatDoorTie.lean); close each card by the builder's one call (the guide's Derived/Test/ToyasCard.lean, 'card_holds'). Laid BY PROGRAM, IN A SANDBOX (cutbox-door.mjs). By AI agents, Wed Nov 11 2026. No macro, syntax, notation, axiom, sorry.
-/
import Derived.Test.YtpghbchbhjbbiaaGreatDoorRows
import GoSem.ClaimSeven
namespace Go.Proofs.YtpghbchbhjbbiaaGreatDoor
namespace Rows

/-- THE TIED CARD OF 'lifelodgelaw.SpeechReads'. -/
def speechReadsCard : Claim7 := { stood := { row := speechReadsRow, standIns := [], harness := (true, "2cf8ac21036aa56e374b961a3246dfec06c6c643bd9fce16410c02a0ca03fd60"), looks := true }, kinds := [], alts := [], laidByText := true, laidKinds := [.data, .data, .data, .data, .data, .data, .sentinel, .sentinel, .data, .pinned], laidTests := true, laidLooks := .later }
def SpeechReadsCardSaid : Prop := Claim7.holds Tryz.pinned (.plain (OpenSpec.ofChange speechReadsSpec)) speechReadsCard

/-- THE TIED CARD OF 'lifelodgelaw.SpeechWrites'. -/
def speechWritesCard : Claim7 := { stood := { row := speechWritesRow, standIns := [], harness := (true, "2cf8ac21036aa56e374b961a3246dfec06c6c643bd9fce16410c02a0ca03fd60"), looks := true }, kinds := [], alts := [], laidByText := true, laidKinds := [.data, .data, .data, .data, .data, .data, .sentinel, .sentinel, .data, .pinned], laidTests := true, laidLooks := .later }
def SpeechWritesCardSaid : Prop := Claim7.holds Tryz.pinned (.plain (OpenSpec.ofChange speechWritesSpec)) speechWritesCard

/-- THE TIED CARD OF 'lifelodgekeep.SpeechBack'. -/
def speechBackCard : Claim7 := { stood := { row := speechBackRow, standIns := [], harness := (true, "2cf8ac21036aa56e374b961a3246dfec06c6c643bd9fce16410c02a0ca03fd60"), looks := true }, kinds := [], alts := [], laidByText := true, laidKinds := [.data, .data, .data, .data, .sentinel, .sentinel, .data, .pinned], laidTests := true, laidLooks := .later }
def SpeechBackCardSaid : Prop := Claim7.holds Tryz.pinned (.plain (OpenSpec.ofChange speechBackSpec)) speechBackCard

/-- THE TIED CARD OF 'lifelodgekeep.SpeechOnly'. -/
def speechOnlyCard : Claim7 := { stood := { row := speechOnlyRow, standIns := [], harness := (true, "2cf8ac21036aa56e374b961a3246dfec06c6c643bd9fce16410c02a0ca03fd60"), looks := true }, kinds := [], alts := [], laidByText := true, laidKinds := [.data, .data, .data, .data, .sentinel, .sentinel, .data, .pinned], laidTests := true, laidLooks := .later }
def SpeechOnlyCardSaid : Prop := Claim7.holds Tryz.pinned (.plain (OpenSpec.ofChange speechOnlySpec)) speechOnlyCard

/-- THE SECOND FORM's CARD OF 'lifelodgelaw.SpeechReads'. -/
def speechReadsUptoCard : Claim7 := { stood := { row := speechReadsUptoRow, standIns := [], harness := (true, "2cf8ac21036aa56e374b961a3246dfec06c6c643bd9fce16410c02a0ca03fd60"), looks := true }, kinds := [], alts := [], laidByText := true, laidKinds := [.data, .data, .data, .data, .data, .data, .sentinel, .sentinel, .data, .pinned], laidTests := true, laidLooks := .later }
def SpeechReadsUptoCardSaid : Prop := Claim7.holds Tryz.pinned (.plain (OpenSpec.upto speechReadsSpec)) speechReadsUptoCard

/-- THE SECOND FORM's CARD OF 'lifelodgelaw.SpeechWrites'. -/
def speechWritesUptoCard : Claim7 := { stood := { row := speechWritesUptoRow, standIns := [], harness := (true, "2cf8ac21036aa56e374b961a3246dfec06c6c643bd9fce16410c02a0ca03fd60"), looks := true }, kinds := [], alts := [], laidByText := true, laidKinds := [.data, .data, .data, .data, .data, .data, .sentinel, .sentinel, .data, .pinned], laidTests := true, laidLooks := .later }
def SpeechWritesUptoCardSaid : Prop := Claim7.holds Tryz.pinned (.plain (OpenSpec.upto speechWritesSpec)) speechWritesUptoCard

/-- THE SECOND FORM's CARD OF 'lifelodgekeep.SpeechBack'. -/
def speechBackUptoCard : Claim7 := { stood := { row := speechBackUptoRow, standIns := [], harness := (true, "2cf8ac21036aa56e374b961a3246dfec06c6c643bd9fce16410c02a0ca03fd60"), looks := true }, kinds := [], alts := [], laidByText := true, laidKinds := [.data, .data, .data, .data, .sentinel, .sentinel, .data, .pinned], laidTests := true, laidLooks := .later }
def SpeechBackUptoCardSaid : Prop := Claim7.holds Tryz.pinned (.plain (OpenSpec.upto speechBackSpec)) speechBackUptoCard

/-- THE SECOND FORM's CARD OF 'lifelodgekeep.SpeechOnly'. -/
def speechOnlyUptoCard : Claim7 := { stood := { row := speechOnlyUptoRow, standIns := [], harness := (true, "2cf8ac21036aa56e374b961a3246dfec06c6c643bd9fce16410c02a0ca03fd60"), looks := true }, kinds := [], alts := [], laidByText := true, laidKinds := [.data, .data, .data, .data, .sentinel, .sentinel, .data, .pinned], laidTests := true, laidLooks := .later }
def SpeechOnlyUptoCardSaid : Prop := Claim7.holds Tryz.pinned (.plain (OpenSpec.upto speechOnlySpec)) speechOnlyUptoCard
end Rows
end Go.Proofs.YtpghbchbhjbbiaaGreatDoor
