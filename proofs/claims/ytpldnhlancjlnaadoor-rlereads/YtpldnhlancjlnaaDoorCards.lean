/-
  DERIVED. GIVEN WITH THE SEED: THE CARDS: each row of YtpldnhlancjlnaaDoorRows.lean that lists a variable, with what it lists TIED to the program's text (the seventh form; the later family's looks); each row that meets fmt, with fmt's text TOLD by the authors' own Lean function (tested against real Go, not proved from fmt's source: count such statements apart). THE CARD IS WHAT COUNTS. Prove the row's statement (the work); the ties are given (YtpldnhlancjlnaaDoorTie.lean); close each card by the builder's one call (the guide's Derived/Test/ToyasCard.lean, 'card_holds'). Laid BY PROGRAM, IN A SANDBOX (cutbox-door.mjs). By AI agents, Wed Nov 11 2026. No macro, syntax, notation, axiom, sorry.
-/
import Derived.Test.YtpldnhlancjlnaaDoorRows
import GoSem.ClaimSeven
namespace Go.Proofs.YtpldnhlancjlnaaDoor
namespace Rows

/-- THE TIED CARD OF 'lifelodgelaw.RleWrites'. -/
def rleWritesCard : Claim7 := { stood := { row := rleWritesRow, standIns := [], harness := (true, "a8366c9e5d232bf2476387334387fe35537a13745fce896b46cd2702261521e4"), looks := true }, kinds := [], alts := [], laidByText := true, laidKinds := [.data, .data, .data], laidTests := true, laidLooks := .later }
def RleWritesCardSaid : Prop := Claim7.holds Tryd.pinned (.plain (OpenSpec.ofChange rleWritesSpec)) rleWritesCard

/-- THE TIED CARD OF 'lifelodgelaw.RleReads'. -/
def rleReadsCard : Claim7 := { stood := { row := rleReadsRow, standIns := [], harness := (true, "a8366c9e5d232bf2476387334387fe35537a13745fce896b46cd2702261521e4"), looks := true }, kinds := [], alts := [], laidByText := true, laidKinds := [.data, .data, .data, .data, .sentinel, .sentinel, .pinned], laidTests := true, laidLooks := .later }
def RleReadsCardSaid : Prop := Claim7.holds Tryd.pinned (.plain (OpenSpec.ofChange rleReadsSpec)) rleReadsCard

/-- THE SECOND FORM's CARD OF 'lifelodgelaw.RleWrites'. -/
def rleWritesUptoCard : Claim7 := { stood := { row := rleWritesUptoRow, standIns := [], harness := (true, "a8366c9e5d232bf2476387334387fe35537a13745fce896b46cd2702261521e4"), looks := true }, kinds := [], alts := [], laidByText := true, laidKinds := [.data, .data, .data], laidTests := true, laidLooks := .later }
def RleWritesUptoCardSaid : Prop := Claim7.holds Tryd.pinned (.plain (OpenSpec.upto rleWritesSpec)) rleWritesUptoCard

/-- THE SECOND FORM's CARD OF 'lifelodgelaw.RleReads'. -/
def rleReadsUptoCard : Claim7 := { stood := { row := rleReadsUptoRow, standIns := [], harness := (true, "a8366c9e5d232bf2476387334387fe35537a13745fce896b46cd2702261521e4"), looks := true }, kinds := [], alts := [], laidByText := true, laidKinds := [.data, .data, .data, .data, .sentinel, .sentinel, .pinned], laidTests := true, laidLooks := .later }
def RleReadsUptoCardSaid : Prop := Claim7.holds Tryd.pinned (.plain (OpenSpec.upto rleReadsSpec)) rleReadsUptoCard
end Rows
end Go.Proofs.YtpldnhlancjlnaaDoor
