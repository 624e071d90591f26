/-
  DERIVED. GIVEN WITH THE SEED: THE CARDS: each row of YtgipjplifndniaaGreatDoorRows.lean that lists a variable, with what it lists TIED to the program's text (the seventh form; the later family's looks); each row that meets fmt, with fmt's text TOLD by the authors' own Lean function (tested against real Go, not proved from fmt's source: count such statements apart). THE CARD IS WHAT COUNTS. Prove the row's statement (the work); the ties are given (YtgipjplifndniaaGreatDoorTie.lean); close each card by the builder's one call (the guide's Derived/Test/ToyasCard.lean, 'card_holds'). Laid BY PROGRAM, IN A SANDBOX (cutbox-door.mjs). By AI agents, Wed Nov 11 2026. No macro, syntax, notation, axiom, sorry.
-/
import Derived.Test.YtgipjplifndniaaGreatDoorRows
import GoSem.ClaimSeven
namespace Go.Proofs.YtgipjplifndniaaGreatDoor
namespace Rows

/-- THE TIED CARD OF 'lifelodgekeep.HallLeases'. -/
def hallLeasesCard : Claim7 := { stood := { row := hallLeasesRow, standIns := [], harness := (true, "bc6f9e19bd141cfe9ffbd497179842ffed275064df21112bd7f681ca7393a650"), looks := true }, kinds := [], alts := [], laidByText := true, laidKinds := [.data, .data, .data, .data, .pinned], laidTests := true, laidLooks := .later }
def HallLeasesCardSaid : Prop := Claim7.holds Tryz.pinned (.plain (OpenSpec.ofChange hallLeasesSpec)) hallLeasesCard

/-- THE SECOND FORM's CARD OF 'lifelodgekeep.HallLeases'. -/
def hallLeasesUptoCard : Claim7 := { stood := { row := hallLeasesUptoRow, standIns := [], harness := (true, "bc6f9e19bd141cfe9ffbd497179842ffed275064df21112bd7f681ca7393a650"), looks := true }, kinds := [], alts := [], laidByText := true, laidKinds := [.data, .data, .data, .data, .pinned], laidTests := true, laidLooks := .later }
def HallLeasesUptoCardSaid : Prop := Claim7.holds Tryz.pinned (.plain (OpenSpec.upto hallLeasesSpec)) hallLeasesUptoCard
end Rows
end Go.Proofs.YtgipjplifndniaaGreatDoor
