/-
  DERIVED. GIVEN WITH THE SEED: THE CARDS: each row of YtpeffpgpiookpaaDoorRows.lean that lists a variable, with what it lists TIED to the program's text (the seventh form; the later family's looks); each row that meets fmt, with fmt's text TOLD by the authors' own Lean function (tested against real Go, not proved from fmt's source: count such statements apart). THE CARD IS WHAT COUNTS. Prove the row's statement (the work); the ties are given (YtpeffpgpiookpaaDoorTie.lean); close each card by the builder's one call (the guide's Derived/Test/ToyasCard.lean, 'card_holds'). Laid BY PROGRAM, IN A SANDBOX (cutbox-door.mjs). By AI agents, Wed Nov 11 2026. No macro, syntax, notation, axiom, sorry.
-/
import Derived.Test.YtpeffpgpiookpaaDoorRows
import GoSem.ClaimSeven
namespace Go.Proofs.YtpeffpgpiookpaaDoor
namespace Rows

/-- THE TIED CARD OF 'lifelodgelaw.KeysMint'. -/
def keysMintCard : Claim7 := { stood := { row := keysMintRow, standIns := [], harness := (true, "ab5a10f1a9f61f9f85cf3e4cab0bd58b793eec9dd2f44ea3e36b3287c81beab5"), looks := false }, kinds := [], alts := [], laidByText := true, laidKinds := [.data, .data, .data], laidTests := true, laidLooks := .later }
def KeysMintCardSaid : Prop := Claim7.holds Tryd.pinned (.plain (OpenSpec.ofChange keysMintSpec)) keysMintCard

/-- THE TIED CARD OF 'lifelodgekeep.KeysOpen'. -/
def keysOpenCard : Claim7 := { stood := { row := keysOpenRow, standIns := [], harness := (true, "ab5a10f1a9f61f9f85cf3e4cab0bd58b793eec9dd2f44ea3e36b3287c81beab5"), looks := false }, kinds := [], alts := [], laidByText := true, laidKinds := [.data, .data, .data, .data, .pinned], laidTests := true, laidLooks := .later }
def KeysOpenCardSaid : Prop := Claim7.holds Tryd.pinned (.plain (OpenSpec.ofChange keysOpenSpec)) keysOpenCard

/-- THE TIED CARD OF 'lifelodgekeep.KeysGone'. -/
def keysGoneCard : Claim7 := { stood := { row := keysGoneRow, standIns := [], harness := (true, "ab5a10f1a9f61f9f85cf3e4cab0bd58b793eec9dd2f44ea3e36b3287c81beab5"), looks := false }, kinds := [], alts := [], laidByText := true, laidKinds := [.data, .data, .data], laidTests := true, laidLooks := .later }
def KeysGoneCardSaid : Prop := Claim7.holds Tryd.pinned (.plain (OpenSpec.ofChange keysGoneSpec)) keysGoneCard

/-- THE SECOND FORM's CARD OF 'lifelodgelaw.KeysMint'. -/
def keysMintUptoCard : Claim7 := { stood := { row := keysMintUptoRow, standIns := [], harness := (true, "ab5a10f1a9f61f9f85cf3e4cab0bd58b793eec9dd2f44ea3e36b3287c81beab5"), looks := false }, kinds := [], alts := [], laidByText := true, laidKinds := [.data, .data, .data], laidTests := true, laidLooks := .later }
def KeysMintUptoCardSaid : Prop := Claim7.holds Tryd.pinned (.plain (OpenSpec.upto keysMintSpec)) keysMintUptoCard

/-- THE SECOND FORM's CARD OF 'lifelodgekeep.KeysOpen'. -/
def keysOpenUptoCard : Claim7 := { stood := { row := keysOpenUptoRow, standIns := [], harness := (true, "ab5a10f1a9f61f9f85cf3e4cab0bd58b793eec9dd2f44ea3e36b3287c81beab5"), looks := false }, kinds := [], alts := [], laidByText := true, laidKinds := [.data, .data, .data, .data, .pinned], laidTests := true, laidLooks := .later }
def KeysOpenUptoCardSaid : Prop := Claim7.holds Tryd.pinned (.plain (OpenSpec.upto keysOpenSpec)) keysOpenUptoCard

/-- THE SECOND FORM's CARD OF 'lifelodgekeep.KeysGone'. -/
def keysGoneUptoCard : Claim7 := { stood := { row := keysGoneUptoRow, standIns := [], harness := (true, "ab5a10f1a9f61f9f85cf3e4cab0bd58b793eec9dd2f44ea3e36b3287c81beab5"), looks := false }, kinds := [], alts := [], laidByText := true, laidKinds := [.data, .data, .data], laidTests := true, laidLooks := .later }
def KeysGoneUptoCardSaid : Prop := Claim7.holds Tryd.pinned (.plain (OpenSpec.upto keysGoneSpec)) keysGoneUptoCard
end Rows
end Go.Proofs.YtpeffpgpiookpaaDoor
