/-
  DERIVED. GIVEN WITH THE SEED: THE CARDS: each row of YtfclkackfamdlaaGreatDoorRows.lean that lists a variable, with what it lists TIED to the program's text (the seventh form; the later family's looks); each row that meets fmt, with fmt's text TOLD by the authors' own Lean function (tested against real Go, not proved from fmt's source: count such statements apart). THE CARD IS WHAT COUNTS. Prove the row's statement (the work); the ties are given (YtfclkackfamdlaaGreatDoorTie.lean); close each card by the builder's one call (the guide's Derived/Test/ToyasCard.lean, 'card_holds'). Laid BY PROGRAM, IN A SANDBOX (cutbox-door.mjs). By AI agents, Wed Nov 11 2026. No macro, syntax, notation, axiom, sorry.
-/
import Derived.Test.YtfclkackfamdlaaGreatDoorRows
import GoSem.ClaimSeven
namespace Go.Proofs.YtfclkackfamdlaaGreatDoor
namespace Rows

/-- THE TIED CARD OF 'abridgerlaw5.NumberLeast'. -/
def numberLeastCard : Claim7 := { stood := { row := numberLeastRow, standIns := [], harness := (true, "d10a978597c7835d0f6ff37a09e128b2449e06c15c4405861857c6d59a6810db"), looks := true }, kinds := [], alts := [], laidByText := true, laidKinds := [.data, .data, .data, .data, .sentinel, .sentinel, .pinned], laidTests := true, laidLooks := .later }
def NumberLeastCardSaid : Prop := Claim7.holds Tryz.pinned (.plain (OpenSpec.ofChange numberLeastSpec)) numberLeastCard

/-- THE SECOND FORM's CARD OF 'abridgerlaw5.NumberLeast'. -/
def numberLeastUptoCard : Claim7 := { stood := { row := numberLeastUptoRow, standIns := [], harness := (true, "d10a978597c7835d0f6ff37a09e128b2449e06c15c4405861857c6d59a6810db"), looks := true }, kinds := [], alts := [], laidByText := true, laidKinds := [.data, .data, .data, .data, .sentinel, .sentinel, .pinned], laidTests := true, laidLooks := .later }
def NumberLeastUptoCardSaid : Prop := Claim7.holds Tryz.pinned (.plain (OpenSpec.upto numberLeastSpec)) numberLeastUptoCard
end Rows
end Go.Proofs.YtfclkackfamdlaaGreatDoor
