/-
  DERIVED. GIVEN WITH THE SEED: THE CARDS: each row of YtgcjjoeeobccjaaGreatDoorRows.lean that lists a variable, with what it lists TIED to the program's text (the seventh form; the later family's looks); each row that meets fmt, with fmt's text TOLD by the authors' own Lean function (tested against real Go, not proved from fmt's source: count such statements apart). THE CARD IS WHAT COUNTS. Prove the row's statement (the work); the ties are given (YtgcjjoeeobccjaaGreatDoorTie.lean); close each card by the builder's one call (the guide's Derived/Test/ToyasCard.lean, 'card_holds'). Laid BY PROGRAM, IN A SANDBOX (cutbox-door.mjs). By AI agents, Wed Nov 11 2026. No macro, syntax, notation, axiom, sorry.
-/
import Derived.Test.YtgcjjoeeobccjaaGreatDoorRows
import GoSem.ClaimSeven
namespace Go.Proofs.YtgcjjoeeobccjaaGreatDoor
namespace Rows

/-- THE TIED CARD OF 'abridgerlaw7.JparseUnits'. -/
def jparseUnitsCard : Claim7 := { stood := { row := jparseUnitsRow, standIns := [], harness := (true, "e09e6061cc3a682126ab054fc1060c998317819ee74bd495f5cd9955adc44f3f"), looks := true }, kinds := [], alts := [], laidByText := true, laidKinds := [.data, .data, .data, .data, .sentinel, .sentinel, .pinned], laidTests := true, laidLooks := .later }
def JparseUnitsCardSaid : Prop := Claim7.holds Tryz.pinned (.plain (OpenSpec.ofChange jparseUnitsSpec)) jparseUnitsCard

/-- THE SECOND FORM's CARD OF 'abridgerlaw7.JparseUnits'. -/
def jparseUnitsUptoCard : Claim7 := { stood := { row := jparseUnitsUptoRow, standIns := [], harness := (true, "e09e6061cc3a682126ab054fc1060c998317819ee74bd495f5cd9955adc44f3f"), looks := true }, kinds := [], alts := [], laidByText := true, laidKinds := [.data, .data, .data, .data, .sentinel, .sentinel, .pinned], laidTests := true, laidLooks := .later }
def JparseUnitsUptoCardSaid : Prop := Claim7.holds Tryz.pinned (.plain (OpenSpec.upto jparseUnitsSpec)) jparseUnitsUptoCard
end Rows
end Go.Proofs.YtgcjjoeeobccjaaGreatDoor
