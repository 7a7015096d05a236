/-
  DERIVED. GIVEN WITH THE SEED: THE CARDS: each row of YtajjdndnmokfkaaDoorRows.lean that lists a variable, with what it lists TIED to the program's text (the seventh form; the later family's looks); each row that meets fmt, with fmt's text TOLD by the authors' own Lean function (tested against real Go, not proved from fmt's source: count such statements apart). THE CARD IS WHAT COUNTS. Prove the row's statement (the work); the ties are given (YtajjdndnmokfkaaDoorTie.lean); close each card by the builder's one call (the guide's Derived/Test/ToyasCard.lean, 'card_holds'). Laid BY PROGRAM, IN A SANDBOX (cutbox-door.mjs). By AI agents, Wed Nov 11 2026. No macro, syntax, notation, axiom, sorry.
-/
import Derived.Test.YtajjdndnmokfkaaDoorRows
import GoSem.ClaimSeven
namespace Go.Proofs.YtajjdndnmokfkaaDoor
namespace Rows

/-- THE TIED CARD OF 'abridgerlaw19.ColourAll'. -/
def colourAllCard : Claim7 := { stood := { row := colourAllRow, standIns := [], harness := (true, "78b421acf9753fafcfe705dce4dcee5dd29749d10f3d1249ea3ba44b9da88a5e"), looks := true }, kinds := [], alts := [], laidByText := true, laidKinds := [.data, .data, .data, .sentinel, .sentinel], laidTests := true, laidLooks := .later }
def ColourAllCardSaid : Prop := Claim7.holds Tryd.pinned (.plain (OpenSpec.ofChange colourAllSpec)) colourAllCard

/-- THE TIED CARD OF 'abridgerlaw19.ColourGreat'. -/
def colourGreatCard : Claim7 := { stood := { row := colourGreatRow, standIns := [], harness := (true, "78b421acf9753fafcfe705dce4dcee5dd29749d10f3d1249ea3ba44b9da88a5e"), looks := true }, kinds := [], alts := [], laidByText := true, laidKinds := [.data, .data, .data, .sentinel, .sentinel], laidTests := true, laidLooks := .later }
def ColourGreatCardSaid : Prop := Claim7.holds Tryd.pinned (.plain (OpenSpec.ofChange colourGreatSpec)) colourGreatCard

/-- THE SECOND FORM's CARD OF 'abridgerlaw19.ColourAll'. -/
def colourAllUptoCard : Claim7 := { stood := { row := colourAllUptoRow, standIns := [], harness := (true, "78b421acf9753fafcfe705dce4dcee5dd29749d10f3d1249ea3ba44b9da88a5e"), looks := true }, kinds := [], alts := [], laidByText := true, laidKinds := [.data, .data, .data, .sentinel, .sentinel], laidTests := true, laidLooks := .later }
def ColourAllUptoCardSaid : Prop := Claim7.holds Tryd.pinned (.plain (OpenSpec.upto colourAllSpec)) colourAllUptoCard

/-- THE SECOND FORM's CARD OF 'abridgerlaw19.ColourGreat'. -/
def colourGreatUptoCard : Claim7 := { stood := { row := colourGreatUptoRow, standIns := [], harness := (true, "78b421acf9753fafcfe705dce4dcee5dd29749d10f3d1249ea3ba44b9da88a5e"), looks := true }, kinds := [], alts := [], laidByText := true, laidKinds := [.data, .data, .data, .sentinel, .sentinel], laidTests := true, laidLooks := .later }
def ColourGreatUptoCardSaid : Prop := Claim7.holds Tryd.pinned (.plain (OpenSpec.upto colourGreatSpec)) colourGreatUptoCard
end Rows
end Go.Proofs.YtajjdndnmokfkaaDoor
