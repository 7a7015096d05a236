/-
  DERIVED. GIVEN WITH THE SEED: THE CARDS: each row of YtpedipalpebolaaDoorRows.lean that lists a variable, with what it lists TIED to the program's text (the seventh form; the later family's looks); each row that meets fmt, with fmt's text TOLD by the authors' own Lean function (tested against real Go, not proved from fmt's source: count such statements apart). THE CARD IS WHAT COUNTS. Prove the row's statement (the work); the ties are given (YtpedipalpebolaaDoorTie.lean); close each card by the builder's one call (the guide's Derived/Test/ToyasCard.lean, 'card_holds'). Laid BY PROGRAM, IN A SANDBOX (cutbox-door.mjs). By AI agents, Wed Nov 11 2026. No macro, syntax, notation, axiom, sorry.
-/
import Derived.Test.YtpedipalpebolaaDoorRows
import GoSem.ClaimSeven
namespace Go.Proofs.YtpedipalpebolaaDoor
namespace Rows

/-- THE TIED CARD OF 'abridgerlaw23.PiecesTell'. -/
def piecesTellCard : Claim7 := { stood := { row := piecesTellRow, standIns := [], harness := (true, "6253991be2124762349055f24c085cee260031dc3447922fdc37df65c5487e67"), looks := false }, kinds := [], alts := [], laidByText := true, laidKinds := [.data, .pinned], laidTests := true, laidLooks := .later }
def PiecesTellCardSaid : Prop := Claim7.holds Tryd.pinned (.plain (OpenSpec.ofChange piecesTellSpec)) piecesTellCard

/-- THE TIED CARD OF 'abridgerlaw23.PiecesRise'. -/
def piecesRiseCard : Claim7 := { stood := { row := piecesRiseRow, standIns := [], harness := (true, "6253991be2124762349055f24c085cee260031dc3447922fdc37df65c5487e67"), looks := false }, kinds := [], alts := [], laidByText := true, laidKinds := [.data, .pinned], laidTests := true, laidLooks := .later }
def PiecesRiseCardSaid : Prop := Claim7.holds Tryd.pinned (.plain (OpenSpec.ofChange piecesRiseSpec)) piecesRiseCard

/-- THE TIED CARD OF 'abridgerlaw23.PiecesPart'. -/
def piecesPartCard : Claim7 := { stood := { row := piecesPartRow, standIns := [], harness := (true, "6253991be2124762349055f24c085cee260031dc3447922fdc37df65c5487e67"), looks := false }, kinds := [], alts := [], laidByText := true, laidKinds := [.data, .pinned], laidTests := true, laidLooks := .later }
def PiecesPartCardSaid : Prop := Claim7.holds Tryd.pinned (.plain (OpenSpec.ofChange piecesPartSpec)) piecesPartCard

/-- THE SECOND FORM's CARD OF 'abridgerlaw23.PiecesTell'. -/
def piecesTellUptoCard : Claim7 := { stood := { row := piecesTellUptoRow, standIns := [], harness := (true, "6253991be2124762349055f24c085cee260031dc3447922fdc37df65c5487e67"), looks := false }, kinds := [], alts := [], laidByText := true, laidKinds := [.data, .pinned], laidTests := true, laidLooks := .later }
def PiecesTellUptoCardSaid : Prop := Claim7.holds Tryd.pinned (.plain (OpenSpec.upto piecesTellSpec)) piecesTellUptoCard

/-- THE SECOND FORM's CARD OF 'abridgerlaw23.PiecesRise'. -/
def piecesRiseUptoCard : Claim7 := { stood := { row := piecesRiseUptoRow, standIns := [], harness := (true, "6253991be2124762349055f24c085cee260031dc3447922fdc37df65c5487e67"), looks := false }, kinds := [], alts := [], laidByText := true, laidKinds := [.data, .pinned], laidTests := true, laidLooks := .later }
def PiecesRiseUptoCardSaid : Prop := Claim7.holds Tryd.pinned (.plain (OpenSpec.upto piecesRiseSpec)) piecesRiseUptoCard

/-- THE SECOND FORM's CARD OF 'abridgerlaw23.PiecesPart'. -/
def piecesPartUptoCard : Claim7 := { stood := { row := piecesPartUptoRow, standIns := [], harness := (true, "6253991be2124762349055f24c085cee260031dc3447922fdc37df65c5487e67"), looks := false }, kinds := [], alts := [], laidByText := true, laidKinds := [.data, .pinned], laidTests := true, laidLooks := .later }
def PiecesPartUptoCardSaid : Prop := Claim7.holds Tryd.pinned (.plain (OpenSpec.upto piecesPartSpec)) piecesPartUptoCard
end Rows
end Go.Proofs.YtpedipalpebolaaDoor
