/-
  DERIVED. GIVEN WITH THE SEED: THE CARDS: each row of YtoalaojghgdmcaaDoorRows.lean that lists a variable, with what it lists TIED to the program's text (the seventh form; the later family's looks); each row that meets fmt, with fmt's text TOLD by the authors' own Lean function (tested against real Go, not proved from fmt's source: count such statements apart). THE CARD IS WHAT COUNTS. Prove the row's statement (the work); the ties are given (YtoalaojghgdmcaaDoorTie.lean); close each card by the builder's one call (the guide's Derived/Test/ToyasCard.lean, 'card_holds'). Laid BY PROGRAM, IN A SANDBOX (cutbox-door.mjs). By AI agents, Wed Nov 11 2026. No macro, syntax, notation, axiom, sorry.
-/
import Derived.Test.YtoalaojghgdmcaaDoorRows
import GoSem.ClaimSeven
namespace Go.Proofs.YtoalaojghgdmcaaDoor
namespace Rows

/-- THE TIED CARD OF 'abridgerlaw1.UtfTells'. -/
def utfTellsCard : Claim7 := { stood := { row := utfTellsRow, standIns := [], harness := (true, "bddeaa276a7f8429a09355d637ee8deada437f4ca73be57b68cb71ce5b44df5a"), looks := false }, kinds := [], alts := [], laidByText := true, laidKinds := [.data, .pinned], laidTests := true, laidLooks := .later }
def UtfTellsCardSaid : Prop := Claim7.holds Tryd.pinned (.plain (OpenSpec.ofChange utfTellsSpec)) utfTellsCard

/-- THE TIED CARD OF 'abridgerlaw1.UtfBack'. -/
def utfBackCard : Claim7 := { stood := { row := utfBackRow, standIns := [], harness := (true, "bddeaa276a7f8429a09355d637ee8deada437f4ca73be57b68cb71ce5b44df5a"), looks := false }, kinds := [], alts := [], laidByText := true, laidKinds := [.data, .pinned], laidTests := true, laidLooks := .later }
def UtfBackCardSaid : Prop := Claim7.holds Tryd.pinned (.plain (OpenSpec.ofChange utfBackSpec)) utfBackCard

/-- THE TIED CARD OF 'abridgerlaw1.UtfWrong'. -/
def utfWrongCard : Claim7 := { stood := { row := utfWrongRow, standIns := [], harness := (true, "bddeaa276a7f8429a09355d637ee8deada437f4ca73be57b68cb71ce5b44df5a"), looks := false }, kinds := [], alts := [], laidByText := true, laidKinds := [.data, .pinned], laidTests := true, laidLooks := .later }
def UtfWrongCardSaid : Prop := Claim7.holds Tryd.pinned (.plain (OpenSpec.ofChange utfWrongSpec)) utfWrongCard

/-- THE TIED CARD OF 'abridgerlaw1.UtfJoins'. -/
def utfJoinsCard : Claim7 := { stood := { row := utfJoinsRow, standIns := [], harness := (true, "bddeaa276a7f8429a09355d637ee8deada437f4ca73be57b68cb71ce5b44df5a"), looks := false }, kinds := [], alts := [], laidByText := true, laidKinds := [.data, .pinned], laidTests := true, laidLooks := .later }
def UtfJoinsCardSaid : Prop := Claim7.holds Tryd.pinned (.plain (OpenSpec.ofChange utfJoinsSpec)) utfJoinsCard

/-- THE TIED CARD OF 'abridgerlaw1.UtfOrder'. -/
def utfOrderCard : Claim7 := { stood := { row := utfOrderRow, standIns := [], harness := (true, "bddeaa276a7f8429a09355d637ee8deada437f4ca73be57b68cb71ce5b44df5a"), looks := false }, kinds := [], alts := [], laidByText := true, laidKinds := [.data, .pinned], laidTests := true, laidLooks := .later }
def UtfOrderCardSaid : Prop := Claim7.holds Tryd.pinned (.plain (OpenSpec.ofChange utfOrderSpec)) utfOrderCard

/-- THE TIED CARD OF 'abridgerlaw2.LinesTell'. -/
def linesTellCard : Claim7 := { stood := { row := linesTellRow, standIns := [], harness := (true, "bddeaa276a7f8429a09355d637ee8deada437f4ca73be57b68cb71ce5b44df5a"), looks := false }, kinds := [], alts := [], laidByText := true, laidKinds := [.data, .pinned], laidTests := true, laidLooks := .later }
def LinesTellCardSaid : Prop := Claim7.holds Tryd.pinned (.plain (OpenSpec.ofChange linesTellSpec)) linesTellCard

/-- THE TIED CARD OF 'abridgerlaw2.LinesBack'. -/
def linesBackCard : Claim7 := { stood := { row := linesBackRow, standIns := [], harness := (true, "bddeaa276a7f8429a09355d637ee8deada437f4ca73be57b68cb71ce5b44df5a"), looks := false }, kinds := [], alts := [], laidByText := true, laidKinds := [.data, .pinned], laidTests := true, laidLooks := .later }
def LinesBackCardSaid : Prop := Claim7.holds Tryd.pinned (.plain (OpenSpec.ofChange linesBackSpec)) linesBackCard

/-- THE TIED CARD OF 'abridgerlaw2.LinesEnds'. -/
def linesEndsCard : Claim7 := { stood := { row := linesEndsRow, standIns := [], harness := (true, "bddeaa276a7f8429a09355d637ee8deada437f4ca73be57b68cb71ce5b44df5a"), looks := false }, kinds := [], alts := [], laidByText := true, laidKinds := [.data, .pinned], laidTests := true, laidLooks := .later }
def LinesEndsCardSaid : Prop := Claim7.holds Tryd.pinned (.plain (OpenSpec.ofChange linesEndsSpec)) linesEndsCard

/-- THE TIED CARD OF 'abridgerlaw2.LinesUnits'. -/
def linesUnitsCard : Claim7 := { stood := { row := linesUnitsRow, standIns := [], harness := (true, "bddeaa276a7f8429a09355d637ee8deada437f4ca73be57b68cb71ce5b44df5a"), looks := false }, kinds := [], alts := [], laidByText := true, laidKinds := [.data, .pinned], laidTests := true, laidLooks := .later }
def LinesUnitsCardSaid : Prop := Claim7.holds Tryd.pinned (.plain (OpenSpec.ofChange linesUnitsSpec)) linesUnitsCard

/-- THE TIED CARD OF 'abridgerlaw2.LinesOrder'. -/
def linesOrderCard : Claim7 := { stood := { row := linesOrderRow, standIns := [], harness := (true, "bddeaa276a7f8429a09355d637ee8deada437f4ca73be57b68cb71ce5b44df5a"), looks := false }, kinds := [], alts := [], laidByText := true, laidKinds := [.data, .pinned], laidTests := true, laidLooks := .later }
def LinesOrderCardSaid : Prop := Claim7.holds Tryd.pinned (.plain (OpenSpec.ofChange linesOrderSpec)) linesOrderCard

/-- THE TIED CARD OF 'abridgerlaw23.PiecesTell'. -/
def piecesTellCard : Claim7 := { stood := { row := piecesTellRow, standIns := [], harness := (true, "bddeaa276a7f8429a09355d637ee8deada437f4ca73be57b68cb71ce5b44df5a"), looks := false }, kinds := [], alts := [], laidByText := true, laidKinds := [.data, .pinned], laidTests := true, laidLooks := .later }
def PiecesTellCardSaid : Prop := Claim7.holds Tryd.pinned (.plain (OpenSpec.ofChange piecesTellSpec)) piecesTellCard

/-- THE TIED CARD OF 'abridgerlaw23.PiecesRise'. -/
def piecesRiseCard : Claim7 := { stood := { row := piecesRiseRow, standIns := [], harness := (true, "bddeaa276a7f8429a09355d637ee8deada437f4ca73be57b68cb71ce5b44df5a"), looks := false }, kinds := [], alts := [], laidByText := true, laidKinds := [.data, .pinned], laidTests := true, laidLooks := .later }
def PiecesRiseCardSaid : Prop := Claim7.holds Tryd.pinned (.plain (OpenSpec.ofChange piecesRiseSpec)) piecesRiseCard

/-- THE TIED CARD OF 'abridgerlaw23.PiecesPart'. -/
def piecesPartCard : Claim7 := { stood := { row := piecesPartRow, standIns := [], harness := (true, "bddeaa276a7f8429a09355d637ee8deada437f4ca73be57b68cb71ce5b44df5a"), looks := false }, kinds := [], alts := [], laidByText := true, laidKinds := [.data, .pinned], laidTests := true, laidLooks := .later }
def PiecesPartCardSaid : Prop := Claim7.holds Tryd.pinned (.plain (OpenSpec.ofChange piecesPartSpec)) piecesPartCard

/-- THE SECOND FORM's CARD OF 'abridgerlaw1.UtfTells'. -/
def utfTellsUptoCard : Claim7 := { stood := { row := utfTellsUptoRow, standIns := [], harness := (true, "bddeaa276a7f8429a09355d637ee8deada437f4ca73be57b68cb71ce5b44df5a"), looks := false }, kinds := [], alts := [], laidByText := true, laidKinds := [.data, .pinned], laidTests := true, laidLooks := .later }
def UtfTellsUptoCardSaid : Prop := Claim7.holds Tryd.pinned (.plain (OpenSpec.upto utfTellsSpec)) utfTellsUptoCard

/-- THE SECOND FORM's CARD OF 'abridgerlaw1.UtfBack'. -/
def utfBackUptoCard : Claim7 := { stood := { row := utfBackUptoRow, standIns := [], harness := (true, "bddeaa276a7f8429a09355d637ee8deada437f4ca73be57b68cb71ce5b44df5a"), looks := false }, kinds := [], alts := [], laidByText := true, laidKinds := [.data, .pinned], laidTests := true, laidLooks := .later }
def UtfBackUptoCardSaid : Prop := Claim7.holds Tryd.pinned (.plain (OpenSpec.upto utfBackSpec)) utfBackUptoCard

/-- THE SECOND FORM's CARD OF 'abridgerlaw1.UtfWrong'. -/
def utfWrongUptoCard : Claim7 := { stood := { row := utfWrongUptoRow, standIns := [], harness := (true, "bddeaa276a7f8429a09355d637ee8deada437f4ca73be57b68cb71ce5b44df5a"), looks := false }, kinds := [], alts := [], laidByText := true, laidKinds := [.data, .pinned], laidTests := true, laidLooks := .later }
def UtfWrongUptoCardSaid : Prop := Claim7.holds Tryd.pinned (.plain (OpenSpec.upto utfWrongSpec)) utfWrongUptoCard

/-- THE SECOND FORM's CARD OF 'abridgerlaw1.UtfJoins'. -/
def utfJoinsUptoCard : Claim7 := { stood := { row := utfJoinsUptoRow, standIns := [], harness := (true, "bddeaa276a7f8429a09355d637ee8deada437f4ca73be57b68cb71ce5b44df5a"), looks := false }, kinds := [], alts := [], laidByText := true, laidKinds := [.data, .pinned], laidTests := true, laidLooks := .later }
def UtfJoinsUptoCardSaid : Prop := Claim7.holds Tryd.pinned (.plain (OpenSpec.upto utfJoinsSpec)) utfJoinsUptoCard

/-- THE SECOND FORM's CARD OF 'abridgerlaw1.UtfOrder'. -/
def utfOrderUptoCard : Claim7 := { stood := { row := utfOrderUptoRow, standIns := [], harness := (true, "bddeaa276a7f8429a09355d637ee8deada437f4ca73be57b68cb71ce5b44df5a"), looks := false }, kinds := [], alts := [], laidByText := true, laidKinds := [.data, .pinned], laidTests := true, laidLooks := .later }
def UtfOrderUptoCardSaid : Prop := Claim7.holds Tryd.pinned (.plain (OpenSpec.upto utfOrderSpec)) utfOrderUptoCard

/-- THE SECOND FORM's CARD OF 'abridgerlaw2.LinesTell'. -/
def linesTellUptoCard : Claim7 := { stood := { row := linesTellUptoRow, standIns := [], harness := (true, "bddeaa276a7f8429a09355d637ee8deada437f4ca73be57b68cb71ce5b44df5a"), looks := false }, kinds := [], alts := [], laidByText := true, laidKinds := [.data, .pinned], laidTests := true, laidLooks := .later }
def LinesTellUptoCardSaid : Prop := Claim7.holds Tryd.pinned (.plain (OpenSpec.upto linesTellSpec)) linesTellUptoCard

/-- THE SECOND FORM's CARD OF 'abridgerlaw2.LinesBack'. -/
def linesBackUptoCard : Claim7 := { stood := { row := linesBackUptoRow, standIns := [], harness := (true, "bddeaa276a7f8429a09355d637ee8deada437f4ca73be57b68cb71ce5b44df5a"), looks := false }, kinds := [], alts := [], laidByText := true, laidKinds := [.data, .pinned], laidTests := true, laidLooks := .later }
def LinesBackUptoCardSaid : Prop := Claim7.holds Tryd.pinned (.plain (OpenSpec.upto linesBackSpec)) linesBackUptoCard

/-- THE SECOND FORM's CARD OF 'abridgerlaw2.LinesEnds'. -/
def linesEndsUptoCard : Claim7 := { stood := { row := linesEndsUptoRow, standIns := [], harness := (true, "bddeaa276a7f8429a09355d637ee8deada437f4ca73be57b68cb71ce5b44df5a"), looks := false }, kinds := [], alts := [], laidByText := true, laidKinds := [.data, .pinned], laidTests := true, laidLooks := .later }
def LinesEndsUptoCardSaid : Prop := Claim7.holds Tryd.pinned (.plain (OpenSpec.upto linesEndsSpec)) linesEndsUptoCard

/-- THE SECOND FORM's CARD OF 'abridgerlaw2.LinesUnits'. -/
def linesUnitsUptoCard : Claim7 := { stood := { row := linesUnitsUptoRow, standIns := [], harness := (true, "bddeaa276a7f8429a09355d637ee8deada437f4ca73be57b68cb71ce5b44df5a"), looks := false }, kinds := [], alts := [], laidByText := true, laidKinds := [.data, .pinned], laidTests := true, laidLooks := .later }
def LinesUnitsUptoCardSaid : Prop := Claim7.holds Tryd.pinned (.plain (OpenSpec.upto linesUnitsSpec)) linesUnitsUptoCard

/-- THE SECOND FORM's CARD OF 'abridgerlaw2.LinesOrder'. -/
def linesOrderUptoCard : Claim7 := { stood := { row := linesOrderUptoRow, standIns := [], harness := (true, "bddeaa276a7f8429a09355d637ee8deada437f4ca73be57b68cb71ce5b44df5a"), looks := false }, kinds := [], alts := [], laidByText := true, laidKinds := [.data, .pinned], laidTests := true, laidLooks := .later }
def LinesOrderUptoCardSaid : Prop := Claim7.holds Tryd.pinned (.plain (OpenSpec.upto linesOrderSpec)) linesOrderUptoCard

/-- THE SECOND FORM's CARD OF 'abridgerlaw23.PiecesTell'. -/
def piecesTellUptoCard : Claim7 := { stood := { row := piecesTellUptoRow, standIns := [], harness := (true, "bddeaa276a7f8429a09355d637ee8deada437f4ca73be57b68cb71ce5b44df5a"), looks := false }, kinds := [], alts := [], laidByText := true, laidKinds := [.data, .pinned], laidTests := true, laidLooks := .later }
def PiecesTellUptoCardSaid : Prop := Claim7.holds Tryd.pinned (.plain (OpenSpec.upto piecesTellSpec)) piecesTellUptoCard

/-- THE SECOND FORM's CARD OF 'abridgerlaw23.PiecesRise'. -/
def piecesRiseUptoCard : Claim7 := { stood := { row := piecesRiseUptoRow, standIns := [], harness := (true, "bddeaa276a7f8429a09355d637ee8deada437f4ca73be57b68cb71ce5b44df5a"), looks := false }, kinds := [], alts := [], laidByText := true, laidKinds := [.data, .pinned], laidTests := true, laidLooks := .later }
def PiecesRiseUptoCardSaid : Prop := Claim7.holds Tryd.pinned (.plain (OpenSpec.upto piecesRiseSpec)) piecesRiseUptoCard

/-- THE SECOND FORM's CARD OF 'abridgerlaw23.PiecesPart'. -/
def piecesPartUptoCard : Claim7 := { stood := { row := piecesPartUptoRow, standIns := [], harness := (true, "bddeaa276a7f8429a09355d637ee8deada437f4ca73be57b68cb71ce5b44df5a"), looks := false }, kinds := [], alts := [], laidByText := true, laidKinds := [.data, .pinned], laidTests := true, laidLooks := .later }
def PiecesPartUptoCardSaid : Prop := Claim7.holds Tryd.pinned (.plain (OpenSpec.upto piecesPartSpec)) piecesPartUptoCard
end Rows
end Go.Proofs.YtoalaojghgdmcaaDoor
