/-
  DERIVED. GIVEN WITH THE SEED: THE CARDS: each row of YtpnlkahebdipcaaDoorRows.lean that lists a variable, with what it lists TIED to the program's text (the seventh form; the later family's looks); each row that meets fmt, with fmt's text TOLD by the authors' own Lean function (tested against real Go, not proved from fmt's source: count such statements apart). THE CARD IS WHAT COUNTS. Prove the row's statement (the work); the ties are given (YtpnlkahebdipcaaDoorTie.lean); close each card by the builder's one call (the guide's Derived/Test/ToyasCard.lean, 'card_holds'). Laid BY PROGRAM, IN A SANDBOX (cutbox-door.mjs). By AI agents, Wed Nov 11 2026. No macro, syntax, notation, axiom, sorry.
-/
import Derived.Test.YtpnlkahebdipcaaDoorRows
import GoSem.ClaimSeven
namespace Go.Proofs.YtpnlkahebdipcaaDoor
namespace Rows

/-- THE TIED CARD OF 'abridgerlaw13.CinputTells'. -/
def cinputTellsCard : Claim7 := { stood := { row := cinputTellsRow, standIns := [], harness := (true, "de40a6ea63b8abf66fd7cd3e60da676bbcae8b5781ee1edaf46ff81d541138b1"), looks := false }, kinds := [], alts := [], laidByText := true, laidKinds := [.data, .pinned], laidTests := true, laidLooks := .later }
def CinputTellsCardSaid : Prop := Claim7.holds Tryd.pinned (.plain (OpenSpec.ofChange cinputTellsSpec)) cinputTellsCard

/-- THE TIED CARD OF 'abridgerlaw13.CinputTwice'. -/
def cinputTwiceCard : Claim7 := { stood := { row := cinputTwiceRow, standIns := [], harness := (true, "de40a6ea63b8abf66fd7cd3e60da676bbcae8b5781ee1edaf46ff81d541138b1"), looks := false }, kinds := [], alts := [], laidByText := true, laidKinds := [.data, .pinned], laidTests := true, laidLooks := .later }
def CinputTwiceCardSaid : Prop := Claim7.holds Tryd.pinned (.plain (OpenSpec.ofChange cinputTwiceSpec)) cinputTwiceCard

/-- THE TIED CARD OF 'abridgerlaw13.CinputEnds'. -/
def cinputEndsCard : Claim7 := { stood := { row := cinputEndsRow, standIns := [], harness := (true, "de40a6ea63b8abf66fd7cd3e60da676bbcae8b5781ee1edaf46ff81d541138b1"), looks := false }, kinds := [], alts := [], laidByText := true, laidKinds := [.data, .pinned], laidTests := true, laidLooks := .later }
def CinputEndsCardSaid : Prop := Claim7.holds Tryd.pinned (.plain (OpenSpec.ofChange cinputEndsSpec)) cinputEndsCard

/-- THE TIED CARD OF 'abridgerlaw13.CinputJoins'. -/
def cinputJoinsCard : Claim7 := { stood := { row := cinputJoinsRow, standIns := [], harness := (true, "de40a6ea63b8abf66fd7cd3e60da676bbcae8b5781ee1edaf46ff81d541138b1"), looks := false }, kinds := [], alts := [], laidByText := true, laidKinds := [.data, .pinned], laidTests := true, laidLooks := .later }
def CinputJoinsCardSaid : Prop := Claim7.holds Tryd.pinned (.plain (OpenSpec.ofChange cinputJoinsSpec)) cinputJoinsCard

/-- THE SECOND FORM's CARD OF 'abridgerlaw13.CinputTells'. -/
def cinputTellsUptoCard : Claim7 := { stood := { row := cinputTellsUptoRow, standIns := [], harness := (true, "de40a6ea63b8abf66fd7cd3e60da676bbcae8b5781ee1edaf46ff81d541138b1"), looks := false }, kinds := [], alts := [], laidByText := true, laidKinds := [.data, .pinned], laidTests := true, laidLooks := .later }
def CinputTellsUptoCardSaid : Prop := Claim7.holds Tryd.pinned (.plain (OpenSpec.upto cinputTellsSpec)) cinputTellsUptoCard

/-- THE SECOND FORM's CARD OF 'abridgerlaw13.CinputTwice'. -/
def cinputTwiceUptoCard : Claim7 := { stood := { row := cinputTwiceUptoRow, standIns := [], harness := (true, "de40a6ea63b8abf66fd7cd3e60da676bbcae8b5781ee1edaf46ff81d541138b1"), looks := false }, kinds := [], alts := [], laidByText := true, laidKinds := [.data, .pinned], laidTests := true, laidLooks := .later }
def CinputTwiceUptoCardSaid : Prop := Claim7.holds Tryd.pinned (.plain (OpenSpec.upto cinputTwiceSpec)) cinputTwiceUptoCard

/-- THE SECOND FORM's CARD OF 'abridgerlaw13.CinputEnds'. -/
def cinputEndsUptoCard : Claim7 := { stood := { row := cinputEndsUptoRow, standIns := [], harness := (true, "de40a6ea63b8abf66fd7cd3e60da676bbcae8b5781ee1edaf46ff81d541138b1"), looks := false }, kinds := [], alts := [], laidByText := true, laidKinds := [.data, .pinned], laidTests := true, laidLooks := .later }
def CinputEndsUptoCardSaid : Prop := Claim7.holds Tryd.pinned (.plain (OpenSpec.upto cinputEndsSpec)) cinputEndsUptoCard

/-- THE SECOND FORM's CARD OF 'abridgerlaw13.CinputJoins'. -/
def cinputJoinsUptoCard : Claim7 := { stood := { row := cinputJoinsUptoRow, standIns := [], harness := (true, "de40a6ea63b8abf66fd7cd3e60da676bbcae8b5781ee1edaf46ff81d541138b1"), looks := false }, kinds := [], alts := [], laidByText := true, laidKinds := [.data, .pinned], laidTests := true, laidLooks := .later }
def CinputJoinsUptoCardSaid : Prop := Claim7.holds Tryd.pinned (.plain (OpenSpec.upto cinputJoinsSpec)) cinputJoinsUptoCard
end Rows
end Go.Proofs.YtpnlkahebdipcaaDoor
