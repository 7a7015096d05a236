/-
  DERIVED. GIVEN WITH THE SEED: THE CARDS: each row of YtbcbpkpegfpbjaaDoorRows.lean that lists a variable, with what it lists TIED to the program's text (the seventh form; the later family's looks); each row that meets fmt, with fmt's text TOLD by the authors' own Lean function (tested against real Go, not proved from fmt's source: count such statements apart). THE CARD IS WHAT COUNTS. Prove the row's statement (the work); the ties are given (YtbcbpkpegfpbjaaDoorTie.lean); close each card by the builder's one call (the guide's Derived/Test/ToyasCard.lean, 'card_holds'). Laid BY PROGRAM, IN A SANDBOX (cutbox-door.mjs). By AI agents, Wed Nov 11 2026. No macro, syntax, notation, axiom, sorry.
-/
import Derived.Test.YtbcbpkpegfpbjaaDoorRows
import GoSem.ClaimSeven
namespace Go.Proofs.YtbcbpkpegfpbjaaDoor
namespace Rows

/-- THE TIED CARD OF 'abridgerlaw6.JlexTells'. -/
def jlexTellsCard : Claim7 := { stood := { row := jlexTellsRow, standIns := [], harness := (true, "37891ca8aece9786a16063a87d4857eb8360cdbe4e31061ad6db2b0d8bfe4d41"), looks := false }, kinds := [], alts := [], laidByText := true, laidKinds := [.data, .pinned], laidTests := true, laidLooks := .later }
def JlexTellsCardSaid : Prop := Claim7.holds Tryd.pinned (.plain (OpenSpec.ofChange jlexTellsSpec)) jlexTellsCard

/-- THE TIED CARD OF 'abridgerlaw6.JlexCovers'. -/
def jlexCoversCard : Claim7 := { stood := { row := jlexCoversRow, standIns := [], harness := (true, "37891ca8aece9786a16063a87d4857eb8360cdbe4e31061ad6db2b0d8bfe4d41"), looks := false }, kinds := [], alts := [], laidByText := true, laidKinds := [.data, .pinned], laidTests := true, laidLooks := .later }
def JlexCoversCardSaid : Prop := Claim7.holds Tryd.pinned (.plain (OpenSpec.ofChange jlexCoversSpec)) jlexCoversCard

/-- THE TIED CARD OF 'abridgerlaw6.JlexBlanks'. -/
def jlexBlanksCard : Claim7 := { stood := { row := jlexBlanksRow, standIns := [], harness := (true, "37891ca8aece9786a16063a87d4857eb8360cdbe4e31061ad6db2b0d8bfe4d41"), looks := false }, kinds := [], alts := [], laidByText := true, laidKinds := [.data, .pinned], laidTests := true, laidLooks := .later }
def JlexBlanksCardSaid : Prop := Claim7.holds Tryd.pinned (.plain (OpenSpec.ofChange jlexBlanksSpec)) jlexBlanksCard

/-- THE TIED CARD OF 'abridgerlaw6.JlexWrong'. -/
def jlexWrongCard : Claim7 := { stood := { row := jlexWrongRow, standIns := [], harness := (true, "37891ca8aece9786a16063a87d4857eb8360cdbe4e31061ad6db2b0d8bfe4d41"), looks := false }, kinds := [], alts := [], laidByText := true, laidKinds := [.data, .pinned], laidTests := true, laidLooks := .later }
def JlexWrongCardSaid : Prop := Claim7.holds Tryd.pinned (.plain (OpenSpec.ofChange jlexWrongSpec)) jlexWrongCard

/-- THE TIED CARD OF 'abridgerlaw6.JlexJoins'. -/
def jlexJoinsCard : Claim7 := { stood := { row := jlexJoinsRow, standIns := [], harness := (true, "37891ca8aece9786a16063a87d4857eb8360cdbe4e31061ad6db2b0d8bfe4d41"), looks := false }, kinds := [], alts := [], laidByText := true, laidKinds := [.data, .pinned], laidTests := true, laidLooks := .later }
def JlexJoinsCardSaid : Prop := Claim7.holds Tryd.pinned (.plain (OpenSpec.ofChange jlexJoinsSpec)) jlexJoinsCard

/-- THE SECOND FORM's CARD OF 'abridgerlaw6.JlexTells'. -/
def jlexTellsUptoCard : Claim7 := { stood := { row := jlexTellsUptoRow, standIns := [], harness := (true, "37891ca8aece9786a16063a87d4857eb8360cdbe4e31061ad6db2b0d8bfe4d41"), looks := false }, kinds := [], alts := [], laidByText := true, laidKinds := [.data, .pinned], laidTests := true, laidLooks := .later }
def JlexTellsUptoCardSaid : Prop := Claim7.holds Tryd.pinned (.plain (OpenSpec.upto jlexTellsSpec)) jlexTellsUptoCard

/-- THE SECOND FORM's CARD OF 'abridgerlaw6.JlexCovers'. -/
def jlexCoversUptoCard : Claim7 := { stood := { row := jlexCoversUptoRow, standIns := [], harness := (true, "37891ca8aece9786a16063a87d4857eb8360cdbe4e31061ad6db2b0d8bfe4d41"), looks := false }, kinds := [], alts := [], laidByText := true, laidKinds := [.data, .pinned], laidTests := true, laidLooks := .later }
def JlexCoversUptoCardSaid : Prop := Claim7.holds Tryd.pinned (.plain (OpenSpec.upto jlexCoversSpec)) jlexCoversUptoCard

/-- THE SECOND FORM's CARD OF 'abridgerlaw6.JlexBlanks'. -/
def jlexBlanksUptoCard : Claim7 := { stood := { row := jlexBlanksUptoRow, standIns := [], harness := (true, "37891ca8aece9786a16063a87d4857eb8360cdbe4e31061ad6db2b0d8bfe4d41"), looks := false }, kinds := [], alts := [], laidByText := true, laidKinds := [.data, .pinned], laidTests := true, laidLooks := .later }
def JlexBlanksUptoCardSaid : Prop := Claim7.holds Tryd.pinned (.plain (OpenSpec.upto jlexBlanksSpec)) jlexBlanksUptoCard

/-- THE SECOND FORM's CARD OF 'abridgerlaw6.JlexWrong'. -/
def jlexWrongUptoCard : Claim7 := { stood := { row := jlexWrongUptoRow, standIns := [], harness := (true, "37891ca8aece9786a16063a87d4857eb8360cdbe4e31061ad6db2b0d8bfe4d41"), looks := false }, kinds := [], alts := [], laidByText := true, laidKinds := [.data, .pinned], laidTests := true, laidLooks := .later }
def JlexWrongUptoCardSaid : Prop := Claim7.holds Tryd.pinned (.plain (OpenSpec.upto jlexWrongSpec)) jlexWrongUptoCard

/-- THE SECOND FORM's CARD OF 'abridgerlaw6.JlexJoins'. -/
def jlexJoinsUptoCard : Claim7 := { stood := { row := jlexJoinsUptoRow, standIns := [], harness := (true, "37891ca8aece9786a16063a87d4857eb8360cdbe4e31061ad6db2b0d8bfe4d41"), looks := false }, kinds := [], alts := [], laidByText := true, laidKinds := [.data, .pinned], laidTests := true, laidLooks := .later }
def JlexJoinsUptoCardSaid : Prop := Claim7.holds Tryd.pinned (.plain (OpenSpec.upto jlexJoinsSpec)) jlexJoinsUptoCard
end Rows
end Go.Proofs.YtbcbpkpegfpbjaaDoor
