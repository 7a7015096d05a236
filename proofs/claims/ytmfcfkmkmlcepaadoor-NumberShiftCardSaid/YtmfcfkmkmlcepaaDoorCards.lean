/-
  DERIVED. GIVEN WITH THE SEED: THE CARDS: each row of YtmfcfkmkmlcepaaDoorRows.lean that lists a variable, with what it lists TIED to the program's text (the seventh form; the later family's looks); each row that meets fmt, with fmt's text TOLD by the authors' own Lean function (tested against real Go, not proved from fmt's source: count such statements apart). THE CARD IS WHAT COUNTS. Prove the row's statement (the work); the ties are given (YtmfcfkmkmlcepaaDoorTie.lean); close each card by the builder's one call (the guide's Derived/Test/ToyasCard.lean, 'card_holds'). Laid BY PROGRAM, IN A SANDBOX (cutbox-door.mjs). By AI agents, Wed Nov 11 2026. No macro, syntax, notation, axiom, sorry.
-/
import Derived.Test.YtmfcfkmkmlcepaaDoorRows
import GoSem.ClaimSeven
namespace Go.Proofs.YtmfcfkmkmlcepaaDoor
namespace Rows

/-- THE TIED CARD OF 'abridgerlaw5.NumberBack'. -/
def numberBackCard : Claim7 := { stood := { row := numberBackRow, standIns := [], harness := (true, "11cd66c79518e9f2ec0f8c3698d88eeba85b7d870b03a6eb3d97b146564a557d"), looks := true }, kinds := [], alts := [], laidByText := true, laidKinds := [.data, .data, .data, .data, .sentinel, .sentinel, .pinned], laidTests := true, laidLooks := .later }
def NumberBackCardSaid : Prop := Claim7.holds Tryd.pinned (.plain (OpenSpec.ofChange numberBackSpec)) numberBackCard

/-- THE TIED CARD OF 'abridgerlaw5.NumberShift'. -/
def numberShiftCard : Claim7 := { stood := { row := numberShiftRow, standIns := [], harness := (true, "11cd66c79518e9f2ec0f8c3698d88eeba85b7d870b03a6eb3d97b146564a557d"), looks := true }, kinds := [], alts := [], laidByText := true, laidKinds := [.data, .data, .data, .data, .sentinel, .sentinel, .pinned], laidTests := true, laidLooks := .later }
def NumberShiftCardSaid : Prop := Claim7.holds Tryd.pinned (.plain (OpenSpec.ofChange numberShiftSpec)) numberShiftCard

/-- THE TIED CARD OF 'abridgerlaw5.NumberWrong'. -/
def numberWrongCard : Claim7 := { stood := { row := numberWrongRow, standIns := [], harness := (true, "11cd66c79518e9f2ec0f8c3698d88eeba85b7d870b03a6eb3d97b146564a557d"), looks := true }, kinds := [], alts := [], laidByText := true, laidKinds := [.data, .data, .data, .data, .sentinel, .sentinel, .pinned], laidTests := true, laidLooks := .later }
def NumberWrongCardSaid : Prop := Claim7.holds Tryd.pinned (.plain (OpenSpec.ofChange numberWrongSpec)) numberWrongCard

/-- THE TIED CARD OF 'abridgerlaw5.NumberValue'. -/
def numberValueCard : Claim7 := { stood := { row := numberValueRow, standIns := [], harness := (true, "11cd66c79518e9f2ec0f8c3698d88eeba85b7d870b03a6eb3d97b146564a557d"), looks := true }, kinds := [], alts := [], laidByText := true, laidKinds := [.data, .data, .data, .data, .sentinel, .sentinel, .pinned], laidTests := true, laidLooks := .later }
def NumberValueCardSaid : Prop := Claim7.holds Tryd.pinned (.plain (OpenSpec.ofChange numberValueSpec)) numberValueCard

/-- THE SECOND FORM's CARD OF 'abridgerlaw5.NumberBack'. -/
def numberBackUptoCard : Claim7 := { stood := { row := numberBackUptoRow, standIns := [], harness := (true, "11cd66c79518e9f2ec0f8c3698d88eeba85b7d870b03a6eb3d97b146564a557d"), looks := true }, kinds := [], alts := [], laidByText := true, laidKinds := [.data, .data, .data, .data, .sentinel, .sentinel, .pinned], laidTests := true, laidLooks := .later }
def NumberBackUptoCardSaid : Prop := Claim7.holds Tryd.pinned (.plain (OpenSpec.upto numberBackSpec)) numberBackUptoCard

/-- THE SECOND FORM's CARD OF 'abridgerlaw5.NumberShift'. -/
def numberShiftUptoCard : Claim7 := { stood := { row := numberShiftUptoRow, standIns := [], harness := (true, "11cd66c79518e9f2ec0f8c3698d88eeba85b7d870b03a6eb3d97b146564a557d"), looks := true }, kinds := [], alts := [], laidByText := true, laidKinds := [.data, .data, .data, .data, .sentinel, .sentinel, .pinned], laidTests := true, laidLooks := .later }
def NumberShiftUptoCardSaid : Prop := Claim7.holds Tryd.pinned (.plain (OpenSpec.upto numberShiftSpec)) numberShiftUptoCard

/-- THE SECOND FORM's CARD OF 'abridgerlaw5.NumberWrong'. -/
def numberWrongUptoCard : Claim7 := { stood := { row := numberWrongUptoRow, standIns := [], harness := (true, "11cd66c79518e9f2ec0f8c3698d88eeba85b7d870b03a6eb3d97b146564a557d"), looks := true }, kinds := [], alts := [], laidByText := true, laidKinds := [.data, .data, .data, .data, .sentinel, .sentinel, .pinned], laidTests := true, laidLooks := .later }
def NumberWrongUptoCardSaid : Prop := Claim7.holds Tryd.pinned (.plain (OpenSpec.upto numberWrongSpec)) numberWrongUptoCard

/-- THE SECOND FORM's CARD OF 'abridgerlaw5.NumberValue'. -/
def numberValueUptoCard : Claim7 := { stood := { row := numberValueUptoRow, standIns := [], harness := (true, "11cd66c79518e9f2ec0f8c3698d88eeba85b7d870b03a6eb3d97b146564a557d"), looks := true }, kinds := [], alts := [], laidByText := true, laidKinds := [.data, .data, .data, .data, .sentinel, .sentinel, .pinned], laidTests := true, laidLooks := .later }
def NumberValueUptoCardSaid : Prop := Claim7.holds Tryd.pinned (.plain (OpenSpec.upto numberValueSpec)) numberValueUptoCard
end Rows
end Go.Proofs.YtmfcfkmkmlcepaaDoor
