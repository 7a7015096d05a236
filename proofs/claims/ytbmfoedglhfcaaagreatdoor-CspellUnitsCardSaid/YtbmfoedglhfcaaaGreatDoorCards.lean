/-
  DERIVED. GIVEN WITH THE SEED: THE CARDS: each row of YtbmfoedglhfcaaaGreatDoorRows.lean that lists a variable, with what it lists TIED to the program's text (the seventh form; the later family's looks); each row that meets fmt, with fmt's text TOLD by the authors' own Lean function (tested against real Go, not proved from fmt's source: count such statements apart). THE CARD IS WHAT COUNTS. Prove the row's statement (the work); the ties are given (YtbmfoedglhfcaaaGreatDoorTie.lean); close each card by the builder's one call (the guide's Derived/Test/ToyasCard.lean, 'card_holds'). Laid BY PROGRAM, IN A SANDBOX (cutbox-door.mjs). By AI agents, Wed Nov 11 2026. No macro, syntax, notation, axiom, sorry.
-/
import Derived.Test.YtbmfoedglhfcaaaGreatDoorRows
import GoSem.ClaimSeven
namespace Go.Proofs.YtbmfoedglhfcaaaGreatDoor
namespace Rows

/-- THE TIED CARD OF 'abridgerlaw16.CspellTells'. -/
def cspellTellsCard : Claim7 := { stood := { row := cspellTellsRow, standIns := [], harness := (true, "27f65d03ff76d9ecf9c63cde2eccadc7a781f2714e23ee3479fa42f4c6906f0b"), looks := true }, kinds := [], alts := [], laidByText := true, laidKinds := [.data, .data, .data, .data, .sentinel, .sentinel, .pinned], laidTests := true, laidLooks := .later }
def CspellTellsCardSaid : Prop := Claim7.holds Tryz.pinned (.plain (OpenSpec.ofChange cspellTellsSpec)) cspellTellsCard

/-- THE TIED CARD OF 'abridgerlaw16.CspellBack'. -/
def cspellBackCard : Claim7 := { stood := { row := cspellBackRow, standIns := [], harness := (true, "27f65d03ff76d9ecf9c63cde2eccadc7a781f2714e23ee3479fa42f4c6906f0b"), looks := true }, kinds := [], alts := [], laidByText := true, laidKinds := [.data, .data, .data, .data, .sentinel, .sentinel, .pinned], laidTests := true, laidLooks := .later }
def CspellBackCardSaid : Prop := Claim7.holds Tryz.pinned (.plain (OpenSpec.ofChange cspellBackSpec)) cspellBackCard

/-- THE TIED CARD OF 'abridgerlaw16.CspellAll'. -/
def cspellAllCard : Claim7 := { stood := { row := cspellAllRow, standIns := [], harness := (true, "27f65d03ff76d9ecf9c63cde2eccadc7a781f2714e23ee3479fa42f4c6906f0b"), looks := true }, kinds := [], alts := [], laidByText := true, laidKinds := [.data, .data, .data, .data, .sentinel, .sentinel, .pinned], laidTests := true, laidLooks := .later }
def CspellAllCardSaid : Prop := Claim7.holds Tryz.pinned (.plain (OpenSpec.ofChange cspellAllSpec)) cspellAllCard

/-- THE TIED CARD OF 'abridgerlaw16.CspellShort'. -/
def cspellShortCard : Claim7 := { stood := { row := cspellShortRow, standIns := [], harness := (true, "27f65d03ff76d9ecf9c63cde2eccadc7a781f2714e23ee3479fa42f4c6906f0b"), looks := true }, kinds := [], alts := [], laidByText := true, laidKinds := [.data, .data, .data, .data, .sentinel, .sentinel, .pinned], laidTests := true, laidLooks := .later }
def CspellShortCardSaid : Prop := Claim7.holds Tryz.pinned (.plain (OpenSpec.ofChange cspellShortSpec)) cspellShortCard

/-- THE TIED CARD OF 'abridgerlaw16.CspellUnits'. -/
def cspellUnitsCard : Claim7 := { stood := { row := cspellUnitsRow, standIns := [], harness := (true, "27f65d03ff76d9ecf9c63cde2eccadc7a781f2714e23ee3479fa42f4c6906f0b"), looks := true }, kinds := [], alts := [], laidByText := true, laidKinds := [.data, .data, .data, .data, .sentinel, .sentinel, .pinned], laidTests := true, laidLooks := .later }
def CspellUnitsCardSaid : Prop := Claim7.holds Tryz.pinned (.plain (OpenSpec.ofChange cspellUnitsSpec)) cspellUnitsCard

/-- THE TIED CARD OF 'abridgerlaw17.CglueTells'. -/
def cglueTellsCard : Claim7 := { stood := { row := cglueTellsRow, standIns := [], harness := (true, "27f65d03ff76d9ecf9c63cde2eccadc7a781f2714e23ee3479fa42f4c6906f0b"), looks := true }, kinds := [], alts := [], laidByText := true, laidKinds := [.data, .data, .data, .data, .sentinel, .sentinel, .pinned], laidTests := true, laidLooks := .later }
def CglueTellsCardSaid : Prop := Claim7.holds Tryz.pinned (.plain (OpenSpec.ofChange cglueTellsSpec)) cglueTellsCard

/-- THE TIED CARD OF 'abridgerlaw17.CglueAlone'. -/
def cglueAloneCard : Claim7 := { stood := { row := cglueAloneRow, standIns := [], harness := (true, "27f65d03ff76d9ecf9c63cde2eccadc7a781f2714e23ee3479fa42f4c6906f0b"), looks := true }, kinds := [], alts := [], laidByText := true, laidKinds := [.data, .data, .data, .data, .sentinel, .sentinel, .pinned], laidTests := true, laidLooks := .later }
def CglueAloneCardSaid : Prop := Claim7.holds Tryz.pinned (.plain (OpenSpec.ofChange cglueAloneSpec)) cglueAloneCard

/-- THE TIED CARD OF 'abridgerlaw17.CglueTable'. -/
def cglueTableCard : Claim7 := { stood := { row := cglueTableRow, standIns := [], harness := (true, "27f65d03ff76d9ecf9c63cde2eccadc7a781f2714e23ee3479fa42f4c6906f0b"), looks := true }, kinds := [], alts := [], laidByText := true, laidKinds := [.data, .data, .data, .data, .sentinel, .sentinel, .pinned], laidTests := true, laidLooks := .later }
def CglueTableCardSaid : Prop := Claim7.holds Tryz.pinned (.plain (OpenSpec.ofChange cglueTableSpec)) cglueTableCard

/-- THE TIED CARD OF 'abridgerlaw17.CglueThree'. -/
def cglueThreeCard : Claim7 := { stood := { row := cglueThreeRow, standIns := [], harness := (true, "27f65d03ff76d9ecf9c63cde2eccadc7a781f2714e23ee3479fa42f4c6906f0b"), looks := true }, kinds := [], alts := [], laidByText := true, laidKinds := [.data, .data, .data, .data, .sentinel, .sentinel, .pinned], laidTests := true, laidLooks := .later }
def CglueThreeCardSaid : Prop := Claim7.holds Tryz.pinned (.plain (OpenSpec.ofChange cglueThreeSpec)) cglueThreeCard

/-- THE TIED CARD OF 'abridgerlaw17.CglueSpaced'. -/
def cglueSpacedCard : Claim7 := { stood := { row := cglueSpacedRow, standIns := [], harness := (true, "27f65d03ff76d9ecf9c63cde2eccadc7a781f2714e23ee3479fa42f4c6906f0b"), looks := true }, kinds := [], alts := [], laidByText := true, laidKinds := [.data, .data, .data, .data, .sentinel, .sentinel, .pinned], laidTests := true, laidLooks := .later }
def CglueSpacedCardSaid : Prop := Claim7.holds Tryz.pinned (.plain (OpenSpec.ofChange cglueSpacedSpec)) cglueSpacedCard

/-- THE SECOND FORM's CARD OF 'abridgerlaw16.CspellTells'. -/
def cspellTellsUptoCard : Claim7 := { stood := { row := cspellTellsUptoRow, standIns := [], harness := (true, "27f65d03ff76d9ecf9c63cde2eccadc7a781f2714e23ee3479fa42f4c6906f0b"), looks := true }, kinds := [], alts := [], laidByText := true, laidKinds := [.data, .data, .data, .data, .sentinel, .sentinel, .pinned], laidTests := true, laidLooks := .later }
def CspellTellsUptoCardSaid : Prop := Claim7.holds Tryz.pinned (.plain (OpenSpec.upto cspellTellsSpec)) cspellTellsUptoCard

/-- THE SECOND FORM's CARD OF 'abridgerlaw16.CspellBack'. -/
def cspellBackUptoCard : Claim7 := { stood := { row := cspellBackUptoRow, standIns := [], harness := (true, "27f65d03ff76d9ecf9c63cde2eccadc7a781f2714e23ee3479fa42f4c6906f0b"), looks := true }, kinds := [], alts := [], laidByText := true, laidKinds := [.data, .data, .data, .data, .sentinel, .sentinel, .pinned], laidTests := true, laidLooks := .later }
def CspellBackUptoCardSaid : Prop := Claim7.holds Tryz.pinned (.plain (OpenSpec.upto cspellBackSpec)) cspellBackUptoCard

/-- THE SECOND FORM's CARD OF 'abridgerlaw16.CspellAll'. -/
def cspellAllUptoCard : Claim7 := { stood := { row := cspellAllUptoRow, standIns := [], harness := (true, "27f65d03ff76d9ecf9c63cde2eccadc7a781f2714e23ee3479fa42f4c6906f0b"), looks := true }, kinds := [], alts := [], laidByText := true, laidKinds := [.data, .data, .data, .data, .sentinel, .sentinel, .pinned], laidTests := true, laidLooks := .later }
def CspellAllUptoCardSaid : Prop := Claim7.holds Tryz.pinned (.plain (OpenSpec.upto cspellAllSpec)) cspellAllUptoCard

/-- THE SECOND FORM's CARD OF 'abridgerlaw16.CspellShort'. -/
def cspellShortUptoCard : Claim7 := { stood := { row := cspellShortUptoRow, standIns := [], harness := (true, "27f65d03ff76d9ecf9c63cde2eccadc7a781f2714e23ee3479fa42f4c6906f0b"), looks := true }, kinds := [], alts := [], laidByText := true, laidKinds := [.data, .data, .data, .data, .sentinel, .sentinel, .pinned], laidTests := true, laidLooks := .later }
def CspellShortUptoCardSaid : Prop := Claim7.holds Tryz.pinned (.plain (OpenSpec.upto cspellShortSpec)) cspellShortUptoCard

/-- THE SECOND FORM's CARD OF 'abridgerlaw16.CspellUnits'. -/
def cspellUnitsUptoCard : Claim7 := { stood := { row := cspellUnitsUptoRow, standIns := [], harness := (true, "27f65d03ff76d9ecf9c63cde2eccadc7a781f2714e23ee3479fa42f4c6906f0b"), looks := true }, kinds := [], alts := [], laidByText := true, laidKinds := [.data, .data, .data, .data, .sentinel, .sentinel, .pinned], laidTests := true, laidLooks := .later }
def CspellUnitsUptoCardSaid : Prop := Claim7.holds Tryz.pinned (.plain (OpenSpec.upto cspellUnitsSpec)) cspellUnitsUptoCard

/-- THE SECOND FORM's CARD OF 'abridgerlaw17.CglueTells'. -/
def cglueTellsUptoCard : Claim7 := { stood := { row := cglueTellsUptoRow, standIns := [], harness := (true, "27f65d03ff76d9ecf9c63cde2eccadc7a781f2714e23ee3479fa42f4c6906f0b"), looks := true }, kinds := [], alts := [], laidByText := true, laidKinds := [.data, .data, .data, .data, .sentinel, .sentinel, .pinned], laidTests := true, laidLooks := .later }
def CglueTellsUptoCardSaid : Prop := Claim7.holds Tryz.pinned (.plain (OpenSpec.upto cglueTellsSpec)) cglueTellsUptoCard

/-- THE SECOND FORM's CARD OF 'abridgerlaw17.CglueAlone'. -/
def cglueAloneUptoCard : Claim7 := { stood := { row := cglueAloneUptoRow, standIns := [], harness := (true, "27f65d03ff76d9ecf9c63cde2eccadc7a781f2714e23ee3479fa42f4c6906f0b"), looks := true }, kinds := [], alts := [], laidByText := true, laidKinds := [.data, .data, .data, .data, .sentinel, .sentinel, .pinned], laidTests := true, laidLooks := .later }
def CglueAloneUptoCardSaid : Prop := Claim7.holds Tryz.pinned (.plain (OpenSpec.upto cglueAloneSpec)) cglueAloneUptoCard

/-- THE SECOND FORM's CARD OF 'abridgerlaw17.CglueTable'. -/
def cglueTableUptoCard : Claim7 := { stood := { row := cglueTableUptoRow, standIns := [], harness := (true, "27f65d03ff76d9ecf9c63cde2eccadc7a781f2714e23ee3479fa42f4c6906f0b"), looks := true }, kinds := [], alts := [], laidByText := true, laidKinds := [.data, .data, .data, .data, .sentinel, .sentinel, .pinned], laidTests := true, laidLooks := .later }
def CglueTableUptoCardSaid : Prop := Claim7.holds Tryz.pinned (.plain (OpenSpec.upto cglueTableSpec)) cglueTableUptoCard

/-- THE SECOND FORM's CARD OF 'abridgerlaw17.CglueThree'. -/
def cglueThreeUptoCard : Claim7 := { stood := { row := cglueThreeUptoRow, standIns := [], harness := (true, "27f65d03ff76d9ecf9c63cde2eccadc7a781f2714e23ee3479fa42f4c6906f0b"), looks := true }, kinds := [], alts := [], laidByText := true, laidKinds := [.data, .data, .data, .data, .sentinel, .sentinel, .pinned], laidTests := true, laidLooks := .later }
def CglueThreeUptoCardSaid : Prop := Claim7.holds Tryz.pinned (.plain (OpenSpec.upto cglueThreeSpec)) cglueThreeUptoCard

/-- THE SECOND FORM's CARD OF 'abridgerlaw17.CglueSpaced'. -/
def cglueSpacedUptoCard : Claim7 := { stood := { row := cglueSpacedUptoRow, standIns := [], harness := (true, "27f65d03ff76d9ecf9c63cde2eccadc7a781f2714e23ee3479fa42f4c6906f0b"), looks := true }, kinds := [], alts := [], laidByText := true, laidKinds := [.data, .data, .data, .data, .sentinel, .sentinel, .pinned], laidTests := true, laidLooks := .later }
def CglueSpacedUptoCardSaid : Prop := Claim7.holds Tryz.pinned (.plain (OpenSpec.upto cglueSpacedSpec)) cglueSpacedUptoCard
end Rows
end Go.Proofs.YtbmfoedglhfcaaaGreatDoor
