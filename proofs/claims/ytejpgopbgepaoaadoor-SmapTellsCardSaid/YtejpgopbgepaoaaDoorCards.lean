/-
  DERIVED. GIVEN WITH THE SEED: THE CARDS: each row of YtejpgopbgepaoaaDoorRows.lean that lists a variable, with what it lists TIED to the program's text (the seventh form; the later family's looks); each row that meets fmt, with fmt's text TOLD by the authors' own Lean function (tested against real Go, not proved from fmt's source: count such statements apart). THE CARD IS WHAT COUNTS. Prove the row's statement (the work); the ties are given (YtejpgopbgepaoaaDoorTie.lean); close each card by the builder's one call (the guide's Derived/Test/ToyasCard.lean, 'card_holds'). Laid BY PROGRAM, IN A SANDBOX (cutbox-door.mjs). By AI agents, Wed Nov 11 2026. No macro, syntax, notation, axiom, sorry.
-/
import Derived.Test.YtejpgopbgepaoaaDoorRows
import GoSem.ClaimSeven
namespace Go.Proofs.YtejpgopbgepaoaaDoor
namespace Rows

/-- THE TIED CARD OF 'abridgerlaw24.SmapTells'. -/
def smapTellsCard : Claim7 := { stood := { row := smapTellsRow, standIns := [], harness := (true, "8589fc1b1f4fae9cea67fd279601425e2a1cf85ad6c48a43073f2a2918e086e4"), looks := false }, kinds := [], alts := [], laidByText := true, laidKinds := [.data, .pinned], laidTests := true, laidLooks := .later }
def SmapTellsCardSaid : Prop := Claim7.holds Tryd.pinned (.plain (OpenSpec.ofChange smapTellsSpec)) smapTellsCard

/-- THE TIED CARD OF 'abridgerlaw24.SmapWrong'. -/
def smapWrongCard : Claim7 := { stood := { row := smapWrongRow, standIns := [], harness := (true, "8589fc1b1f4fae9cea67fd279601425e2a1cf85ad6c48a43073f2a2918e086e4"), looks := false }, kinds := [], alts := [], laidByText := true, laidKinds := [.data, .pinned], laidTests := true, laidLooks := .later }
def SmapWrongCardSaid : Prop := Claim7.holds Tryd.pinned (.plain (OpenSpec.ofChange smapWrongSpec)) smapWrongCard

/-- THE TIED CARD OF 'abridgerlaw24.SmapShift'. -/
def smapShiftCard : Claim7 := { stood := { row := smapShiftRow, standIns := [], harness := (true, "8589fc1b1f4fae9cea67fd279601425e2a1cf85ad6c48a43073f2a2918e086e4"), looks := false }, kinds := [], alts := [], laidByText := true, laidKinds := [.data, .pinned], laidTests := true, laidLooks := .later }
def SmapShiftCardSaid : Prop := Claim7.holds Tryd.pinned (.plain (OpenSpec.ofChange smapShiftSpec)) smapShiftCard

/-- THE SECOND FORM's CARD OF 'abridgerlaw24.SmapTells'. -/
def smapTellsUptoCard : Claim7 := { stood := { row := smapTellsUptoRow, standIns := [], harness := (true, "8589fc1b1f4fae9cea67fd279601425e2a1cf85ad6c48a43073f2a2918e086e4"), looks := false }, kinds := [], alts := [], laidByText := true, laidKinds := [.data, .pinned], laidTests := true, laidLooks := .later }
def SmapTellsUptoCardSaid : Prop := Claim7.holds Tryd.pinned (.plain (OpenSpec.upto smapTellsSpec)) smapTellsUptoCard

/-- THE SECOND FORM's CARD OF 'abridgerlaw24.SmapWrong'. -/
def smapWrongUptoCard : Claim7 := { stood := { row := smapWrongUptoRow, standIns := [], harness := (true, "8589fc1b1f4fae9cea67fd279601425e2a1cf85ad6c48a43073f2a2918e086e4"), looks := false }, kinds := [], alts := [], laidByText := true, laidKinds := [.data, .pinned], laidTests := true, laidLooks := .later }
def SmapWrongUptoCardSaid : Prop := Claim7.holds Tryd.pinned (.plain (OpenSpec.upto smapWrongSpec)) smapWrongUptoCard

/-- THE SECOND FORM's CARD OF 'abridgerlaw24.SmapShift'. -/
def smapShiftUptoCard : Claim7 := { stood := { row := smapShiftUptoRow, standIns := [], harness := (true, "8589fc1b1f4fae9cea67fd279601425e2a1cf85ad6c48a43073f2a2918e086e4"), looks := false }, kinds := [], alts := [], laidByText := true, laidKinds := [.data, .pinned], laidTests := true, laidLooks := .later }
def SmapShiftUptoCardSaid : Prop := Claim7.holds Tryd.pinned (.plain (OpenSpec.upto smapShiftSpec)) smapShiftUptoCard
end Rows
end Go.Proofs.YtejpgopbgepaoaaDoor
