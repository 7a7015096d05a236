/-
  DERIVED. GIVEN WITH THE SEED: THE CARDS: each row of YtlobinjdgcidmaaGreatDoorRows.lean that lists a variable, with what it lists TIED to the program's text (the seventh form; the later family's looks); each row that meets fmt, with fmt's text TOLD by the authors' own Lean function (tested against real Go, not proved from fmt's source: count such statements apart). THE CARD IS WHAT COUNTS. Prove the row's statement (the work); the ties are given (YtlobinjdgcidmaaGreatDoorTie.lean); close each card by the builder's one call (the guide's Derived/Test/ToyasCard.lean, 'card_holds'). Laid BY PROGRAM, IN A SANDBOX (cutbox-door.mjs). By AI agents, Wed Nov 11 2026. No macro, syntax, notation, axiom, sorry.
-/
import Derived.Test.YtlobinjdgcidmaaGreatDoorRows
import GoSem.ClaimSeven
namespace Go.Proofs.YtlobinjdgcidmaaGreatDoor
namespace Rows

/-- THE TIED CARD OF 'abridgerlaw25.SreadBack'. -/
def sreadBackCard : Claim7 := { stood := { row := sreadBackRow, standIns := [], harness := (true, "6f02d032fce1e3dceacb0cada99d476a05dd00e90aed9fc63e35d83c381475f5"), looks := true }, kinds := [], alts := [], laidByText := true, laidKinds := [.data, .data, .data, .data, .sentinel, .sentinel, .pinned], laidTests := true, laidLooks := .later }
def SreadBackCardSaid : Prop := Claim7.holds Tryz.pinned (.plain (OpenSpec.ofChange sreadBackSpec)) sreadBackCard

/-- THE TIED CARD OF 'abridgerlaw25.SreadFields'. -/
def sreadFieldsCard : Claim7 := { stood := { row := sreadFieldsRow, standIns := [], harness := (true, "6f02d032fce1e3dceacb0cada99d476a05dd00e90aed9fc63e35d83c381475f5"), looks := true }, kinds := [], alts := [], laidByText := true, laidKinds := [.data, .data, .data, .data, .sentinel, .sentinel, .pinned], laidTests := true, laidLooks := .later }
def SreadFieldsCardSaid : Prop := Claim7.holds Tryz.pinned (.plain (OpenSpec.ofChange sreadFieldsSpec)) sreadFieldsCard

/-- THE SECOND FORM's CARD OF 'abridgerlaw25.SreadBack'. -/
def sreadBackUptoCard : Claim7 := { stood := { row := sreadBackUptoRow, standIns := [], harness := (true, "6f02d032fce1e3dceacb0cada99d476a05dd00e90aed9fc63e35d83c381475f5"), looks := true }, kinds := [], alts := [], laidByText := true, laidKinds := [.data, .data, .data, .data, .sentinel, .sentinel, .pinned], laidTests := true, laidLooks := .later }
def SreadBackUptoCardSaid : Prop := Claim7.holds Tryz.pinned (.plain (OpenSpec.upto sreadBackSpec)) sreadBackUptoCard

/-- THE SECOND FORM's CARD OF 'abridgerlaw25.SreadFields'. -/
def sreadFieldsUptoCard : Claim7 := { stood := { row := sreadFieldsUptoRow, standIns := [], harness := (true, "6f02d032fce1e3dceacb0cada99d476a05dd00e90aed9fc63e35d83c381475f5"), looks := true }, kinds := [], alts := [], laidByText := true, laidKinds := [.data, .data, .data, .data, .sentinel, .sentinel, .pinned], laidTests := true, laidLooks := .later }
def SreadFieldsUptoCardSaid : Prop := Claim7.holds Tryz.pinned (.plain (OpenSpec.upto sreadFieldsSpec)) sreadFieldsUptoCard
end Rows
end Go.Proofs.YtlobinjdgcidmaaGreatDoor
