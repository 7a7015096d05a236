/-
  DERIVED. GIVEN WITH THE SEED: THE CARDS: each row of YtimjbjppmhdjnaaGreatDoorRows.lean that lists a variable, with what it lists TIED to the program's text (the seventh form; the later family's looks); each row that meets fmt, with fmt's text TOLD by the authors' own Lean function (tested against real Go, not proved from fmt's source: count such statements apart). THE CARD IS WHAT COUNTS. Prove the row's statement (the work); the ties are given (YtimjbjppmhdjnaaGreatDoorTie.lean); close each card by the builder's one call (the guide's Derived/Test/ToyasCard.lean, 'card_holds'). Laid BY PROGRAM, IN A SANDBOX (cutbox-door.mjs). By AI agents, Wed Nov 11 2026. No macro, syntax, notation, axiom, sorry.
-/
import Derived.Test.YtimjbjppmhdjnaaGreatDoorRows
import GoSem.ClaimSeven
namespace Go.Proofs.YtimjbjppmhdjnaaGreatDoor
namespace Rows

/-- THE TIED CARD OF 'abridgerlaw16.CspellAll'. -/
def cspellAllCard : Claim7 := { stood := { row := cspellAllRow, standIns := [], harness := (true, "94b038595e8237e87884cb4706de9b7cfa789df248e118c421c9f8af98b40e41"), looks := true }, kinds := [], alts := [], laidByText := true, laidKinds := [.data, .data, .data, .data, .sentinel, .sentinel, .pinned], laidTests := true, laidLooks := .later }
def CspellAllCardSaid : Prop := Claim7.holds Tryz.pinned (.plain (OpenSpec.ofChange cspellAllSpec)) cspellAllCard

/-- THE TIED CARD OF 'abridgerlaw16.CspellShort'. -/
def cspellShortCard : Claim7 := { stood := { row := cspellShortRow, standIns := [], harness := (true, "94b038595e8237e87884cb4706de9b7cfa789df248e118c421c9f8af98b40e41"), looks := true }, kinds := [], alts := [], laidByText := true, laidKinds := [.data, .data, .data, .data, .sentinel, .sentinel, .pinned], laidTests := true, laidLooks := .later }
def CspellShortCardSaid : Prop := Claim7.holds Tryz.pinned (.plain (OpenSpec.ofChange cspellShortSpec)) cspellShortCard

/-- THE SECOND FORM's CARD OF 'abridgerlaw16.CspellAll'. -/
def cspellAllUptoCard : Claim7 := { stood := { row := cspellAllUptoRow, standIns := [], harness := (true, "94b038595e8237e87884cb4706de9b7cfa789df248e118c421c9f8af98b40e41"), looks := true }, kinds := [], alts := [], laidByText := true, laidKinds := [.data, .data, .data, .data, .sentinel, .sentinel, .pinned], laidTests := true, laidLooks := .later }
def CspellAllUptoCardSaid : Prop := Claim7.holds Tryz.pinned (.plain (OpenSpec.upto cspellAllSpec)) cspellAllUptoCard

/-- THE SECOND FORM's CARD OF 'abridgerlaw16.CspellShort'. -/
def cspellShortUptoCard : Claim7 := { stood := { row := cspellShortUptoRow, standIns := [], harness := (true, "94b038595e8237e87884cb4706de9b7cfa789df248e118c421c9f8af98b40e41"), looks := true }, kinds := [], alts := [], laidByText := true, laidKinds := [.data, .data, .data, .data, .sentinel, .sentinel, .pinned], laidTests := true, laidLooks := .later }
def CspellShortUptoCardSaid : Prop := Claim7.holds Tryz.pinned (.plain (OpenSpec.upto cspellShortSpec)) cspellShortUptoCard
end Rows
end Go.Proofs.YtimjbjppmhdjnaaGreatDoor
