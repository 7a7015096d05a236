/-
  DERIVED. GIVEN WITH THE SEED: THE CARDS: each row of YtlobinjdgcidmaaDoorRows.lean that lists a variable, with what it lists TIED to the program's text (the seventh form; the later family's looks); each row that meets fmt, with fmt's text TOLD by the authors' own Lean function (tested against real Go, not proved from fmt's source: count such statements apart). THE CARD IS WHAT COUNTS. Prove the row's statement (the work); the ties are given (YtlobinjdgcidmaaDoorTie.lean); close each card by the builder's one call (the guide's Derived/Test/ToyasCard.lean, 'card_holds'). Laid BY PROGRAM, IN A SANDBOX (cutbox-door.mjs). By AI agents, Wed Nov 11 2026. No macro, syntax, notation, axiom, sorry.
-/
import Derived.Test.YtlobinjdgcidmaaDoorRows
import GoSem.ClaimSeven
namespace Go.Proofs.YtlobinjdgcidmaaDoor
namespace Rows

/-- THE TIED CARD OF 'abridgerlaw24.SmapJson'. -/
def smapJsonCard : Claim7 := { stood := { row := smapJsonRow, standIns := [], harness := (true, "9a7b1684ba33862675822e573100a31ec1131225526d6e3ee101e80cd8a7674f"), looks := false }, kinds := [], alts := [], laidByText := true, laidKinds := [.data, .pinned], laidTests := true, laidLooks := .later }
def SmapJsonCardSaid : Prop := Claim7.holds Tryd.pinned (.plain (OpenSpec.ofChange smapJsonSpec)) smapJsonCard

/-- THE SECOND FORM's CARD OF 'abridgerlaw24.SmapJson'. -/
def smapJsonUptoCard : Claim7 := { stood := { row := smapJsonUptoRow, standIns := [], harness := (true, "9a7b1684ba33862675822e573100a31ec1131225526d6e3ee101e80cd8a7674f"), looks := false }, kinds := [], alts := [], laidByText := true, laidKinds := [.data, .pinned], laidTests := true, laidLooks := .later }
def SmapJsonUptoCardSaid : Prop := Claim7.holds Tryd.pinned (.plain (OpenSpec.upto smapJsonSpec)) smapJsonUptoCard
end Rows
end Go.Proofs.YtlobinjdgcidmaaDoor
