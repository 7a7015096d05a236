/-
  DERIVED. GIVEN WITH THE SEED: THE CARDS: each row of YtlpnnlncaombcaaGreatDoorRows.lean that lists a variable, with what it lists TIED to the program's text (the seventh form; the later family's looks); each row that meets fmt, with fmt's text TOLD by the authors' own Lean function (tested against real Go, not proved from fmt's source: count such statements apart). THE CARD IS WHAT COUNTS. Prove the row's statement (the work); the ties are given (YtlpnnlncaombcaaGreatDoorTie.lean); close each card by the builder's one call (the guide's Derived/Test/ToyasCard.lean, 'card_holds'). Laid BY PROGRAM, IN A SANDBOX (cutbox-door.mjs). By AI agents, Wed Nov 11 2026. No macro, syntax, notation, axiom, sorry.
-/
import Derived.Test.YtlpnnlncaombcaaGreatDoorRows
import GoSem.ClaimSeven
namespace Go.Proofs.YtlpnnlncaombcaaGreatDoor
namespace Rows

/-- THE TIED CARD OF 'abridgerlaw7.JparseSame'. -/
def jparseSameCard : Claim7 := { stood := { row := jparseSameRow, standIns := [], harness := (true, "dc42be7113519e596622ca45d76c6415ddbd1f39620351ea49165d01feacbd5e"), looks := true }, kinds := [], alts := [], laidByText := true, laidKinds := [.data, .data, .data, .data, .sentinel, .sentinel, .pinned], laidTests := true, laidLooks := .later }
def JparseSameCardSaid : Prop := Claim7.holds Tryz.pinned (.plain (OpenSpec.ofChange jparseSameSpec)) jparseSameCard

/-- THE TIED CARD OF 'abridgerlaw7.JparseDeep'. -/
def jparseDeepCard : Claim7 := { stood := { row := jparseDeepRow, standIns := [], harness := (true, "dc42be7113519e596622ca45d76c6415ddbd1f39620351ea49165d01feacbd5e"), looks := true }, kinds := [], alts := [], laidByText := true, laidKinds := [.data, .data, .data, .data, .sentinel, .sentinel, .pinned], laidTests := true, laidLooks := .later }
def JparseDeepCardSaid : Prop := Claim7.holds Tryz.pinned (.plain (OpenSpec.ofChange jparseDeepSpec)) jparseDeepCard

/-- THE TIED CARD OF 'abridgerlaw7.JparseWrong'. -/
def jparseWrongCard : Claim7 := { stood := { row := jparseWrongRow, standIns := [], harness := (true, "dc42be7113519e596622ca45d76c6415ddbd1f39620351ea49165d01feacbd5e"), looks := true }, kinds := [], alts := [], laidByText := true, laidKinds := [.data, .data, .data, .data, .sentinel, .sentinel, .pinned], laidTests := true, laidLooks := .later }
def JparseWrongCardSaid : Prop := Claim7.holds Tryz.pinned (.plain (OpenSpec.ofChange jparseWrongSpec)) jparseWrongCard

/-- THE TIED CARD OF 'abridgerlaw7.JparseNests'. -/
def jparseNestsCard : Claim7 := { stood := { row := jparseNestsRow, standIns := [], harness := (true, "dc42be7113519e596622ca45d76c6415ddbd1f39620351ea49165d01feacbd5e"), looks := true }, kinds := [], alts := [], laidByText := true, laidKinds := [.data, .data, .data, .data, .sentinel, .sentinel, .pinned], laidTests := true, laidLooks := .later }
def JparseNestsCardSaid : Prop := Claim7.holds Tryz.pinned (.plain (OpenSpec.ofChange jparseNestsSpec)) jparseNestsCard

/-- THE TIED CARD OF 'abridgerlaw7.JparseKeys'. -/
def jparseKeysCard : Claim7 := { stood := { row := jparseKeysRow, standIns := [], harness := (true, "dc42be7113519e596622ca45d76c6415ddbd1f39620351ea49165d01feacbd5e"), looks := true }, kinds := [], alts := [], laidByText := true, laidKinds := [.data, .data, .data, .data, .sentinel, .sentinel, .pinned], laidTests := true, laidLooks := .later }
def JparseKeysCardSaid : Prop := Claim7.holds Tryz.pinned (.plain (OpenSpec.ofChange jparseKeysSpec)) jparseKeysCard

/-- THE SECOND FORM's CARD OF 'abridgerlaw7.JparseSame'. -/
def jparseSameUptoCard : Claim7 := { stood := { row := jparseSameUptoRow, standIns := [], harness := (true, "dc42be7113519e596622ca45d76c6415ddbd1f39620351ea49165d01feacbd5e"), looks := true }, kinds := [], alts := [], laidByText := true, laidKinds := [.data, .data, .data, .data, .sentinel, .sentinel, .pinned], laidTests := true, laidLooks := .later }
def JparseSameUptoCardSaid : Prop := Claim7.holds Tryz.pinned (.plain (OpenSpec.upto jparseSameSpec)) jparseSameUptoCard

/-- THE SECOND FORM's CARD OF 'abridgerlaw7.JparseDeep'. -/
def jparseDeepUptoCard : Claim7 := { stood := { row := jparseDeepUptoRow, standIns := [], harness := (true, "dc42be7113519e596622ca45d76c6415ddbd1f39620351ea49165d01feacbd5e"), looks := true }, kinds := [], alts := [], laidByText := true, laidKinds := [.data, .data, .data, .data, .sentinel, .sentinel, .pinned], laidTests := true, laidLooks := .later }
def JparseDeepUptoCardSaid : Prop := Claim7.holds Tryz.pinned (.plain (OpenSpec.upto jparseDeepSpec)) jparseDeepUptoCard

/-- THE SECOND FORM's CARD OF 'abridgerlaw7.JparseWrong'. -/
def jparseWrongUptoCard : Claim7 := { stood := { row := jparseWrongUptoRow, standIns := [], harness := (true, "dc42be7113519e596622ca45d76c6415ddbd1f39620351ea49165d01feacbd5e"), looks := true }, kinds := [], alts := [], laidByText := true, laidKinds := [.data, .data, .data, .data, .sentinel, .sentinel, .pinned], laidTests := true, laidLooks := .later }
def JparseWrongUptoCardSaid : Prop := Claim7.holds Tryz.pinned (.plain (OpenSpec.upto jparseWrongSpec)) jparseWrongUptoCard

/-- THE SECOND FORM's CARD OF 'abridgerlaw7.JparseNests'. -/
def jparseNestsUptoCard : Claim7 := { stood := { row := jparseNestsUptoRow, standIns := [], harness := (true, "dc42be7113519e596622ca45d76c6415ddbd1f39620351ea49165d01feacbd5e"), looks := true }, kinds := [], alts := [], laidByText := true, laidKinds := [.data, .data, .data, .data, .sentinel, .sentinel, .pinned], laidTests := true, laidLooks := .later }
def JparseNestsUptoCardSaid : Prop := Claim7.holds Tryz.pinned (.plain (OpenSpec.upto jparseNestsSpec)) jparseNestsUptoCard

/-- THE SECOND FORM's CARD OF 'abridgerlaw7.JparseKeys'. -/
def jparseKeysUptoCard : Claim7 := { stood := { row := jparseKeysUptoRow, standIns := [], harness := (true, "dc42be7113519e596622ca45d76c6415ddbd1f39620351ea49165d01feacbd5e"), looks := true }, kinds := [], alts := [], laidByText := true, laidKinds := [.data, .data, .data, .data, .sentinel, .sentinel, .pinned], laidTests := true, laidLooks := .later }
def JparseKeysUptoCardSaid : Prop := Claim7.holds Tryz.pinned (.plain (OpenSpec.upto jparseKeysSpec)) jparseKeysUptoCard
end Rows
end Go.Proofs.YtlpnnlncaombcaaGreatDoor
