/-
  DERIVED. GIVEN WITH THE SEED: THE CARDS: each row of YtbfnlgmhfhaglaaGreatDoorRows.lean that lists a variable, with what it lists TIED to the program's text (the seventh form; the later family's looks); each row that meets fmt, with fmt's text TOLD by the authors' own Lean function (tested against real Go, not proved from fmt's source: count such statements apart). THE CARD IS WHAT COUNTS. Prove the row's statement (the work); the ties are given (YtbfnlgmhfhaglaaGreatDoorTie.lean); close each card by the builder's one call (the guide's Derived/Test/ToyasCard.lean, 'card_holds'). Laid BY PROGRAM, IN A SANDBOX (cutbox-door.mjs). By AI agents, Wed Nov 11 2026. No macro, syntax, notation, axiom, sorry.
-/
import Derived.Test.YtbfnlgmhfhaglaaGreatDoorRows
import GoSem.ClaimSeven
namespace Go.Proofs.YtbfnlgmhfhaglaaGreatDoor
namespace Rows

/-- THE TIED CARD OF 'abridgerlaw7.JparseSame'. -/
def jparseSameCard : Claim7 := { stood := { row := jparseSameRow, standIns := [], harness := (true, "b818d6d479f857513220f8258dd226ee67726d487f5a28aa225e89d34bd7193a"), looks := true }, kinds := [], alts := [], laidByText := true, laidKinds := [.data, .data, .data, .data, .sentinel, .sentinel, .pinned], laidTests := true, laidLooks := .later }
def JparseSameCardSaid : Prop := Claim7.holds Tryz.pinned (.plain (OpenSpec.ofChange jparseSameSpec)) jparseSameCard

/-- THE TIED CARD OF 'abridgerlaw7.JparseDeep'. -/
def jparseDeepCard : Claim7 := { stood := { row := jparseDeepRow, standIns := [], harness := (true, "b818d6d479f857513220f8258dd226ee67726d487f5a28aa225e89d34bd7193a"), looks := true }, kinds := [], alts := [], laidByText := true, laidKinds := [.data, .data, .data, .data, .sentinel, .sentinel, .pinned], laidTests := true, laidLooks := .later }
def JparseDeepCardSaid : Prop := Claim7.holds Tryz.pinned (.plain (OpenSpec.ofChange jparseDeepSpec)) jparseDeepCard

/-- THE TIED CARD OF 'abridgerlaw7.JparseNests'. -/
def jparseNestsCard : Claim7 := { stood := { row := jparseNestsRow, standIns := [], harness := (true, "b818d6d479f857513220f8258dd226ee67726d487f5a28aa225e89d34bd7193a"), looks := true }, kinds := [], alts := [], laidByText := true, laidKinds := [.data, .data, .data, .data, .sentinel, .sentinel, .pinned], laidTests := true, laidLooks := .later }
def JparseNestsCardSaid : Prop := Claim7.holds Tryz.pinned (.plain (OpenSpec.ofChange jparseNestsSpec)) jparseNestsCard

/-- THE TIED CARD OF 'abridgerlaw7.JparseKeys'. -/
def jparseKeysCard : Claim7 := { stood := { row := jparseKeysRow, standIns := [], harness := (true, "b818d6d479f857513220f8258dd226ee67726d487f5a28aa225e89d34bd7193a"), looks := true }, kinds := [], alts := [], laidByText := true, laidKinds := [.data, .data, .data, .data, .sentinel, .sentinel, .pinned], laidTests := true, laidLooks := .later }
def JparseKeysCardSaid : Prop := Claim7.holds Tryz.pinned (.plain (OpenSpec.ofChange jparseKeysSpec)) jparseKeysCard

/-- THE TIED CARD OF 'abridgerlaw9.JminBack'. -/
def jminBackCard : Claim7 := { stood := { row := jminBackRow, standIns := [], harness := (true, "b818d6d479f857513220f8258dd226ee67726d487f5a28aa225e89d34bd7193a"), looks := true }, kinds := [], alts := [], laidByText := true, laidKinds := [.data, .data, .data, .data, .sentinel, .sentinel, .pinned], laidTests := true, laidLooks := .later }
def JminBackCardSaid : Prop := Claim7.holds Tryz.pinned (.plain (OpenSpec.ofChange jminBackSpec)) jminBackCard

/-- THE TIED CARD OF 'abridgerlaw9.JminLeast'. -/
def jminLeastCard : Claim7 := { stood := { row := jminLeastRow, standIns := [], harness := (true, "b818d6d479f857513220f8258dd226ee67726d487f5a28aa225e89d34bd7193a"), looks := true }, kinds := [], alts := [], laidByText := true, laidKinds := [.data, .data, .data, .data, .sentinel, .sentinel, .pinned], laidTests := true, laidLooks := .later }
def JminLeastCardSaid : Prop := Claim7.holds Tryz.pinned (.plain (OpenSpec.ofChange jminLeastSpec)) jminLeastCard

/-- THE TIED CARD OF 'abridgerlaw9.JminFrom'. -/
def jminFromCard : Claim7 := { stood := { row := jminFromRow, standIns := [], harness := (true, "b818d6d479f857513220f8258dd226ee67726d487f5a28aa225e89d34bd7193a"), looks := true }, kinds := [], alts := [], laidByText := true, laidKinds := [.data, .data, .data, .data, .sentinel, .sentinel, .pinned], laidTests := true, laidLooks := .later }
def JminFromCardSaid : Prop := Claim7.holds Tryz.pinned (.plain (OpenSpec.ofChange jminFromSpec)) jminFromCard

/-- THE SECOND FORM's CARD OF 'abridgerlaw7.JparseSame'. -/
def jparseSameUptoCard : Claim7 := { stood := { row := jparseSameUptoRow, standIns := [], harness := (true, "b818d6d479f857513220f8258dd226ee67726d487f5a28aa225e89d34bd7193a"), looks := true }, kinds := [], alts := [], laidByText := true, laidKinds := [.data, .data, .data, .data, .sentinel, .sentinel, .pinned], laidTests := true, laidLooks := .later }
def JparseSameUptoCardSaid : Prop := Claim7.holds Tryz.pinned (.plain (OpenSpec.upto jparseSameSpec)) jparseSameUptoCard

/-- THE SECOND FORM's CARD OF 'abridgerlaw7.JparseDeep'. -/
def jparseDeepUptoCard : Claim7 := { stood := { row := jparseDeepUptoRow, standIns := [], harness := (true, "b818d6d479f857513220f8258dd226ee67726d487f5a28aa225e89d34bd7193a"), looks := true }, kinds := [], alts := [], laidByText := true, laidKinds := [.data, .data, .data, .data, .sentinel, .sentinel, .pinned], laidTests := true, laidLooks := .later }
def JparseDeepUptoCardSaid : Prop := Claim7.holds Tryz.pinned (.plain (OpenSpec.upto jparseDeepSpec)) jparseDeepUptoCard

/-- THE SECOND FORM's CARD OF 'abridgerlaw7.JparseNests'. -/
def jparseNestsUptoCard : Claim7 := { stood := { row := jparseNestsUptoRow, standIns := [], harness := (true, "b818d6d479f857513220f8258dd226ee67726d487f5a28aa225e89d34bd7193a"), looks := true }, kinds := [], alts := [], laidByText := true, laidKinds := [.data, .data, .data, .data, .sentinel, .sentinel, .pinned], laidTests := true, laidLooks := .later }
def JparseNestsUptoCardSaid : Prop := Claim7.holds Tryz.pinned (.plain (OpenSpec.upto jparseNestsSpec)) jparseNestsUptoCard

/-- THE SECOND FORM's CARD OF 'abridgerlaw7.JparseKeys'. -/
def jparseKeysUptoCard : Claim7 := { stood := { row := jparseKeysUptoRow, standIns := [], harness := (true, "b818d6d479f857513220f8258dd226ee67726d487f5a28aa225e89d34bd7193a"), looks := true }, kinds := [], alts := [], laidByText := true, laidKinds := [.data, .data, .data, .data, .sentinel, .sentinel, .pinned], laidTests := true, laidLooks := .later }
def JparseKeysUptoCardSaid : Prop := Claim7.holds Tryz.pinned (.plain (OpenSpec.upto jparseKeysSpec)) jparseKeysUptoCard

/-- THE SECOND FORM's CARD OF 'abridgerlaw9.JminBack'. -/
def jminBackUptoCard : Claim7 := { stood := { row := jminBackUptoRow, standIns := [], harness := (true, "b818d6d479f857513220f8258dd226ee67726d487f5a28aa225e89d34bd7193a"), looks := true }, kinds := [], alts := [], laidByText := true, laidKinds := [.data, .data, .data, .data, .sentinel, .sentinel, .pinned], laidTests := true, laidLooks := .later }
def JminBackUptoCardSaid : Prop := Claim7.holds Tryz.pinned (.plain (OpenSpec.upto jminBackSpec)) jminBackUptoCard

/-- THE SECOND FORM's CARD OF 'abridgerlaw9.JminLeast'. -/
def jminLeastUptoCard : Claim7 := { stood := { row := jminLeastUptoRow, standIns := [], harness := (true, "b818d6d479f857513220f8258dd226ee67726d487f5a28aa225e89d34bd7193a"), looks := true }, kinds := [], alts := [], laidByText := true, laidKinds := [.data, .data, .data, .data, .sentinel, .sentinel, .pinned], laidTests := true, laidLooks := .later }
def JminLeastUptoCardSaid : Prop := Claim7.holds Tryz.pinned (.plain (OpenSpec.upto jminLeastSpec)) jminLeastUptoCard

/-- THE SECOND FORM's CARD OF 'abridgerlaw9.JminFrom'. -/
def jminFromUptoCard : Claim7 := { stood := { row := jminFromUptoRow, standIns := [], harness := (true, "b818d6d479f857513220f8258dd226ee67726d487f5a28aa225e89d34bd7193a"), looks := true }, kinds := [], alts := [], laidByText := true, laidKinds := [.data, .data, .data, .data, .sentinel, .sentinel, .pinned], laidTests := true, laidLooks := .later }
def JminFromUptoCardSaid : Prop := Claim7.holds Tryz.pinned (.plain (OpenSpec.upto jminFromSpec)) jminFromUptoCard
end Rows
end Go.Proofs.YtbfnlgmhfhaglaaGreatDoor
