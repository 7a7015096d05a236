/-
  DERIVED. GIVEN WITH THE SEED: THE CARDS: each row of YtpecaalpbeoolaaGreatDoorRows.lean that lists a variable, with what it lists TIED to the program's text (the seventh form; the later family's looks); each row that meets fmt, with fmt's text TOLD by the authors' own Lean function (tested against real Go, not proved from fmt's source: count such statements apart). THE CARD IS WHAT COUNTS. Prove the row's statement (the work); the ties are given (YtpecaalpbeoolaaGreatDoorTie.lean); close each card by the builder's one call (the guide's Derived/Test/ToyasCard.lean, 'card_holds'). Laid BY PROGRAM, IN A SANDBOX (cutbox-door.mjs). By AI agents, Wed Nov 11 2026. No macro, syntax, notation, axiom, sorry.
-/
import Derived.Test.YtpecaalpbeoolaaGreatDoorRows
import GoSem.ClaimSeven
namespace Go.Proofs.YtpecaalpbeoolaaGreatDoor
namespace Rows

/-- THE TIED CARD OF 'abridgerlaw15.ClexTells'. -/
def clexTellsCard : Claim7 := { stood := { row := clexTellsRow, standIns := [], harness := (true, "53491120a13060d36d48c0bedfa600a5bfc4cdbc74ada6ebb89cb82f975e7b6e"), looks := false }, kinds := [], alts := [], laidByText := true, laidKinds := [.data, .data, .data, .data, .pinned], laidTests := true, laidLooks := .later }
def ClexTellsCardSaid : Prop := Claim7.holds Tryz.pinned (.plain (OpenSpec.ofChange clexTellsSpec)) clexTellsCard

/-- THE TIED CARD OF 'abridgerlaw15.ClexRises'. -/
def clexRisesCard : Claim7 := { stood := { row := clexRisesRow, standIns := [], harness := (true, "53491120a13060d36d48c0bedfa600a5bfc4cdbc74ada6ebb89cb82f975e7b6e"), looks := false }, kinds := [], alts := [], laidByText := true, laidKinds := [.data, .data, .data, .data, .pinned], laidTests := true, laidLooks := .later }
def ClexRisesCardSaid : Prop := Claim7.holds Tryz.pinned (.plain (OpenSpec.ofChange clexRisesSpec)) clexRisesCard

/-- THE TIED CARD OF 'abridgerlaw15.ClexKinds'. -/
def clexKindsCard : Claim7 := { stood := { row := clexKindsRow, standIns := [], harness := (true, "53491120a13060d36d48c0bedfa600a5bfc4cdbc74ada6ebb89cb82f975e7b6e"), looks := false }, kinds := [], alts := [], laidByText := true, laidKinds := [.data, .data, .data, .data, .pinned], laidTests := true, laidLooks := .later }
def ClexKindsCardSaid : Prop := Claim7.holds Tryz.pinned (.plain (OpenSpec.ofChange clexKindsSpec)) clexKindsCard

/-- THE TIED CARD OF 'abridgerlaw15.ClexStrings'. -/
def clexStringsCard : Claim7 := { stood := { row := clexStringsRow, standIns := [], harness := (true, "53491120a13060d36d48c0bedfa600a5bfc4cdbc74ada6ebb89cb82f975e7b6e"), looks := false }, kinds := [], alts := [], laidByText := true, laidKinds := [.data, .data, .data, .data, .pinned], laidTests := true, laidLooks := .later }
def ClexStringsCardSaid : Prop := Claim7.holds Tryz.pinned (.plain (OpenSpec.ofChange clexStringsSpec)) clexStringsCard

/-- THE TIED CARD OF 'abridgerlaw15.ClexNumbers'. -/
def clexNumbersCard : Claim7 := { stood := { row := clexNumbersRow, standIns := [], harness := (true, "53491120a13060d36d48c0bedfa600a5bfc4cdbc74ada6ebb89cb82f975e7b6e"), looks := false }, kinds := [], alts := [], laidByText := true, laidKinds := [.data, .data, .data, .data, .pinned], laidTests := true, laidLooks := .later }
def ClexNumbersCardSaid : Prop := Claim7.holds Tryz.pinned (.plain (OpenSpec.ofChange clexNumbersSpec)) clexNumbersCard

/-- THE TIED CARD OF 'abridgerlaw15.ClexComments'. -/
def clexCommentsCard : Claim7 := { stood := { row := clexCommentsRow, standIns := [], harness := (true, "53491120a13060d36d48c0bedfa600a5bfc4cdbc74ada6ebb89cb82f975e7b6e"), looks := false }, kinds := [], alts := [], laidByText := true, laidKinds := [.data, .data, .data, .data, .pinned], laidTests := true, laidLooks := .later }
def ClexCommentsCardSaid : Prop := Claim7.holds Tryz.pinned (.plain (OpenSpec.ofChange clexCommentsSpec)) clexCommentsCard

/-- THE TIED CARD OF 'abridgerlaw15.ClexUrls'. -/
def clexUrlsCard : Claim7 := { stood := { row := clexUrlsRow, standIns := [], harness := (true, "53491120a13060d36d48c0bedfa600a5bfc4cdbc74ada6ebb89cb82f975e7b6e"), looks := false }, kinds := [], alts := [], laidByText := true, laidKinds := [.data, .data, .data, .data, .pinned], laidTests := true, laidLooks := .later }
def ClexUrlsCardSaid : Prop := Claim7.holds Tryz.pinned (.plain (OpenSpec.ofChange clexUrlsSpec)) clexUrlsCard

/-- THE SECOND FORM's CARD OF 'abridgerlaw15.ClexTells'. -/
def clexTellsUptoCard : Claim7 := { stood := { row := clexTellsUptoRow, standIns := [], harness := (true, "53491120a13060d36d48c0bedfa600a5bfc4cdbc74ada6ebb89cb82f975e7b6e"), looks := false }, kinds := [], alts := [], laidByText := true, laidKinds := [.data, .data, .data, .data, .pinned], laidTests := true, laidLooks := .later }
def ClexTellsUptoCardSaid : Prop := Claim7.holds Tryz.pinned (.plain (OpenSpec.upto clexTellsSpec)) clexTellsUptoCard

/-- THE SECOND FORM's CARD OF 'abridgerlaw15.ClexRises'. -/
def clexRisesUptoCard : Claim7 := { stood := { row := clexRisesUptoRow, standIns := [], harness := (true, "53491120a13060d36d48c0bedfa600a5bfc4cdbc74ada6ebb89cb82f975e7b6e"), looks := false }, kinds := [], alts := [], laidByText := true, laidKinds := [.data, .data, .data, .data, .pinned], laidTests := true, laidLooks := .later }
def ClexRisesUptoCardSaid : Prop := Claim7.holds Tryz.pinned (.plain (OpenSpec.upto clexRisesSpec)) clexRisesUptoCard

/-- THE SECOND FORM's CARD OF 'abridgerlaw15.ClexKinds'. -/
def clexKindsUptoCard : Claim7 := { stood := { row := clexKindsUptoRow, standIns := [], harness := (true, "53491120a13060d36d48c0bedfa600a5bfc4cdbc74ada6ebb89cb82f975e7b6e"), looks := false }, kinds := [], alts := [], laidByText := true, laidKinds := [.data, .data, .data, .data, .pinned], laidTests := true, laidLooks := .later }
def ClexKindsUptoCardSaid : Prop := Claim7.holds Tryz.pinned (.plain (OpenSpec.upto clexKindsSpec)) clexKindsUptoCard

/-- THE SECOND FORM's CARD OF 'abridgerlaw15.ClexStrings'. -/
def clexStringsUptoCard : Claim7 := { stood := { row := clexStringsUptoRow, standIns := [], harness := (true, "53491120a13060d36d48c0bedfa600a5bfc4cdbc74ada6ebb89cb82f975e7b6e"), looks := false }, kinds := [], alts := [], laidByText := true, laidKinds := [.data, .data, .data, .data, .pinned], laidTests := true, laidLooks := .later }
def ClexStringsUptoCardSaid : Prop := Claim7.holds Tryz.pinned (.plain (OpenSpec.upto clexStringsSpec)) clexStringsUptoCard

/-- THE SECOND FORM's CARD OF 'abridgerlaw15.ClexNumbers'. -/
def clexNumbersUptoCard : Claim7 := { stood := { row := clexNumbersUptoRow, standIns := [], harness := (true, "53491120a13060d36d48c0bedfa600a5bfc4cdbc74ada6ebb89cb82f975e7b6e"), looks := false }, kinds := [], alts := [], laidByText := true, laidKinds := [.data, .data, .data, .data, .pinned], laidTests := true, laidLooks := .later }
def ClexNumbersUptoCardSaid : Prop := Claim7.holds Tryz.pinned (.plain (OpenSpec.upto clexNumbersSpec)) clexNumbersUptoCard

/-- THE SECOND FORM's CARD OF 'abridgerlaw15.ClexComments'. -/
def clexCommentsUptoCard : Claim7 := { stood := { row := clexCommentsUptoRow, standIns := [], harness := (true, "53491120a13060d36d48c0bedfa600a5bfc4cdbc74ada6ebb89cb82f975e7b6e"), looks := false }, kinds := [], alts := [], laidByText := true, laidKinds := [.data, .data, .data, .data, .pinned], laidTests := true, laidLooks := .later }
def ClexCommentsUptoCardSaid : Prop := Claim7.holds Tryz.pinned (.plain (OpenSpec.upto clexCommentsSpec)) clexCommentsUptoCard

/-- THE SECOND FORM's CARD OF 'abridgerlaw15.ClexUrls'. -/
def clexUrlsUptoCard : Claim7 := { stood := { row := clexUrlsUptoRow, standIns := [], harness := (true, "53491120a13060d36d48c0bedfa600a5bfc4cdbc74ada6ebb89cb82f975e7b6e"), looks := false }, kinds := [], alts := [], laidByText := true, laidKinds := [.data, .data, .data, .data, .pinned], laidTests := true, laidLooks := .later }
def ClexUrlsUptoCardSaid : Prop := Claim7.holds Tryz.pinned (.plain (OpenSpec.upto clexUrlsSpec)) clexUrlsUptoCard
end Rows
end Go.Proofs.YtpecaalpbeoolaaGreatDoor
