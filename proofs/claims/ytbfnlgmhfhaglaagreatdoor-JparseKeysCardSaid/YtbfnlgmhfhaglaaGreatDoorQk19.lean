/- Texts of ours in one: JgX. -/
import Derived.Test.YtbfnlgmhfhaglaaGreatDoorQk06
import Derived.Test.YtbfnlgmhfhaglaaGreatDoorQk14
import Derived.Deep.QuietTactic
import Derived.BigQuiet
import Derived.Outline
import Derived.Test.YtbfnlgmhfhaglaaGreatDoorQk04
/- Several texts of ours in one: KRef KUnits. -/
/- Texts of JSON as the reference reads them: hexDigit, pair, SameInts. -/
namespace Go.Proofs.YtbfnlgmhfhaglaaGreatDoor
open Go.RowKit
set_option linter.unusedVariables false
set_option linter.unusedSimpArgs false

end Go.Proofs.YtbfnlgmhfhaglaaGreatDoor

/- Texts of JSON as the reference reads them: JUnits, for any bytes. -/
namespace Go.Proofs.YtbfnlgmhfhaglaaGreatDoor
open Go.RowKit
set_option linter.unusedVariables false
set_option linter.unusedSimpArgs false

def junits (l : List UInt8) : Option (List Nat) := if 2 ≤ l.length ∧ l.getD 0 0 = 34 ∧ jtI l 1 = l.length ∧ (M.validAll l).2 = true then some (M.ulS (l.drop 1)) else none
def Rest (l : List UInt8) (i : Nat) : Prop := M.jtS (l.drop i) = some (l.drop i).length ∧ (M.validAll (l.drop i)).2 = true
theorem rest_start (l : List UInt8) (h0 : l.getD 0 0 = 34) (h2 : 2 ≤ l.length) (hj : jtI l 1 = l.length) (hv : (M.validAll l).2 = true) : Rest l 1 := by
  constructor
  · unfold jtI at hj
    have hl : (l.drop 1).length = l.length - 1 := by simp
    cases hh : M.jtS (l.drop 1) with
    | none => rw [hh] at hj; simp only at hj; omega
    | some n => rw [hh] at hj; simp only at hj; rw [hl]; exact congrArg some (by omega)
  · rw [← M.valid_ascii l (by omega) (by rw [h0]; decide)]; exact hv
end Go.Proofs.YtbfnlgmhfhaglaaGreatDoor
