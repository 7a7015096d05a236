/- Texts of ours in one: JgX. -/
import Derived.Test.YtlobinjdgcidmaaGreatDoorQs06
import Derived.Test.YtlobinjdgcidmaaGreatDoorQs10
import Derived.Deep.QuietTactic
import Derived.BigQuiet
import Derived.Outline
import Derived.Test.YtlobinjdgcidmaaGreatDoorQs04
/- Several texts of ours in one: KRef KUnits. -/
/- Texts of JSON as the reference reads them: hexDigit, pair, SameInts. -/
namespace Go.Proofs.YtlobinjdgcidmaaGreatDoor
open Go.RowKit
set_option linter.unusedVariables false
set_option linter.unusedSimpArgs false

end Go.Proofs.YtlobinjdgcidmaaGreatDoor

/- Texts of JSON as the reference reads them: JUnits, for any bytes. -/
namespace Go.Proofs.YtlobinjdgcidmaaGreatDoor
open Go.RowKit
set_option linter.unusedVariables false
set_option linter.unusedSimpArgs false

def junits (l : List UInt8) : Option (List Nat) := if 2 ≤ l.length ∧ l.getD 0 0 = 34 ∧ jtI l 1 = l.length ∧ (M.validAll l).2 = true then some (M.ulS (l.drop 1)) else none
end Go.Proofs.YtlobinjdgcidmaaGreatDoor
