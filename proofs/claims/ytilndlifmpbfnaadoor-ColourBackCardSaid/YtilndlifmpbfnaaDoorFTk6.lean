/- Tokens of CSS: the program's function of numbers. -/
import Derived.Test.YtilndlifmpbfnaaDoorBgT
import Derived.Test.YtilndlifmpbfnaaDoorBgD
import Derived.Test.YtilndlifmpbfnaaDoorBgN
namespace Go.Proofs.YtilndlifmpbfnaaDoor
open Go.RowKit
set_option linter.unusedVariables false
set_option linter.unusedSimpArgs false

theorem cps_drop (c : List Int) (i : Nat) : (c.drop i).take (M.numE (c.drop i)) = (c.drop i).take (i + M.numE (c.drop i) - i) := by rw [Nat.add_sub_cancel_left]
end Go.Proofs.YtilndlifmpbfnaaDoor
