/- Tokens of CSS: the program's function of what begins with a name. -/
import Derived.Test.YtilndlifmpbfnaaDoorFTk5
import Derived.Test.YtilndlifmpbfnaaDoorFLow
namespace Go.Proofs.YtilndlifmpbfnaaDoor
open Go.RowKit
set_option linter.unusedVariables false
set_option linter.unusedSimpArgs false

theorem str_eqF (l k : List UInt8) (b : Bool) (h : decide (l = k) = b) : ((bytes l).toList == k) = b := by
  rw [← h, ByteArray.toList_eq, bytes_list]
  by_cases e : l = k
  · subst e; simp
  · simp [e]
end Go.Proofs.YtilndlifmpbfnaaDoor
