/- Tokens of JSON as the reference reads them: jnumber, for any bytes. -/
import Derived.Test.YtakgkdgielkieaaDoorQR311
import Derived.Test.YtakgkdgielkieaaDoorQR310
import Derived.Test.YtakgkdgielkieaaDoorQR301
import Derived.Test.YtakgkdgielkieaaDoorQR300
namespace Go.Proofs.YtakgkdgielkieaaDoor
open Go.RowKit

theorem refjn_any (v : Value) (l : List UInt8) (i : Nat) (z : Int) (w : World) (hv : Bs w v l) (hi : i < l.length) (hl : l.length ≤ 1048576) (hr : jnI (M.numL (l.drop i)) i = z) :
    Calls Tryd.prog 11 #[v, .int .i64 (i : Int)] w fun e w' => e = .returned (.int .i64 z) ∧ w = w' := by
  by_cases h1 : l.getD i 0 = 45
  · by_cases h2 : l.getD (i + 1) 0 = 48
    · exact refjn_11 v l i z w hv hi hl hr h1 h2
    · exact refjn_10 v l i z w hv hi hl hr h1 h2
  · by_cases h2 : l.getD i 0 = 48
    · exact refjn_01 v l i z w hv hi hl hr h1 h2
    · exact refjn_00 v l i z w hv hi hl hr h1 h2
end Go.Proofs.YtakgkdgielkieaaDoor
