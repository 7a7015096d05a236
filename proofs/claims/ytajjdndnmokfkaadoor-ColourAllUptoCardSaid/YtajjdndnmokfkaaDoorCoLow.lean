/- Small letters: stands for the plain side of CSS where that is not wanted. -/
import Derived.Test.YtajjdndnmokfkaaDoorUMath
namespace Go.Proofs.YtajjdndnmokfkaaDoor.M
set_option linter.unusedVariables false
/-- Small letters. -/
def lowB (c : UInt8) : UInt8 := if 65 ≤ c.toNat ∧ c.toNat ≤ 90 then c + 32 else c
def lowL (l : List UInt8) : List UInt8 := l.map lowB
end Go.Proofs.YtajjdndnmokfkaaDoor.M
