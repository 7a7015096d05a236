/- ClexStrings: the two ways together. -/
import Derived.Test.YtpecaalpbeoolaaGreatDoorFStrT
import Derived.Test.YtpecaalpbeoolaaGreatDoorFStrF
namespace Go.Proofs.YtpecaalpbeoolaaGreatDoor
open Go.RowKit
set_option linter.unusedVariables false
theorem fstrs_walk (s0 : ByteArray) (x1 : Bool) (a2 : Option Addr) (len2 cap2 : Nat) (l2 : List UInt8) (w : World) {P0 : Prop} (m0 : P0) (e2 : l2.length = len2) (b2 : Bs w (.slice a2 len2 cap2) l2) (n2 : ∀ n c, Value.slice a2 len2 cap2 = .slice none n c → c = 0) (u0 : s0.size ≤ 1048576) (hT : Tabs w) :
    Calls Tryz.prog 6 #[.string s0, .bool x1, .slice a2 len2 cap2] w fun e w' => e = .returned (.bool true) ∧ Below w.heap.size w w' := by
  cases x1 with
  | true => exact fstrs_true s0 a2 len2 cap2 l2 w m0 e2 b2 n2 u0 hT
  | false => exact fstrs_false s0 a2 len2 cap2 l2 w m0 e2 b2 n2 u0 hT
end Go.Proofs.YtpecaalpbeoolaaGreatDoor
