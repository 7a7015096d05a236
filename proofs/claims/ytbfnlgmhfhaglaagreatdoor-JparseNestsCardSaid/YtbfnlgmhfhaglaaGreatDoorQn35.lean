import Derived.Test.YtbfnlgmhfhaglaaGreatDoorQn17
import Derived.Test.YtbfnlgmhfhaglaaGreatDoorQn02
import Derived.Test.YtbfnlgmhfhaglaaGreatDoorQn14
import Derived.Deep.AppendLies
import Derived.Deep.RegionHeld3
namespace Go.Proofs.YtbfnlgmhfhaglaaGreatDoor
open Go.RowKit
set_option linter.unusedVariables false
set_option linter.unusedSimpArgs false
def Box (n : Nat) (c0 c1 c2 : Value) (W : World) : Prop := W.cell? ⟨n, 0, none⟩ = some c0 /\ W.cell? ⟨n, 1, none⟩ = some c1 /\ W.cell? ⟨n, 2, none⟩ = some c2
theorem box_keep {n B : Nat} {c0 c1 c2 : Value} {w w' : World} (h : Box n c0 c1 c2 w) (hb : Below B w w') (hn : n < B) : Box n c0 c1 c2 w' :=
 ⟨(hb.cell (p := ⟨n, 0, none⟩) hn).trans h.1, (hb.cell (p := ⟨n, 1, none⟩) hn).trans h.2.1, (hb.cell (p := ⟨n, 2, none⟩) hn).trans h.2.2⟩
end Go.Proofs.YtbfnlgmhfhaglaaGreatDoor
