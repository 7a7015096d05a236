/- What the tied rows of the decimals share that list seven variables: a world for the witness (the door's own run lays six of them, the table of first bytes is laid by hand). No walk of ours reads any. -/
import Derived.Test.YtmhjafpoaamkeaaDoorCards
import Derived.Test.YtmhjafpoaamkeaaDoorTie
import Derived.Deep.DeepHandedRow
import Derived.Deep.DeepWitnessRowRef
import Derived.LaidMore
import Derived.Lib.LaidU8T
import Derived.PinnedBridge
import Derived.MakeChecks
import Derived.ChangeOld
namespace Go.Proofs.YtmhjafpoaamkeaaDoor
open Go.RowKit Go.Lib Go.Shelf

/-- Nothing of the tables is asked for. -/
def Tabs (_ : World) : Prop := True
theorem tabs_of {l : List (String × DataW Unit)} {W : World} (_ : laidMetH Tryd.prog l W) : Tabs W := True.intro
def firstCells : Array Value := ((List.range 256).map fun i => Value.int .u8 (Lib.firstT i : Int)).toArray
def refill (cs : Array Value) : Obj → Obj
  | .cells _ t frozen => .cells cs t frozen
  | o => o
/-- A world for the witness: what the door's own run leaves, and the table of first bytes. -/
noncomputable def laidWorld (os : Os) : World :=
  { World.doorLaid Tryd.prog 72 os with heap := (World.doorLaid Tryd.prog 72 os).heap.modify 2 (refill firstCells) }
theorem own : ownKnob Tryd.prog.godebug = none := by kernel_rfl
theorem laidOut : laidOutB Tryd.prog = true := by kernel_rfl
end Go.Proofs.YtmhjafpoaamkeaaDoor
