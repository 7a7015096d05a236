/- What the tied rows of the decimals share: a world for the witness (the two tables of UTF-8 hold what their initialisers lay; no walk of ours reads them). -/
import Derived.Test.YtmhjafpoaamkeaaDoorCards
import Derived.Test.YtmhjafpoaamkeaaDoorTie
import Derived.Deep.DeepHandedRow
import Derived.Lib.LaidU8T
import Derived.PinnedBridge
import Derived.MakeChecks
import Derived.ChangeOld
namespace Go.Proofs.YtmhjafpoaamkeaaDoor
open Go.RowKit Go.Lib Go.Shelf

def laidList : List (String × DataW Unit) := [("unicode/utf8.acceptRanges", Rows.laid_unicode_utf8_acceptRanges), ("unicode/utf8.first", Rows.laid_unicode_utf8_first)]
/-- Nothing of the tables is asked for. -/
def Tabs (_ : World) : Prop := True
theorem tabs_of {W : World} (_ : laidMetH Tryd.prog laidList W) : Tabs W := True.intro
def firstCells : Array Value := ((List.range 256).map fun i => Value.int .u8 (Lib.firstT i : Int)).toArray
def acceptCells : Array Value := ((List.range 16).flatMap fun i => [Value.int .u8 (Lib.accLo i : Int), Value.int .u8 (Lib.accHi i : Int)]).toArray
def refill (cs : Array Value) : Obj → Obj
  | .cells _ t frozen => .cells cs t frozen
  | o => o
/-- A world for the witness: the settled one, the two tables holding what their initialisers lay. -/
noncomputable def laidWorld (os : Os) : World :=
  { World.holding Tryd.prog os ⟨#[], #[], []⟩ with heap := ((World.holding Tryd.prog os ⟨#[], #[], []⟩).heap.modify 2 (refill firstCells)).modify 3 (refill acceptCells) }
theorem own : ownKnob Tryd.prog.godebug = none := by kernel_rfl
theorem laidOut : laidOutB Tryd.prog = true := by kernel_rfl
end Go.Proofs.YtmhjafpoaamkeaaDoor
