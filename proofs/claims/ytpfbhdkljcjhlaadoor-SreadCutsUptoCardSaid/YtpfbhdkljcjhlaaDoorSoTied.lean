/- What the tied rows of chapter 25 share: a world for the witness; that internal/bytealg.MaxLen holds some int. -/
import Derived.Test.YtpfbhdkljcjhlaaDoorCards
import Derived.Test.YtpfbhdkljcjhlaaDoorTie
import Derived.Test.YtpfbhdkljcjhlaaDoorUBase
import Derived.Deep.DeepHandedRow
import Derived.Lib.LaidU8T
import Derived.PinnedBridge
import Derived.MakeChecks
import Derived.ChangeOld
import Derived.Shelf.Vars
namespace Go.Proofs.YtpfbhdkljcjhlaaDoor
open Go.RowKit Go.Lib Go.Shelf

/-- Nothing is wanted of the variables. -/
def Tabs (_ : World) : Prop := True
def laidList : List (String × DataW Unit) := [("unicode/utf8.acceptRanges", Rows.laid_unicode_utf8_acceptRanges), ("unicode/utf8.first", Rows.laid_unicode_utf8_first)]
theorem tabs_of {W : World} (_ : laidMetH Tryd.prog laidList W) : Tabs W := True.intro
def firstCells : Array Value := ((List.range 256).map fun i => Value.int .u8 (Lib.firstT i : Int)).toArray
def acceptCells : Array Value := ((List.range 16).flatMap fun i => [Value.int .u8 (Lib.accLo i : Int), Value.int .u8 (Lib.accHi i : Int)]).toArray
def refill (cs : Array Value) : Obj → Obj
  | .cells _ t frozen => .cells cs t frozen
  | o => o
/-- A world for the witness: the settled one, the two tables holding what their initialisers lay. -/
noncomputable def laidWorld (os : Os) : World :=
  { World.holding Tryd.prog os ⟨#[], #[], []⟩ with heap := ((World.holding Tryd.prog os ⟨#[], #[], []⟩).heap.modify 1 (refill firstCells)).modify 2 (refill acceptCells) }
theorem own : ownKnob Tryd.prog.godebug = none := by kernel_rfl
theorem laidOut : laidOutB Tryd.prog = true := by kernel_rfl
/-- internal/bytealg.MaxLen holds some int. -/
theorem maxlen_of {W : World} (h : W.ShapedOpen Tryd.prog) : ∃ m, W.cell? ⟨0, 0, none⟩ = some (.int .i64 m) :=
  cell_of_shapedOpen_int (g := 0) (t := 3) (zero := #[.int .i64 0]) (k := .i64) h (of_decide_eq_true (by kernel_rfl)) (by kernel_rfl) rfl (by kernel_rfl) (by kernel_rfl) Tryd.underlying3
end Go.Proofs.YtpfbhdkljcjhlaaDoor
