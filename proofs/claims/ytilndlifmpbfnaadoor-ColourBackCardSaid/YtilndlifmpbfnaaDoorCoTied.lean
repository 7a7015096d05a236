/- What the tied rows of colours share: a world for the witness (the door's own run lays all five of the variables); nothing of them is read. -/
import Derived.Test.YtilndlifmpbfnaaDoorCards
import Derived.Test.YtilndlifmpbfnaaDoorTie
import Derived.Test.YtilndlifmpbfnaaDoorBgB
import Derived.Deep.DeepHandedRow
import Derived.Deep.DeepWitnessRowRef
import Derived.LaidMore
import Derived.Lib.LaidU8T
import Derived.Lib.LaidTab
import Derived.Stop.LaidErr
import Derived.PinnedBridge
import Derived.MakeChecks
import Derived.ChangeOld
namespace Go.Proofs.YtilndlifmpbfnaaDoor
open Go.RowKit Go.Lib Go.Shelf

/-- Nothing is wanted of the variables. -/
def TabsC (_ : World) : Prop := True
def laidList : List (String × DataW Unit) := [("math/bits.deBruijn32tab", Rows.laid_math_bits_deBruijn32tab), ("math/bits.deBruijn64tab", Rows.laid_math_bits_deBruijn64tab), ("internal/strconv.uint64pow10", Rows.laid_internal_strconv_uint64pow10), ("strconv.ErrRange", Rows.laid_strconv_ErrRange), ("strconv.ErrSyntax", Rows.laid_strconv_ErrSyntax)]
theorem tabs_of {W : World} (_ : laidMetH Tryd.prog laidList W) : TabsC W := True.intro
/-- A world for the witness: what the door's own run leaves. -/
noncomputable def laidWorld (os : Os) : World := World.doorLaid Tryd.prog 72 os
theorem own : ownKnob Tryd.prog.godebug = none := by kernel_rfl
theorem laidOut : laidOutB Tryd.prog = true := by kernel_rfl
end Go.Proofs.YtilndlifmpbfnaaDoor
