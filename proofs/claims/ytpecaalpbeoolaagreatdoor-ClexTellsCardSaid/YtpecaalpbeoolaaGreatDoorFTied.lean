/- What the tied rows of tokens share: the table that strconv.Itoa reads; a world for the witness. -/
import Derived.Test.YtpecaalpbeoolaaGreatDoorCards
import Derived.Test.YtpecaalpbeoolaaGreatDoorTie
import Derived.Test.YtpecaalpbeoolaaGreatDoorNRead
import Derived.Deep.DeepHandedRow
import Derived.Deep.DeepWitnessRowRef
import Derived.LaidMore
import Derived.Lib.LaidU8T
import Derived.Lib.LaidTab
import Derived.Stop.LaidErr
import Derived.PinnedBridge
import Derived.MakeChecks
import Derived.ChangeOld
namespace Go.Proofs.YtpecaalpbeoolaaGreatDoor
open Go.RowKit Go.Lib Go.Shelf

def laidList : List (String × DataW Unit) := [("math/bits.deBruijn32tab", Rows.laid_math_bits_deBruijn32tab), ("math/bits.deBruijn64tab", Rows.laid_math_bits_deBruijn64tab), ("internal/strconv.uint64pow10", Rows.laid_internal_strconv_uint64pow10), ("unicode/utf8.acceptRanges", Rows.laid_unicode_utf8_acceptRanges), ("unicode/utf8.first", Rows.laid_unicode_utf8_first)]
theorem powD : (Rows.laid_internal_strconv_uint64pow10 : DataW Unit) = tabData .u64 pow10Tab := by kernel_rfl
theorem tabs_of {W : World} (h : laidMetH Tryz.prog laidList W) : Tabs W := by
  rw [MakeChecks.laidMetH_plain _ _ _ (by kernel_rfl)] at h
  have h2 := h.tail.tail
  rw [powD] at h2
  exact tabIs_of_head (g := 3) (by kernel_rfl) (by kernel_rfl) Tryz.underlying126 Tryz.underlying120 (by kernel_rfl) (by kernel_rfl) h2
def firstCells : Array Value := ((List.range 256).map fun i => Value.int .u8 (Lib.firstT i : Int)).toArray
def refill (cs : Array Value) : Obj → Obj
  | .cells _ t frozen => .cells cs t frozen
  | o => o
/-- A world for the witness: what the door's own run leaves, and the table of first bytes. -/
noncomputable def laidWorld (os : Os) : World :=
  { World.doorLaid Tryz.prog 72 os with heap := (World.doorLaid Tryz.prog 72 os).heap.modify 1 (refill firstCells) }
theorem own : ownKnob Tryz.prog.godebug = none := by kernel_rfl
theorem laidOut : laidOutB Tryz.prog = true := by kernel_rfl
end Go.Proofs.YtpecaalpbeoolaaGreatDoor
