/- What the tied rows share: the tables of UTF-8 that the row lists give 'Tabs'; a world for the witness. -/
import Derived.Test.YtlobinjdgcidmaaDoorCards
import Derived.Test.YtlobinjdgcidmaaDoorTie
import Derived.Test.YtlobinjdgcidmaaDoorQj03
import Derived.Deep.DeepHandedRow
import Derived.Lib.LaidU8T
import Derived.PinnedBridge
import Derived.MakeChecks
import Derived.ChangeOld
namespace Go.Proofs.YtlobinjdgcidmaaDoor
open Go.RowKit Go.Lib Go.Shelf

def ren : Ren := ⟨fun n => n, fun | 5 => 5 | 119 => 119 | 138 => 121 | 139 => 122 | n => n, fun | 3 => 0 | 4 => 1 | n => n⟩
theorem u8t : U8Types Tryd.prog ren := { t5 := by kernel_rfl, t119 := by kernel_rfl, t138 := by kernel_rfl, t139 := by kernel_rfl }
theorem u8x : U8Extra Tryd.prog ren := { n3 := by kernel_rfl, n4 := by kernel_rfl, y3 := by kernel_rfl, y4 := by kernel_rfl, c5 := by kernel_rfl, c119 := by kernel_rfl, c138 := by kernel_rfl }
def laidList : List (String × DataW Unit) := [("unicode/utf8.acceptRanges", Rows.laid_unicode_utf8_acceptRanges), ("unicode/utf8.first", Rows.laid_unicode_utf8_first)]
theorem tabs_of {W : World} (h : laidMetH Tryd.prog laidList W) : Tabs W := by
  rw [MakeChecks.laidMetH_plain _ _ _ (by kernel_rfl)] at h
  have h1 : VarReads Tryd.prog W "unicode/utf8.acceptRanges" acceptData := by
    have := laidMet.reads h (n := "unicode/utf8.acceptRanges") (d := Rows.laid_unicode_utf8_acceptRanges) (by simp [laidList])
    exact this
  have h2 : VarReads Tryd.prog W "unicode/utf8.first" firstData := by
    have := laidMet.reads h (n := "unicode/utf8.first") (d := Rows.laid_unicode_utf8_first) (by simp [laidList])
    rw [show Rows.laid_unicode_utf8_first = firstData from Pinned.utf8First_eq] at this
    exact this
  exact utf8Tabs_of_readsT u8t u8x h2 h1

def firstCells : Array Value := ((List.range 256).map fun i => Value.int .u8 (Lib.firstT i : Int)).toArray
def acceptCells : Array Value := ((List.range 16).flatMap fun i => [Value.int .u8 (Lib.accLo i : Int), Value.int .u8 (Lib.accHi i : Int)]).toArray
def refill (cs : Array Value) : Obj → Obj
  | .cells _ t frozen => .cells cs t frozen
  | o => o
/-- A world for the witness: the settled one, the two tables holding what their initialisers lay. -/
noncomputable def laidWorld (os : Os) : World :=
  { World.holding Tryd.prog os ⟨#[], #[], []⟩ with heap := ((World.holding Tryd.prog os ⟨#[], #[], []⟩).heap.modify 0 (refill firstCells)).modify 1 (refill acceptCells) }
theorem own : ownKnob Tryd.prog.godebug = none := by kernel_rfl
theorem laidOut : laidOutB Tryd.prog = true := by kernel_rfl
end Go.Proofs.YtlobinjdgcidmaaDoor
