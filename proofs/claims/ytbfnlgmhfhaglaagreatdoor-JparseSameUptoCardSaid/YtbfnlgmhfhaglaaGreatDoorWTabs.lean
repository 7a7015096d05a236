/- What the tables of Go's library hold that our walks read. -/
import Derived.Test.YtbfnlgmhfhaglaaGreatDoorJgB
import Derived.Test.YtbfnlgmhfhaglaaGreatDoorShelf
import Derived.Lib.SmallJoins
import Derived.Lib.AppendIntMem
namespace Go.Proofs.YtbfnlgmhfhaglaaGreatDoor
open Go.RowKit
set_option linter.unusedVariables false

/-- The two tables of UTF-8, the powers of ten, one cell of the table of bits. -/
def Tabs (w : World) : Prop := Lib.Utf8Tabs 0 1 w ∧ Lib.TabIs Tryz.prog w "internal/strconv.uint64pow10" .u64 Lib.pow10Tab ∧ w.cell? ⟨7, 15, none⟩ = some (.int .u8 4)
theorem Tabs.u {w : World} (h : Tabs w) : Lib.Utf8Tabs 0 1 w := h.1
theorem Tabs.p {w : World} (h : Tabs w) : Lib.TabIs Tryz.prog w "internal/strconv.uint64pow10" .u64 Lib.pow10Tab := h.2.1
theorem Tabs.z {w : World} (h : Tabs w) : w.cell? ⟨7, 15, none⟩ = some (.int .u8 4) := h.2.2
theorem Tabs.keep {w w' : World} (h : Tabs w) (hb : Below w.heap.size w w') : Tabs w' := by
  obtain ⟨⟨h1, h2⟩, h3, h4⟩ := h
  refine ⟨⟨fun c hc => ?_, fun i hi => ⟨?_, ?_⟩⟩, Joins.tab_stays (g := 3) (by kernel_rfl) h3 hb (Nat.le_refl _), ?_⟩
  · rw [hb.cell (World.block_lt_of_cell? w _ (h1 c hc))]; exact h1 c hc
  · rw [hb.cell (World.block_lt_of_cell? w _ (h2 i hi).1)]; exact (h2 i hi).1
  · rw [hb.cell (World.block_lt_of_cell? w _ (h2 i hi).2)]; exact (h2 i hi).2
  · rw [hb.cell (World.block_lt_of_cell? w _ h4)]; exact h4
end Go.Proofs.YtbfnlgmhfhaglaaGreatDoor
