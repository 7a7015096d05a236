/- Texts of ours in one: JgL. -/
import Derived.Test.YtbfnlgmhfhaglaaGreatDoorQk02
import Derived.Test.YtbfnlgmhfhaglaaGreatDoorQk00
import Derived.StillTailTactics
import Derived.Deep.QuietTactic
import Derived.BigQuiet
import Derived.Lib.SlBytesConst
import Derived.Laws.BitsLemmas
import Derived.WalkSmall
/- Several texts of ours in one: JStr JSpell JLaw. -/
/- Texts of JSON, written: what jstring.Right and jstring.Spell return, for any ints. -/
namespace Go.Proofs.YtbfnlgmhfhaglaaGreatDoor
open Go.RowKit
set_option linter.unusedVariables false

def iN (l : List Nat) : List Int := l.map fun (n : Nat) => (n : Int)
theorem iN_len (l : List Nat) : (iN l).length = l.length := by simp [iN]
theorem iN_append (k l : List Nat) : iN (k ++ l) = iN k ++ iN l := by simp [iN]
end Go.Proofs.YtbfnlgmhfhaglaaGreatDoor

/- Texts of JSON, written: what jstring.Spell returns of units. -/
namespace Go.Proofs.YtbfnlgmhfhaglaaGreatDoor
open Go.RowKit
set_option linter.unusedVariables false

end Go.Proofs.YtbfnlgmhfhaglaaGreatDoor

/- What the laws of texts of JSON share: the example of the document; units one behind the other. -/
namespace Go.Proofs.YtbfnlgmhfhaglaaGreatDoor
open Go.RowKit
set_option linter.unusedVariables false

theorem is_cells_new (w : World) (l : List Int) (cs : List Value) (n : Nat) (h : icells l = cs) (hn : cs.length = n) (hl : l.length ≤ 1048576) :
    Is (w.alloc (.cells cs.toArray 3)) (.slice (some ⟨w.heap.size, 0, none⟩) n n) l := by
  have := is_new w l hl
  have e : l.length = n := by rw [← hn, ← h]; simp [icells]
  rw [h] at this
  simpa [e] using this

theorem is_two (w : World) (x y : Int) : Is (w.alloc (.cells #[.int .i64 x, .int .i64 y] 3)) (.slice (some ⟨w.heap.size, 0, none⟩) 2 2) [x, y] := is_cells_new w [x, y] [.int .i64 x, .int .i64 y] 2 rfl rfl (by simp)
theorem is_one (w : World) (x : Int) : Is (w.alloc (.cells #[.int .i64 x] 3)) (.slice (some ⟨w.heap.size, 0, none⟩) 1 1) [x] := is_cells_new w [x] [.int .i64 x] 1 rfl rfl (by simp)
end Go.Proofs.YtbfnlgmhfhaglaaGreatDoor
