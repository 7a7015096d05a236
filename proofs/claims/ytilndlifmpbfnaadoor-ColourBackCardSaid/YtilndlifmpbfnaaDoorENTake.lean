/- Which name the program takes, from any place on. -/
import Derived.Test.YtilndlifmpbfnaaDoorBgE
namespace Go.Proofs.YtilndlifmpbfnaaDoor
open Go.RowKit
set_option linter.unusedVariables false
set_option linter.unusedSimpArgs false

/-- Code points with no places. -/
def nil0 (l : List Int) : List (Int × Int) := l.map fun r => (r, 0)
theorem encR_nil0 (l : List Int) : M.encR (nil0 l) = M.encZs l := by simp [M.encR, M.encZs, nil0, List.flatMap_map]
theorem nil0_len (l : List Int) : (nil0 l).length = l.length := by simp [nil0]
def TkP (w : World) (T : List Int) (K : Nat) (e : Ending) (w' : World) : Prop := e = .returned (.tuple #[.string (bytes (M.encZs T)), .int .i64 (K : Int)]) ∧ Below w.heap.size w w'
/-- A place, within the list. -/
def clampN (a : Int) (n : Nat) : Nat := (max 0 (min a n)).toNat
theorem clamp_le (a : Int) (n : Nat) : clampN a n ≤ n := by unfold clampN; omega
end Go.Proofs.YtilndlifmpbfnaaDoor
