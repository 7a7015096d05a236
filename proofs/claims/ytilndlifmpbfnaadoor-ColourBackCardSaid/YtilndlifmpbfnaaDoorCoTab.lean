/- Colours: the table of names. -/
import Derived.Test.YtilndlifmpbfnaaDoorCoM
import Derived.Test.YtilndlifmpbfnaaDoorBgB
import Derived.Great.BuildSlice
namespace Go.Proofs.YtilndlifmpbfnaaDoor
open Go.RowKit
set_option linter.unusedVariables false
set_option linter.unusedSimpArgs false

def cev (e : M.CE) : List Value := [.string (bytes e.1), .int .i64 e.2.1, .int .i64 e.2.2.1, .int .i64 e.2.2.2]
def ceCells : Array Value := (M.ceT.flatMap cev).toArray
theorem infoCE : (Tryd.prog.info? 51).map (fun i => (i.zero, i.size, i.bytes)) = some (some (.agg #[.string ⟨#[]⟩, .int .i64 0, .int .i64 0, .int .i64 0]), 4, 40) := by kernel_rfl
set_option maxRecDepth 100000 in
set_option maxHeartbeats 4000000 in
theorem table_any (w : World) : Calls Tryd.prog 15 #[] w fun e w' => e = .returned (.slice (some ⟨w.heap.size, 0, none⟩) 38 38) ∧ w' = w.alloc (.cells ceCells 51) := by
  go_enter Tryd.func15, Tryd.ntmps15
  go_wp2
  obtain ⟨i0, hi, hz0, hz1, hz2⟩ := info_parts infoCE
  refine wp_buildSlice 48 51 38 _ rfl ceCells i0 _ Tryd.underlying48 hi hz0 (by rw [hz1]; decide) (by rw [hz1]; decide) (by rw [hz1]; kernel_rfl) ?_
  go_wp2
  go_ret
  exact ⟨rfl, rfl⟩
end Go.Proofs.YtilndlifmpbfnaaDoor
