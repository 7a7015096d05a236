/- Decimals: the law's own 'alive' comes to true. -/
import Derived.Test.YtmhjafpoaamkeaaDoorDAdd2
import Derived.Test.YtmhjafpoaamkeaaDoorDLess
namespace Go.Proofs.YtmhjafpoaamkeaaDoor
open Go.RowKit
set_option linter.unusedVariables false
set_option maxRecDepth 100000 in
set_option maxHeartbeats 1000000 in
theorem alive_any (w : World) :
    Calls Tryd.prog 7 #[] w fun e w' => e = .returned (.bool true) ∧ Below w.heap.size w w' := by
  have a1 := fun W => add_any [57, 57] [49] ([49, 48, 48], true) W (by simp) (by simp) (by decide +kernel)
  have l1 := fun W => less_any [45, 51] [50] true W (by simp) (by simp) (by decide +kernel)
  have r1 := fun W => right_any [48] true W (by simp) (by decide +kernel)
  unfold strB bytes at a1
  unfold bytes at l1 r1
  have A1 := Lib.hid a1
  have L1 := Lib.hid l1
  have R1 := Lib.hid r1
  clear a1 l1 r1
  go_enter Tryd.func7, Tryd.ntmps7
  go_wp2_with fail
  refine (A1.out _).mono ?_
  rintro e w1 ⟨rfl, hb⟩
  go_wp2_with fail
  refine (L1.out _).mono ?_
  rintro e w' ⟨rfl, rfl⟩
  go_wp2_with fail
  refine (R1.out _).mono ?_
  rintro e w' ⟨rfl, rfl⟩
  go_wp2
  go_ret
  exact ⟨rfl, hb⟩
end Go.Proofs.YtmhjafpoaamkeaaDoor
