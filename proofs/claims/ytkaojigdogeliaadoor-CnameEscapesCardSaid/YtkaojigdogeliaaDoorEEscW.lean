/- The walk of CnameEscapes. -/
import Derived.Test.YtkaojigdogeliaaDoorEEscF
import Derived.Test.YtkaojigdogeliaaDoorEEscT
import Derived.Outline
namespace Go.Proofs.YtkaojigdogeliaaDoor
open Go.RowKit
set_option linter.unusedVariables false
set_option linter.unusedSimpArgs false

set_option maxRecDepth 100000 in
set_option maxHeartbeats 2000000 in
theorem eescapes_walk (x0 x1 : Int) (x2 : Bool) (x3 : Int) (w : World) {P0 P1 P3 : Prop} (m0 : P0) (m1 : P1) (m3 : P3) (hT : TabsE w) :
    Calls Tryd.prog 5 #[.int .i64 x0, .int .i64 x1, .bool x2, .int .i64 x3] w fun e w' => e = .returned (.bool true) ∧ Below w.heap.size w w' := by
  by_cases hin : 1 ≤ x0 ∧ x0 ≤ 1114111 ∧ (x0 < 55296 ∨ 57344 ≤ x0) ∧ 0 ≤ x1 ∧ x1 ≤ 5
  · obtain ⟨i1, i2, i3, i4, i5⟩ := hin
    obtain ⟨r, hr⟩ : ∃ r : Nat, (r : Int) = x0 := ⟨x0.toNat, by omega⟩
    cases x2 with
    | false => exact eesc_small x0 r hr x1 x3 w hT (by omega) (by omega) (by omega) i4 i5
    | true => exact eesc_great x0 r hr x1 x3 w hT (by omega) (by omega) (by omega) i4 i5
  · have hway : x0 < 1 ∨ 1114111 < x0 ∨ (55296 ≤ x0 ∧ x0 < 57344) ∨ x1 < 0 ∨ 5 < x1 := by omega
    have al := Lib.hid (alive_any w hT)
    clear hin hT m0 m1 m3
    rcases hway with hway | hway | ⟨hway, hway2⟩ | hway | hway
    all_goals
      as_aux_lemma =>
        go_enter Tryd.func5, Tryd.ntmps5
        go_wp2_with fail
        refine al.out.mono ?_
        rintro e w1 ⟨rfl, hb1⟩
        have HB1 := Lib.hid hb1
        clear hb1
        go_wp2
        all_goals
          go_ret
          exact ⟨rfl, HB1.out⟩
end Go.Proofs.YtkaojigdogeliaaDoor
