/- The walk of DecimalInts: what the call comes to, in any memory in which the tables are laid. -/
import Derived.Test.YtmhjafpoaamkeaaDoorDTied7
import Derived.WalkKit
import Derived.ProofKit
import Derived.OpenShut
import Derived.ShutString
import Derived.ChangeOld
import Derived.Below
import Derived.Test.YtmhjafpoaamkeaaDoorDAlive
import Derived.Test.YtmhjafpoaamkeaaDoorDRLess
import Derived.Test.YtmhjafpoaamkeaaDoorDMath5
namespace Go.Proofs.YtmhjafpoaamkeaaDoor.decimalInts
open Go.ChangeShapes Go.WideShapes Go.ChangeAt Go.RowKit
open Go.ChangeMaps (open_string shut_string)
set_option linter.unusedVariables false

set_option linter.unusedSimpArgs false
set_option maxRecDepth 100000 in
set_option maxHeartbeats 4000000 in
theorem walk_l (a b : Int) (w : World) :
    Calls Tryd.prog 4 #[.int .i64 a, .int .i64 b] w fun e w' => e = .returned (.bool true) ∧ Below w.heap.size w w' := by
  have al := Lib.hid (fun W => alive_any W)
  by_cases a1 : a < -400000
  · go_enter Tryd.func4, Tryd.ntmps4
    have c0 := Below.refl w.heap.size w
    go_wp2_with fail
    refine (al.out _).mono ?_
    rintro e w1 ⟨rfl, hb1⟩
    have c1 := c0.trans (hb1.mono c0.size)
    clear hb1 c0
    go_wp2
    go_ret
    exact ⟨rfl, c1⟩
  by_cases a2 : 400000 < a
  · go_enter Tryd.func4, Tryd.ntmps4
    have c0 := Below.refl w.heap.size w
    go_wp2_with fail
    refine (al.out _).mono ?_
    rintro e w1 ⟨rfl, hb1⟩
    have c1 := c0.trans (hb1.mono c0.size)
    clear hb1 c0
    go_wp2
    go_ret
    exact ⟨rfl, c1⟩
  by_cases b1 : b < -400000
  · go_enter Tryd.func4, Tryd.ntmps4
    have c0 := Below.refl w.heap.size w
    go_wp2_with fail
    refine (al.out _).mono ?_
    rintro e w1 ⟨rfl, hb1⟩
    have c1 := c0.trans (hb1.mono c0.size)
    clear hb1 c0
    go_wp2
    go_ret
    exact ⟨rfl, c1⟩
  by_cases b2 : 400000 < b
  · go_enter Tryd.func4, Tryd.ntmps4
    have c0 := Below.refl w.heap.size w
    go_wp2_with fail
    refine (al.out _).mono ?_
    rintro e w1 ⟨rfl, hb1⟩
    have c1 := c0.trans (hb1.mono c0.size)
    clear hb1 c0
    go_wp2
    go_ret
    exact ⟨rfl, c1⟩
  have a3 : -400000 ≤ a := by omega
  have a4 : a ≤ 400000 := by omega
  have b3 : -400000 ≤ b := by omega
  have b4 : b ≤ 400000 := by omega
  have hx := M.val_txt a
  have hy := M.val_txt b
  have hz := M.val_txt (a + b)
  have lx := M.txt_len a 6 (by omega) (by omega)
  have ly := M.txt_len b 6 (by omega) (by omega)
  have lz := M.txt_len (a + b) 6 (by omega) (by omega)
  have f1 := M.add_right _ _ hx.2 hy.2
  rw [hx.1, hy.1] at f1
  have f2 := M.int_right _ hz.2 (by rw [hz.1]; omega) (by rw [hz.1]; omega)
  rw [hz.1] at f2
  have f3 := M.less_right _ _ hx.2 hy.2
  rw [hx.1, hy.1] at f3
  have D1 := Lib.hid (fun W => refdec_any a W (by omega) (by omega))
  have D2 := Lib.hid (fun W => refdec_any b W (by omega) (by omega))
  have D3 := Lib.hid (fun W => refdec_any (a + b) W (by omega) (by omega))
  have X1 := Lib.hid (fun W => add_any _ _ _ W (by omega) (by omega) f1)
  have X2 := Lib.hid (fun W => int_any _ _ W (by omega) f2)
  have X3 := Lib.hid (fun W => less_any _ _ _ W (by omega) (by omega) f3)
  obtain ⟨x, ex⟩ : ∃ x, bytes (M.txt a) = x := ⟨_, rfl⟩
  obtain ⟨y, ey⟩ : ∃ x, bytes (M.txt b) = x := ⟨_, rfl⟩
  unfold strB at X1
  unfold intB at X2
  dsimp only at X1 X2
  obtain ⟨z, ez⟩ : ∃ x, bytes (M.txt (a + b)) = x := ⟨_, rfl⟩
  rw [ex] at D1 X1 X3
  rw [ey] at D2 X1 X3
  rw [ez] at D3 X1 X2
  have e1 : (z.toList == z.toList) = true := by simp
  have e2 : (a + b == a + b) = true := by simp
  clear f1 f2 f3 hx hy hz lx ly lz ex ey ez a1 a2 b1 b2
  by_cases hlt : a < b
  · have q1 : decide (a < b) = true := by simpa using hlt
    rw [q1] at X3
    go_enter Tryd.func4, Tryd.ntmps4
    have c0 := Below.refl w.heap.size w
    go_wp2_with fail
    refine (al.out _).mono ?_
    rintro e w1 ⟨rfl, hb1⟩
    have c1 := c0.trans (hb1.mono c0.size)
    clear hb1 c0
    go_wp2_with fail
    refine (D1.out _).mono ?_
    rintro e w' ⟨rfl, rfl⟩
    go_wp2_with fail
    refine (D2.out _).mono ?_
    rintro e w' ⟨rfl, rfl⟩
    go_wp2_with fail
    refine (X1.out _).mono ?_
    rintro e w2 ⟨rfl, hb2⟩
    have c2 := c1.trans (hb2.mono c1.size)
    clear hb2 c1
    go_wp2_with fail
    refine (X2.out _).mono ?_
    rintro e w3 ⟨rfl, hb3⟩
    have c3 := c2.trans (hb3.mono c2.size)
    clear hb3 c2
    go_wp2_with fail
    refine (D3.out _).mono ?_
    rintro e w' ⟨rfl, rfl⟩
    go_wp2_with fail
    refine (D1.out _).mono ?_
    rintro e w' ⟨rfl, rfl⟩
    go_wp2_with fail
    refine (D2.out _).mono ?_
    rintro e w' ⟨rfl, rfl⟩
    go_wp2_with fail
    refine (X3.out _).mono ?_
    rintro e w' ⟨rfl, rfl⟩
    go_wp2
    go_ret
    exact ⟨rfl, c3⟩
  · have q1 : decide (a < b) = false := by simpa using hlt
    rw [q1] at X3
    go_enter Tryd.func4, Tryd.ntmps4
    have c0 := Below.refl w.heap.size w
    go_wp2_with fail
    refine (al.out _).mono ?_
    rintro e w1 ⟨rfl, hb1⟩
    have c1 := c0.trans (hb1.mono c0.size)
    clear hb1 c0
    go_wp2_with fail
    refine (D1.out _).mono ?_
    rintro e w' ⟨rfl, rfl⟩
    go_wp2_with fail
    refine (D2.out _).mono ?_
    rintro e w' ⟨rfl, rfl⟩
    go_wp2_with fail
    refine (X1.out _).mono ?_
    rintro e w2 ⟨rfl, hb2⟩
    have c2 := c1.trans (hb2.mono c1.size)
    clear hb2 c1
    go_wp2_with fail
    refine (X2.out _).mono ?_
    rintro e w3 ⟨rfl, hb3⟩
    have c3 := c2.trans (hb3.mono c2.size)
    clear hb3 c2
    go_wp2_with fail
    refine (D3.out _).mono ?_
    rintro e w' ⟨rfl, rfl⟩
    go_wp2_with fail
    refine (D1.out _).mono ?_
    rintro e w' ⟨rfl, rfl⟩
    go_wp2_with fail
    refine (D2.out _).mono ?_
    rintro e w' ⟨rfl, rfl⟩
    go_wp2_with fail
    refine (X3.out _).mono ?_
    rintro e w' ⟨rfl, rfl⟩
    go_wp2
    go_ret
    exact ⟨rfl, c3⟩
theorem walk (a0 a1 : Int) (w0 : (Lit.int .i64 a0).wf = true) (w1 : (Lit.int .i64 a1).wf = true) (w : World) (hT : Tabs w) :
    Calls Tryd.prog 4 #[.int .i64 a0, .int .i64 a1] w fun e w' => e = .returned (.bool true) ∧ Below w.heap.size w w' := walk_l a0 a1 w

end Go.Proofs.YtmhjafpoaamkeaaDoor.decimalInts
