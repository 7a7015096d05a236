/- Numbers: the law's own 'alive' comes to true. -/
import Derived.Test.YtfclkackfamdlaaGreatDoorNShort
namespace Go.Proofs.YtfclkackfamdlaaGreatDoor
open Go.RowKit
set_option linter.unusedVariables false
set_option linter.unusedSimpArgs false

theorem read1e3 : M.readN [49, 101, 51] = ((false, [49], [51]), true) := by decide +kernel
theorem short1e3 : M.shortN (M.plainN false [49] [51]) = [49, 101, 51] := by decide +kernel
theorem plain1e3 : M.plainN false [49] [51] = [[49, 48, 48, 48], [49, 101, 51]] := by decide +kernel
theorem right1e3 : M.rightN [49] [51] = true := by decide +kernel
set_option maxRecDepth 100000 in
set_option maxHeartbeats 2000000 in
theorem alive_any (w : World) (hT : Tabs w) :
    Calls Tryz.prog 4 #[] w fun e w' => e = .returned (.bool true) ∧ Below w.heap.size w w' := by
  have R1 := Lib.hid (read_any [49, 101, 51] _ _ w hT (by decide) read1e3)
  have S1 := Lib.hid (fun w hw => short_any false [49] [51] _ w hw (by decide) (by decide) short1e3)
  have P1 := Lib.hid (fun w hw => plain_any false [49] [51] _ w hw (by decide) (by decide) plain1e3)
  have G1 := Lib.hid (fun w => rightn_any false [49] [51] _ w (by decide) (by decide) right1e3)
  unfold numV bytes at R1 S1 P1 G1
  simp only at R1 S1 P1 G1
  have HT := Lib.hid hT
  clear hT
  go_enter Tryz.func4, Tryz.ntmps4
  go_wp2_with fail
  refine R1.out.mono ?_
  rintro e w1 ⟨rfl, hb1⟩
  obtain ⟨W2, hW2⟩ : ∃ W, w1.alloc (.cells #[.bool false, .string ⟨#[49]⟩, .string ⟨#[51]⟩] 24) = W := ⟨_, rfl⟩
  have d2 : Below w1.heap.size w1 W2 := by rw [← hW2]; exact (Below.refl _ _).alloc (Nat.le_refl _) _
  have z2 : W2.heap.size = w1.heap.size + 1 := by rw [← hW2]; simp
  have b2 := hb1.trans (d2.mono hb1.size)
  have g : Box w1.heap.size (.bool false) (.string ⟨#[49]⟩) (.string ⟨#[51]⟩) W2 := by
    rw [← hW2]
    exact ⟨by rw [World.cell?_alloc_at _ _ _ _ rfl]; rfl, by rw [World.cell?_alloc_at _ _ _ _ rfl]; rfl, by rw [World.cell?_alloc_at _ _ _ _ rfl]; rfl⟩
  have HW2 := Lib.hid hW2
  have G := Lib.hid g
  have B2 := Lib.hid b2
  clear hW2 d2 b2 hb1 g
  go_wp2_with fail
  rw [HW2.out]
  clear HW2
  refine (S1.out _ (HT.out.keep B2.out)).mono ?_
  rintro e w3 ⟨rfl, hb3⟩
  have B3 := Lib.hid (B2.out.trans (hb3.mono B2.out.size))
  have G3 := Lib.hid (box_keep G.out hb3 (by omega))
  have z3 := hb3.size
  obtain ⟨g0, g1, g2⟩ := G3.out
  clear hb3
  go_wp2_with fail
  refine (P1.out _ (HT.out.keep B3.out)).mono ?_
  rintro e w4 ⟨v, rfl, hs, hb4⟩
  obtain ⟨a, cap, rfl, -⟩ := ss_get hs
  clear g0 g1 g2
  have B4 := Lib.hid (B3.out.trans (hb4.mono B3.out.size))
  have G4 := Lib.hid (box_keep G3.out hb4 (by omega))
  obtain ⟨g0, g1, g2⟩ := G4.out
  clear hb4 hs
  simp only [List.length_cons, List.length_nil]
  go_wp2_with fail
  refine (G1.out _).mono ?_
  rintro e w5 ⟨rfl, hb5⟩
  have hb6 := B4.out.trans (hb5.mono B4.out.size)
  clear g0 g1 g2 hb5
  go_wp2
  go_ret
  exact ⟨rfl, hb6⟩
end Go.Proofs.YtfclkackfamdlaaGreatDoor
