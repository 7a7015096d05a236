/- Chapter 9's own 'alive'. -/
import Derived.Test.YtkindbfehflohaaGreatDoorAPie3
namespace Go.Proofs.YtkindbfehflohaaGreatDoor
open Go.RowKit
set_option linter.unusedVariables false
set_option linter.unusedSimpArgs false

def vhK (k : Int) : Vh := ⟨k, [], false, [], [], 0, 0, []⟩
theorem vhK_hd (k : Int) (w : World) : HdS w (vhK k) (.slice none 0 0) (.slice none 0 0) := ⟨by show 0 ≤ _; exact Nat.zero_le _, by show 0 ≤ _; exact Nat.zero_le _, isP_nil _ _, isP_nil _ _⟩
theorem vhK_L (k : Int) (A : Nat) : VoL A (.cons (vhK k) .nil .nil) := ⟨⟨Nat.zero_le _, Nat.zero_le _⟩, trivial, trivial⟩
theorem jpc5 : jpc (vhK 5) .nil = [([116, 114, 117, 101], 0)] := by decide +kernel
theorem jpc0 : jpc (vhK 0) .nil = [] := by decide +kernel
theorem right7 : rightH (vhK 7) .nil 60 = true := by decide +kernel
set_option maxRecDepth 100000 in
set_option maxHeartbeats 4000000 in
theorem alive9_any (w : World) (hT : Tabs w) : Calls Tryz.prog 23 #[] w fun e w' => e = .returned (.bool true) ∧ Below w.heap.size w w' := by
  have P5 : Hid (∀ W, Tabs W → Calls Tryz.prog 26 #[.agg #[.int .i64 5, .slice none 0 0, .bool false, .string ⟨#[]⟩, .string ⟨#[]⟩, .slice none 0 0, .int .i64 0, .int .i64 0, .slice none 0 0]] W fun e w' => ∃ u, e = .returned u ∧ OwnJ W.heap.size w' u [([116, 114, 117, 101], 0)] ∧ Below W.heap.size W w') :=
    Lib.hid fun W hW => by have := jpieces_any (vhK 5) .nil (.slice none 0 0) (.slice none 0 0) (.slice none 0 0) W hW (by decide) (vhK_L 5 500) (vhK_hd 5 W) (voP_nil _ _); rw [jpc5] at this; exact this
  have P0 : Hid (∀ W, Tabs W → Calls Tryz.prog 26 #[.agg #[.int .i64 0, .slice none 0 0, .bool false, .string ⟨#[]⟩, .string ⟨#[]⟩, .slice none 0 0, .int .i64 0, .int .i64 0, .slice none 0 0]] W fun e w' => ∃ u, e = .returned u ∧ OwnJ W.heap.size w' u [] ∧ Below W.heap.size W w') :=
    Lib.hid fun W hW => by have := jpieces_any (vhK 0) .nil (.slice none 0 0) (.slice none 0 0) (.slice none 0 0) W hW (by decide) (vhK_L 0 500) (vhK_hd 0 W) (voP_nil _ _); rw [jpc0] at this; exact this
  have R7 : Hid (∀ W, Calls Tryz.prog 45 #[.agg #[.int .i64 7, .slice none 0 0, .bool false, .string ⟨#[]⟩, .string ⟨#[]⟩, .slice none 0 0, .int .i64 0, .int .i64 0, .slice none 0 0]] W fun e w' => e = .returned (.bool true) ∧ Below W.heap.size W w') :=
    Lib.hid fun W => by have := jright_top (vhK 7) .nil (.slice none 0 0) (.slice none 0 0) (.slice none 0 0) W (by decide) (vhK_L 7 100000) (vhK_hd 7 W) (voP_nil _ _); rw [right7] at this; exact this
  have HT := Lib.hid hT
  clear hT
  go_enter Tryz.func23, Tryz.ntmps23
  go_wp2_with fail
  refine (P5.out w HT.out).mono ?_
  rintro e w1 ⟨u1, rfl, hu1, hb1⟩
  obtain ⟨a1, c1, rfl, -, -, hq1⟩ := OwnV.vs hu1
  obtain ⟨b, off, rfl, hbk, hcc⟩ := hq1 (by decide)
  have c0 : w1.cell? ⟨b, off, none⟩ = some (.string ⟨#[116, 114, 117, 101]⟩) := hcc 0 (by decide) 0 _ rfl
  have B1 := Lib.hid hb1
  have P01 := Lib.hid (P0.out w1 (HT.out.keep hb1))
  have HC := Lib.hid c0
  have HBK := Lib.hid hbk
  clear hu1 hcc hq1 hb1 c0 hbk
  go_wp2_with fail
  refine P01.out.mono ?_
  rintro e w2 ⟨u2, rfl, hu2, hb2⟩
  obtain ⟨a2, c2, rfl, -⟩ := OwnV.vs hu2
  have c0 := (hb2.cell (p := ⟨b, off, none⟩) HBK.out).trans HC.out
  have B2 := Lib.hid (B1.out.trans (hb2.mono B1.out.size))
  have R72 := Lib.hid (R7.out w2)
  clear hu2 hb2
  go_wp2_with fail
  refine R72.out.mono ?_
  rintro e w3 ⟨rfl, hb3⟩
  have B3 := Lib.hid (B2.out.trans (hb3.mono B2.out.size))
  clear hb3
  go_wp2
  go_ret
  exact ⟨rfl, B3.out⟩
end Go.Proofs.YtkindbfehflohaaGreatDoor
