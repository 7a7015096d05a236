/- The law's alive of chapter 14. -/
import Derived.Test.YtkaojigdogeliaaDoorEQuote2
import Derived.Test.YtkaojigdogeliaaDoorENTake
import Derived.Lib.SlBytesConst
namespace Go.Proofs.YtkaojigdogeliaaDoor
open Go.RowKit
set_option linter.unusedVariables false
set_option linter.unusedSimpArgs false

theorem rn_lit (c : List Int) (l : List UInt8) (h : M.encZs c = l) (ho : ∀ r ∈ c, M.Okr r) : cps (M.rn l 0) = c := by subst h; exact M.rn_encZs c ho
instance (r : Int) : Decidable (M.okP r) := by unfold M.okP; infer_instance
theorem pn_lit (c : List Int) (l : List UInt8) (h : M.encZs c = l) (ho : ∀ r ∈ c, M.okP r) : M.pn l 0 = c := by subst h; exact M.pn_enc0 c ho
set_option maxRecDepth 100000 in
set_option maxHeartbeats 2000000 in
theorem alive_any (w : World) (hT : TabsE w) :
    Calls Tryd.prog 8 #[] w fun e w' => e = .returned (.bool true) ∧ Below w.heap.size w w' := by
  have kc := fun (w : World) (C : Array Value) (n c : Nat) => Lib.run_convert_bytes_const (P := Tryd.prog) w 34 5 C n c Tryd.underlying34 Tryd.underlying5
  have c1 := rn_lit [97, 49, 32, 98] [97, 49, 32, 98] (by decide +kernel) (by decide +kernel)
  have c2 := rn_lit [45, 97] [45, 97] (by decide +kernel) (by decide +kernel)
  have tk : M.takeN [97, 49, 32, 98] = ([97, 49], 2) := by rw [M.takeN_in _ _ (by decide), M.takeN_in _ _ (by decide), M.takeN_out _ _ (by decide) (by decide)]; rfl
  obtain ⟨rs1, h1⟩ : ∃ r, M.rn [97, 49, 32, 98] 0 = r := ⟨_, rfl⟩
  obtain ⟨rs2, h2⟩ : ∃ r, M.rn [45, 97] 0 = r := ⟨_, rfl⟩
  rw [h1] at c1
  rw [h2] at c2
  have R1 := Lib.hid (fun v W hv => refruns_any v [97, 49, 32, 98] rs1 W hv (by simp) h1)
  have R2 := Lib.hid (fun v W hv => refruns_any v [45, 97] rs2 W hv (by simp) h2)
  have K1 := Lib.hid (fun v W (hv : Lc W v (cps rs1)) => ntake_core v (cps rs1) 0 [97, 49] 2 W hv (by rw [c1]; decide) (by rw [c1]; show (M.takeN [97, 49, 32, 98]).1 = _; rw [tk]) (by rw [c1]; show 0 + (M.takeN [97, 49, 32, 98]).2 = _; rw [tk]; rfl))
  have B1 := Lib.hid (fun v W (hv : Lc W v (cps rs2)) => nbegins_any v (cps rs2) 0 true W hv (by rw [c2]; decide) (by rw [c2]; decide))
  have S1 := Lib.hid (fun W hW => spell_any [97, 32, 98] [97, 92, 32, 98] W hW (by simp) (by rw [pn_lit [97, 32, 98] _ (by decide +kernel) (by decide +kernel)]; decide +kernel))
  have S2 := Lib.hid (fun W hW => sprest_any [49] [49] W hW (by simp) (by rw [pn_lit [49] _ (by decide +kernel) (by decide +kernel)]; decide +kernel))
  have Q1 := Lib.hid (fun W hW => ctextq_any [97] [34, 97, 34] W hW (by simp) (by rw [pn_lit [97] _ (by decide +kernel) (by decide +kernel)]; decide +kernel))
  have X1 := Lib.hid (fun W => nst_any 97 true W (by decide))
  have X2 := Lib.hid (fun W => nin_any 49 true W (by decide))
  unfold TkP at K1
  unfold StP at S1 S2 Q1
  rw [show M.encZs [97, 49] = [97, 49] by decide +kernel] at K1
  rw [show bytes [97, 49] = ⟨#[97, 49]⟩ from rfl] at K1
  rw [show bytes [97, 32, 98] = ⟨#[97, 32, 98]⟩ from rfl, show bytes [97, 92, 32, 98] = ⟨#[97, 92, 32, 98]⟩ from rfl] at S1
  rw [show bytes [49] = ⟨#[49]⟩ from rfl] at S2
  rw [show bytes [97] = ⟨#[97]⟩ from rfl, show bytes [34, 97, 34] = ⟨#[34, 97, 34]⟩ from rfl] at Q1
  unfold RuP at R1 R2
  have HT := Lib.hid hT
  clear hT c1 c2 tk h1 h2
  go_enter Tryd.func8, Tryd.ntmps8
  go_wp2_with fail
  refine (R1.out _ _ (bs_newm w [97, 49, 32, 98] _ (by simp))).mono ?_
  rintro e w2 ⟨v2, rfl, ho2, hb2⟩
  have d2 := ((Below.refl w.heap.size w).alloc (Nat.le_refl _) _).trans (hb2.mono (by simp))
  have l2 := ho2.vs
  change Rs w2 v2 rs1 at l2
  have l3 := l2.lc
  clear hb2 ho2 l2
  go_wp2_with fail
  refine (K1.out _ _ l3).mono ?_
  rintro e w3 ⟨rfl, hb3⟩
  have d3 := d2.trans (hb3.mono d2.size)
  clear hb3 d2 l3
  go_wp2_with fail
  refine (S1.out _ (HT.out.keep d3)).mono ?_
  rintro e w4 ⟨rfl, hb4⟩
  have d4 := d3.trans (hb4.mono d3.size)
  clear hb4 d3
  go_wp2_with fail
  refine (X1.out _).mono ?_
  rintro e w' ⟨rfl, rfl⟩
  go_wp2_with fail
  refine (X2.out _).mono ?_
  rintro e w' ⟨rfl, rfl⟩
  go_wp2_with fail
  refine (R2.out _ _ (bs_newm w4 [45, 97] _ (by simp))).mono ?_
  rintro e w5 ⟨v5, rfl, ho5, hb5⟩
  have d5 := (d4.alloc d4.size _).trans (hb5.mono (by have := d4.size; simp; omega))
  have l2 := ho5.vs
  change Rs w5 v5 rs2 at l2
  have l3 := l2.lc
  clear hb5 ho5 l2 d4
  go_wp2_with fail
  refine (B1.out _ _ l3).mono ?_
  rintro e w' ⟨rfl, rfl⟩
  go_wp2_with fail
  refine (Q1.out _ (HT.out.keep d5)).mono ?_
  rintro e w6 ⟨rfl, hb6⟩
  have d6 := d5.trans (hb6.mono d5.size)
  clear hb6 d5 l3
  go_wp2_with fail
  refine (S2.out _ (HT.out.keep d6)).mono ?_
  rintro e w7 ⟨rfl, hb7⟩
  have d7 := d6.trans (hb7.mono d6.size)
  clear hb7 d6
  go_wp2
  go_ret
  exact ⟨rfl, d7⟩
end Go.Proofs.YtkaojigdogeliaaDoor
