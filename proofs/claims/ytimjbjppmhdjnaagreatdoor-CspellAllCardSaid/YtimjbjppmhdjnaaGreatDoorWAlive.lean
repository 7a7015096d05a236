import Derived.Test.YtimjbjppmhdjnaaGreatDoorWRight4
set_option maxHeartbeats 2000000
set_option maxRecDepth 100000
namespace Go.Proofs.YtimjbjppmhdjnaaGreatDoor
open Go.RowKit
set_option linter.unusedVariables false
set_option linter.unusedSimpArgs false
instance (r : Int) : Decidable (M.okP r) := by unfold M.okP; infer_instance
theorem pn_lit (c : List Int) (l : List UInt8) (h : M.encZs c = l) (ho : ∀ r ∈ c, M.okP r) : M.pn l 0 = c := by subst h; exact M.pn_enc0 c ho
theorem clean_nil : M.cleanS [] = true := by decide +kernel
theorem clean_f : M.cleanS [102] = true := by decide +kernel
theorem sp_colon : spellG ({ kind := 16 }, z4, 0) = [58] := by
 unfold spellG
 rw [rightG_T _ _ (by decide)]
 unfold M.rightT M.rightK
 rw [clean_nil]
 rfl
theorem sp_func : spellG ({ kind := 2, text := [102] }, z4, 0) = [102, 40] := by
 unfold spellG
 rw [rightG_T _ _ (by decide)]
 unfold M.rightT M.rightK
 rw [clean_nil, clean_f]
 have : M.spellT { kind := 2, text := [102] } = M.encZs (M.spF (M.pn [102] 0)) ++ [40] := rfl
 rw [this, pn_lit [102] _ (by decide +kernel) (by decide +kernel)]
 decide +kernel
theorem ri_comma : rightG ({ kind := 18 }, z4, 0) = true := by
 rw [rightG_T _ _ (by decide)]
 unfold M.rightT M.rightK
 rw [clean_nil]
 rfl
theorem nu_half : M.numS (false, [53], [45, 49]) false false = [46, 53] := by decide +kernel
theorem small_lit (k : Int) (s : List UInt8) (h : s.length <= 1700) : Small { kind := k, text := s } := ⟨h, by simp, by simp, by simp⟩
theorem alive_any (w : World) (hT : Tabs w) :
  Calls Tryz.prog 5 #[] w fun e w' => e = .returned (.bool true) /\ Below w.heap.size w w' := by
 have S1 := Lib.hid (fun W hW => cspell_any ({ kind := 16 }, z4, 0) _ W hW (small_lit 16 [] (by simp)) (by decide +kernel) sp_colon)
 have S2 := Lib.hid (fun W hW => cspell_any ({ kind := 2, text := [102] }, z4, 0) _ W hW (small_lit 2 [102] (by simp)) (by show (M.encZs (M.spF (M.pn [102] 0)) ++ [40]).length <= 39000; rw [pn_lit [102] _ (by decide +kernel) (by decide +kernel)]; decide +kernel) sp_func)
 have S3 := Lib.hid (fun W hW => cright_any ({ kind := 18 }, z4, 0) _ W hW (small_lit 18 [] (by simp)) (by decide +kernel) ri_comma)
 have S4 := Lib.hid (fun W hW => number_any (false, [53], [45, 49]) false false _ W hW (by simp) (by simp) nu_half)
 unfold numV at S4
 rw [show gtv ({ kind := 16 }, z4, 0) = #[.int .i64 16, .string ⟨#[]⟩, .string ⟨#[]⟩, .bool false, .string ⟨#[]⟩, .string ⟨#[]⟩, .bool false, .bool false, .int .i64 0, .int .i64 0, .int .i64 0, .int .i64 0, .int .i64 0] from rfl, show bytes [58] = ⟨#[58]⟩ from rfl] at S1
 rw [show gtv ({ kind := 2, text := [102] }, z4, 0) = #[.int .i64 2, .string ⟨#[102]⟩, .string ⟨#[]⟩, .bool false, .string ⟨#[]⟩, .string ⟨#[]⟩, .bool false, .bool false, .int .i64 0, .int .i64 0, .int .i64 0, .int .i64 0, .int .i64 0] from rfl, show bytes [102, 40] = ⟨#[102, 40]⟩ from rfl] at S2
 rw [show gtv ({ kind := 18 }, z4, 0) = #[.int .i64 18, .string ⟨#[]⟩, .string ⟨#[]⟩, .bool false, .string ⟨#[]⟩, .string ⟨#[]⟩, .bool false, .bool false, .int .i64 0, .int .i64 0, .int .i64 0, .int .i64 0, .int .i64 0] from rfl] at S3
 simp only at S4
 rw [show bytes [53] = ⟨#[53]⟩ from rfl, show bytes [45, 49] = ⟨#[45, 49]⟩ from rfl, show bytes [46, 53] = ⟨#[46, 53]⟩ from rfl] at S4
 have HT := Lib.hid hT
 clear hT
 go_enter Tryz.func5, Tryz.ntmps5
 go_wp2_with fail
 refine (S1.out _ HT.out).mono ?_
 rintro e w2 ⟨rfl, hb2⟩
 have d2 := Lib.hid hb2
 clear hb2
 go_wp2_with fail
 refine (S2.out _ (HT.out.keep d2.out)).mono ?_
 rintro e w3 ⟨rfl, hb3⟩
 have d3 := Lib.hid (d2.out.trans (hb3.mono d2.out.size))
 clear hb3
 go_wp2_with fail
 refine (S3.out _ (HT.out.keep d3.out)).mono ?_
 rintro e w4 ⟨rfl, hb4⟩
 have d4 := Lib.hid (d3.out.trans (hb4.mono d3.out.size))
 clear hb4
 go_wp2_with fail
 refine (S4.out _ (HT.out.keep d4.out)).mono ?_
 rintro e w5 ⟨rfl, hb5⟩
 have d5 := Lib.hid (d4.out.trans (hb5.mono d4.out.size))
 clear hb5
 go_wp2
 go_ret
 exact ⟨rfl, d5.out⟩
end Go.Proofs.YtimjbjppmhdjnaaGreatDoor
