/- The walk of JstringBack. -/
import Derived.Test.YtmhjafpoaamkeaaKUnits
import Derived.Test.YtmhjafpoaamkeaaKMath3
import Derived.Test.YtmhjafpoaamkeaaUConv
namespace Go.Proofs.Ytmhjafpoaamkeaa
open Go.RowKit
set_option linter.unusedVariables false

theorem spell_read (k : List Nat) (hk : ∀ u ∈ k, u ≤ 65535) : junits (M.spell k) = some k ∧ M.validAll (M.spell k) = ((M.spell k).length, true) := by
  obtain ⟨b1, b2, b3⟩ := M.body_facts k hk [34] (by simp)
  have hj : M.jtS [34] = some 1 := by rw [M.jtS_cons, if_pos rfl]
  have hu : M.ulS [34] = [] := M.ulS_end _ (by simp)
  have hv34 : (M.validAll [34]).2 = true := by decide +kernel
  have hv : (M.validAll (M.spell k)).2 = true := by
    rw [M.valid_ascii _ (by simp [M.spell]) (by simp [M.spell])]
    show (M.validAll (M.body k ++ [34])).2 = true
    rw [b3, hv34]
  refine ⟨?_, ?_⟩
  · unfold junits
    have hd : (M.spell k).drop 1 = M.body k ++ [34] := rfl
    rw [if_pos]
    · rw [hd, b2, hu, List.append_nil]
    · refine ⟨by simp [M.spell], by simp [M.spell], ?_, hv⟩
      unfold jtI
      rw [hd, b1, hj]
      simp [M.spell]
      omega
  · have := M.all_len _ hv
    exact Prod.ext this hv

set_option maxRecDepth 100000 in
set_option maxHeartbeats 4000000 in
theorem jback_walk (a0 : Option Addr) (len0 cap0 : Nat) (z0 : List Int) (w : World) (w0 : RowI w a0 len0 cap0 z0) :
    Calls Try.prog 4 #[.slice a0 len0 cap0] w fun e w' => e = .returned (.bool true) ∧ Below w.heap.size w w' := by
  obtain ⟨l, hl, b0, n0⟩ := row_is w0
  clear w0
  by_cases h : 200 < len0
  · clear b0 n0 hl
    go_enter Try.func4, Try.ntmps4
    go_wp2_with fail
    refine (jalive_any _).mono ?_
    rintro e w1 ⟨rfl, hb⟩
    go_wp2
    go_ret
    exact ⟨rfl, hb⟩
  · have h200 : len0 ≤ 200 := by omega
    cases hr : M.rightU l with
    | false =>
      have s2 := fun v W hv => runits_any v l false W hv (by omega) hr
      have S2 := Lib.hid s2
      have B0 := Lib.hid b0
      clear s2 b0 n0 hl hr h
      go_enter Try.func4, Try.ntmps4
      go_wp2_with fail
      refine (jalive_any _).mono ?_
      rintro e w1 ⟨rfl, hb⟩
      go_wp2_with fail
      refine (S2.out _ _ (B0.out.keep hb)).mono ?_
      rintro e w2 ⟨rfl, rfl⟩
      go_wp2
      go_ret
      exact ⟨rfl, hb⟩
    | true =>
      have s2 := fun v W hv => runits_any v l true W hv (by omega) hr
      obtain ⟨k, rfl, hk⟩ := iN_of l hr
      rw [iN_len] at hl
      obtain ⟨hju, hva⟩ := spell_read k hk
      obtain ⟨t, ht⟩ : ∃ t, bytes (M.spell k) = t := ⟨_, rfl⟩
      have hblen := M.body_len k
      have hsl : (M.spell k).length ≤ 1300 := by simp [M.spell]; omega
      have htl : t.data.toList = M.spell k := by rw [← ht]; exact bytes_list _
      have hts : t.size ≤ 1300 := by rw [← ht, bytes_size]; exact hsl
      have s3 := fun v W hv => jspell_all v (iN k) t W hv (by rw [iN_len]; omega) (by rw [spellI_iN k hk]; exact ht)
      have s4 := fun v W hv => junits_any v (M.spell k) k true W hv (by omega) (by rw [hju]; rfl)
      have s5 := fun v W hv => refvalid_any v (M.spell k) _ true W hv (by omega) hva
      have s6 := fun v u W hv hu => same_any v u (iN k) (iN k) true W hv hu (by rw [iN_len]; omega) (by rw [iN_len]; omega) (by simp)
      have hbs := fun W : World => bw_bs W t (by omega)
      rw [htl] at hbs
      have hconv := fun W => bw_conv W t
      have S2 := Lib.hid s2
      have S3 := Lib.hid s3
      have S4 := Lib.hid s4
      have S5 := Lib.hid s5
      have S6 := Lib.hid s6
      have Hbs := Lib.hid hbs
      have B0 := Lib.hid b0
      clear s2 s3 s4 s5 s6 hbs htl ht hju hva hk hr hl h b0 n0 hblen hsl
      go_enter Try.func4, Try.ntmps4
      go_wp2_with fail
      refine (jalive_any _).mono ?_
      rintro e w1 ⟨rfl, hb⟩
      go_wp2_with fail
      refine (S2.out _ _ (B0.out.keep hb)).mono ?_
      rintro e w2 ⟨rfl, rfl⟩
      go_wp2_with fail
      refine (S3.out _ _ (B0.out.keep hb)).mono ?_
      rintro e w3 ⟨rfl, hb3⟩
      have c3 := hb.trans (hb3.mono hb.size)
      clear hb hb3
      go_wp2_with fail
      refine (S4.out _ _ (Hbs.out w3)).mono ?_
      rintro e w4 ⟨v4, rfl, hv4, hb4⟩
      obtain ⟨hi4, hn4, _⟩ := hv4 rfl
      have c4 := (c3.trans ((bw_below w3 t).mono c3.size)).trans (hb4.mono (by rw [bw_size]; have := c3.size; omega))
      clear hb4 hv4 c3
      go_wp2_with fail
      refine (S5.out _ _ (Hbs.out w4)).mono ?_
      rintro e w5 ⟨rfl, rfl⟩
      have c5 := c4.trans ((bw_below w4 t).mono c4.size)
      have hi5 := hi4.keep (bw_below w4 t)
      clear c4 hi4
      go_wp2_with fail
      refine (S6.out _ _ _ (B0.out.keep c5) hi5).mono ?_
      rintro e w6 ⟨rfl, hb6⟩
      have c6 := c5.trans (hb6.mono c5.size)
      clear hb6 c5
      go_wp2
      go_ret
      exact ⟨rfl, c6⟩
end Go.Proofs.Ytmhjafpoaamkeaa
