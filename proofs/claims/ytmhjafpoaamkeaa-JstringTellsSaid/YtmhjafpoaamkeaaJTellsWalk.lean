/- The walk of JstringTells. -/
import Derived.Test.YtmhjafpoaamkeaaJRefSpell
import Derived.Test.YtmhjafpoaamkeaaIGuard
namespace Go.Proofs.Ytmhjafpoaamkeaa
open Go.RowKit
set_option linter.unusedVariables false

theorem refspell_no (v : Value) (l : List Int) (w : World) (hv : Is w v l) (hl : l.length ≤ 1048576) (hr : M.rightU l = false) :
    Calls Try.prog 12 #[v] w fun e w' => e = .returned (.string ⟨#[]⟩) ∧ Below w.heap.size w w' := by
  have Hv := Lib.hid hv
  have Hr := Lib.hid hr
  clear hv hr
  go_enter Try.func12, Try.ntmps12
  go_wp2_with fail
  refine (runits_any v l false _ Hv.out (by omega) Hr.out).mono ?_
  rintro e w' ⟨rfl, rfl⟩
  go_wp2
  go_ret
  exact ⟨rfl, Below.refl _ _⟩
theorem refspell_all (v : Value) (l : List Int) (t : ByteArray) (w : World) (hv : Is w v l) (hl : l.length ≤ 100000) (ht : spellI l = t) :
    Calls Try.prog 12 #[v] w fun e w' => e = .returned (.string t) ∧ Below w.heap.size w w' := by
  cases hr : M.rightU l with
  | false =>
    have : t = ⟨#[]⟩ := by rw [← ht]; unfold spellI; rw [hr]; rfl
    subst this
    exact refspell_no v l w hv (by omega) hr
  | true =>
    obtain ⟨k, rfl, hk⟩ := iN_of l hr
    rw [spellI_iN k hk] at ht
    exact refspell_any v k t w hv (by rw [iN_len] at hl; exact hl) hk ht

set_option maxHeartbeats 1000000 in
theorem jtells_walk (a0 : Option Addr) (len0 cap0 : Nat) (z0 : List Int) (w : World) (w0 : RowI w a0 len0 cap0 z0) :
    Calls Try.prog 3 #[.slice a0 len0 cap0] w fun e w' => e = .returned (.bool true) ∧ Below w.heap.size w w' := by
  obtain ⟨l, hl, b0, n0⟩ := row_is w0
  clear w0
  by_cases h : 200 < len0
  · clear b0 n0 hl
    go_enter Try.func3, Try.ntmps3
    go_wp2_with fail
    refine (jalive_any _).mono ?_
    rintro e w1 ⟨rfl, hb⟩
    go_wp2
    go_ret
    exact ⟨rfl, hb⟩
  · have h200 : len0 ≤ 200 := by omega
    obtain ⟨r, hr⟩ : ∃ r, M.rightU l = r := ⟨_, rfl⟩
    obtain ⟨t, ht⟩ : ∃ t, spellI l = t := ⟨_, rfl⟩
    have s1 := fun v W hv => jright_any v l r W hv (by omega) hr
    have s2 := fun v W hv => runits_any v l r W hv (by omega) hr
    have s3 := fun v W hv => jspell_all v l t W hv (by omega) ht
    have s4 := fun v W hv => refspell_all v l t W hv (by omega) ht
    have S1 := Lib.hid s1
    have S2 := Lib.hid s2
    have S3 := Lib.hid s3
    have S4 := Lib.hid s4
    have B0 := Lib.hid b0
    have N0 := Lib.hid n0
    have Hl := Lib.hid hl
    clear s1 s2 s3 s4 b0 n0 hl hr ht h
    cases r
    all_goals
      go_enter Try.func3, Try.ntmps3
      go_wp2_with fail
      refine (jalive_any _).mono ?_
      rintro e w1 ⟨rfl, hb⟩
      go_wp2_with fail
      refine (S1.out _ _ (B0.out.keep hb)).mono ?_
      rintro e w2 ⟨rfl, rfl⟩
      go_wp2_with fail
      refine (S2.out _ _ (B0.out.keep hb)).mono ?_
      rintro e w2 ⟨rfl, rfl⟩
      have hs := hb.size
      go_wp2_with (at_builtin; refine wpl_appendIG _ _ (by rfl) rfl w.heap.size (.slice none 0 0) _ [] l l rfl (World.ownsRow_nil _ _ _ _) rfl (B0.out.keep hb) N0.out (by rw [Hl.out]; simp <;> omega) hs rfl ?_)
      intro v6 w6 ho6 hb6
      have hb7 := hb.trans hb6
      have his := ho6.is
      clear hb hb6 ho6 hs
      go_wp2_with fail
      refine (S3.out _ _ his).mono ?_
      rintro e w8 ⟨rfl, hb8⟩
      have hb9 := hb7.trans (hb8.mono hb7.size)
      clear hb7 hb8 his
      go_wp2_with fail
      refine (S4.out _ _ (B0.out.keep hb9)).mono ?_
      rintro e w10 ⟨rfl, hb10⟩
      have hb11 := hb9.trans (hb10.mono hb9.size)
      clear hb9 hb10
      go_wp2
      go_ret
      exact ⟨by simp, hb11⟩
end Go.Proofs.Ytmhjafpoaamkeaa
