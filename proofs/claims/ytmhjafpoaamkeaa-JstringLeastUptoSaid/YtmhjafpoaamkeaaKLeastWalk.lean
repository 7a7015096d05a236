/- The walk of JstringLeast. -/
import Derived.Test.YtmhjafpoaamkeaaKUnits
import Derived.Test.YtmhjafpoaamkeaaKMath3
namespace Go.Proofs.Ytmhjafpoaamkeaa
open Go.RowKit
set_option linter.unusedVariables false

theorem hex4_le (t : List UInt8) : M.hex4 t ≤ 65535 := by
  unfold M.hex4 M.hexN
  have h0 := M.hexV_lt (t.getD 0 0)
  have h1 := M.hexV_lt (t.getD 1 0)
  have h2 := M.hexV_lt (t.getD 2 0)
  have h3 := M.hexV_lt (t.getD 3 0)
  omega
theorem escV_le (d : UInt8) : M.escV d ≤ 65535 := by
  have := d.toNat_lt
  unfold M.escV
  repeat' split
  all_goals omega
theorem pairU_le (r : Nat) (hr : r ≤ 1114111) : ∀ u ∈ M.pairU r, u ≤ 65535 := by
  intro u hu
  unfold M.pairU at hu
  split at hu
  · simp at hu; omega
  · simp at hu; omega
theorem ulS_le (n : Nat) : ∀ l : List UInt8, l.length ≤ n → ∀ u ∈ M.ulS l, u ≤ 65535 := by
  induction n with
  | zero => intro l hl u hu; rw [M.ulS_end l (by omega)] at hu; simp at hu
  | succ n ih =>
    intro l hl u hu
    match l with
    | [] => rw [M.ulS_end _ (by simp)] at hu; simp at hu
    | [c] => rw [M.ulS_end _ (by simp)] at hu; simp at hu
    | c :: d :: t =>
      rw [M.ulS] at hu
      split at hu
      · rcases List.mem_append.1 hu with hu | hu
        · exact pairU_le _ (M.dec_rune _) u hu
        · have := M.dec_width (c :: d :: t)
          exact ih _ (by rw [List.length_drop]; omega) u hu
      · split at hu
        · rcases List.mem_cons.1 hu with rfl | hu
          · exact hex4_le t
          · exact ih _ (by simp at hl ⊢; omega) u hu
        · rcases List.mem_cons.1 hu with rfl | hu
          · exact escV_le d
          · exact ih _ (by simp at hl ⊢; omega) u hu
theorem junits_some (l : List UInt8) (us : List Nat) (h : junits l = some us) : (∀ u ∈ us, u ≤ 65535) ∧ (M.spell us).length ≤ l.length := by
  unfold junits at h
  split at h
  · rename_i hc
    simp only [Option.some.injEq] at h
    subst h
    have hr := rest_start l hc.2.1 hc.1 hc.2.2.1 hc.2.2.2
    exact ⟨ulS_le _ _ (Nat.le_refl _), M.least l hc.2.1 hc.1 hr.1 hr.2⟩
  · exact absurd h (by simp)

set_option maxRecDepth 100000 in
set_option maxHeartbeats 4000000 in
theorem jleast_walk (a0 : Option Addr) (len0 cap0 : Nat) (z0 : List Int) (w : World) (w0 : (a0 = none ∧ len0 = 0 ∧ cap0 = 0 ∧ z0 = []) ∨ ∃ x, a0 = some x ∧ len0 ≤ cap0 ∧ cap0 ≤ maxLen ∧ z0.length = cap0 ∧ (∀ i, i < z0.length → w.cell? (x.add i) = some (.int .u8 (z0.getD i 0))) ∧ ∀ n ∈ z0, (Lit.int .u8 n).wf = true) (u0 : len0 ≤ 1048576) :
    Calls Try.prog 5 #[.slice a0 len0 cap0] w fun e w' => e = .returned (.bool true) ∧ Below w.heap.size w w' := by
  obtain ⟨l, hl, b0, n0⟩ := row_bs w0
  clear w0
  obtain ⟨us, ok, hju⟩ : ∃ us ok, junits l = if ok = true then some us else none := by
    cases hh : junits l with
    | none => exact ⟨[], false, rfl⟩
    | some us => exact ⟨us, true, rfl⟩
  have s4 := fun v W hv => junits_any v l us ok W hv (by omega) hju
  have S4 := Lib.hid s4
  have B0 := Lib.hid b0
  cases ok with
  | false =>
    clear s4 b0 n0 hl hju
    go_enter Try.func5, Try.ntmps5
    go_wp2_with fail
    refine (jalive_any _).mono ?_
    rintro e w1 ⟨rfl, hb⟩
    go_wp2_with fail
    refine (S4.out _ _ (B0.out.keep hb)).mono ?_
    rintro e w4 ⟨v4, rfl, hv4, hb4⟩
    have c4 := hb.trans (hb4.mono hb.size)
    clear hb hb4 hv4
    go_wp2
    all_goals
      go_ret
      exact ⟨rfl, c4⟩
  | true =>
    obtain ⟨hu, hle⟩ := junits_some l us hju
    by_cases h : 300 < len0
    · have h3 : (300 : Int) < len0 := by omega
      clear s4 b0 n0 hl hju hu hle
      go_enter Try.func5, Try.ntmps5
      go_wp2_with fail
      refine (jalive_any _).mono ?_
      rintro e w1 ⟨rfl, hb⟩
      go_wp2_with fail
      refine (S4.out _ _ (B0.out.keep hb)).mono ?_
      rintro e w4 ⟨v4, rfl, hv4, hb4⟩
      have c4 := hb.trans (hb4.mono hb.size)
      clear hb hb4 hv4
      go_wp2
      go_ret
      exact ⟨rfl, c4⟩
    · have h3 : len0 ≤ 300 := by omega
      obtain ⟨t, ht⟩ : ∃ t, bytes (M.spell us) = t := ⟨_, rfl⟩
      have hts : t.size = (M.spell us).length := by rw [← ht, bytes_size]
      have ht2 : 2 ≤ t.size := by rw [hts]; simp [M.spell]
      have ht3 : t.size ≤ len0 := by omega
      have s3 := fun v W hv hn => jspell_all v (iN us) t W hv hn (by rw [spellI_iN us hu]; exact ht)
      have S3 := Lib.hid s3
      have t1 : (2 : Int) ≤ t.size := by omega
      have t2 : (t.size : Int) ≤ len0 := by omega
      clear s4 s3 b0 n0 hju hu hle h hts ht
      go_enter Try.func5, Try.ntmps5
      go_wp2_with fail
      refine (jalive_any _).mono ?_
      rintro e w1 ⟨rfl, hb⟩
      go_wp2_with fail
      refine (S4.out _ _ (B0.out.keep hb)).mono ?_
      rintro e w4 ⟨v4, rfl, hv4, hb4⟩
      obtain ⟨hi4, hn4, hul⟩ := hv4 rfl
      have c4 := hb.trans (hb4.mono hb.size)
      clear hb hb4 hv4
      have hul2 : (iN us).length ≤ 1048576 := by rw [iN_len]; omega
      clear hul hl
      go_wp2_with fail
      refine (S3.out _ _ hi4 hul2).mono ?_
      rintro e w5 ⟨rfl, hb5⟩
      have c5 := c4.trans (hb5.mono c4.size)
      clear hb5 c4 hul2
      go_wp2
      go_ret
      exact ⟨by simp, c5⟩
end Go.Proofs.Ytmhjafpoaamkeaa
