/- Plain numbers and lists: inputs one behind the other. -/
import Derived.Test.YtpecaalpbeoolaaGreatDoorMgU
namespace Go.Proofs.YtpecaalpbeoolaaGreatDoor.M
open Go.Lib
set_option linter.unusedVariables false
set_option linter.unusedSimpArgs false

theorem vall_step (s : List UInt8) (h : 0 < s.length) : (validAll s).2 = ((nx s).2.2 && (validAll (s.drop (dec s).2)).2) := by
  unfold validAll
  cases hn : (nx s).2.2 with
  | false => rw [valid_bad _ _ _ h h (by simpa using hn)]; simp
  | true =>
    rw [valid_good _ _ _ h h (by simpa using hn)]
    simp only [List.drop_zero, Nat.zero_add, Bool.true_and]
    have hw := dec_width s
    have hl := dec_le s h
    obtain ⟨a, b, hab, ha⟩ : ∃ a b, s = a ++ b ∧ a.length = (dec s).2 := ⟨s.take (dec s).2, s.drop (dec s).2, by simp, by simp; omega⟩
    have hb : s.drop (dec s).2 = b := by rw [← ha, hab]; simp
    have := valid_shift a b (s.length - 1) 0
    rw [hb, ← ha]
    conv => lhs; rw [show valid (s.length - 1) s a.length = valid (s.length - 1) (a ++ b) (a.length + 0) by rw [← hab, Nat.add_zero]]
    rw [this]
    simp only
    rw [valid_fuel b (s.length - 1) b.length 0 (by have := congrArg List.length hab; simp at this; omega) (by omega)]
def sh (n : Nat) (r : Int × Int) : Int × Int := (r.1, r.2 + n)
theorem step_shift (a b : List UInt8) (j : Nat) : stepR (a ++ b) (a.length + j) = stepR b j := by
  have e : (a ++ b).drop (a.length + j) = b.drop j := by rw [← List.drop_drop]; simp
  have g : (a ++ b).getD (a.length + j + 1) 0 = b.getD (j + 1) 0 := by
    simp only [List.getD]
    rw [List.getElem?_append_right (by omega), show a.length + j + 1 - a.length = j + 1 by omega]
  unfold stepR
  rw [e, g]
theorem rn_shift (a b : List UInt8) (n j : Nat) (hn : b.length - j ≤ n) : rn (a ++ b) (a.length + j) = (rn b j).map (sh a.length) := by
  induction n generalizing j with
  | zero => rw [rn_out b j (by omega), rn_out _ _ (by simp; omega)]; rfl
  | succ n ih =>
    by_cases h : j < b.length
    · have hs := step_le b j h
      rw [rn_in b j h, rn_in _ _ (by simp; omega), step_shift, List.map_cons, Nat.add_assoc, ih _ (by omega)]
      congr 1
      unfold sh
      simp
      omega
    · rw [rn_out b j (by omega), rn_out _ _ (by simp; omega)]; rfl
theorem byte_getD (s : List UInt8) (i k : Nat) : byte (s.drop i) k = (s.getD (i + k) 0).toNat := by
  unfold byte; simp [List.getD]
/-- One step within a whole input that does not end with byte 13. -/
theorem step_join (a b : List UInt8) (i : Nat) (hi : i < a.length) (hv : (validAll (a.drop i)).2 = true) (h13 : a.getD (a.length - 1) 0 ≠ 13) :
    stepR (a ++ b) i = stepR a i ∧ (validAll (a.drop (i + (stepR a i).2))).2 = true := by
  have hl0 : 0 < (a.drop i).length := by simp; omega
  have hst := vall_step (a.drop i) hl0
  rw [hv] at hst
  have hst2 := hst.symm
  rw [Bool.and_eq_true] at hst2
  obtain ⟨hn, hv2⟩ := hst2
  rw [List.drop_drop] at hv2
  have hda : (a ++ b).drop i = a.drop i ++ b := by rw [List.drop_append_of_le_length (by omega)]
  have hdec := dec_append (a.drop i) b hl0 hn
  by_cases hD : (dec (a.drop i)).1 = 13
  · have hlow := dec_low (a.drop i) (by omega)
    have hb13 : a.getD i 0 = 13 := by
      have := hlow.2
      rw [hD, byte_getD, Nat.add_zero] at this
      apply UInt8.toNat_inj.1; rw [← this]; rfl
    have hin : i + 1 < a.length := by
      by_cases h : i + 1 < a.length
      · exact h
      · exact absurd (by rw [show a.length - 1 = i by omega]; exact hb13) h13
    have hg : (a ++ b).getD (i + 1) 0 = a.getD (i + 1) 0 := by
      simp only [List.getD]; rw [List.getElem?_append_left hin]
    refine ⟨by unfold stepR; rw [hda, hdec, hg], ?_⟩
    rw [hlow.1] at hv2
    unfold stepR
    rw [if_neg (by omega), if_neg (by omega), if_pos hD]
    by_cases h10 : a.getD (i + 1) 0 = 10
    · rw [if_pos h10]
      have hb10 : byte (a.drop (i + 1)) 0 < 128 := by rw [byte_getD, Nat.add_zero, h10]; decide
      have hd1 : dec (a.drop (i + 1)) = (byte (a.drop (i + 1)) 0, 1) := by unfold dec decodeN; rw [if_pos hb10]
      have := vall_step (a.drop (i + 1)) (by simp; omega)
      rw [hv2, hd1] at this
      have := this.symm
      rw [Bool.and_eq_true] at this
      rw [List.drop_drop] at this
      exact this.2
    · rw [if_neg h10]; exact hv2
  · refine ⟨by unfold stepR; rw [hda, hdec]; simp only [if_neg hD], ?_⟩
    have : (stepR a i).2 = (dec (a.drop i)).2 := by
      unfold stepR
      simp only [if_neg hD]
      repeat' split
      all_goals rfl
    rw [this]; exact hv2
theorem rn_join (a b : List UInt8) (n i : Nat) (hn : a.length - i ≤ n) (hi : i ≤ a.length) (hv : (validAll (a.drop i)).2 = true) (h13 : 0 < a.length → a.getD (a.length - 1) 0 ≠ 13) :
    rn (a ++ b) i = rn a i ++ (rn b 0).map (sh a.length) := by
  induction n generalizing i with
  | zero =>
    obtain rfl : i = a.length := by omega
    rw [rn_out a _ (Nat.le_refl _), List.nil_append]
    exact rn_shift a b b.length 0 (by omega)
  | succ n ih =>
    by_cases h : i < a.length
    · have hs := step_le a i h
      obtain ⟨j1, j2⟩ := step_join a b i h hv (h13 (by omega))
      rw [rn_in a i h, rn_in _ _ (by simp; omega), j1, List.cons_append, ih _ (by omega) (by omega) j2]
    · obtain rfl : i = a.length := by omega
      rw [rn_out a _ (Nat.le_refl _), List.nil_append]
      exact rn_shift a b b.length 0 (by omega)
end Go.Proofs.YtpecaalpbeoolaaGreatDoor.M
