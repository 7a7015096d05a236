/- Decimals, plain mathematics: the number less another. -/
import Derived.Test.YtmhjafpoaamkeaaDoorDMath4
namespace Go.Proofs.YtmhjafpoaamkeaaDoor.M
set_option linter.unusedVariables false

theorem neg_head (t : List UInt8) (h : rightD (45 :: t) = true) : rightD t = true ∧ valD t = -valD (45 :: t) ∧ isNeg t = false := by
  have hp := right_parts _ h
  have hu : unsign (45 :: t) = t := by simp [unsign]
  rw [hu] at hp
  obtain ⟨h1, h2, h3⟩ := hp
  have h3 : t.head? ≠ some 48 := by
    rcases h3 with h3 | h3
    · exact absurd h3 (by simp)
    · exact h3
  cases t with
  | nil => exact absurd rfl h2
  | cons c u =>
    have hc : c ≠ 45 := by
      intro hc
      have := h1 c (by simp)
      rw [hc] at this
      exact absurd this (by decide)
    have hn : isNeg (c :: u) = false := by simp [isNeg, hc]
    have hs := unsign_self _ hn
    refine ⟨?_, ?_, hn⟩
    · unfold rightD
      rw [hs]
      have : (c :: u).all dig = true := by rw [List.all_eq_true]; exact h1
      rw [this]
      simp at h3
      simp [h3]
    · unfold valD
      rw [hu, hs, hn]
      simp [isNeg]
theorem neg_more (b : List UInt8) (h : rightD b = true) (hn : isNeg b = false) (h0 : b ≠ [48]) : rightD (45 :: b) = true ∧ valD (45 :: b) = -valD b := by
  have hp := right_parts _ h
  have hs := unsign_self _ hn
  rw [hs] at hp
  obtain ⟨h1, h2, h3⟩ := hp
  have h3 : b.head? ≠ some 48 := by
    rcases h3 with h3 | h3
    · exact absurd h3 h0
    · exact h3
  have hu : unsign (45 :: b) = b := by simp [unsign]
  constructor
  · unfold rightD
    rw [hu]
    have : b.all dig = true := by rw [List.all_eq_true]; exact h1
    rw [this]
    simp [h2, h3]
  · unfold valD
    rw [hu, hs, hn]
    simp [isNeg]
theorem add_txt (x c : List UInt8) (k m : Int) (hx : x = txt k) (hc : rightD c = true) (hm : k + valD c = m) : addD x c = (txt m, true) := by
  subst hx
  rw [add_right _ _ (val_txt k).2 hc, (val_txt k).1, hm]
end Go.Proofs.YtmhjafpoaamkeaaDoor.M
