/- Decimals, plain mathematics: how long the text of a number is; the laws of order and of sums. -/
import Derived.Test.YtfclkackfamdlaaGreatDoorDMath3
namespace Go.Proofs.YtfclkackfamdlaaGreatDoor.M
set_option linter.unusedVariables false

theorem dval_abs (t : List UInt8) : dval (unsign t) = (valD t).natAbs := by
  unfold valD
  split <;> omega
theorem txt_len (z : Int) (n : Nat) (h1 : 1 ≤ n) (h : z.natAbs < 10 ^ n) : (txt z).length ≤ n + 1 := by
  have ⟨hv, hr⟩ := val_txt z
  have hrow := row_unsign _ hr
  have hd := dval_abs (txt z)
  rw [hv] at hd
  have hl : (txt z).length ≤ (unsign (txt z)).length + 1 := by
    unfold unsign; split
    · rw [List.length_tail]; omega
    · omega
  by_cases h2 : 2 ≤ (unsign (txt z)).length
  · have h3 := row_ge _ hrow h2
    rw [hd] at h3
    have h4 := (Nat.pow_lt_pow_iff_right (by omega : 1 < 10)).1 (Nat.lt_of_le_of_lt h3 h)
    omega
  · omega
theorem val_abs (a : List UInt8) (h : rightD a = true) (n : Nat) (hn : a.length ≤ n) : (valD a).natAbs < 10 ^ n := by
  rw [← dval_abs]
  have hr := row_unsign a h
  have h1 := dval_lt _ hr.1
  have h2 : (unsign a).length ≤ a.length := by
    unfold unsign; split
    · rw [List.length_tail]; omega
    · omega
  exact Nat.lt_of_lt_of_le h1 (Nat.pow_le_pow_right (by omega) (by omega))
theorem sum_abs (x y : Int) (n : Nat) (hx : x.natAbs < 10 ^ n) (hy : y.natAbs < 10 ^ n) : (x + y).natAbs < 10 ^ (n + 1) := by
  rw [Nat.pow_succ]
  generalize 10 ^ n = p at hx hy ⊢
  omega
theorem less_right (a b : List UInt8) (ha : rightD a = true) (hb : rightD b = true) : lessT a b = decide (valD a < valD b) := by
  unfold lessT; rw [ha, hb]; simp
theorem add_right (a b : List UInt8) (ha : rightD a = true) (hb : rightD b = true) : addD a b = (txt (valD a + valD b), true) := by
  unfold addD; rw [ha, hb]; simp
theorem less_sums (a b c : List UInt8) (ha : rightD a = true) (hb : rightD b = true) (hc : rightD c = true) :
    lessT (txt (valD a + valD c)) (txt (valD b + valD c)) = lessT a b := by
  have h1 := val_txt (valD a + valD c)
  have h2 := val_txt (valD b + valD c)
  rw [less_right _ _ h1.2 h2.2, less_right a b ha hb, h1.1, h2.1, decide_eq_decide]
  omega
theorem sum_len (a c : List UInt8) (ha : rightD a = true) (hc : rightD c = true) (n : Nat) (h1 : a.length ≤ n) (h2 : c.length ≤ n) : (txt (valD a + valD c)).length ≤ n + 2 :=
  txt_len _ (n + 1) (by omega) (sum_abs _ _ n (val_abs a ha n h1) (val_abs c hc n h2))
end Go.Proofs.YtfclkackfamdlaaGreatDoor.M
