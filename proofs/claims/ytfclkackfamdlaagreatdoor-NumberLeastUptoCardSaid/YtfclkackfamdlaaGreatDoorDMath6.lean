/- Decimals, plain mathematics: rows of digits that begin with the last one, cut of the noughts at their end; the decimal text of a number. -/
import Derived.Test.YtfclkackfamdlaaGreatDoorDMath4
namespace Go.Proofs.YtfclkackfamdlaaGreatDoor.M
open Go.RowKit
set_option linter.unusedVariables false
set_option linter.unusedSimpArgs false

/-- The digits of a natural number, one at least. -/
def decS (n : Nat) : List UInt8 := if n = 0 then [48] else canon n
theorem decS_small (n : Nat) (h : n ≤ 9) : decS n = [ofD n] := by
  unfold decS
  split
  · rename_i h0; subst h0; decide
  · rename_i h0
    rw [canon_pos n h0, show n / 10 = 0 by omega, canon_zero, List.nil_append]
theorem decS_step (n : Nat) (h : 9 < n) : decS n = decS (n / 10) ++ [ofD n] := by
  unfold decS
  rw [if_neg (by omega), if_neg (by omega), canon_pos n (by omega)]
theorem decS_len (n k : Nat) (h : n < 10 ^ (k + 1)) : (decS n).length ≤ k + 1 := by
  induction k generalizing n with
  | zero => rw [decS_small n (by omega)]; simp
  | succ k ih =>
    by_cases h9 : n ≤ 9
    · rw [decS_small n h9]; simp
    · rw [decS_step n (by omega), List.length_append]
      have := ih (n / 10) (by rw [Nat.div_lt_iff_lt_mul (by omega)]; rw [Nat.pow_succ] at h; exact h)
      simp; omega
theorem txt_nat (n : Nat) : txt (n : Int) = decS n := by
  unfold txt decS
  by_cases h : n = 0
  · subst h; simp
  · rw [if_neg (by omega), if_neg (by omega), if_neg h]; simp
theorem txt_minus (n : Nat) (h : n ≠ 0) : txt (-(n : Int)) = 45 :: decS n := by
  unfold txt decS
  rw [if_neg (by omega), if_pos (by omega), if_neg h]; simp
theorem decS_ne (n : Nat) : decS n ≠ [] := by
  unfold decS; split
  · simp
  · exact canon_ne n (by assumption)
theorem decS_zero (n : Nat) : decS n = [48] ↔ n = 0 := by
  constructor
  · intro h
    unfold decS at h
    split at h
    · assumption
    · rename_i h0
      obtain ⟨c, t, hc, hn⟩ := canon_head n h0
      rw [hc] at h; simp at h; exact absurd h.1 hn
  · intro h; subst h; rfl
/-- A row of digits that begins with the last one, without noughts at its end (but a lone one): turned round it is the number's text. -/
theorem rev_decS (t : List UInt8) (hd : ∀ c ∈ t, dig c = true) (hne : t ≠ []) (h : t.length = 1 ∨ t.getLast hne ≠ 48) : t.reverse = decS (lev t) := by
  have hrd : ∀ c ∈ t.reverse, dig c = true := fun c hc => hd c (by simpa using hc)
  rw [← dval_reverse]
  by_cases h48 : t.getLast hne = 48
  · have h1 : t.length = 1 := by
      rcases h with h | h
      · exact h
      · exact absurd h48 h
    obtain ⟨c, rfl⟩ : ∃ c, t = [c] := by
      cases t with
      | nil => simp at h1
      | cons c u => cases u with
        | nil => exact ⟨c, rfl⟩
        | cons d v => simp at h1
    simp at h48
    subst h48
    rfl
  · have hh : t.reverse.head? ≠ some 48 := by
      rw [List.head?_reverse, List.getLast?_eq_some_getLast hne]
      simpa using h48
    have hz := dval_pos t.reverse hrd hh (by simpa using hne)
    unfold decS
    rw [if_neg hz, canon_self t.reverse hrd hh]
/-- Noughts at the end of a row that begins with the last digit count nothing. -/
theorem lev_take (l : List UInt8) (n : Nat) (hn : 1 ≤ n) (h : n ≤ l.length) (h48 : l[n - 1]'(by omega) = 48) : lev (l.take n) = lev (l.take (n - 1)) := by
  obtain ⟨m, rfl⟩ : ∃ m, n = m + 1 := ⟨n - 1, by omega⟩
  rw [List.take_succ_eq_append_getElem (by omega), lev_snoc]
  simp only [Nat.add_sub_cancel] at h48 ⊢
  rw [h48]; simp
theorem sum_done {x y : List UInt8} {k : Nat} {out : List UInt8} (h : Sum x y k out 0) (hk : x.length ≤ k) (hk2 : y.length ≤ k) : lev out = dval x + dval y := by
  obtain ⟨h1, h2, h3, h4⟩ := h
  rw [lowv_all x k hk, lowv_all y k hk2] at h4
  omega
theorem sum_last {x y : List UInt8} {k : Nat} {carry : Nat} (hk : x.length ≤ k) (hk2 : y.length ≤ k) (hc : carry ≤ 1) : (dat x k + dat y k + carry) / 10 = 0 := by
  rw [dat_out x k hk, dat_out y k hk2]; omega
theorem dif_last {x y : List UInt8} {k : Nat} {out : List UInt8} {borrow : Nat} (h : Dif x y k out borrow) (hk : x.length ≤ k) (hk2 : y.length ≤ k) (hle : dval y ≤ dval x) : borrow = 0 := by
  obtain ⟨h1, h2, h3, h4⟩ := h
  rw [lowv_all x k hk, lowv_all y k hk2] at h4
  have := lev_lt out h2
  rw [h1] at this
  rcases Nat.lt_or_ge borrow 1 with h | h
  · omega
  · obtain rfl : borrow = 1 := by omega
    omega
/-- The text with a sign, as the reference lays it. -/
def neg1 (neg : Bool) (l : List UInt8) : List UInt8 := if neg && l != [48] then 45 :: l else l
theorem neg1_txt (neg : Bool) (n : Nat) : neg1 neg (decS n) = txt (if neg then -(n : Int) else n) := by
  unfold neg1
  cases neg with
  | false => simp [txt_nat]
  | true =>
    by_cases h : n = 0
    · subst h; simp [decS, txt]
    · have : decS n ≠ [48] := fun hh => h ((decS_zero n).1 hh)
      simp [this, txt_minus n h]
/-- What the reference's Add comes to. -/
def radd (a b : List UInt8) : List UInt8 :=
  if isNeg a = isNeg b then neg1 (isNeg a) (decS (dval (unsign a) + dval (unsign b)))
  else if lessB (unsign a) (unsign b) then neg1 (isNeg b) (decS (dval (unsign b) - dval (unsign a)))
  else neg1 (isNeg a) (decS (dval (unsign a) - dval (unsign b)))
theorem radd_txt (a b : List UInt8) (ha : rightD a = true) (hb : rightD b = true) : radd a b = txt (valD a + valD b) := by
  have hless := less_dval _ _ (row_unsign a ha) (row_unsign b hb)
  unfold radd
  rw [hless]
  unfold valD
  simp only [neg1_txt, decide_eq_true_eq]
  cases h1 : isNeg a <;> cases h2 : isNeg b
  · simp
  · simp only [Bool.false_eq_true, if_false, if_true, Bool.true_eq_false, reduceCtorEq]
    split <;> (congr 1; omega)
  · simp only [Bool.false_eq_true, if_false, if_true, Bool.true_eq_false, reduceCtorEq]
    split <;> (congr 1; omega)
  · simp only [if_true]; congr 1; omega
end Go.Proofs.YtfclkackfamdlaaGreatDoor.M
