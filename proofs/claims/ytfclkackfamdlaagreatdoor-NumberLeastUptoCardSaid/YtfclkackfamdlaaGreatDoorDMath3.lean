/- Plain numbers and lists: what adding and comparing decimals comes to. Nothing of the program is imported. -/
import Derived.Test.YtfclkackfamdlaaGreatDoorDMath2
namespace Go.Proofs.YtfclkackfamdlaaGreatDoor.M

/-- A row of digits with a sign, as a decimal. -/
def sgn (neg : Bool) (l : List UInt8) : List UInt8 := if strip l = [] then [48] else if neg then 45 :: strip l else strip l
theorem sgn_txt (neg : Bool) (l : List UInt8) (h : ∀ c ∈ l, dig c = true) : sgn neg l = txt (if neg then -(dval l : Int) else dval l) := by
  unfold sgn txt
  rw [strip_canon l h]
  by_cases h0 : dval l = 0
  · rw [h0, canon_zero, if_pos rfl]
    cases neg <;> simp
  · have hne := canon_ne _ h0
    rw [if_neg hne]
    cases neg with
    | true =>
      simp only [if_true]
      rw [if_neg (by omega), if_pos (by omega), show (-(dval l : Int)).natAbs = dval l by omega]
    | false =>
      simp only [Bool.false_eq_true, if_false]
      rw [if_neg (by omega), if_neg (by omega), show ((dval l : Int)).natAbs = dval l by omega]
theorem row_len (x y : List UInt8) (hx : Row x) (hy : Row y) (h : dval y ≤ dval x) : y.length ≤ x.length := by
  by_cases hl : y.length ≤ x.length
  · exact hl
  · have h1 : lessB x y = true := by unfold lessB; rw [if_pos (by omega)]; simp; omega
    rw [less_dval x y hx hy] at h1
    simp at h1; omega
theorem neg_pos (a : List UInt8) (h : rightD a = true) (hn : isNeg a = true) : 0 < dval (unsign a) := by
  obtain ⟨h1, h2, h3⟩ := right_parts a h
  rcases h3 with rfl | h3
  · exact absurd hn (by decide)
  · have := dval_pos _ h1 h3 h2; omega
theorem unsign_self (a : List UInt8) (hn : isNeg a = false) : unsign a = a := by
  unfold isNeg at hn; unfold unsign
  rw [if_neg]; simpa using hn
def addD (a b : List UInt8) : List UInt8 × Bool := if rightD a && rightD b then (txt (valD a + valD b), true) else ([], false)
def lessT (a b : List UInt8) : Bool := rightD a && rightD b && decide (valD a < valD b)
theorem add_same (a b l : List UInt8) (hn : isNeg a = isNeg b) (hl : ∀ c ∈ l, dig c = true) (hv : dval l = dval (unsign a) + dval (unsign b)) : sgn (isNeg a) l = txt (valD a + valD b) := by
  rw [sgn_txt _ l hl]
  unfold valD
  rw [← hn, hv]
  cases isNeg a with
  | true => simp only [if_true]; congr 1; omega
  | false => simp only [Bool.false_eq_true, if_false]; congr 1
theorem add_less (a b l : List UInt8) (hn : isNeg a ≠ isNeg b) (hl : ∀ c ∈ l, dig c = true) (hlt : dval (unsign a) < dval (unsign b)) (hv : dval l = dval (unsign b) - dval (unsign a)) : sgn (isNeg b) l = txt (valD a + valD b) := by
  rw [sgn_txt _ l hl]
  unfold valD
  revert hn
  cases isNeg a <;> cases isNeg b <;> intro hn
  · exact absurd rfl hn
  · congr 1; simp; omega
  · congr 1; simp; omega
  · exact absurd rfl hn
theorem add_more (a b l : List UInt8) (hn : isNeg a ≠ isNeg b) (hl : ∀ c ∈ l, dig c = true) (hlt : ¬ dval (unsign a) < dval (unsign b)) (hv : dval l = dval (unsign a) - dval (unsign b)) : sgn (isNeg a) l = txt (valD a + valD b) := by
  rw [sgn_txt _ l hl]
  unfold valD
  revert hn
  cases isNeg a <;> cases isNeg b <;> intro hn
  · exact absurd rfl hn
  · congr 1; simp; omega
  · congr 1; simp; omega
  · exact absurd rfl hn
theorem less_differ (a b : List UInt8) (ha : rightD a = true) (hb : rightD b = true) (hn : isNeg a ≠ isNeg b) : lessT a b = isNeg a := by
  unfold lessT
  rw [ha, hb]
  cases h1 : isNeg a with
  | true =>
    have h2 : isNeg b = false := by cases h : isNeg b with
      | false => rfl
      | true => exact absurd (h1.trans h.symm) hn
    have := neg_pos a ha h1
    unfold valD
    rw [h1, h2]
    simp <;> omega
  | false =>
    have h2 : isNeg b = true := by cases h : isNeg b with
      | true => rfl
      | false => exact absurd (h1.trans h.symm) hn
    have := neg_pos b hb h2
    unfold valD
    rw [h1, h2]
    simp <;> omega
theorem less_both (a b : List UInt8) (ha : rightD a = true) (hb : rightD b = true) (h1 : isNeg a = true) (h2 : isNeg b = true) : lessT a b = lessB (unsign b) (unsign a) := by
  rw [less_dval _ _ (row_unsign b hb) (row_unsign a ha)]
  unfold lessT valD
  rw [ha, hb, h1, h2]
  rw [Bool.eq_iff_iff]; simp
theorem less_none (a b : List UInt8) (ha : rightD a = true) (hb : rightD b = true) (h1 : isNeg a = false) (h2 : isNeg b = false) : lessT a b = lessB a b := by
  have r1 := row_unsign a ha
  have r2 := row_unsign b hb
  rw [unsign_self a h1] at r1
  rw [unsign_self b h2] at r2
  rw [less_dval _ _ r1 r2]
  unfold lessT valD
  rw [ha, hb, h1, h2, unsign_self a h1, unsign_self b h2]
  rw [Bool.eq_iff_iff]; simp
end Go.Proofs.YtfclkackfamdlaaGreatDoor.M
