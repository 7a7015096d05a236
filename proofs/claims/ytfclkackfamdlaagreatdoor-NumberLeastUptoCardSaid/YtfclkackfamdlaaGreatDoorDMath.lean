/- Plain numbers and lists: decimals of any length. Nothing of the program is imported. -/
import Derived.Below
namespace Go.Proofs.YtfclkackfamdlaaGreatDoor.M

theorem u8n (n : Nat) (h : n < 256) : n.toUInt8.toNat = n := by
  simp [Nat.toUInt8, UInt8.toNat_ofNat']; omega
/-- Is a byte a digit? -/
def dig (c : UInt8) : Bool := decide (48 ≤ c.toNat) && decide (c.toNat ≤ 57)
theorem dig_iff (c : UInt8) : dig c = true ↔ (48 ≤ c.toNat ∧ c.toNat ≤ 57) := by simp [dig]
def ofD (n : Nat) : UInt8 := (48 + n % 10).toUInt8
theorem ofD_nat (n : Nat) : (ofD n).toNat = 48 + n % 10 := u8n _ (by omega)
theorem ofD_dig (n : Nat) : dig (ofD n) = true := by rw [dig_iff, ofD_nat]; omega
/-- The number of a row of digits. -/
def dval (l : List UInt8) : Nat := l.foldl (fun a c => 10 * a + (c.toNat - 48)) 0
theorem dval_snoc (l : List UInt8) (c : UInt8) : dval (l ++ [c]) = 10 * dval l + (c.toNat - 48) := by simp [dval]
/-- The digits of a number, none of nought. -/
def canon (n : Nat) : List UInt8 := if _h : n = 0 then [] else canon (n / 10) ++ [ofD n]
  termination_by n
  decreasing_by omega
theorem canon_zero : canon 0 = [] := by unfold canon; simp
theorem canon_pos (n : Nat) (h : n ≠ 0) : canon n = canon (n / 10) ++ [ofD n] := by rw [canon, dif_neg h]
theorem canon_ne (n : Nat) (h : n ≠ 0) : canon n ≠ [] := by rw [canon_pos n h]; simp
theorem canon_dig (n : Nat) : ∀ c ∈ canon n, dig c = true := by
  induction n using Nat.strongRecOn with
  | _ n ih =>
    by_cases h : n = 0
    · subst h; rw [canon_zero]; simp
    · rw [canon_pos n h]
      intro c hc
      rcases List.mem_append.1 hc with hc | hc
      · exact ih (n / 10) (by omega) c hc
      · simp at hc; subst hc; exact ofD_dig n
theorem dval_canon (n : Nat) : dval (canon n) = n := by
  induction n using Nat.strongRecOn with
  | _ n ih =>
    by_cases h : n = 0
    · subst h; rw [canon_zero]; rfl
    · rw [canon_pos n h, dval_snoc, ih (n / 10) (by omega), ofD_nat]; omega
theorem canon_head (n : Nat) (h : n ≠ 0) : ∃ c t, canon n = c :: t ∧ c ≠ 48 := by
  induction n using Nat.strongRecOn with
  | _ n ih =>
    rw [canon_pos n h]
    by_cases h1 : n / 10 = 0
    · rw [h1, canon_zero]
      refine ⟨ofD n, [], rfl, fun hh => ?_⟩
      have := ofD_nat n
      rw [hh] at this
      simp at this
      omega
    · obtain ⟨c, t, h2, h3⟩ := ih (n / 10) (by omega) h1
      exact ⟨c, t ++ [ofD n], by rw [h2]; rfl, h3⟩
theorem rev_ind {α : Type} {P : List α → Prop} (h0 : P []) (h1 : ∀ l c, P l → P (l ++ [c])) (l : List α) : P l := by
  rw [← List.reverse_reverse l]
  induction l.reverse with
  | nil => exact h0
  | cons c t ih => rw [List.reverse_cons]; exact h1 _ _ ih
/-- Noughts ahead are left out: what is left are the number's own digits. -/
def strip (l : List UInt8) : List UInt8 := l.dropWhile (· == 48)
theorem strip_canon (l : List UInt8) (h : ∀ c ∈ l, dig c = true) : strip l = canon (dval l) := by
  revert h
  induction l using rev_ind with
  | h0 => intro _; rw [show dval [] = 0 from rfl, canon_zero]; rfl
  | h1 l c ih =>
    intro h
    have h1 := ih (fun x hx => h x (by simp [hx]))
    have hc := (dig_iff c).1 (h c (by simp))
    rw [dval_snoc]
    unfold strip at *
    rw [List.dropWhile_append, h1]
    by_cases h0 : dval l = 0
    · rw [h0, canon_zero]
      by_cases hcz : c = 48
      · subst hcz; simp [canon_zero]
      · have : c.toNat ≠ 48 := fun hh => hcz (UInt8.toNat_inj.1 hh)
        have e : ofD (c.toNat - 48) = c := UInt8.toNat_inj.1 (by rw [ofD_nat]; omega)
        rw [canon_pos _ (by omega), Nat.mul_zero, Nat.zero_add, show (c.toNat - 48) / 10 = 0 by omega, canon_zero, e]
        simp [hcz]
    · have hne := canon_ne _ h0
      have e : ofD (10 * dval l + (c.toNat - 48)) = c := UInt8.toNat_inj.1 (by rw [ofD_nat]; omega)
      rw [canon_pos (10 * dval l + (c.toNat - 48)) (by omega), e, show (10 * dval l + (c.toNat - 48)) / 10 = dval l by omega]
      simp [hne]
/-- A row of digits that does not begin with a nought is its number's digits. -/
theorem canon_self (l : List UInt8) (h : ∀ c ∈ l, dig c = true) (h0 : l.head? ≠ some 48) : canon (dval l) = l := by
  rw [← strip_canon l h]
  unfold strip
  cases l with
  | nil => rfl
  | cons c t =>
    have : c ≠ 48 := fun hh => h0 (by rw [hh]; rfl)
    simp [this]
/-- A number, in decimal. -/
def txt (z : Int) : List UInt8 := if z = 0 then [48] else if z < 0 then 45 :: canon z.natAbs else canon z.natAbs
def unsign (l : List UInt8) : List UInt8 := if l.head? = some 45 then l.tail else l
def isNeg (l : List UInt8) : Bool := l.head? == some 45
def rightD (l : List UInt8) : Bool := l == [48] || (!(unsign l).isEmpty && (unsign l).head? != some 48 && (unsign l).all dig)
def valD (l : List UInt8) : Int := if isNeg l then -(dval (unsign l) : Int) else dval (unsign l)
theorem val_txt (z : Int) : valD (txt z) = z ∧ rightD (txt z) = true := by
  unfold txt
  by_cases h0 : z = 0
  · rw [if_pos h0, h0]; decide
  · rw [if_neg h0]
    obtain ⟨c, t, h1, h2⟩ := canon_head z.natAbs (by omega)
    have hd := canon_dig z.natAbs
    have hv := dval_canon z.natAbs
    by_cases hn : z < 0
    · rw [if_pos hn]
      refine ⟨?_, ?_⟩
      · simp [valD, isNeg, unsign, hv]; omega
      · rw [h1] at hd ⊢
        simp only [rightD, unsign, List.head?_cons, if_true, List.tail_cons]
        simp only [Bool.or_eq_true, Bool.and_eq_true]
        right
        refine ⟨⟨rfl, by simp [h2]⟩, by rw [List.all_eq_true]; exact hd⟩
    · rw [if_neg hn]
      have hc : c ≠ 45 := by
        intro hh
        have := (dig_iff c).1 (hd c (by rw [h1]; simp))
        rw [hh] at this
        simp at this
      refine ⟨?_, ?_⟩
      · rw [h1] at hv ⊢; simp [valD, isNeg, unsign, hc, hv]; omega
      · rw [h1] at hd ⊢
        have : (c :: t).head? ≠ some 45 := by simp [hc]
        simp only [rightD, unsign, if_neg this]
        simp only [Bool.or_eq_true, Bool.and_eq_true]
        right
        refine ⟨⟨rfl, by simp [h2]⟩, by rw [List.all_eq_true]; exact hd⟩
theorem right_parts (l : List UInt8) (h : rightD l = true) : (∀ c ∈ unsign l, dig c = true) ∧ unsign l ≠ [] ∧ (l = [48] ∨ (unsign l).head? ≠ some 48) := by
  unfold rightD at h
  simp only [Bool.or_eq_true, Bool.and_eq_true] at h
  rcases h with h | ⟨⟨h1, h2⟩, h3⟩
  · have : l = [48] := by simpa using h
    subst this; decide
  · refine ⟨by rw [List.all_eq_true] at h3; exact h3, by simpa using h1, .inr (by simpa using h2)⟩
theorem dval_pos (l : List UInt8) (h : ∀ c ∈ l, dig c = true) (h0 : l.head? ≠ some 48) (h1 : l ≠ []) : dval l ≠ 0 := by
  intro hh
  have := canon_self l h h0
  rw [hh, canon_zero] at this
  exact h1 this.symm
/-- A decimal is its number's text. -/
theorem txt_val (l : List UInt8) (h : rightD l = true) : txt (valD l) = l := by
  obtain ⟨h1, h2, h3⟩ := right_parts l h
  rcases h3 with rfl | h3
  · decide
  · have hp := dval_pos _ h1 h3 h2
    have hc := canon_self _ h1 h3
    unfold txt valD
    by_cases hn : isNeg l = true
    · rw [if_pos hn, if_neg (by omega), if_pos (by omega)]
      have hh : l.head? = some 45 := by simpa [isNeg] using hn
      cases l with
      | nil => simp at hh
      | cons c t =>
        simp only [List.head?_cons, Option.some.injEq] at hh
        subst hh
        simp only [unsign, List.head?_cons, if_true, List.tail_cons] at hc ⊢
        rw [show (-(dval t : Int)).natAbs = dval t by omega, hc]
    · rw [if_neg hn, if_neg (by omega), if_neg (by omega)]
      have hh : ¬ l.head? = some 45 := by simpa [isNeg] using hn
      simp only [unsign, if_neg hh] at hc ⊢
      rw [show ((dval l : Int)).natAbs = dval l by omega, hc]
theorem val_inj (a b : List UInt8) (ha : rightD a = true) (hb : rightD b = true) (h : valD a = valD b) : a = b := by
  rw [← txt_val a ha, ← txt_val b hb, h]
end Go.Proofs.YtfclkackfamdlaaGreatDoor.M
