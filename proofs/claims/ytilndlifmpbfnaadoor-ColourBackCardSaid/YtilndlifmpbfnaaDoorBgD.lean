/- Several texts of ours in one: DMath DMath2 DMath3 DMath4 DMath5 DMath6 DIntM NMath NMath2 NMath4 FMath FMath2 FMath3 FMath4. -/
import Derived.Below
import Derived.Shelf.Strconv.AtoiAll
import Derived.Test.YtilndlifmpbfnaaDoorBgU
import Derived.Lib.IndexAny
/- Plain numbers and lists: decimals of any length. Nothing of the program is imported. -/
namespace Go.Proofs.YtilndlifmpbfnaaDoor.M

theorem u8n (n : Nat) (h : n < 256) : n.toUInt8.toNat = n := by
  simp [Nat.toUInt8, UInt8.toNat_ofNat']; omega
/-- Is a byte a digit? -/
def dig (c : UInt8) : Bool := decide (48 ≤ c.toNat) && decide (c.toNat ≤ 57)
theorem dig_iff (c : UInt8) : dig c = true ↔ (48 ≤ c.toNat ∧ c.toNat ≤ 57) := by simp [dig]
def ofD (n : Nat) : UInt8 := (48 + n % 10).toUInt8
theorem ofD_nat (n : Nat) : (ofD n).toNat = 48 + n % 10 := u8n _ (by omega)
theorem ofD_dig (n : Nat) : dig (ofD n) = true := by rw [dig_iff, ofD_nat]; omega
/-- The number of a row of digits. -/
def dval (l : List UInt8) : Nat := l.foldl (fun a c => 10 * a + (c.toNat - 48)) 0
theorem dval_snoc (l : List UInt8) (c : UInt8) : dval (l ++ [c]) = 10 * dval l + (c.toNat - 48) := by simp [dval]
/-- The digits of a number, none of nought. -/
def canon (n : Nat) : List UInt8 := if _h : n = 0 then [] else canon (n / 10) ++ [ofD n]
  termination_by n
  decreasing_by omega
theorem canon_zero : canon 0 = [] := by unfold canon; simp
theorem canon_pos (n : Nat) (h : n ≠ 0) : canon n = canon (n / 10) ++ [ofD n] := by rw [canon, dif_neg h]
theorem canon_ne (n : Nat) (h : n ≠ 0) : canon n ≠ [] := by rw [canon_pos n h]; simp
theorem canon_dig (n : Nat) : ∀ c ∈ canon n, dig c = true := by
  induction n using Nat.strongRecOn with
  | _ n ih =>
    by_cases h : n = 0
    · subst h; rw [canon_zero]; simp
    · rw [canon_pos n h]
      intro c hc
      rcases List.mem_append.1 hc with hc | hc
      · exact ih (n / 10) (by omega) c hc
      · simp at hc; subst hc; exact ofD_dig n
theorem dval_canon (n : Nat) : dval (canon n) = n := by
  induction n using Nat.strongRecOn with
  | _ n ih =>
    by_cases h : n = 0
    · subst h; rw [canon_zero]; rfl
    · rw [canon_pos n h, dval_snoc, ih (n / 10) (by omega), ofD_nat]; omega
theorem canon_head (n : Nat) (h : n ≠ 0) : ∃ c t, canon n = c :: t ∧ c ≠ 48 := by
  induction n using Nat.strongRecOn with
  | _ n ih =>
    rw [canon_pos n h]
    by_cases h1 : n / 10 = 0
    · rw [h1, canon_zero]
      refine ⟨ofD n, [], rfl, fun hh => ?_⟩
      have := ofD_nat n
      rw [hh] at this
      simp at this
      omega
    · obtain ⟨c, t, h2, h3⟩ := ih (n / 10) (by omega) h1
      exact ⟨c, t ++ [ofD n], by rw [h2]; rfl, h3⟩
theorem rev_ind {α : Type} {P : List α → Prop} (h0 : P []) (h1 : ∀ l c, P l → P (l ++ [c])) (l : List α) : P l := by
  rw [← List.reverse_reverse l]
  induction l.reverse with
  | nil => exact h0
  | cons c t ih => rw [List.reverse_cons]; exact h1 _ _ ih
/-- Noughts ahead are left out: what is left are the number's own digits. -/
def strip (l : List UInt8) : List UInt8 := l.dropWhile (· == 48)
theorem strip_canon (l : List UInt8) (h : ∀ c ∈ l, dig c = true) : strip l = canon (dval l) := by
  revert h
  induction l using rev_ind with
  | h0 => intro _; rw [show dval [] = 0 from rfl, canon_zero]; rfl
  | h1 l c ih =>
    intro h
    have h1 := ih (fun x hx => h x (by simp [hx]))
    have hc := (dig_iff c).1 (h c (by simp))
    rw [dval_snoc]
    unfold strip at *
    rw [List.dropWhile_append, h1]
    by_cases h0 : dval l = 0
    · rw [h0, canon_zero]
      by_cases hcz : c = 48
      · subst hcz; simp [canon_zero]
      · have : c.toNat ≠ 48 := fun hh => hcz (UInt8.toNat_inj.1 hh)
        have e : ofD (c.toNat - 48) = c := UInt8.toNat_inj.1 (by rw [ofD_nat]; omega)
        rw [canon_pos _ (by omega), Nat.mul_zero, Nat.zero_add, show (c.toNat - 48) / 10 = 0 by omega, canon_zero, e]
        simp [hcz]
    · have hne := canon_ne _ h0
      have e : ofD (10 * dval l + (c.toNat - 48)) = c := UInt8.toNat_inj.1 (by rw [ofD_nat]; omega)
      rw [canon_pos (10 * dval l + (c.toNat - 48)) (by omega), e, show (10 * dval l + (c.toNat - 48)) / 10 = dval l by omega]
      simp [hne]
/-- A row of digits that does not begin with a nought is its number's digits. -/
theorem canon_self (l : List UInt8) (h : ∀ c ∈ l, dig c = true) (h0 : l.head? ≠ some 48) : canon (dval l) = l := by
  rw [← strip_canon l h]
  unfold strip
  cases l with
  | nil => rfl
  | cons c t =>
    have : c ≠ 48 := fun hh => h0 (by rw [hh]; rfl)
    simp [this]
/-- A number, in decimal. -/
def txt (z : Int) : List UInt8 := if z = 0 then [48] else if z < 0 then 45 :: canon z.natAbs else canon z.natAbs
def unsign (l : List UInt8) : List UInt8 := if l.head? = some 45 then l.tail else l
def isNeg (l : List UInt8) : Bool := l.head? == some 45
def rightD (l : List UInt8) : Bool := l == [48] || (!(unsign l).isEmpty && (unsign l).head? != some 48 && (unsign l).all dig)
def valD (l : List UInt8) : Int := if isNeg l then -(dval (unsign l) : Int) else dval (unsign l)
theorem val_txt (z : Int) : valD (txt z) = z ∧ rightD (txt z) = true := by
  unfold txt
  by_cases h0 : z = 0
  · rw [if_pos h0, h0]; decide
  · rw [if_neg h0]
    obtain ⟨c, t, h1, h2⟩ := canon_head z.natAbs (by omega)
    have hd := canon_dig z.natAbs
    have hv := dval_canon z.natAbs
    by_cases hn : z < 0
    · rw [if_pos hn]
      refine ⟨?_, ?_⟩
      · simp [valD, isNeg, unsign, hv]; omega
      · rw [h1] at hd ⊢
        simp only [rightD, unsign, List.head?_cons, if_true, List.tail_cons]
        simp only [Bool.or_eq_true, Bool.and_eq_true]
        right
        refine ⟨⟨rfl, by simp [h2]⟩, by rw [List.all_eq_true]; exact hd⟩
    · rw [if_neg hn]
      have hc : c ≠ 45 := by
        intro hh
        have := (dig_iff c).1 (hd c (by rw [h1]; simp))
        rw [hh] at this
        simp at this
      refine ⟨?_, ?_⟩
      · rw [h1] at hv ⊢; simp [valD, isNeg, unsign, hc, hv]; omega
      · rw [h1] at hd ⊢
        have : (c :: t).head? ≠ some 45 := by simp [hc]
        simp only [rightD, unsign, if_neg this]
        simp only [Bool.or_eq_true, Bool.and_eq_true]
        right
        refine ⟨⟨rfl, by simp [h2]⟩, by rw [List.all_eq_true]; exact hd⟩
theorem right_parts (l : List UInt8) (h : rightD l = true) : (∀ c ∈ unsign l, dig c = true) ∧ unsign l ≠ [] ∧ (l = [48] ∨ (unsign l).head? ≠ some 48) := by
  unfold rightD at h
  simp only [Bool.or_eq_true, Bool.and_eq_true] at h
  rcases h with h | ⟨⟨h1, h2⟩, h3⟩
  · have : l = [48] := by simpa using h
    subst this; decide
  · refine ⟨by rw [List.all_eq_true] at h3; exact h3, by simpa using h1, .inr (by simpa using h2)⟩
theorem dval_pos (l : List UInt8) (h : ∀ c ∈ l, dig c = true) (h0 : l.head? ≠ some 48) (h1 : l ≠ []) : dval l ≠ 0 := by
  intro hh
  have := canon_self l h h0
  rw [hh, canon_zero] at this
  exact h1 this.symm
/-- A decimal is its number's text. -/
theorem txt_val (l : List UInt8) (h : rightD l = true) : txt (valD l) = l := by
  obtain ⟨h1, h2, h3⟩ := right_parts l h
  rcases h3 with rfl | h3
  · decide
  · have hp := dval_pos _ h1 h3 h2
    have hc := canon_self _ h1 h3
    unfold txt valD
    by_cases hn : isNeg l = true
    · rw [if_pos hn, if_neg (by omega), if_pos (by omega)]
      have hh : l.head? = some 45 := by simpa [isNeg] using hn
      cases l with
      | nil => simp at hh
      | cons c t =>
        simp only [List.head?_cons, Option.some.injEq] at hh
        subst hh
        simp only [unsign, List.head?_cons, if_true, List.tail_cons] at hc ⊢
        rw [show (-(dval t : Int)).natAbs = dval t by omega, hc]
    · rw [if_neg hn, if_neg (by omega), if_neg (by omega)]
      have hh : ¬ l.head? = some 45 := by simpa [isNeg] using hn
      simp only [unsign, if_neg hh] at hc ⊢
      rw [show ((dval l : Int)).natAbs = dval l by omega, hc]
theorem val_inj (a b : List UInt8) (ha : rightD a = true) (hb : rightD b = true) (h : valD a = valD b) : a = b := by
  rw [← txt_val a ha, ← txt_val b hb, h]
end Go.Proofs.YtilndlifmpbfnaaDoor.M

/- Plain numbers and lists: adding and taking off, digit by digit, and which of two rows of digits is less. Nothing of the program is imported. -/
namespace Go.Proofs.YtilndlifmpbfnaaDoor.M

/-- The digit at a place, counted from the end; nought beyond. -/
def dat (x : List UInt8) (i : Nat) : Nat := if i < x.length then (x.getD (x.length - 1 - i) 48).toNat - 48 else 0
def lowv (x : List UInt8) : Nat → Nat
  | 0 => 0
  | k + 1 => lowv x k + dat x k * 10 ^ k
/-- The number of a row of digits that begins with the last one. -/
def lev : List UInt8 → Nat
  | [] => 0
  | c :: t => (c.toNat - 48) + 10 * lev t
theorem lev_snoc (l : List UInt8) (c : UInt8) : lev (l ++ [c]) = lev l + (c.toNat - 48) * 10 ^ l.length := by
  induction l with
  | nil => simp [lev]
  | cons a t ih =>
    simp only [List.cons_append, lev, ih, List.length_cons, Nat.pow_succ]
    rw [Nat.mul_add, Nat.add_assoc, ← Nat.mul_assoc, Nat.mul_comm 10 (c.toNat - 48), Nat.mul_assoc, Nat.mul_comm 10 (10 ^ t.length)]
theorem dval_reverse (l : List UInt8) : dval l.reverse = lev l := by
  induction l with
  | nil => rfl
  | cons c t ih => rw [List.reverse_cons, dval_snoc, ih]; simp only [lev]; omega
theorem lev_lt (l : List UInt8) (h : ∀ c ∈ l, dig c = true) : lev l < 10 ^ l.length := by
  induction l with
  | nil => simp [lev]
  | cons c t ih =>
    have h1 := ih (fun x hx => h x (by simp [hx]))
    have h2 := (dig_iff c).1 (h c (by simp))
    simp only [lev, List.length_cons, Nat.pow_succ]; omega
theorem dval_lt (l : List UInt8) (h : ∀ c ∈ l, dig c = true) : dval l < 10 ^ l.length := by
  have := lev_lt l.reverse (fun c hc => h c (by simpa using hc))
  rw [← dval_reverse, List.reverse_reverse, List.length_reverse] at this
  exact this
theorem dat_zero (x : List UInt8) (c : UInt8) : dat (x ++ [c]) 0 = c.toNat - 48 := by
  simp [dat]
theorem dat_succ (x : List UInt8) (c : UInt8) (i : Nat) : dat (x ++ [c]) (i + 1) = dat x i := by
  unfold dat
  simp only [List.length_append, List.length_cons, List.length_nil]
  by_cases h : i < x.length
  · rw [if_pos (by omega), if_pos h]
    rw [show x.length + (0 + 1) - 1 - (i + 1) = x.length - 1 - i by omega]
    congr 2
    simp only [List.getD]
    rw [List.getElem?_append_left (by omega)]
  · rw [if_neg (by omega), if_neg h]
theorem dat_le (x : List UInt8) (h : ∀ c ∈ x, dig c = true) (i : Nat) : dat x i ≤ 9 := by
  unfold dat
  split
  · rename_i hi
    have hl : x.length - 1 - i < x.length := by omega
    have := (dig_iff _).1 (h _ (List.getElem_mem hl))
    simp only [List.getD, List.getElem?_eq_getElem hl, Option.getD_some]
    omega
  · omega
theorem dat_out (x : List UInt8) (i : Nat) (h : x.length ≤ i) : dat x i = 0 := by unfold dat; rw [if_neg (by omega)]
theorem lowv_snoc (x : List UInt8) (c : UInt8) (k : Nat) : lowv (x ++ [c]) (k + 1) = (c.toNat - 48) + 10 * lowv x k := by
  induction k with
  | zero => simp [lowv, dat_zero]
  | succ k ih =>
    rw [lowv, ih, lowv, dat_succ, Nat.pow_succ, Nat.mul_add, Nat.add_assoc]
    congr 2
    rw [← Nat.mul_assoc, Nat.mul_comm 10]
theorem lowv_len (x : List UInt8) : lowv x x.length = dval x := by
  induction x using rev_ind with
  | h0 => rfl
  | h1 l c ih => rw [List.length_append, List.length_singleton, lowv_snoc, ih, dval_snoc]; omega
theorem lowv_all (x : List UInt8) (k : Nat) (h : x.length ≤ k) : lowv x k = dval x := by
  induction k with
  | zero => rw [← lowv_len x, show x.length = 0 by omega]
  | succ k ih =>
    by_cases hk : x.length = k + 1
    · rw [← lowv_len x, hk]
    · rw [lowv, ih (by omega), dat_out x k (by omega)]; simp
/-- Adding: what holds behind k rounds. -/
def Sum (x y : List UInt8) (k : Nat) (out : List UInt8) (carry : Nat) : Prop :=
  out.length = k ∧ (∀ c ∈ out, dig c = true) ∧ carry ≤ 1 ∧ lev out + carry * 10 ^ k = lowv x k + lowv y k
theorem sum_start (x y : List UInt8) : Sum x y 0 [] 0 := ⟨rfl, by simp, by omega, rfl⟩
theorem sum_step {x y : List UInt8} {k : Nat} {out : List UInt8} {carry : Nat} (hx : ∀ c ∈ x, dig c = true) (hy : ∀ c ∈ y, dig c = true) (h : Sum x y k out carry) :
    Sum x y (k + 1) (out ++ [ofD (dat x k + dat y k + carry)]) ((dat x k + dat y k + carry) / 10) := by
  obtain ⟨h1, h2, h3, h4⟩ := h
  have a := dat_le x hx k
  have b := dat_le y hy k
  refine ⟨by simp [h1], ?_, by omega, ?_⟩
  · intro c hc
    rcases List.mem_append.1 hc with hc | hc
    · exact h2 c hc
    · simp at hc; subst hc; exact ofD_dig _
  · rw [lev_snoc, ofD_nat, h1, lowv, lowv, Nat.pow_succ]
    generalize dat x k = p at *
    generalize dat y k = q at *
    have e : p + q + carry = (p + q + carry) % 10 + (p + q + carry) / 10 * 10 := by omega
    have e2 : (p + q + carry) * 10 ^ k = ((p + q + carry) % 10 + (p + q + carry) / 10 * 10) * 10 ^ k := by rw [← e]
    rw [Nat.add_mul, Nat.add_mul, Nat.add_mul] at e2
    rw [show 48 + (p + q + carry) % 10 - 48 = (p + q + carry) % 10 by omega]
    rw [← Nat.mul_assoc, Nat.mul_comm ((p + q + carry) / 10) (10 ^ k), Nat.mul_assoc, Nat.mul_comm (10 ^ k)]
    omega
theorem sum_end {x y : List UInt8} {k : Nat} {out : List UInt8} {carry : Nat} (hx : ∀ c ∈ x, dig c = true) (hy : ∀ c ∈ y, dig c = true) (h : Sum x y k out carry)
    (hk : x.length < k) (hk2 : y.length < k) : lev out = dval x + dval y := by
  obtain ⟨h1, h2, h3, h4⟩ := h
  rw [lowv_all x k (by omega), lowv_all y k (by omega)] at h4
  have a := dval_lt x hx
  have b := dval_lt y hy
  obtain ⟨m, rfl⟩ : ∃ m, k = m + 1 := ⟨k - 1, by omega⟩
  have c1 : 10 ^ x.length ≤ 10 ^ m := Nat.pow_le_pow_right (by omega) (by omega)
  have c2 : 10 ^ y.length ≤ 10 ^ m := Nat.pow_le_pow_right (by omega) (by omega)
  rw [Nat.pow_succ] at h4
  have : carry = 0 ∨ carry = 1 := by omega
  rcases this with rfl | rfl
  · omega
  · omega
/-- Taking off. -/
def Dif (x y : List UInt8) (k : Nat) (out : List UInt8) (borrow : Nat) : Prop :=
  out.length = k ∧ (∀ c ∈ out, dig c = true) ∧ borrow ≤ 1 ∧ lev out + lowv y k = lowv x k + borrow * 10 ^ k
theorem dif_start (x y : List UInt8) : Dif x y 0 [] 0 := ⟨rfl, by simp, by omega, rfl⟩
theorem dif_step {x y : List UInt8} {k : Nat} {out : List UInt8} {borrow : Nat} (hx : ∀ c ∈ x, dig c = true) (hy : ∀ c ∈ y, dig c = true) (h : Dif x y k out borrow) :
    Dif x y (k + 1) (out ++ [ofD (dat x k + 10 - dat y k - borrow)]) (1 - (dat x k + 10 - dat y k - borrow) / 10) := by
  obtain ⟨h1, h2, h3, h4⟩ := h
  have a := dat_le x hx k
  have b := dat_le y hy k
  refine ⟨by simp [h1], ?_, by omega, ?_⟩
  · intro c hc
    rcases List.mem_append.1 hc with hc | hc
    · exact h2 c hc
    · simp at hc; subst hc; exact ofD_dig _
  · rw [lev_snoc, ofD_nat, h1, lowv, lowv, Nat.pow_succ]
    generalize dat x k = p at *
    generalize dat y k = q at *
    obtain ⟨n, hn⟩ : ∃ n, p + 10 - q - borrow = n := ⟨_, rfl⟩
    rw [hn]
    have e : n % 10 + q + borrow = p + (1 - n / 10) * 10 := by
      have : n / 10 = 0 ∨ n / 10 = 1 := by omega
      rcases this with h | h <;> rw [h] <;> omega
    have e2 : (n % 10 + q + borrow) * 10 ^ k = (p + (1 - n / 10) * 10) * 10 ^ k := by rw [e]
    rw [Nat.add_mul, Nat.add_mul, Nat.add_mul] at e2
    rw [show 48 + n % 10 - 48 = n % 10 by omega]
    rw [← Nat.mul_assoc, Nat.mul_comm (1 - n / 10) (10 ^ k), Nat.mul_assoc, Nat.mul_comm (10 ^ k)]
    omega
theorem dif_end {x y : List UInt8} {k : Nat} {out : List UInt8} {borrow : Nat} (h : Dif x y k out borrow)
    (hk : x.length ≤ k) (hk2 : y.length ≤ k) (hle : dval y ≤ dval x) : lev out = dval x - dval y := by
  obtain ⟨h1, h2, h3, h4⟩ := h
  rw [lowv_all x k hk, lowv_all y k hk2] at h4
  have := lev_lt out h2
  rw [h1] at this
  have hb : borrow = 0 ∨ borrow = 1 := by omega
  rcases hb with rfl | rfl <;> omega
/-- A row of digits as a decimal has it: no nought ahead, but alone. -/
def Row (x : List UInt8) : Prop := (∀ c ∈ x, dig c = true) ∧ x ≠ [] ∧ (x = [48] ∨ x.head? ≠ some 48)
theorem row_unsign (l : List UInt8) (h : rightD l = true) : Row (unsign l) := by
  obtain ⟨h1, h2, h3⟩ := right_parts l h
  refine ⟨h1, h2, ?_⟩
  rcases h3 with rfl | h3
  · left; rfl
  · exact .inr h3
theorem row_ge (x : List UInt8) (h : Row x) (h1 : 2 ≤ x.length) : 10 ^ (x.length - 1) ≤ dval x := by
  obtain ⟨hd, hn, h0⟩ := h
  rcases h0 with rfl | h0
  · simp at h1
  · cases x with
    | nil => simp at h1
    | cons c t =>
      clear h1 hn
      have hc : c ≠ 48 := fun hh => h0 (by rw [hh]; rfl)
      have hc2 := (dig_iff c).1 (hd c (by simp))
      have hc3 : c.toNat ≠ 48 := fun hh => hc (UInt8.toNat_inj.1 hh)
      clear h0 hc
      simp only [List.length_cons, Nat.add_sub_cancel]
      clear hd
      induction t using rev_ind with
      | h0 => simp [dval]; omega
      | h1 l d ih => rw [← List.cons_append, dval_snoc, List.length_append, List.length_singleton, Nat.pow_succ]; omega
theorem dval_cons (c : UInt8) (t : List UInt8) : dval (c :: t) = (c.toNat - 48) * 10 ^ t.length + dval t := by
  induction t using rev_ind with
  | h0 => simp [dval]
  | h1 l d ih => rw [← List.cons_append, dval_snoc, dval_snoc, ih, List.length_append, List.length_singleton, Nat.pow_succ]; rw [Nat.mul_add, Nat.mul_left_comm 10, Nat.mul_comm 10 (10 ^ l.length)]; omega
theorem lex_dval (x y : List UInt8) (hx : ∀ c ∈ x, dig c = true) (hy : ∀ c ∈ y, dig c = true) (h : x.length = y.length) : x < y ↔ dval x < dval y := by
  induction x generalizing y with
  | nil =>
    cases y with
    | nil => simp [dval]
    | cons _ _ => simp at h
  | cons a s ih =>
    cases y with
    | nil => simp at h
    | cons b t =>
      have ha := (dig_iff a).1 (hx a (by simp))
      have hb := (dig_iff b).1 (hy b (by simp))
      have hl : s.length = t.length := by simpa using h
      have h1 := dval_lt s (fun c hc => hx c (by simp [hc]))
      have h2 := dval_lt t (fun c hc => hy c (by simp [hc]))
      rw [List.cons_lt_cons_iff, ih t (fun c hc => hx c (by simp [hc])) (fun c hc => hy c (by simp [hc])) hl, dval_cons, dval_cons, hl, UInt8.lt_iff_toNat_lt]
      rw [hl] at h1
      have hab : a = b ↔ a.toNat = b.toNat := UInt8.toNat_inj.symm
      rw [hab]
      generalize 10 ^ t.length = P at *
      obtain ⟨p, hp⟩ : ∃ p, a.toNat - 48 = p := ⟨_, rfl⟩
      obtain ⟨q, hq⟩ : ∃ q, b.toNat - 48 = q := ⟨_, rfl⟩
      rw [hp, hq]
      have e1 : a.toNat < b.toNat ↔ p < q := by omega
      have e2 : a.toNat = b.toNat ↔ p = q := by omega
      rw [e1, e2]
      constructor
      · rintro (h | ⟨h, h'⟩)
        · have : (p + 1) * P ≤ q * P := Nat.mul_le_mul_right _ h
          rw [Nat.add_mul] at this
          omega
        · subst h; omega
      · intro h
        by_cases c1 : p < q
        · exact .inl c1
        · by_cases c2 : p = q
          · subst c2; right; omega
          · have : (q + 1) * P ≤ p * P := Nat.mul_le_mul_right _ (by omega)
            rw [Nat.add_mul] at this
            omega
def lessB (x y : List UInt8) : Bool := if x.length ≠ y.length then decide (x.length < y.length) else decide (x < y)
theorem less_dval (x y : List UInt8) (hx : Row x) (hy : Row y) : lessB x y = decide (dval x < dval y) := by
  unfold lessB
  have key : ∀ a b : List UInt8, Row a → Row b → a.length < b.length → dval a < dval b := by
    intro a b ha hb h
    have h1 := dval_lt a ha.1
    have h0 : 1 ≤ a.length := by
      have := ha.2.1
      cases a with
      | nil => exact absurd rfl this
      | cons _ _ => simp
    have h2 := row_ge b hb (by omega)
    have h3 : 10 ^ a.length ≤ 10 ^ (b.length - 1) := Nat.pow_le_pow_right (by omega) (by omega)
    omega
  by_cases h : x.length = y.length
  · rw [if_neg (by simp [h])]
    have := lex_dval x y hx.1 hy.1 h
    simp only [this]
  · rw [if_pos h]
    by_cases h1 : x.length < y.length
    · have := key x y hx hy h1
      simp [h1, this]
    · have := key y x hy hx (by omega)
      have h2 : ¬ dval x < dval y := by omega
      simp [h1, h2]
end Go.Proofs.YtilndlifmpbfnaaDoor.M

/- Plain numbers and lists: what adding and comparing decimals comes to. Nothing of the program is imported. -/
namespace Go.Proofs.YtilndlifmpbfnaaDoor.M

/-- A row of digits with a sign, as a decimal. -/
def sgn (neg : Bool) (l : List UInt8) : List UInt8 := if strip l = [] then [48] else if neg then 45 :: strip l else strip l
theorem sgn_txt (neg : Bool) (l : List UInt8) (h : ∀ c ∈ l, dig c = true) : sgn neg l = txt (if neg then -(dval l : Int) else dval l) := by
  unfold sgn txt
  rw [strip_canon l h]
  by_cases h0 : dval l = 0
  · rw [h0, canon_zero, if_pos rfl]
    cases neg <;> simp
  · have hne := canon_ne _ h0
    rw [if_neg hne]
    cases neg with
    | true =>
      simp only [if_true]
      rw [if_neg (by omega), if_pos (by omega), show (-(dval l : Int)).natAbs = dval l by omega]
    | false =>
      simp only [Bool.false_eq_true, if_false]
      rw [if_neg (by omega), if_neg (by omega), show ((dval l : Int)).natAbs = dval l by omega]
theorem row_len (x y : List UInt8) (hx : Row x) (hy : Row y) (h : dval y ≤ dval x) : y.length ≤ x.length := by
  by_cases hl : y.length ≤ x.length
  · exact hl
  · have h1 : lessB x y = true := by unfold lessB; rw [if_pos (by omega)]; simp; omega
    rw [less_dval x y hx hy] at h1
    simp at h1; omega
theorem neg_pos (a : List UInt8) (h : rightD a = true) (hn : isNeg a = true) : 0 < dval (unsign a) := by
  obtain ⟨h1, h2, h3⟩ := right_parts a h
  rcases h3 with rfl | h3
  · exact absurd hn (by decide)
  · have := dval_pos _ h1 h3 h2; omega
theorem unsign_self (a : List UInt8) (hn : isNeg a = false) : unsign a = a := by
  unfold isNeg at hn; unfold unsign
  rw [if_neg]; simpa using hn
def addD (a b : List UInt8) : List UInt8 × Bool := if rightD a && rightD b then (txt (valD a + valD b), true) else ([], false)
def lessT (a b : List UInt8) : Bool := rightD a && rightD b && decide (valD a < valD b)
theorem add_same (a b l : List UInt8) (hn : isNeg a = isNeg b) (hl : ∀ c ∈ l, dig c = true) (hv : dval l = dval (unsign a) + dval (unsign b)) : sgn (isNeg a) l = txt (valD a + valD b) := by
  rw [sgn_txt _ l hl]
  unfold valD
  rw [← hn, hv]
  cases isNeg a with
  | true => simp only [if_true]; congr 1; omega
  | false => simp only [Bool.false_eq_true, if_false]; congr 1
theorem add_less (a b l : List UInt8) (hn : isNeg a ≠ isNeg b) (hl : ∀ c ∈ l, dig c = true) (hlt : dval (unsign a) < dval (unsign b)) (hv : dval l = dval (unsign b) - dval (unsign a)) : sgn (isNeg b) l = txt (valD a + valD b) := by
  rw [sgn_txt _ l hl]
  unfold valD
  revert hn
  cases isNeg a <;> cases isNeg b <;> intro hn
  · exact absurd rfl hn
  · congr 1; simp; omega
  · congr 1; simp; omega
  · exact absurd rfl hn
theorem add_more (a b l : List UInt8) (hn : isNeg a ≠ isNeg b) (hl : ∀ c ∈ l, dig c = true) (hlt : ¬ dval (unsign a) < dval (unsign b)) (hv : dval l = dval (unsign a) - dval (unsign b)) : sgn (isNeg a) l = txt (valD a + valD b) := by
  rw [sgn_txt _ l hl]
  unfold valD
  revert hn
  cases isNeg a <;> cases isNeg b <;> intro hn
  · exact absurd rfl hn
  · congr 1; simp; omega
  · congr 1; simp; omega
  · exact absurd rfl hn
theorem less_differ (a b : List UInt8) (ha : rightD a = true) (hb : rightD b = true) (hn : isNeg a ≠ isNeg b) : lessT a b = isNeg a := by
  unfold lessT
  rw [ha, hb]
  cases h1 : isNeg a with
  | true =>
    have h2 : isNeg b = false := by cases h : isNeg b with
      | false => rfl
      | true => exact absurd (h1.trans h.symm) hn
    have := neg_pos a ha h1
    unfold valD
    rw [h1, h2]
    simp <;> omega
  | false =>
    have h2 : isNeg b = true := by cases h : isNeg b with
      | true => rfl
      | false => exact absurd (h1.trans h.symm) hn
    have := neg_pos b hb h2
    unfold valD
    rw [h1, h2]
    simp <;> omega
theorem less_both (a b : List UInt8) (ha : rightD a = true) (hb : rightD b = true) (h1 : isNeg a = true) (h2 : isNeg b = true) : lessT a b = lessB (unsign b) (unsign a) := by
  rw [less_dval _ _ (row_unsign b hb) (row_unsign a ha)]
  unfold lessT valD
  rw [ha, hb, h1, h2]
  rw [Bool.eq_iff_iff]; simp
theorem less_none (a b : List UInt8) (ha : rightD a = true) (hb : rightD b = true) (h1 : isNeg a = false) (h2 : isNeg b = false) : lessT a b = lessB a b := by
  have r1 := row_unsign a ha
  have r2 := row_unsign b hb
  rw [unsign_self a h1] at r1
  rw [unsign_self b h2] at r2
  rw [less_dval _ _ r1 r2]
  unfold lessT valD
  rw [ha, hb, h1, h2, unsign_self a h1, unsign_self b h2]
  rw [Bool.eq_iff_iff]; simp
end Go.Proofs.YtilndlifmpbfnaaDoor.M

/- Decimals, plain mathematics: how long the text of a number is; the laws of order and of sums. -/
namespace Go.Proofs.YtilndlifmpbfnaaDoor.M
set_option linter.unusedVariables false

theorem dval_abs (t : List UInt8) : dval (unsign t) = (valD t).natAbs := by
  unfold valD
  split <;> omega
theorem txt_len (z : Int) (n : Nat) (h1 : 1 ≤ n) (h : z.natAbs < 10 ^ n) : (txt z).length ≤ n + 1 := by
  have ⟨hv, hr⟩ := val_txt z
  have hrow := row_unsign _ hr
  have hd := dval_abs (txt z)
  rw [hv] at hd
  have hl : (txt z).length ≤ (unsign (txt z)).length + 1 := by
    unfold unsign; split
    · rw [List.length_tail]; omega
    · omega
  by_cases h2 : 2 ≤ (unsign (txt z)).length
  · have h3 := row_ge _ hrow h2
    rw [hd] at h3
    have h4 := (Nat.pow_lt_pow_iff_right (by omega : 1 < 10)).1 (Nat.lt_of_le_of_lt h3 h)
    omega
  · omega
theorem val_abs (a : List UInt8) (h : rightD a = true) (n : Nat) (hn : a.length ≤ n) : (valD a).natAbs < 10 ^ n := by
  rw [← dval_abs]
  have hr := row_unsign a h
  have h1 := dval_lt _ hr.1
  have h2 : (unsign a).length ≤ a.length := by
    unfold unsign; split
    · rw [List.length_tail]; omega
    · omega
  exact Nat.lt_of_lt_of_le h1 (Nat.pow_le_pow_right (by omega) (by omega))
theorem sum_abs (x y : Int) (n : Nat) (hx : x.natAbs < 10 ^ n) (hy : y.natAbs < 10 ^ n) : (x + y).natAbs < 10 ^ (n + 1) := by
  rw [Nat.pow_succ]
  generalize 10 ^ n = p at hx hy ⊢
  omega
theorem less_right (a b : List UInt8) (ha : rightD a = true) (hb : rightD b = true) : lessT a b = decide (valD a < valD b) := by
  unfold lessT; rw [ha, hb]; simp
theorem add_right (a b : List UInt8) (ha : rightD a = true) (hb : rightD b = true) : addD a b = (txt (valD a + valD b), true) := by
  unfold addD; rw [ha, hb]; simp
theorem less_sums (a b c : List UInt8) (ha : rightD a = true) (hb : rightD b = true) (hc : rightD c = true) :
    lessT (txt (valD a + valD c)) (txt (valD b + valD c)) = lessT a b := by
  have h1 := val_txt (valD a + valD c)
  have h2 := val_txt (valD b + valD c)
  rw [less_right _ _ h1.2 h2.2, less_right a b ha hb, h1.1, h2.1, decide_eq_decide]
  omega
theorem sum_len (a c : List UInt8) (ha : rightD a = true) (hc : rightD c = true) (n : Nat) (h1 : a.length ≤ n) (h2 : c.length ≤ n) : (txt (valD a + valD c)).length ≤ n + 2 :=
  txt_len _ (n + 1) (by omega) (sum_abs _ _ n (val_abs a ha n h1) (val_abs c hc n h2))
end Go.Proofs.YtilndlifmpbfnaaDoor.M

/- Decimals, plain mathematics: the number less another. -/
namespace Go.Proofs.YtilndlifmpbfnaaDoor.M
set_option linter.unusedVariables false

theorem neg_head (t : List UInt8) (h : rightD (45 :: t) = true) : rightD t = true ∧ valD t = -valD (45 :: t) ∧ isNeg t = false := by
  have hp := right_parts _ h
  have hu : unsign (45 :: t) = t := by simp [unsign]
  rw [hu] at hp
  obtain ⟨h1, h2, h3⟩ := hp
  have h3 : t.head? ≠ some 48 := by
    rcases h3 with h3 | h3
    · exact absurd h3 (by simp)
    · exact h3
  cases t with
  | nil => exact absurd rfl h2
  | cons c u =>
    have hc : c ≠ 45 := by
      intro hc
      have := h1 c (by simp)
      rw [hc] at this
      exact absurd this (by decide)
    have hn : isNeg (c :: u) = false := by simp [isNeg, hc]
    have hs := unsign_self _ hn
    refine ⟨?_, ?_, hn⟩
    · unfold rightD
      rw [hs]
      have : (c :: u).all dig = true := by rw [List.all_eq_true]; exact h1
      rw [this]
      simp at h3
      simp [h3]
    · unfold valD
      rw [hu, hs, hn]
      simp [isNeg]
theorem neg_more (b : List UInt8) (h : rightD b = true) (hn : isNeg b = false) (h0 : b ≠ [48]) : rightD (45 :: b) = true ∧ valD (45 :: b) = -valD b := by
  have hp := right_parts _ h
  have hs := unsign_self _ hn
  rw [hs] at hp
  obtain ⟨h1, h2, h3⟩ := hp
  have h3 : b.head? ≠ some 48 := by
    rcases h3 with h3 | h3
    · exact absurd h3 h0
    · exact h3
  have hu : unsign (45 :: b) = b := by simp [unsign]
  constructor
  · unfold rightD
    rw [hu]
    have : b.all dig = true := by rw [List.all_eq_true]; exact h1
    rw [this]
    simp [h2, h3]
  · unfold valD
    rw [hu, hs, hn]
    simp [isNeg]
theorem add_txt (x c : List UInt8) (k m : Int) (hx : x = txt k) (hc : rightD c = true) (hm : k + valD c = m) : addD x c = (txt m, true) := by
  subst hx
  rw [add_right _ _ (val_txt k).2 hc, (val_txt k).1, hm]
end Go.Proofs.YtilndlifmpbfnaaDoor.M

/- Decimals, plain mathematics: rows of digits that begin with the last one, cut of the noughts at their end; the decimal text of a number. -/
namespace Go.Proofs.YtilndlifmpbfnaaDoor.M
open Go.RowKit
set_option linter.unusedVariables false
set_option linter.unusedSimpArgs false

/-- The digits of a natural number, one at least. -/
def decS (n : Nat) : List UInt8 := if n = 0 then [48] else canon n
theorem decS_small (n : Nat) (h : n ≤ 9) : decS n = [ofD n] := by
  unfold decS
  split
  · rename_i h0; subst h0; decide
  · rename_i h0
    rw [canon_pos n h0, show n / 10 = 0 by omega, canon_zero, List.nil_append]
theorem decS_step (n : Nat) (h : 9 < n) : decS n = decS (n / 10) ++ [ofD n] := by
  unfold decS
  rw [if_neg (by omega), if_neg (by omega), canon_pos n (by omega)]
theorem decS_len (n k : Nat) (h : n < 10 ^ (k + 1)) : (decS n).length ≤ k + 1 := by
  induction k generalizing n with
  | zero => rw [decS_small n (by omega)]; simp
  | succ k ih =>
    by_cases h9 : n ≤ 9
    · rw [decS_small n h9]; simp
    · rw [decS_step n (by omega), List.length_append]
      have := ih (n / 10) (by rw [Nat.div_lt_iff_lt_mul (by omega)]; rw [Nat.pow_succ] at h; exact h)
      simp; omega
theorem txt_nat (n : Nat) : txt (n : Int) = decS n := by
  unfold txt decS
  by_cases h : n = 0
  · subst h; simp
  · rw [if_neg (by omega), if_neg (by omega), if_neg h]; simp
theorem txt_minus (n : Nat) (h : n ≠ 0) : txt (-(n : Int)) = 45 :: decS n := by
  unfold txt decS
  rw [if_neg (by omega), if_pos (by omega), if_neg h]; simp
theorem decS_ne (n : Nat) : decS n ≠ [] := by
  unfold decS; split
  · simp
  · exact canon_ne n (by assumption)
theorem decS_zero (n : Nat) : decS n = [48] ↔ n = 0 := by
  constructor
  · intro h
    unfold decS at h
    split at h
    · assumption
    · rename_i h0
      obtain ⟨c, t, hc, hn⟩ := canon_head n h0
      rw [hc] at h; simp at h; exact absurd h.1 hn
  · intro h; subst h; rfl
/-- A row of digits that begins with the last one, without noughts at its end (but a lone one): turned round it is the number's text. -/
theorem rev_decS (t : List UInt8) (hd : ∀ c ∈ t, dig c = true) (hne : t ≠ []) (h : t.length = 1 ∨ t.getLast hne ≠ 48) : t.reverse = decS (lev t) := by
  have hrd : ∀ c ∈ t.reverse, dig c = true := fun c hc => hd c (by simpa using hc)
  rw [← dval_reverse]
  by_cases h48 : t.getLast hne = 48
  · have h1 : t.length = 1 := by
      rcases h with h | h
      · exact h
      · exact absurd h48 h
    obtain ⟨c, rfl⟩ : ∃ c, t = [c] := by
      cases t with
      | nil => simp at h1
      | cons c u => cases u with
        | nil => exact ⟨c, rfl⟩
        | cons d v => simp at h1
    simp at h48
    subst h48
    rfl
  · have hh : t.reverse.head? ≠ some 48 := by
      rw [List.head?_reverse, List.getLast?_eq_some_getLast hne]
      simpa using h48
    have hz := dval_pos t.reverse hrd hh (by simpa using hne)
    unfold decS
    rw [if_neg hz, canon_self t.reverse hrd hh]
/-- Noughts at the end of a row that begins with the last digit count nothing. -/
theorem lev_take (l : List UInt8) (n : Nat) (hn : 1 ≤ n) (h : n ≤ l.length) (h48 : l[n - 1]'(by omega) = 48) : lev (l.take n) = lev (l.take (n - 1)) := by
  obtain ⟨m, rfl⟩ : ∃ m, n = m + 1 := ⟨n - 1, by omega⟩
  rw [List.take_succ_eq_append_getElem (by omega), lev_snoc]
  simp only [Nat.add_sub_cancel] at h48 ⊢
  rw [h48]; simp
theorem sum_done {x y : List UInt8} {k : Nat} {out : List UInt8} (h : Sum x y k out 0) (hk : x.length ≤ k) (hk2 : y.length ≤ k) : lev out = dval x + dval y := by
  obtain ⟨h1, h2, h3, h4⟩ := h
  rw [lowv_all x k hk, lowv_all y k hk2] at h4
  omega
theorem sum_last {x y : List UInt8} {k : Nat} {carry : Nat} (hk : x.length ≤ k) (hk2 : y.length ≤ k) (hc : carry ≤ 1) : (dat x k + dat y k + carry) / 10 = 0 := by
  rw [dat_out x k hk, dat_out y k hk2]; omega
theorem dif_last {x y : List UInt8} {k : Nat} {out : List UInt8} {borrow : Nat} (h : Dif x y k out borrow) (hk : x.length ≤ k) (hk2 : y.length ≤ k) (hle : dval y ≤ dval x) : borrow = 0 := by
  obtain ⟨h1, h2, h3, h4⟩ := h
  rw [lowv_all x k hk, lowv_all y k hk2] at h4
  have := lev_lt out h2
  rw [h1] at this
  rcases Nat.lt_or_ge borrow 1 with h | h
  · omega
  · obtain rfl : borrow = 1 := by omega
    omega
/-- The text with a sign, as the reference lays it. -/
def neg1 (neg : Bool) (l : List UInt8) : List UInt8 := if neg && l != [48] then 45 :: l else l
theorem neg1_txt (neg : Bool) (n : Nat) : neg1 neg (decS n) = txt (if neg then -(n : Int) else n) := by
  unfold neg1
  cases neg with
  | false => simp [txt_nat]
  | true =>
    by_cases h : n = 0
    · subst h; simp [decS, txt]
    · have : decS n ≠ [48] := fun hh => h ((decS_zero n).1 hh)
      simp [this, txt_minus n h]
/-- What the reference's Add comes to. -/
def radd (a b : List UInt8) : List UInt8 :=
  if isNeg a = isNeg b then neg1 (isNeg a) (decS (dval (unsign a) + dval (unsign b)))
  else if lessB (unsign a) (unsign b) then neg1 (isNeg b) (decS (dval (unsign b) - dval (unsign a)))
  else neg1 (isNeg a) (decS (dval (unsign a) - dval (unsign b)))
theorem radd_txt (a b : List UInt8) (ha : rightD a = true) (hb : rightD b = true) : radd a b = txt (valD a + valD b) := by
  have hless := less_dval _ _ (row_unsign a ha) (row_unsign b hb)
  unfold radd
  rw [hless]
  unfold valD
  simp only [neg1_txt, decide_eq_true_eq]
  cases h1 : isNeg a <;> cases h2 : isNeg b
  · simp
  · simp only [Bool.false_eq_true, if_false, if_true, Bool.true_eq_false, reduceCtorEq]
    split <;> (congr 1; omega)
  · simp only [Bool.false_eq_true, if_false, if_true, Bool.true_eq_false, reduceCtorEq]
    split <;> (congr 1; omega)
  · simp only [if_true]; congr 1; omega
end Go.Proofs.YtilndlifmpbfnaaDoor.M

/- Decimals: what Int returns, for any text. -/
namespace Go.Proofs.YtilndlifmpbfnaaDoor.M
open Go.RowKit
set_option linter.unusedVariables false

theorem dec_from (l : List UInt8) (h : ∀ c ∈ l, dig c = true) (acc : Nat) : Lib.decFrom acc l = some (l.foldl (fun a c => 10 * a + (c.toNat - 48)) acc) := by
  induction l generalizing acc with
  | nil => rfl
  | cons c t ih =>
    have hc := (dig_iff c).1 (h c (by simp))
    have : Lib.digitVal c = some (c.toNat - 48) := by unfold Lib.digitVal; rw [if_pos hc]
    unfold Lib.decFrom
    rw [this]
    dsimp only
    rw [ih (fun d hd => h d (by simp [hd])), List.foldl_cons]
    congr 2
    omega
theorem dec_nat (l : List UInt8) (h : ∀ c ∈ l, dig c = true) (hne : l ≠ []) : Lib.decNat l = some (dval l) := by
  unfold Lib.decNat
  cases l with
  | nil => exact absurd rfl hne
  | cons c t => simp only [List.isEmpty_cons, Bool.false_eq_true, if_false]; exact dec_from _ h 0
theorem atoi_right (l : List UInt8) (h : rightD l = true) : Lib.atoi l = some (valD l) := by
  have hr := row_unsign l h
  cases l with
  | nil => simp [Row, unsign] at hr
  | cons c t =>
    unfold Lib.atoi
    by_cases hc : c = 45
    · subst hc
      have : unsign (45 :: t) = t := by simp [unsign]
      rw [this] at hr
      simp only [beq_self_eq_true, if_true]
      rw [dec_nat t hr.1 hr.2.1]
      unfold valD isNeg
      rw [this]
      simp
    · have : unsign (c :: t) = c :: t := by simp [unsign, hc]
      rw [this] at hr
      have hd := (dig_iff c).1 (hr.1 c (by simp))
      have h1 : (c == 45) = false := by simpa using hc
      have h2 : (c == 43) = false := by
        rw [beq_eq_false_iff_ne]; intro h; rw [h] at hd; revert hd; decide
      dsimp only
      rw [h1, h2]
      simp only [Bool.false_eq_true, if_false]
      rw [dec_nat _ hr.1 hr.2.1]
      unfold valD isNeg
      rw [this]
      simp [hc]
def intD (l : List UInt8) : Int × Bool := if rightD l = true ∧ -1000000 ≤ valD l ∧ valD l ≤ 1000000 then (valD l, true) else (0, false)
theorem int_wrong (l : List UInt8) (h : rightD l = false) : intD l = (0, false) := by unfold intD; rw [h]; simp
theorem int_long (l : List UInt8) (h : 8 < l.length) : intD l = (0, false) := by
  unfold intD
  rw [if_neg]
  rintro ⟨h1, h2, h3⟩
  have hr := row_unsign l h1
  have hl : 8 ≤ (unsign l).length := by
    unfold unsign; split
    · simp; omega
    · omega
  have hg := row_ge _ hr (by omega)
  have : (10 : Nat) ^ 7 ≤ 10 ^ ((unsign l).length - 1) := Nat.pow_le_pow_right (by omega) (by omega)
  unfold valD at h2 h3
  split at h2 <;> simp_all <;> omega
theorem int_right (l : List UInt8) (h : rightD l = true) (h1 : -1000000 ≤ valD l) (h2 : valD l ≤ 1000000) : intD l = (valD l, true) := by
  unfold intD; rw [if_pos ⟨h, h1, h2⟩]
theorem int_out (l : List UInt8) (h1 : ¬ (-1000000 ≤ valD l ∧ valD l ≤ 1000000)) : intD l = (0, false) := by
  unfold intD; rw [if_neg (fun h => h1 h.2)]
theorem val_bound (l : List UInt8) (h : rightD l = true) (hl : l.length ≤ 8) : -100000000 ≤ valD l ∧ valD l ≤ 100000000 := by
  have hr := row_unsign l h
  have hlt := dval_lt _ hr.1
  have hle : (unsign l).length ≤ 8 := by
    unfold unsign; split
    · simp; omega
    · omega
  have : (10 : Nat) ^ (unsign l).length ≤ 10 ^ 8 := Nat.pow_le_pow_right (by omega) hle
  unfold valD
  split <;> constructor <;> omega
end Go.Proofs.YtilndlifmpbfnaaDoor.M

/- Plain numbers and lists: the numbers of chapter 5, read. -/
namespace Go.Proofs.YtilndlifmpbfnaaDoor.M
set_option linter.unusedVariables false
set_option linter.unusedSimpArgs false

/-- A sign is cut off: is it a minus, and what is left. -/
def csign (s : List UInt8) : Bool × List UInt8 := if s.head? = some 43 then (false, s.tail) else (isNeg s, unsign s)
def dg (s : List UInt8) : List UInt8 := s.takeWhile dig
def rs (s : List UInt8) : List UInt8 := s.dropWhile dig
abbrev Parts := Bool × List UInt8 × List UInt8 × Bool × Bool × List UInt8
def zeroP : Parts := (false, [], [], false, false, [])
/-- What stands behind the digits, and the point. -/
def divE (n : Bool) (w f s : List UInt8) : Parts × Bool :=
  if s.head? = some 101 ∨ s.head? = some 69 then
    ((n, w, f, true, (csign s.tail).1, dg (csign s.tail).2), (rs (csign s.tail).2).isEmpty && !(dg (csign s.tail).2).isEmpty)
  else ((n, w, f, false, false, []), s.isEmpty)
/-- The parts of a number's text, and is it one? -/
def divW (s : List UInt8) : Parts × Bool :=
  if (rs (csign s).2).head? = some 46 then
    if dg (rs (csign s).2).tail = [] then (zeroP, false) else divE (csign s).1 (dg (csign s).2) (dg (rs (csign s).2).tail) (rs (rs (csign s).2).tail)
  else if dg (csign s).2 = [] then (zeroP, false) else divE (csign s).1 (dg (csign s).2) [] (rs (csign s).2)
def rstrip (l : List UInt8) : List UInt8 := (l.reverse.dropWhile (· == 48)).reverse
def expV (p : Parts) : Int := if p.2.2.2.2.1 then -(dval p.2.2.2.2.2 : Int) else dval p.2.2.2.2.2
/-- Digits times ten to a power, with no noughts at either end. -/
def norm (L : List UInt8) (e : Int) : List UInt8 × List UInt8 :=
  if rstrip (strip L) = [] then ([], []) else (rstrip (strip L), txt (e + ((strip L).length - (rstrip (strip L)).length - (0 : Int))))
abbrev NumV := Bool × List UInt8 × List UInt8
/-- Which number a text is. -/
def readN (s : List UInt8) : NumV × Bool :=
  if (divW s).2 then (((divW s).1.1, norm ((divW s).1.2.1 ++ (divW s).1.2.2.1) (expV (divW s).1 - (divW s).1.2.2.1.length)), true) else ((false, [], []), false)
/-- The same, off the number. -/
def nz (v : Nat) (e : Int) : List UInt8 × List UInt8 := if h0 : v = 0 then ([], []) else if v % 10 = 0 then nz (v / 10) (e + 1) else (canon v, txt e)
theorem nz_zero (e : Int) : nz 0 e = ([], []) := by rw [nz, dif_pos rfl]
theorem nz_ten (v : Nat) (e : Int) : nz (10 * v) e = nz v (e + 1) := by
  by_cases h : v = 0
  · subst h; rw [Nat.mul_zero, nz_zero, nz_zero]
  · rw [nz, dif_neg (by omega), if_pos (by omega), show 10 * v / 10 = v by omega]
theorem nz_pow (k : Nat) : ∀ (v : Nat) (e : Int), nz (v * 10 ^ k) e = nz v (e + k) := by
  induction k with
  | zero => intro v e; simp
  | succ k ih =>
    intro v e
    rw [show v * 10 ^ (k + 1) = 10 * (v * 10 ^ k) by rw [Nat.pow_succ]; rw [← Nat.mul_assoc, Nat.mul_comm]]
    rw [nz_ten, ih]
    congr 1; omega
theorem nz_core (m : Nat) (e : Int) (h : m % 10 ≠ 0) : nz m e = (canon m, txt e) := by
  rw [nz, dif_neg (by intro h0; subst h0; exact h rfl), if_neg h]
theorem core_ex (v : Nat) (h : v ≠ 0) : ∃ m k, m % 10 ≠ 0 ∧ v = m * 10 ^ k := by
  induction v using Nat.strongRecOn with
  | ind v ih =>
    by_cases h1 : v % 10 = 0
    · obtain ⟨m, k, hm, hv⟩ := ih (v / 10) (by omega) (by omega)
      refine ⟨m, k + 1, hm, ?_⟩
      rw [Nat.pow_succ, ← Nat.mul_assoc, ← hv]; omega
    · exact ⟨v, 0, h1, by simp⟩
theorem canon_inj (a b : Nat) (h : canon a = canon b) : a = b := by
  have := congrArg dval h
  rwa [dval_canon, dval_canon] at this
theorem txt_inj (a b : Int) (h : txt a = txt b) : a = b := by
  have := congrArg valD h
  rwa [(val_txt a).1, (val_txt b).1] at this
/-- Two are one just if they are worth the same. -/
theorem nz_eq (a b N : Nat) (i k : Nat) : nz a ((i : Int) - N) = nz b ((k : Int) - N) ↔ a * 10 ^ i = b * 10 ^ k := by
  have key : ∀ (a i : Nat), nz a ((i : Int) - N) = nz (a * 10 ^ i) (-(N : Int)) := fun a i => by rw [nz_pow]; congr 1; omega
  rw [key, key]
  constructor
  · intro h
    obtain ⟨x, hx⟩ : ∃ x, a * 10 ^ i = x := ⟨_, rfl⟩
    obtain ⟨y, hy⟩ : ∃ x, b * 10 ^ k = x := ⟨_, rfl⟩
    rw [hx, hy] at h ⊢
    by_cases h0 : x = 0
    · subst h0
      rw [nz_zero] at h
      by_cases h1 : y = 0
      · exact h1.symm
      · obtain ⟨m, j, hm, rfl⟩ := core_ex y h1
        rw [nz_pow, nz_core _ _ hm] at h
        simp only [Prod.mk.injEq] at h
        exact absurd h.1.symm (canon_ne m (by intro h0; subst h0; exact hm rfl))
    · obtain ⟨m, j, hm, rfl⟩ := core_ex x h0
      by_cases h1 : y = 0
      · subst h1
        rw [nz_zero, nz_pow, nz_core _ _ hm] at h
        simp only [Prod.mk.injEq] at h
        exact absurd h.1 (canon_ne m (by intro h0; subst h0; exact hm rfl))
      · obtain ⟨m', j', hm', rfl⟩ := core_ex y h1
        rw [nz_pow, nz_pow, nz_core _ _ hm, nz_core _ _ hm'] at h
        simp only [Prod.mk.injEq] at h
        have e1 := canon_inj _ _ h.1
        have e2 := txt_inj _ _ h.2
        rw [e1, show j = j' by omega]
  · intro h; rw [h]
theorem rstrip_snoc (l : List UInt8) (c : UInt8) : rstrip (l ++ [c]) = if c = 48 then rstrip l else l ++ [c] := by
  unfold rstrip
  rw [List.reverse_append]
  by_cases h : c = 48
  · subst h; simp
  · rw [if_neg h]; simp [List.dropWhile_cons, h]
theorem canon_zeros (v : Nat) (k : Nat) : v ≠ 0 → canon (v * 10 ^ k) = canon v ++ List.replicate k 48 := by
  intro h
  induction k with
  | zero => simp
  | succ k ih =>
    rw [canon_pos _ (Nat.mul_ne_zero h (Nat.pos_iff_ne_zero.1 (Nat.pow_pos (by omega)))), show v * 10 ^ (k + 1) = 10 * (v * 10 ^ k) by rw [Nat.pow_succ, ← Nat.mul_assoc, Nat.mul_comm],
      show 10 * (v * 10 ^ k) / 10 = v * 10 ^ k by omega, ih, List.replicate_succ', List.append_assoc]
    congr 2
    simp [ofD, show (10 * (v * 10 ^ k)) % 10 = 0 by omega]
theorem rstrip_zeros (l : List UInt8) (k : Nat) : rstrip (l ++ List.replicate k 48) = rstrip l := by
  induction k with
  | zero => simp
  | succ k ih => rw [List.replicate_succ', ← List.append_assoc, rstrip_snoc, if_pos rfl, ih]
theorem rstrip_core (m : Nat) (h : m % 10 ≠ 0) : rstrip (canon m) = canon m := by
  rw [canon_pos m (by intro h0; subst h0; exact h rfl), rstrip_snoc, if_neg]
  intro e
  have := congrArg UInt8.toNat e
  rw [ofD_nat] at this
  simp at this; omega
theorem norm_nz (L : List UInt8) (e : Int) (h : ∀ c ∈ L, dig c = true) : norm L e = nz (dval L) e := by
  unfold norm
  rw [strip_canon L h]
  by_cases h0 : dval L = 0
  · rw [h0, canon_zero, nz_zero, if_pos (by rfl)]
  · obtain ⟨m, k, hm, hv⟩ := core_ex _ h0
    have hm0 : m ≠ 0 := by intro h0; subst h0; exact hm rfl
    rw [hv, nz_pow, nz_core _ _ hm, canon_zeros m k hm0, rstrip_zeros, rstrip_core m hm, if_neg (canon_ne m hm0)]
    simp only [List.length_append, List.length_replicate]
    congr 2
    omega
theorem dg_app (W R : List UInt8) (hW : ∀ c ∈ W, dig c = true) (hR : ∀ c, R.head? = some c → dig c = false) : dg (W ++ R) = W ∧ rs (W ++ R) = R := by
  unfold dg rs
  induction W with
  | nil =>
    cases R with
    | nil => exact ⟨rfl, rfl⟩
    | cons c t => have := hR c rfl; simp [List.takeWhile_cons, List.dropWhile_cons, this]
  | cons c W ih =>
    have h1 := hW c (by simp)
    have h2 := ih (fun x hx => hW x (by simp [hx]))
    simp [List.takeWhile_cons, List.dropWhile_cons, h1, h2]
theorem dg_dig (s : List UInt8) : ∀ c ∈ dg s, dig c = true := by
  intro c hc
  unfold dg at hc
  induction s with
  | nil => simp at hc
  | cons a s ih =>
    rw [List.takeWhile_cons] at hc
    split at hc
    · rename_i h; rcases List.mem_cons.1 hc with rfl | hc
      · exact h
      · exact ih hc
    · simp at hc
theorem dg_rs (s : List UInt8) : dg s ++ rs s = s := List.takeWhile_append_dropWhile
theorem rs_head (s : List UInt8) : ∀ c, (rs s).head? = some c → dig c = false := by
  intro c hc
  unfold rs at hc
  induction s with
  | nil => simp at hc
  | cons a s ih =>
    rw [List.dropWhile_cons] at hc
    split at hc
    · exact ih hc
    · rename_i h; simp at hc; subst hc; simpa using h
theorem txt_cases (z : Int) : (0 ≤ z ∧ txt z = decS z.natAbs) ∨ (z < 0 ∧ txt z = 45 :: decS z.natAbs) := by
  rcases Int.lt_or_le z 0 with h | h
  · right; refine ⟨h, ?_⟩
    have := txt_minus z.natAbs (by omega)
    rwa [show -(z.natAbs : Int) = z by omega] at this
  · left; refine ⟨h, ?_⟩
    have := txt_nat z.natAbs
    rwa [show ((z.natAbs : Nat) : Int) = z by omega] at this
theorem decS_dig (n : Nat) : ∀ c ∈ decS n, dig c = true := by
  unfold decS; split
  · intro c hc; simp at hc; subst hc; decide
  · exact canon_dig n
theorem dval_decS (n : Nat) : dval (decS n) = n := by
  unfold decS; split
  · rename_i h; subst h; decide
  · exact dval_canon n
theorem csign_dig (s : List UInt8) (h : ∀ c, s.head? = some c → dig c = true ∨ c = 46) : csign s = (false, s) := by
  unfold csign
  have n43 : s.head? ≠ some 43 := fun e => by rcases h _ e with h | h <;> exact absurd h (by decide)
  have n45 : s.head? ≠ some 45 := fun e => by rcases h _ e with h | h <;> exact absurd h (by decide)
  rw [if_neg n43]
  unfold isNeg unsign
  rw [if_neg n45]
  simp [n45]
theorem csign_minus (s : List UInt8) : csign (45 :: s) = (true, s) := by
  unfold csign
  rw [if_neg (by simp)]
  unfold isNeg unsign
  simp
theorem csign_plus (s : List UInt8) : csign (43 :: s) = (false, s) := by
  unfold csign; simp
theorem csign_txt (z : Int) : csign (txt z) = (decide (z < 0), decS z.natAbs) := by
  rcases txt_cases z with ⟨h, e⟩ | ⟨h, e⟩
  · rw [e, csign_dig _ (fun c hc => .inl (decS_dig _ c (by cases hd : decS z.natAbs with | nil => rw [hd] at hc; simp at hc | cons a t => rw [hd] at hc; simp at hc; subst hc; simp)))]
    simp; omega
  · rw [e, csign_minus]; simp [h]
theorem expV_txt (n : Bool) (w f : List UInt8) (b : Bool) (z : Int) : expV (n, w, f, b, decide (z < 0), decS z.natAbs) = z := by
  unfold expV
  simp only [dval_decS]
  by_cases h : z < 0
  · simp [h]; omega
  · simp [h]; omega
/-- What comes behind the digits. -/
def ExpAt (E : List UInt8) (X : Int) : Prop := (E = [] ∧ X = 0) ∨ ∃ c, (c = 101 ∨ c = 69) ∧ E = c :: txt X
theorem divE_at (n : Bool) (w f E : List UInt8) (X : Int) (h : ExpAt E X) : ∃ p, divE n w f E = ((n, w, f, p), true) ∧ expV (n, w, f, p) = X := by
  rcases h with ⟨rfl, rfl⟩ | ⟨c, hc, rfl⟩
  · refine ⟨(false, false, []), by unfold divE; simp, by unfold expV; rfl⟩
  · have h1 : (c :: txt X).head? = some 101 ∨ (c :: txt X).head? = some 69 := by rcases hc with rfl | rfl <;> simp
    have h2 := csign_txt X
    obtain ⟨h3, h4⟩ := dg_app (decS X.natAbs) [] (decS_dig _) (by simp)
    rw [List.append_nil] at h3 h4
    refine ⟨(true, decide (X < 0), decS X.natAbs), ?_, expV_txt _ _ _ _ _⟩
    unfold divE
    rw [if_pos h1]
    simp only [List.tail_cons, h2, h3, h4]
    simp [decS_ne]
theorem expAt_head (E : List UInt8) (X : Int) (h : ExpAt E X) : ∀ c, E.head? = some c → dig c = false ∧ c ≠ 46 := by
  rcases h with ⟨rfl, rfl⟩ | ⟨d, hd, rfl⟩
  · simp
  · intro c hc; simp at hc; subst hc; rcases hd with rfl | rfl <;> decide
/-- A text of that form is that number. -/
theorem read_form (sg : List UInt8) (ng : Bool) (hs : (sg = [] ∧ ng = false) ∨ (sg = [45] ∧ ng = true) ∨ (sg = [43] ∧ ng = false)) (W F P E : List UInt8) (X : Int) (hW : ∀ c ∈ W, dig c = true) (hF : ∀ c ∈ F, dig c = true)
    (hP : (P = [] ∧ F = [] ∧ W ≠ []) ∨ (P = 46 :: F ∧ F ≠ [])) (hE : ExpAt E X) :
    readN (sg ++ (W ++ (P ++ E))) = ((ng, nz (dval (W ++ F)) (X - F.length)), true) := by
  have hc : csign (sg ++ (W ++ (P ++ E))) = (ng, W ++ (P ++ E)) := by
    rcases hs with ⟨rfl, rfl⟩ | ⟨rfl, rfl⟩ | ⟨rfl, rfl⟩
    · rw [List.nil_append]
      apply csign_dig
      intro c hc
      cases W with
      | cons a t => simp at hc; subst hc; exact .inl (hW _ (by simp))
      | nil =>
        rcases hP with ⟨_, _, h⟩ | ⟨rfl, _⟩
        · exact absurd rfl h
        · simp at hc; exact .inr hc.symm
    · exact csign_minus _
    · exact csign_plus _
  have hd : dg (W ++ (P ++ E)) = W ∧ rs (W ++ (P ++ E)) = P ++ E := by
    apply dg_app _ _ hW
    intro c hc
    rcases hP with ⟨rfl, _⟩ | ⟨rfl, _⟩
    · rw [List.nil_append] at hc; exact (expAt_head E X hE c hc).1
    · simp at hc; subst hc; decide
  have hfin : ∃ p, divW (sg ++ (W ++ (P ++ E))) = ((ng, W, F, p), true) ∧ expV (ng, W, F, p) = X := by
    unfold divW
    rw [hc]
    simp only [hd.1, hd.2]
    rcases hP with ⟨rfl, rfl, hne⟩ | ⟨rfl, hne⟩
    · rw [List.nil_append, if_neg (fun e => (expAt_head E X hE _ e).2 rfl), if_neg hne]
      exact divE_at _ _ _ _ _ hE
    · have h2 := dg_app F E hF (fun c hc => (expAt_head E X hE c hc).1)
      rw [if_pos (by simp)]
      simp only [List.cons_append, List.tail_cons, h2.1, h2.2]
      rw [if_neg hne]
      exact divE_at _ _ _ _ _ hE
  obtain ⟨p, h1, h2⟩ := hfin
  unfold readN
  rw [h1]
  simp only [h2, if_true]
  rw [norm_nz _ _ (by intro c hc; exact (List.mem_append.1 hc).elim (hW c) (hF c))]
end Go.Proofs.YtilndlifmpbfnaaDoor.M

/- Plain numbers and lists: the numbers of chapter 5, spelled, and read again. -/
namespace Go.Proofs.YtilndlifmpbfnaaDoor.M
set_option linter.unusedVariables false
set_option linter.unusedSimpArgs false

/-- May digits and a power be a number's? -/
def rightN (D E : List UInt8) : Bool := if D = [] then E.isEmpty else D.all dig && D.head? != some 48 && D.getLast? != some 48 && rightD E
/-- Without a power. -/
def unsc (d : List UInt8) (x : Int) : List UInt8 :=
  if 0 ≤ x ∧ x ≤ 20 then d ++ List.replicate x.toNat 48
  else if x < 0 ∧ 0 < (d.length : Int) + x then d.take ((d.length : Int) + x).toNat ++ 46 :: d.drop ((d.length : Int) + x).toNat
  else if (d.length : Int) + x ≤ 0 ∧ -20 ≤ (d.length : Int) + x then 48 :: 46 :: (List.replicate (-((d.length : Int) + x)).toNat 48 ++ d)
  else []
def sgl (ng : Bool) : List UInt8 := if ng then [45] else []
def upE (D E : List UInt8) : List UInt8 := (addD E (txt ((D.length : Int) - 1))).1
def plain1 (ng : Bool) (D E : List UInt8) : List (List UInt8) := if (intD E).2 = true ∧ unsc D (intD E).1 ≠ [] then [sgl ng ++ unsc D (intD E).1] else []
def plain3 (ng : Bool) (D E : List UInt8) : List (List UInt8) := if 1 < D.length ∧ upE D E ≠ [48] then [sgl ng ++ (D.take 1 ++ 46 :: (D.drop 1 ++ 101 :: upE D E))] else []
/-- The texts of a number. -/
def plainN (ng : Bool) (D E : List UInt8) : List (List UInt8) :=
  if rightN D E = true then (if D = [] then [sgl ng ++ [48]] else plain1 ng D E ++ ([sgl ng ++ (D ++ 101 :: E)] ++ plain3 ng D E)) else []
def less2 (b s : List UInt8) : List UInt8 := if s.length < b.length then s else b
/-- The first of those with the fewest bytes. -/
def shortN : List (List UInt8) → List UInt8
  | [] => []
  | a :: t => t.foldl less2 a
theorem fold_short (t : List (List UInt8)) : ∀ a, (t.foldl less2 a ∈ a :: t) ∧ ∀ x ∈ a :: t, (t.foldl less2 a).length ≤ x.length := by
  induction t with
  | nil => intro a; simp
  | cons b t ih =>
    intro a
    rw [List.foldl_cons]
    obtain ⟨h1, h2⟩ := ih (less2 a b)
    have h3 := h2 (less2 a b) (by simp)
    have h4 : (less2 a b).length ≤ a.length ∧ (less2 a b).length ≤ b.length ∧ (less2 a b = a ∨ less2 a b = b) := by
      unfold less2; split <;> simp <;> omega
    refine ⟨?_, fun x hx => ?_⟩
    · rcases List.mem_cons.1 h1 with h | h
      · rw [h]; rcases h4.2.2 with e | e <;> (rw [e]; simp)
      · simp [h]
    · rcases List.mem_cons.1 hx with rfl | hx
      · omega
      · rcases List.mem_cons.1 hx with rfl | hx
        · omega
        · exact h2 x (by simp [hx])
theorem short_mem (l : List (List UInt8)) (h : l ≠ []) : shortN l ∈ l := by
  cases l with
  | nil => exact absurd rfl h
  | cons a t => exact (fold_short t a).1
theorem short_le (l : List (List UInt8)) : ∀ x ∈ l, (shortN l).length ≤ x.length := by
  cases l with
  | nil => intro x hx; simp at hx
  | cons a t => exact (fold_short t a).2
theorem canon_last (m : Nat) (h : m % 10 ≠ 0) : (canon m).getLast? ≠ some 48 := by
  rw [canon_pos m (by intro h0; subst h0; exact h rfl)]
  simp
  intro e
  have := congrArg UInt8.toNat e
  rw [ofD_nat] at this
  simp at this; omega
theorem right_core (m : Nat) (X : Int) (h : m % 10 ≠ 0) : rightN (canon m) (txt X) = true := by
  have h0 : m ≠ 0 := by intro h0; subst h0; exact h rfl
  unfold rightN
  rw [if_neg (canon_ne m h0), (val_txt X).2]
  obtain ⟨c, t, e, hc⟩ := canon_head m h0
  have h1 : (canon m).all dig = true := List.all_eq_true.2 (canon_dig m)
  have h2 : ((canon m).head? != some 48) = true := by rw [e]; simpa using hc
  have h3 : ((canon m).getLast? != some 48) = true := by rw [bne_iff_ne]; exact canon_last m h
  rw [h1, h2, h3]; rfl
theorem canon_core (D : List UInt8) (hd : ∀ c ∈ D, dig c = true) (h1 : D.head? ≠ some 48) (h2 : D.getLast? ≠ some 48) (hne : D ≠ []) : dval D % 10 ≠ 0 ∧ D = canon (dval D) := by
  have e := canon_self D hd h1
  refine ⟨fun h => ?_, e.symm⟩
  have h0 : dval D ≠ 0 := dval_pos D hd h1 hne
  rw [canon_pos _ h0] at e
  apply h2
  rw [← e]
  simp [ofD, h]
theorem right_ex (D E : List UInt8) (h : rightN D E = true) : (D = [] ∧ E = []) ∨ ∃ m X, m % 10 ≠ 0 ∧ D = canon m ∧ E = txt X := by
  unfold rightN at h
  split at h
  · rename_i h0; left; exact ⟨h0, by simpa using h⟩
  · rename_i h0
    right
    simp only [Bool.and_eq_true, List.all_eq_true, bne_iff_ne] at h
    obtain ⟨⟨⟨h1, h2⟩, h3⟩, h4⟩ := h
    obtain ⟨h5, h6⟩ := canon_core D h1 h2 h3 h0
    exact ⟨_, _, h5, h6, (txt_val E h4).symm⟩
theorem nz_right (v : Nat) (e : Int) : rightN (nz v e).1 (nz v e).2 = true := by
  by_cases h0 : v = 0
  · subst h0; rw [nz_zero]; rfl
  · obtain ⟨m, k, hm, rfl⟩ := core_ex v h0
    rw [nz_pow, nz_core _ _ hm]
    exact right_core m _ hm
theorem txt_ne (X : Int) : txt X ≠ [] := by
  rcases txt_cases X with ⟨_, e⟩ | ⟨_, e⟩
  · rw [e]; exact decS_ne _
  · rw [e]; simp
theorem expAt_txt (X : Int) : ExpAt (101 :: txt X) X := .inr ⟨101, .inl rfl, rfl⟩
theorem sgl_at (ng : Bool) : (sgl ng = [] ∧ ng = false) ∨ (sgl ng = [45] ∧ ng = true) ∨ (sgl ng = [43] ∧ ng = false) := by cases ng <;> simp [sgl]
theorem dig_rep (k : Nat) : ∀ c ∈ List.replicate k (48 : UInt8), dig c = true := by
  intro c hc
  rw [List.mem_replicate] at hc
  rw [hc.2]; decide
theorem dval_zeros (D : List UInt8) (k : Nat) : dval (D ++ List.replicate k 48) = dval D * 10 ^ k := by
  induction k with
  | zero => simp
  | succ k ih => rw [List.replicate_succ', ← List.append_assoc, dval_snoc, ih, Nat.pow_succ]; show 10 * (dval D * 10 ^ k) + 0 = dval D * (10 ^ k * 10); rw [Nat.mul_comm (10 ^ k) 10, Nat.mul_left_comm (dval D), Nat.add_zero]
theorem dval_lead (k : Nat) (D : List UInt8) : dval (List.replicate k 48 ++ D) = dval D := by
  induction k with
  | zero => simp
  | succ k ih => rw [List.replicate_succ, List.cons_append, dval_cons, ih]; simp
theorem upE_txt (D : List UInt8) (X : Int) : upE D (txt X) = txt (X + ((D.length : Int) - 1)) := by
  unfold upE
  rw [add_right _ _ (val_txt X).2 (val_txt _).2, (val_txt X).1, (val_txt _).1]
/-- Each spelling is read as the number. -/
theorem plain_back (ng : Bool) (D E : List UInt8) : ∀ t ∈ plainN ng D E, readN t = ((ng, D, E), true) := by
  intro t ht
  unfold plainN at ht
  split at ht
  case isFalse => simp at ht
  rename_i hr
  rcases right_ex D E hr with ⟨rfl, rfl⟩ | ⟨m, X, hm, rfl, rfl⟩
  · rw [if_pos rfl] at ht
    simp only [List.mem_singleton] at ht
    subst ht
    have := read_form (sgl ng) ng (sgl_at ng) [48] [] [] [] 0 (by decide) (by simp) (.inl ⟨rfl, rfl, by simp⟩) (.inl ⟨rfl, rfl⟩)
    simp only [List.append_nil] at this
    rw [this]
    congr 1; exact congrArg (Prod.mk ng) (nz_zero _)
  · have h0 : m ≠ 0 := by intro h0; subst h0; exact hm rfl
    have hne := canon_ne m h0
    have hD := canon_dig m
    rw [if_neg hne] at ht
    obtain ⟨D, eD⟩ : ∃ D, canon m = D := ⟨_, rfl⟩
    have hdv : dval D = m := by rw [← eD, dval_canon]
    have hcore : ∀ e : Int, nz (dval D) e = (D, txt e) := fun e => by rw [hdv, nz_core m e hm, eD]
    rw [eD] at ht hne hD ⊢
    have hl : 0 < D.length := List.length_pos_iff.2 hne
    rcases List.mem_append.1 ht with ht | ht
    · unfold plain1 at ht
      split at ht
      case isFalse => simp at ht
      rename_i hc
      simp only [List.mem_singleton] at ht
      subst ht
      have hx : (intD (txt X)).1 = X := by
        have h2 := hc.1
        unfold intD at h2 ⊢
        split
        · exact (val_txt X).1
        · rename_i hh; rw [if_neg hh] at h2; exact absurd h2 (by simp)
      have hu := hc.2
      rw [hx] at hu ⊢
      unfold unsc at hu ⊢
      split
      · rename_i h1
        have := read_form (sgl ng) ng (sgl_at ng) (D ++ List.replicate X.toNat 48) [] [] [] 0 (fun c hc => (List.mem_append.1 hc).elim (hD c) (dig_rep _ c)) (by simp) (.inl ⟨rfl, rfl, by simp [hne]⟩) (.inl ⟨rfl, rfl⟩)
        simp only [List.append_nil] at this
        rw [this, dval_zeros, nz_pow, hcore, show (0 : Int) - ([] : List UInt8).length + X.toNat = X by simp; omega]
      · rename_i h1
        split
        · rename_i h2
          obtain ⟨n, hn⟩ : ∃ n : Nat, (n : Int) = D.length + X := ⟨((D.length : Int) + X).toNat, by omega⟩
          rw [show ((D.length : Int) + X).toNat = n by omega]
          have := read_form (sgl ng) ng (sgl_at ng) (D.take n) (D.drop n) (46 :: D.drop n) [] 0 (fun c hc => hD c (List.mem_of_mem_take hc)) (fun c hc => hD c (List.mem_of_mem_drop hc)) (.inr ⟨rfl, by intro e; have := congrArg List.length e; simp at this; omega⟩) (.inl ⟨rfl, rfl⟩)
          rw [List.append_nil] at this
          rw [this, List.take_append_drop, hcore, List.length_drop, show (0 : Int) - ((D.length - n : Nat) : Int) = X by omega]
        · rename_i h2
          split
          · rename_i h3
            obtain ⟨n, hn⟩ : ∃ n : Nat, (n : Int) = -(D.length + X) := ⟨(-((D.length : Int) + X)).toNat, by omega⟩
            rw [show (-((D.length : Int) + X)).toNat = n by omega]
            have := read_form (sgl ng) ng (sgl_at ng) [48] (List.replicate n 48 ++ D) (46 :: (List.replicate n 48 ++ D)) [] 0 (by decide) (fun c hc => (List.mem_append.1 hc).elim (dig_rep _ c) (hD c)) (.inr ⟨rfl, by simp [hne]⟩) (.inl ⟨rfl, rfl⟩)
            rw [List.append_nil] at this
            rw [show (48 :: 46 :: (List.replicate n 48 ++ D)) = [48] ++ (46 :: (List.replicate n 48 ++ D)) from rfl, this, show [48] ++ (List.replicate n 48 ++ D) = List.replicate (n + 1) 48 ++ D by rw [List.replicate_succ]; rfl, dval_lead, hcore, List.length_append, List.length_replicate, show (0 : Int) - ((n + D.length : Nat) : Int) = X by omega]
          · rename_i h3
            rw [if_neg h1, if_neg h2, if_neg h3] at hu
            exact absurd rfl hu
    · rcases List.mem_append.1 ht with ht | ht
      · simp only [List.mem_singleton] at ht
        subst ht
        have := read_form (sgl ng) ng (sgl_at ng) D [] [] (101 :: txt X) X hD (by simp) (.inl ⟨rfl, rfl, hne⟩) (expAt_txt X)
        rw [List.nil_append] at this
        rw [this, List.append_nil, hcore, show X - ([] : List UInt8).length = X by simp]
      · unfold plain3 at ht
        split at ht
        case isFalse => simp at ht
        rename_i hc
        simp only [List.mem_singleton] at ht
        subst ht
        rw [upE_txt]
        have := read_form (sgl ng) ng (sgl_at ng) (D.take 1) (D.drop 1) (46 :: D.drop 1) (101 :: txt (X + ((D.length : Int) - 1))) (X + ((D.length : Int) - 1)) (fun c hc => hD c (List.mem_of_mem_take hc)) (fun c hc => hD c (List.mem_of_mem_drop hc)) (.inr ⟨rfl, by intro e; have := congrArg List.length e; simp at this; omega⟩) (expAt_txt _)
        rw [List.cons_append] at this
        rw [this, List.take_append_drop, hcore, List.length_drop, show X + ((D.length : Int) - 1) - ((D.length - 1 : Nat) : Int) = X by omega]
end Go.Proofs.YtilndlifmpbfnaaDoor.M

/- Plain numbers and lists: numbers written in several ways; which digits and powers may be. -/
namespace Go.Proofs.YtilndlifmpbfnaaDoor.M
set_option linter.unusedVariables false
set_option linter.unusedSimpArgs false

theorem shift_a (ng : Bool) (S : List UInt8) (x : Int) (hd : ∀ c ∈ S, dig c = true) (h : S ≠ []) : readN (sgl ng ++ (S ++ 101 :: txt x)) = ((ng, nz (dval S) x), true) := by
  have := read_form (sgl ng) ng (sgl_at ng) S [] [] (101 :: txt x) x hd (by simp) (.inl ⟨rfl, rfl, h⟩) (expAt_txt x)
  rw [List.nil_append, List.append_nil, show x - ([] : List UInt8).length = x by simp] at this
  exact this
theorem shift_a' (ng : Bool) (S : List UInt8) (x : Int) (hd : ∀ c ∈ S, dig c = true) (h : S ≠ []) : readN (sgl ng ++ (S ++ 69 :: txt x)) = ((ng, nz (dval S) x), true) := by
  have := read_form (sgl ng) ng (sgl_at ng) S [] [] (69 :: txt x) x hd (by simp) (.inl ⟨rfl, rfl, h⟩) (.inr ⟨69, .inr rfl, rfl⟩)
  rw [List.nil_append, List.append_nil, show x - ([] : List UInt8).length = x by simp] at this
  exact this
theorem shift_b (ng : Bool) (S : List UInt8) (x : Int) (k : Nat) (hd : ∀ c ∈ S, dig c = true) (h : S ≠ []) : readN (sgl ng ++ ((S ++ List.replicate k 48) ++ 69 :: txt (x - k))) = ((ng, nz (dval S) x), true) := by
  rw [shift_a' ng (S ++ List.replicate k 48) (x - k) (fun c hc => (List.mem_append.1 hc).elim (hd c) (dig_rep _ c)) (by simp [h]), dval_zeros, nz_pow, show x - (k : Int) + k = x by omega]
theorem shift_c (ng : Bool) (S : List UInt8) (x : Int) (k : Nat) (hd : ∀ c ∈ S, dig c = true) : readN (sgl ng ++ ((48 :: 48 :: S) ++ (46 :: (List.replicate k 48 ++ [48]) ++ 101 :: txt x))) = ((ng, nz (dval S) x), true) := by
  have hr : List.replicate k (48 : UInt8) ++ [48] = List.replicate (k + 1) 48 := by rw [List.replicate_succ']
  rw [hr]
  have := read_form (sgl ng) ng (sgl_at ng) (48 :: 48 :: S) (List.replicate (k + 1) 48) (46 :: List.replicate (k + 1) 48) (101 :: txt x) x (by
    intro c hc
    rcases List.mem_cons.1 hc with rfl | hc
    · decide
    · rcases List.mem_cons.1 hc with rfl | hc
      · decide
      · exact hd c hc) (dig_rep _) (.inr ⟨rfl, by simp⟩) (expAt_txt x)
  rw [this, dval_zeros, nz_pow, List.length_replicate, show x - ((k + 1 : Nat) : Int) + ((k + 1 : Nat) : Int) = x by omega]
  rw [show (48 : UInt8) :: 48 :: S = List.replicate 2 48 ++ S from rfl, dval_lead]
theorem shift_d (ng : Bool) (S : List UInt8) (x : Int) (k : Nat) (hd : ∀ c ∈ S, dig c = true) (h : S ≠ []) : readN (sgl ng ++ (46 :: (List.replicate k 48 ++ S) ++ 101 :: txt (x + k + S.length))) = ((ng, nz (dval S) x), true) := by
  have := read_form (sgl ng) ng (sgl_at ng) [] (List.replicate k 48 ++ S) (46 :: (List.replicate k 48 ++ S)) (101 :: txt (x + k + S.length)) (x + k + S.length) (by simp)
    (fun c hc => (List.mem_append.1 hc).elim (dig_rep _ c) (hd c)) (.inr ⟨rfl, by simp [h]⟩) (expAt_txt _)
  rw [List.nil_append, List.nil_append] at this
  rw [this, dval_lead, List.length_append, List.length_replicate, show x + (k : Int) + (S.length : Int) - ((k + S.length : Nat) : Int) = x by omega]
/-- A number with noughts ahead, and a point three digits from its end. -/
theorem value_p (a j k : Nat) (x : Int) (S : List UInt8) (hS : S = List.replicate j 48 ++ decS a) (hk : k + 3 = S.length) : readN (S.take k ++ (46 :: S.drop k ++ 101 :: txt (x + 3))) = ((false, nz a x), true) := by
  have hd : ∀ c ∈ S, dig c = true := by
    rw [hS]; exact fun c hc => (List.mem_append.1 hc).elim (dig_rep _ c) (decS_dig _ c)
  have hv : dval S = a := by rw [hS, dval_lead, dval_decS]
  have := read_form [] false (.inl ⟨rfl, rfl⟩) (S.take k) (S.drop k) (46 :: S.drop k) (101 :: txt (x + 3)) (x + 3) (fun c hc => hd c (List.mem_of_mem_take hc)) (fun c hc => hd c (List.mem_of_mem_drop hc))
    (.inr ⟨rfl, by intro e; have := congrArg List.length e; simp at this; omega⟩) (expAt_txt _)
  rw [List.nil_append] at this
  rw [this, List.take_append_drop, hv, List.length_drop, show x + 3 - ((S.length - k : Nat) : Int) = x by omega]
theorem value_n (a : Nat) (x : Int) : readN (decS a ++ 69 :: txt x) = ((false, nz a x), true) := by
  have := shift_a' false (decS a) x (decS_dig a) (decS_ne a)
  rw [dval_decS] at this
  exact this
theorem value_eq (a b : Nat) (i k : Int) (hi : -5 ≤ i) (hk : -5 ≤ k) : nz a i = nz b k ↔ a * 10 ^ (i + 5).toNat = b * 10 ^ (k + 5).toNat := by
  have := nz_eq a b 5 (i + 5).toNat (k + 5).toNat
  rw [show (((i + 5).toNat : Nat) : Int) - (5 : Nat) = i by omega, show (((k + 5).toNat : Nat) : Int) - (5 : Nat) = k by omega] at this
  exact this
theorem rs_all (D : List UInt8) : (rs D).isEmpty = D.all dig := by
  unfold rs
  induction D with
  | nil => rfl
  | cons c t ih =>
    rw [List.dropWhile_cons, List.all_cons]
    split
    · rename_i h; rw [ih, h]; simp
    · rename_i h; simp [h]
theorem strip_head (l : List UInt8) : (strip l).head? ≠ some 48 := by
  unfold strip
  induction l with
  | nil => simp
  | cons c t ih =>
    rw [List.dropWhile_cons]
    split
    · exact ih
    · rename_i h; simpa using h
theorem rstrip_last (l : List UInt8) : (rstrip l).getLast? ≠ some 48 := by
  unfold rstrip
  rw [List.getLast?_reverse]
  exact strip_head l.reverse
theorem strip_self (l : List UInt8) (h : l.head? ≠ some 48) : strip l = l := by
  unfold strip
  cases l with
  | nil => rfl
  | cons c t => rw [List.dropWhile_cons, if_neg]; simpa using h
theorem rstrip_self (l : List UInt8) (h : l.getLast? ≠ some 48) : rstrip l = l := by
  have h2 := strip_self l.reverse (by rw [List.head?_reverse]; exact h)
  unfold strip at h2
  unfold rstrip
  rw [h2, List.reverse_reverse]
theorem rstrip_pre (l : List UInt8) : ∃ k, l = rstrip l ++ List.replicate k 48 := by
  induction l using rev_ind with
  | h0 => exact ⟨0, rfl⟩
  | h1 l c ih =>
    rw [rstrip_snoc]
    split
    · rename_i h
      obtain ⟨k, hk⟩ := ih
      exact ⟨k + 1, by rw [List.replicate_succ', ← List.append_assoc, ← hk, h]⟩
    · exact ⟨0, by simp⟩
theorem strip_len2 (l : List UInt8) : (strip l).length ≤ l.length := by
  unfold strip
  exact (List.dropWhile_sublist _).length_le
theorem rstrip_len (l : List UInt8) : (rstrip l).length ≤ l.length := by
  unfold rstrip
  rw [List.length_reverse]
  exact Nat.le_trans (List.dropWhile_sublist _).length_le (by rw [List.length_reverse]; exact Nat.le_refl _)
/-- As the program asks it. -/
theorem right_prog (D E : List UInt8) (h : D ≠ []) : rightN D E = ((rs D).isEmpty && strip (rstrip D) == D && rightD E) := by
  unfold rightN
  rw [if_neg h, rs_all]
  have e : (strip (rstrip D) == D) = (D.head? != some 48 && D.getLast? != some 48) := by
    rw [Bool.eq_iff_iff]
    simp only [beq_iff_eq, Bool.and_eq_true, bne_iff_ne]
    constructor
    · intro h1
      have h2 := strip_head (rstrip D)
      rw [h1] at h2
      refine ⟨h2, fun h3 => ?_⟩
      have l1 := strip_len2 (rstrip D)
      have l2 := rstrip_len D
      rw [h1] at l1
      obtain ⟨k, hk⟩ := rstrip_pre D
      have l3 := congrArg List.length hk
      rw [List.length_append, List.length_replicate] at l3
      have hk0 : k = 0 := by omega
      rw [hk0, List.replicate_zero, List.append_nil] at hk
      rw [hk] at h3
      exact rstrip_last D h3
    · rintro ⟨h1, h2⟩
      rw [rstrip_self D h2, strip_self D h1]
  rw [e]
  cases D.all dig <;> simp [Bool.and_assoc]
end Go.Proofs.YtilndlifmpbfnaaDoor.M

/- Plain numbers and lists: tokens of CSS, as code points. Nothing of the program is imported. -/
namespace Go.Proofs.YtilndlifmpbfnaaDoor.M
open Go.Lib
set_option linter.unusedVariables false
set_option linter.unusedSimpArgs false

/-- Do these code points stand here? -/
def stC (s c : List Int) : Bool := s.isPrefixOf c
theorem stC_iff (s c : List Int) : stC s c = true ↔ ∃ t, c = s ++ t := by
  unfold stC
  rw [List.isPrefixOf_iff_prefix]
  constructor
  · rintro ⟨t, rfl⟩; exact ⟨t, rfl⟩
  · rintro ⟨t, rfl⟩; exact ⟨t, rfl⟩
/-- How many blanks stand here. -/
def blN (c : List Int) : Nat := (c.takeWhile isBl).length
theorem blN_nil : blN [] = 0 := rfl
theorem blN_cons (r : Int) (t : List Int) : blN (r :: t) = if isBl r then 1 + blN t else 0 := by
  unfold blN
  by_cases h : isBl r = true
  · rw [List.takeWhile_cons_of_pos h, if_pos h, List.length_cons]; omega
  · rw [List.takeWhile_cons_of_neg h, if_neg h]; rfl
theorem blN_le (c : List Int) : blN c ≤ c.length := by
  induction c with
  | nil => simp [blN_nil]
  | cons r t ih => rw [blN_cons]; split <;> simp <;> omega
/-- Behind the beginning of a comment: its text, and how long it is with its end. -/
def cmT : List Int → List Int × Nat
  | [] => ([], 0)
  | r :: t => if r = 42 ∧ t.getD 0 (-1) = 47 then ([], 2) else (r :: (cmT t).1, 1 + (cmT t).2)
theorem cmT_le (c : List Int) : (cmT c).2 ≤ c.length ∧ (cmT c).1.length ≤ (cmT c).2 := by
  induction c with
  | nil => simp [cmT]
  | cons r t ih =>
    unfold cmT
    split
    · rename_i h
      cases t with
      | nil => simp at h
      | cons a t => simp
    · simp; omega
/-- Behind the first mark of a string: whether it is bad, its text, how long it is. -/
def strT (q : Int) (c : List Int) : Bool × List Int × Nat :=
  match c with
  | [] => (false, [], 0)
  | r :: t =>
    if r = q then (false, [], 1)
    else if r = 10 then (true, [], 0)
    else if r = 92 ∧ t = [] then (false, [], 1)
    else if r = 92 ∧ t.getD 0 (-1) = 10 then ((strT q (t.drop 1)).1, (strT q (t.drop 1)).2.1, 2 + (strT q (t.drop 1)).2.2)
    else if r = 92 then ((strT q (t.drop (escV t).2)).1, (escV t).1 :: (strT q (t.drop (escV t).2)).2.1, 1 + (escV t).2 + (strT q (t.drop (escV t).2)).2.2)
    else ((strT q t).1, r :: (strT q t).2.1, 1 + (strT q t).2.2)
termination_by c.length
decreasing_by all_goals (simp; try omega)
theorem strT_nil (q : Int) : strT q [] = (false, [], 0) := by rw [strT]
theorem strT_end (q : Int) (t : List Int) : strT q (q :: t) = (false, [], 1) := by rw [strT, if_pos rfl]
theorem strT_bad (q : Int) (t : List Int) (h : q ≠ 10) : strT q (10 :: t) = (true, [], 0) := by rw [strT, if_neg (Ne.symm h), if_pos rfl]
theorem strT_last (q : Int) (h : q ≠ 92) : strT q [92] = (false, [], 1) := by rw [strT, if_neg (Ne.symm h), if_neg (by decide), if_pos ⟨rfl, rfl⟩]
theorem strT_line (q : Int) (t : List Int) (h : q ≠ 92) : strT q (92 :: 10 :: t) = ((strT q t).1, (strT q t).2.1, 2 + (strT q t).2.2) := by
  rw [strT, if_neg (Ne.symm h), if_neg (by decide), if_neg (by simp), if_pos ⟨rfl, rfl⟩]; rfl
theorem strT_esc (q : Int) (t : List Int) (h : q ≠ 92) (h1 : t ≠ []) (h2 : t.getD 0 (-1) ≠ 10) :
    strT q (92 :: t) = ((strT q (t.drop (escV t).2)).1, (escV t).1 :: (strT q (t.drop (escV t).2)).2.1, 1 + (escV t).2 + (strT q (t.drop (escV t).2)).2.2) := by
  rw [strT, if_neg (Ne.symm h), if_neg (by decide), if_neg (by intro hh; exact h1 hh.2), if_neg (by intro hh; exact h2 hh.2), if_pos rfl]
theorem strT_one (q r : Int) (t : List Int) (h : r ≠ q) (h1 : r ≠ 10) (h2 : r ≠ 92) : strT q (r :: t) = ((strT q t).1, r :: (strT q t).2.1, 1 + (strT q t).2.2) := by
  rw [strT, if_neg h, if_neg h1, if_neg (by intro hh; exact h2 hh.1), if_neg (by intro hh; exact h2 hh.1), if_neg h2]
theorem strT_le (q : Int) (n : Nat) (c : List Int) (hn : c.length ≤ n) : (strT q c).2.2 ≤ c.length ∧ (strT q c).2.1.length ≤ (strT q c).2.2 := by
  induction n generalizing c with
  | zero => obtain rfl := List.length_eq_zero_iff.1 (Nat.le_zero.1 hn); simp [strT_nil]
  | succ n ih =>
    cases c with
    | nil => simp [strT_nil]
    | cons r t =>
      simp at hn
      have h0 := escV_le t
      have a1 := ih (t.drop 1) (by simp; omega)
      have a2 := ih (t.drop (escV t).2) (by simp; omega)
      have a3 := ih t hn
      simp only [List.length_drop] at a1 a2
      rw [strT]
      repeat' split
      all_goals (simp only [List.length_cons, List.length_nil]; try omega)
      rename_i hh
      have : 0 < t.length := by
        cases t with
        | nil => simp at hh
        | cons a t => simp
      omega

/-- Numbers: how many digits, a sign, a point with a digit. -/
def digN (c : List Int) : Nat := (c.takeWhile nDg).length
def sgN (c : List Int) : Nat := if c.getD 0 (-1) = 43 ∨ c.getD 0 (-1) = 45 then 1 else 0
def fracB (c : List Int) : Bool := decide (c.getD 0 (-1) = 46) && nDg (c.getD 1 (-1))
/-- Does a number begin here? -/
def numB (c : List Int) : Bool := nDg (c.getD (sgN c) (-1)) || fracB (c.drop (sgN c))
/-- How long is it? -/
def num1 (c : List Int) : Nat := sgN c + digN (c.drop (sgN c))
def num2 (c : List Int) : Nat := if fracB (c.drop (num1 c)) then num1 c + 1 + digN (c.drop (num1 c + 1)) else num1 c
def numE (c : List Int) : Nat :=
  if c.getD (num2 c) (-1) = 101 ∨ c.getD (num2 c) (-1) = 69 then
    (if nDg (c.getD (num2 c + 1 + sgN (c.drop (num2 c + 1))) (-1)) then num2 c + 1 + sgN (c.drop (num2 c + 1)) + digN (c.drop (num2 c + 1 + sgN (c.drop (num2 c + 1)))) else num2 c)
  else num2 c
theorem digN_le (c : List Int) : digN c ≤ c.length := by
  unfold digN
  induction c with
  | nil => simp
  | cons r t ih =>
    by_cases h : nDg r = true
    · rw [List.takeWhile_cons_of_pos h]; simp; omega
    · rw [List.takeWhile_cons_of_neg h]; simp
theorem digN_cons (r : Int) (t : List Int) : digN (r :: t) = if nDg r then 1 + digN t else 0 := by
  unfold digN
  by_cases h : nDg r = true
  · rw [List.takeWhile_cons_of_pos h, if_pos h, List.length_cons]; omega
  · rw [List.takeWhile_cons_of_neg h, if_neg h]; rfl
/-- Urls: may it be in one as it is? -/
def inU (r : Int) : Bool := !(decide (r = 34) || decide (r = 39) || decide (r = 40) || decide (r = 92) || decide (r = 11) || decide (r = 127)) && (decide (9 ≤ r) && (decide (r < 14) || decide (31 < r)))
/-- What is in a url behind its first blanks (b: is it bad? s: was a blank there?): whether it is bad, its text, how long it is. -/
def urlT (b s : Bool) (c : List Int) : Bool × List Int × Nat :=
  match c with
  | [] => (b, [], 0)
  | r :: t =>
    if r = 41 then (b, [], 1)
    else if esB (r :: t) then ((urlT (b || s) s (t.drop (escV t).2)).1, (escV t).1 :: (urlT (b || s) s (t.drop (escV t).2)).2.1, 1 + (escV t).2 + (urlT (b || s) s (t.drop (escV t).2)).2.2)
    else if isBl r then ((urlT b true t).1, (urlT b true t).2.1, 1 + (urlT b true t).2.2)
    else ((urlT (b || s || !inU r) s t).1, r :: (urlT (b || s || !inU r) s t).2.1, 1 + (urlT (b || s || !inU r) s t).2.2)
termination_by c.length
decreasing_by all_goals (simp; try omega)
theorem urlT_le (n : Nat) (b s : Bool) (c : List Int) (hn : c.length ≤ n) : (urlT b s c).2.2 ≤ c.length ∧ (urlT b s c).2.1.length ≤ (urlT b s c).2.2 := by
  induction n generalizing c b s with
  | zero => obtain rfl := List.length_eq_zero_iff.1 (Nat.le_zero.1 hn); rw [urlT]; simp
  | succ n ih =>
    cases c with
    | nil => rw [urlT]; simp
    | cons r t =>
      simp at hn
      have h0 := escV_le t
      have a2 := ih (b || s) s (t.drop (escV t).2) (by simp; omega)
      have a3 := ih b true t hn
      have a4 := ih (b || s || !inU r) s t hn
      simp only [List.length_drop] at a2
      rw [urlT]
      repeat' split
      all_goals (simp only [List.length_cons, List.length_nil]; omega)
/-- A bad one stays bad. -/
theorem urlT_bad (n : Nat) (s : Bool) (c : List Int) (hn : c.length ≤ n) : (urlT true s c).1 = true := by
  induction n generalizing c s with
  | zero => obtain rfl := List.length_eq_zero_iff.1 (Nat.le_zero.1 hn); rw [urlT]
  | succ n ih =>
    cases c with
    | nil => rw [urlT]
    | cons r t =>
      simp at hn
      have h0 := escV_le t
      rw [urlT]
      repeat' split
      · rfl
      · simpa using ih s (t.drop (escV t).2) (by simp; omega)
      · exact ih true t hn
      · simpa using ih s t hn
end Go.Proofs.YtilndlifmpbfnaaDoor.M

/- Plain numbers and lists: tokens of CSS, which one begins a list of code points, and all of them. Nothing of the program is imported. -/
namespace Go.Proofs.YtilndlifmpbfnaaDoor.M
open Go.Lib
set_option linter.unusedVariables false
set_option linter.unusedSimpArgs false

/-- A token: its kind, text, unit, number, whether it is whole, whether a plus stands ahead. -/
structure CT where
  kind : Int := 0
  text : List UInt8 := []
  unit : List UInt8 := []
  num : NumV := (false, [], [])
  flag : Bool := false
  sign : Bool := false
deriving DecidableEq
/-- Small letters. -/
def lowB (c : UInt8) : UInt8 := if 65 ≤ c.toNat ∧ c.toNat ≤ 90 then c + 32 else c
def lowL (l : List UInt8) : List UInt8 := l.map lowB
/-- Is it a whole number's text? -/
def wholeL (l : List UInt8) : Bool := l.all fun c => !(c == 46 || c == 101 || c == 69)
/-- Kinds of single code points. -/
def oneK (r : Int) : Int := if r = 40 then 21 else if r = 41 then 22 else if r = 91 then 23 else if r = 93 then 24 else if r = 123 then 19 else if r = 125 then 20 else if r = 44 then 18 else if r = 58 then 16 else if r = 59 then 17 else 9
def numT0 (s : List UInt8) : CT := { kind := 10, flag := wholeL s, sign := s.head? == some 43, num := (readN s).1 }
/-- The token that begins with a number. -/
def numT (c : List Int) : CT × Nat :=
  if begN (c.drop (numE c)) then ({ numT0 (encZs (c.take (numE c))) with kind := 12, unit := encZs (takeN (c.drop (numE c))).1 }, numE c + (takeN (c.drop (numE c))).2)
  else if c.getD (numE c) (-1) = 37 then ({ numT0 (encZs (c.take (numE c))) with kind := 11 }, numE c + 1)
  else (numT0 (encZs (c.take (numE c))), numE c)
/-- How long a name is, with the ( and the blanks behind it. -/
def nameE (c : List Int) : Nat := (takeN c).2 + 1 + blN (c.drop ((takeN c).2 + 1))
/-- The token of the url whose text begins at k. -/
def urlK (c : List Int) (k : Nat) : CT × Nat :=
  if (urlT false false (c.drop k)).1 then ({ kind := 8, text := encZs (c.take (k + (urlT false false (c.drop k)).2.2)) }, k + (urlT false false (c.drop k)).2.2)
  else ({ kind := 7, text := encZs (urlT false false (c.drop k)).2.1 }, k + (urlT false false (c.drop k)).2.2)
/-- The token that begins with a name. -/
def namT (c : List Int) : CT × Nat :=
  if c.getD (takeN c).2 (-1) = 40 then
    (if lowL (encZs (takeN c).1) = [117, 114, 108] ∧ c.getD (nameE c) (-1) ≠ 34 ∧ c.getD (nameE c) (-1) ≠ 39 then urlK c (nameE c)
     else ({ kind := 2, text := encZs (takeN c).1 }, (takeN c).2 + 1))
  else ({ kind := 1, text := encZs (takeN c).1 }, (takeN c).2)
/-- The token between marks. -/
def txtT (c : List Int) : CT × Nat :=
  if (strT (c.getD 0 (-1)) (c.drop 1)).1 then ({ kind := 6, text := encZs (c.take (1 + (strT (c.getD 0 (-1)) (c.drop 1)).2.2)) }, 1 + (strT (c.getD 0 (-1)) (c.drop 1)).2.2)
  else ({ kind := 5, text := encZs (strT (c.getD 0 (-1)) (c.drop 1)).2.1 }, 1 + (strT (c.getD 0 (-1)) (c.drop 1)).2.2)
/-- Is it in a name? -/
def inNm (c : List Int) : Bool := nIn (c.getD 0 (-1)) || esB c
/-- Which way a token goes. -/
def wayT (c : List Int) : Nat :=
  if stC [47, 42] c then 1 else if isBl (c.getD 0 (-1)) then 2 else if c.getD 0 (-1) = 34 ∨ c.getD 0 (-1) = 39 then 3
  else if c.getD 0 (-1) = 35 ∧ inNm (c.drop 1) = true then 4 else if numB c then 5 else if stC [45, 45, 62] c then 6 else if stC [60, 33, 45, 45] c then 7
  else if begN c then 8 else if c.getD 0 (-1) = 64 ∧ begN (c.drop 1) = true then 9 else 10
def tokW (k : Nat) (c : List Int) : CT × Nat :=
  if k = 1 then ({ kind := 25, text := encZs (cmT (c.drop 2)).1 }, 2 + (cmT (c.drop 2)).2)
  else if k = 2 then ({ kind := 13, text := if c.getD 0 (-1) = 10 then [10] else [32] }, blN c)
  else if k = 3 then txtT c
  else if k = 4 then ({ kind := 4, text := encZs (takeN (c.drop 1)).1, flag := begN (c.drop 1) }, 1 + (takeN (c.drop 1)).2)
  else if k = 5 then numT c
  else if k = 6 then ({ kind := 15 }, 3)
  else if k = 7 then ({ kind := 14 }, 4)
  else if k = 8 then namT c
  else if k = 9 then ({ kind := 3, text := encZs (takeN (c.drop 1)).1 }, 1 + (takeN (c.drop 1)).2)
  else if oneK (c.getD 0 (-1)) = 9 then ({ kind := 9, text := enc (c.getD 0 (-1)) }, 1) else ({ kind := oneK (c.getD 0 (-1)) }, 1)
/-- The token that begins here, and how long it is. -/
def tkC (c : List Int) : CT × Nat := tokW (wayT c) c
theorem stC_len (s c : List Int) (h : stC s c = true) : s.length ≤ c.length := by
  rw [stC_iff] at h
  obtain ⟨t, rfl⟩ := h; simp
theorem digN_pos (c : List Int) (h : nDg (c.getD 0 (-1)) = true) : 1 ≤ digN c ∧ 1 ≤ c.length := by
  cases c with
  | nil => simp [nDg] at h
  | cons r t => simp at h; rw [digN_cons, if_pos h]; simp
theorem num1_pos (c : List Int) (h : numB c = true) : 1 ≤ num2 c ∧ num2 c ≤ c.length := by
  unfold numB at h
  have hd := digN_le (c.drop (sgN c))
  rw [List.length_drop] at hd
  have hs : sgN c ≤ c.length := by
    unfold sgN; split
    · rename_i hh; cases c with
      | nil => simp at hh
      | cons a t => simp
    · omega
  have h1 : num1 c ≤ c.length := by unfold num1; omega
  have hf : fracB (c.drop (num1 c)) = true → num1 c + 1 + digN (c.drop (num1 c + 1)) ≤ c.length := by
    intro hf
    unfold fracB at hf
    simp only [Bool.and_eq_true, decide_eq_true_eq] at hf
    have hl : num1 c < c.length := by
      rcases Nat.lt_or_ge (num1 c) c.length with h | h
      · exact h
      · rw [List.drop_eq_nil_of_le h] at hf; simp at hf
    have := digN_le (c.drop (num1 c + 1))
    rw [List.length_drop] at this; omega
  have hle : num2 c ≤ c.length := by
    unfold num2; split
    · rename_i hh; exact hf hh
    · exact h1
  refine ⟨?_, hle⟩
  simp only [Bool.or_eq_true] at h
  rcases h with h | h
  · have := digN_pos (c.drop (sgN c)) (by simpa [List.getD] using h)
    have : 1 ≤ num1 c := by unfold num1; omega
    unfold num2; split <;> omega
  · by_cases hd0 : digN (c.drop (sgN c)) = 0
    · have e : num1 c = sgN c := by unfold num1; omega
      unfold num2; rw [e, if_pos h]; omega
    · have : 1 ≤ num1 c := by unfold num1; omega
      unfold num2; split <;> omega
theorem sgN_le (c : List Int) : sgN c ≤ c.length := by
  unfold sgN; split
  · rename_i hh; cases c with
    | nil => simp at hh
    | cons a t => simp
  · omega
theorem numE_le (c : List Int) (h : numB c = true) : 1 ≤ numE c ∧ numE c ≤ c.length := by
  obtain ⟨h1, h2⟩ := num1_pos c h
  unfold numE
  split
  · rename_i he
    split
    · rename_i hd
      have := digN_le (c.drop (num2 c + 1 + sgN (c.drop (num2 c + 1))))
      rw [List.length_drop] at this
      have hl : num2 c + 1 + sgN (c.drop (num2 c + 1)) < c.length := by
        rcases Nat.lt_or_ge (num2 c + 1 + sgN (c.drop (num2 c + 1))) c.length with h | h
        · exact h
        · simp [List.getD, List.getElem?_eq_none h, nDg] at hd
      omega
    · omega
  · omega
theorem getD_lt_of (c : List Int) (k : Nat) (x : Int) (hx : x ≠ -1) (h : c.getD k (-1) = x) : k < c.length := by
  rcases Nat.lt_or_ge k c.length with hk | hk
  · exact hk
  · simp [List.getD, List.getElem?_eq_none hk] at h; omega
theorem takeN_pos (c : List Int) (h : begN c = true) : 1 ≤ (takeN c).2 := by
  cases c with
  | nil => simp [begN] at h
  | cons r t =>
    by_cases he : esB (r :: t) = true
    · rw [takeN_esc r t he]; simp; omega
    · have hi : nIn r = true := by
        simp only [begN] at h
        by_cases h45 : r = 45
        · subst h45; decide
        · rw [if_neg h45] at h
          simp only [he, Bool.or_false] at h
          unfold nIn; simp [h]
      rw [takeN_in r t hi]; simp
theorem nameE_le (c : List Int) (h : c.getD (takeN c).2 (-1) = 40) : nameE c ≤ c.length ∧ 1 ≤ nameE c := by
  have := getD_lt_of c _ 40 (by decide) h
  have h2 := blN_le (c.drop ((takeN c).2 + 1))
  rw [List.length_drop] at h2
  unfold nameE; omega
theorem wayT_len (c : List Int) (h0 : 0 < c.length) : 1 ≤ (tkC c).2 ∧ (tkC c).2 ≤ c.length := by
  unfold tkC
  by_cases a1 : stC [47, 42] c = true
  · have := stC_len _ _ a1
    have e := (cmT_le (c.drop 2)).1
    rw [List.length_drop] at e
    simp only [wayT, a1, if_true, tokW]
    simp at this
    omega
  by_cases a2 : isBl (c.getD 0 (-1)) = true
  · have e := blN_le c
    have : 1 ≤ blN c := by
      cases c with
      | nil => simp at h0
      | cons r t => simp at a2; rw [blN_cons, if_pos a2]; omega
    have ew : wayT c = 2 := by unfold wayT; simp only [a1, a2]; simp
    rw [ew]; simp only [tokW]
    simp; omega
  by_cases a3 : c.getD 0 (-1) = 34 ∨ c.getD 0 (-1) = 39
  · have ew : wayT c = 3 := by unfold wayT; simp only [a1, a2, a3]; simp
    have e := (strT_le (c.getD 0 (-1)) _ (c.drop 1) (Nat.le_refl _)).1
    rw [List.length_drop] at e
    rw [ew]
    show 1 ≤ (txtT c).2 ∧ (txtT c).2 ≤ c.length
    unfold txtT; split <;> (simp only; omega)
  by_cases a4 : c.getD 0 (-1) = 35 ∧ inNm (c.drop 1) = true
  · have ew : wayT c = 4 := by unfold wayT; rw [if_neg a1, if_neg a2, if_neg a3, if_pos a4]
    have e := (takeN_le _ (c.drop 1) (Nat.le_refl _)).1
    rw [List.length_drop] at e
    rw [ew]; show 1 ≤ 1 + (takeN (c.drop 1)).2 ∧ 1 + (takeN (c.drop 1)).2 ≤ c.length; omega
  by_cases a5 : numB c = true
  · have ew : wayT c = 5 := by unfold wayT; rw [if_neg a1, if_neg a2, if_neg a3, if_neg a4, if_pos a5]
    have e := numE_le c a5
    rw [ew]
    show 1 ≤ (numT c).2 ∧ (numT c).2 ≤ c.length
    unfold numT; split
    · have e2 := (takeN_le _ (c.drop (numE c)) (Nat.le_refl _)).1
      rw [List.length_drop] at e2
      simp only; omega
    · split
      · rename_i h37
        have := getD_lt_of c _ 37 (by decide) h37
        simp only; omega
      · simp only; omega
  by_cases a6 : stC [45, 45, 62] c = true
  · have ew : wayT c = 6 := by unfold wayT; rw [if_neg a1, if_neg a2, if_neg a3, if_neg a4, if_neg a5, if_pos a6]
    have := stC_len _ _ a6
    rw [ew]; simp only [tokW]; simp at this ⊢; omega
  by_cases a7 : stC [60, 33, 45, 45] c = true
  · have ew : wayT c = 7 := by unfold wayT; rw [if_neg a1, if_neg a2, if_neg a3, if_neg a4, if_neg a5, if_neg a6, if_pos a7]
    have := stC_len _ _ a7
    rw [ew]; simp only [tokW]; simp at this ⊢; omega
  by_cases a8 : begN c = true
  · have ew : wayT c = 8 := by unfold wayT; rw [if_neg a1, if_neg a2, if_neg a3, if_neg a4, if_neg a5, if_neg a6, if_neg a7, if_pos a8]
    have e1 := takeN_pos c a8
    have e2 := (takeN_le _ c (Nat.le_refl _)).1
    rw [ew]
    show 1 ≤ (namT c).2 ∧ (namT c).2 ≤ c.length
    unfold namT; split
    · rename_i h40
      have e3 := nameE_le c h40
      have e4 := getD_lt_of c _ 40 (by decide) h40
      have e5 := (urlT_le _ false false (c.drop (nameE c)) (Nat.le_refl _)).1
      rw [List.length_drop] at e5
      split
      · unfold urlK; split <;> (simp only; omega)
      · simp only; omega
    · simp only; omega
  by_cases a9 : c.getD 0 (-1) = 64 ∧ begN (c.drop 1) = true
  · have ew : wayT c = 9 := by unfold wayT; rw [if_neg a1, if_neg a2, if_neg a3, if_neg a4, if_neg a5, if_neg a6, if_neg a7, if_neg a8, if_pos a9]
    have e := (takeN_le _ (c.drop 1) (Nat.le_refl _)).1
    rw [List.length_drop] at e
    rw [ew]; show 1 ≤ 1 + (takeN (c.drop 1)).2 ∧ 1 + (takeN (c.drop 1)).2 ≤ c.length; omega
  have ew : wayT c = 10 := by unfold wayT; rw [if_neg a1, if_neg a2, if_neg a3, if_neg a4, if_neg a5, if_neg a6, if_neg a7, if_neg a8, if_neg a9]
  rw [ew]
  simp only [tokW]
  simp
  split <;> simp <;> omega
/-- All tokens, each with its place. -/
def tksC (l : List (Int × Int)) : List (CT × Int) :=
  match l with
  | [] => []
  | a :: t => ((tkC ((a :: t).map Prod.fst)).1, a.2) :: tksC (t.drop ((tkC ((a :: t).map Prod.fst)).2 - 1))
termination_by l.length
decreasing_by simp; omega
theorem lexC_nil : tksC [] = [] := by rw [tksC]
theorem lexC_in (l : List (Int × Int)) (i : Nat) (h : i < l.length) : tksC (l.drop i) = ((tkC ((l.map Prod.fst).drop i)).1, (l[i]).2) :: tksC (l.drop (i + (tkC ((l.map Prod.fst).drop i)).2)) := by
  have e : l.drop i = l[i] :: l.drop (i + 1) := List.drop_eq_getElem_cons h
  have e2 : (l[i] :: l.drop (i + 1)).map Prod.fst = (l.map Prod.fst).drop i := by rw [← e, List.map_drop]
  have hp := (wayT_len ((l.map Prod.fst).drop i) (by simp; omega)).1
  rw [e, tksC, e2, List.drop_drop, show i + 1 + ((tkC ((l.map Prod.fst).drop i)).2 - 1) = i + (tkC ((l.map Prod.fst).drop i)).2 by omega]
end Go.Proofs.YtilndlifmpbfnaaDoor.M

/- Plain numbers and lists: tokens of CSS that begin with a number: their texts are ASCII; wholes. Nothing of the program is imported. -/
namespace Go.Proofs.YtilndlifmpbfnaaDoor.M
open Go.Lib
set_option linter.unusedVariables false
set_option linter.unusedSimpArgs false

theorem digN_get (c : List Int) (k : Nat) (h : k < digN c) : nDg (c.getD k (-1)) = true := by
  induction c generalizing k with
  | nil => simp [digN] at h
  | cons r t ih =>
    rw [digN_cons] at h
    split at h
    · rename_i hr
      cases k with
      | zero => simpa using hr
      | succ k => simpa using ih k (by omega)
    · omega
theorem drop_getD (c : List Int) (i k : Nat) (d : Int) : (c.drop i).getD k d = c.getD (i + k) d := by simp [List.getD]
/-- What numbers are made of. -/
def numC (r : Int) : Prop := (48 ≤ r ∧ r ≤ 57) ∨ r = 43 ∨ r = 45 ∨ r = 46 ∨ r = 101 ∨ r = 69
theorem dig_range (c : List Int) (i k : Nat) (h1 : i ≤ k) (h2 : k < i + digN (c.drop i)) : numC (c.getD k (-1)) := by
  have := digN_get (c.drop i) (k - i) (by omega)
  rw [drop_getD, show i + (k - i) = k by omega, nDg_iff] at this
  exact .inl this
theorem sg_range (c : List Int) (i k : Nat) (h1 : i ≤ k) (h2 : k < i + sgN (c.drop i)) : numC (c.getD k (-1)) := by
  unfold sgN at h2
  split at h2
  · rename_i h
    obtain rfl : k = i := by omega
    rw [drop_getD, Nat.add_zero] at h
    unfold numC; omega
  · omega
theorem num1_range (c : List Int) (k : Nat) (h : k < num1 c) : numC (c.getD k (-1)) := by
  unfold num1 at h
  by_cases h1 : k < sgN c
  · exact sg_range c 0 k (by omega) (by simpa using h1)
  · exact dig_range c (sgN c) k (by omega) h
theorem num2_range (c : List Int) (k : Nat) (h : k < num2 c) : numC (c.getD k (-1)) := by
  unfold num2 at h
  by_cases h1 : k < num1 c
  · exact num1_range c k h1
  · split at h
    · rename_i hf
      by_cases h2 : k = num1 c
      · unfold fracB at hf
        simp only [Bool.and_eq_true, decide_eq_true_eq] at hf
        rw [drop_getD, Nat.add_zero] at hf
        rw [h2, hf.1]; unfold numC; omega
      · exact dig_range c (num1 c + 1) k (by omega) h
    · omega
theorem numE_range (c : List Int) (k : Nat) (h : k < numE c) : numC (c.getD k (-1)) := by
  by_cases h1 : k < num2 c
  · exact num2_range c k h1
  unfold numE at h
  split at h
  · rename_i he
    split at h
    · by_cases h2 : k = num2 c
      · rw [h2]; unfold numC; omega
      · by_cases h3 : k < num2 c + 1 + sgN (c.drop (num2 c + 1))
        · exact sg_range c (num2 c + 1) k (by omega) h3
        · exact dig_range c _ k (by omega) h
    · omega
  · omega
theorem enc_asc (r : Int) (h0 : 0 ≤ r) (h : r < 128) : enc r = [r.toNat.toUInt8] ∧ r.toNat.toUInt8.toNat = r.toNat := by
  refine ⟨enc_ascii r h0 h, ?_⟩
  show (UInt8.ofNat r.toNat).toNat = _
  rw [UInt8.toNat_ofNat']
  omega
theorem encZs_asc (l : List Int) (h : ∀ r ∈ l, 0 ≤ r ∧ r < 128) : (∀ c ∈ encZs l, c.toNat < 128) ∧ (encZs l).length = l.length ∧ (encZs l).map (fun c => (c.toNat : Int)) = l := by
  induction l with
  | nil => simp [encZs]
  | cons a t ih =>
    obtain ⟨h1, h2⟩ := h a (by simp)
    obtain ⟨e, e2⟩ := enc_asc a h1 h2
    obtain ⟨i1, i2, i3⟩ := ih (fun r hr => h r (by simp [hr]))
    rw [encZs_cons, e]
    refine ⟨fun c hc => ?_, by simp [i2], ?_⟩
    · rcases List.mem_append.1 hc with hc | hc
      · rw [List.mem_singleton.1 hc, e2]; omega
      · exact i1 c hc
    · rw [List.map_append, i3]
      simp only [List.map_cons, List.map_nil, e2, List.cons_append, List.nil_append]
      congr 1
      omega
theorem take_mem (c : List Int) (n : Nat) (r : Int) (h : r ∈ c.take n) : ∃ k, k < n ∧ c.getD k (-1) = r := by
  obtain ⟨k, hk, e⟩ := List.getElem_of_mem h
  rw [List.length_take] at hk
  refine ⟨k, by omega, ?_⟩
  rw [← e, List.getElem_take]
  simp [List.getD, show k < c.length by omega]
theorem num_asc (c : List Int) : ∀ x ∈ encZs (c.take (numE c)), x.toNat < 128 := by
  refine (encZs_asc _ fun r hr => ?_).1
  obtain ⟨k, hk, e⟩ := take_mem _ _ _ hr
  have := numE_range c k hk
  rw [e] at this
  unfold numC at this; omega
theorem contains_whole (l : List UInt8) : Lib.containsAny l [46, 101, 69] = !wholeL l := by
  have key : ∀ l : List UInt8, (0 ≤ Lib.indexAny l [46, 101, 69]) ↔ ∃ c ∈ l, ([46, 101, 69] : List UInt8).contains c = true := by
    intro l
    induction l with
    | nil => simp [Lib.indexAny]
    | cons b l ih =>
      unfold Lib.indexAny
      by_cases hb : ([46, 101, 69] : List UInt8).contains b = true
      · rw [if_pos hb]; simp only [Int.le_refl, true_iff]; exact ⟨b, by simp, hb⟩
      · rw [if_neg hb]
        by_cases hm : Lib.indexAny l [46, 101, 69] = -1
        · have hn : ¬ ∃ c ∈ l, ([46, 101, 69] : List UInt8).contains c = true := by rw [← ih, hm]; decide
          rw [if_pos (by simpa using hm)]
          constructor
          · intro h; exact absurd h (by decide)
          · rintro ⟨c, hc, h⟩
            rcases List.mem_cons.1 hc with rfl | hc
            · exact absurd h hb
            · exact absurd ⟨c, hc, h⟩ hn
        · have hge := Lib.indexAny_ge [46, 101, 69] l
          rw [if_neg (by simpa using hm)]
          constructor
          · intro _
            obtain ⟨c, hc, h⟩ := ih.1 (by omega)
            exact ⟨c, by simp [hc], h⟩
          · intro _; omega
  have hk := key l
  unfold Lib.containsAny
  by_cases h : ∃ c ∈ l, ([46, 101, 69] : List UInt8).contains c = true
  · have h1 := hk.2 h
    obtain ⟨c, hc, h2⟩ := h
    have h3 : wholeL l = false := by
      unfold wholeL
      rw [List.all_eq_false]
      exact ⟨c, hc, by simp at h2 ⊢; intro a b; rcases h2 with h | h | h; exact absurd h a; exact absurd h b; exact h⟩
    rw [h3]; simpa using h1
  · have h1 : ¬ 0 ≤ Lib.indexAny l [46, 101, 69] := fun e => h (hk.1 e)
    have h3 : wholeL l = true := by
      unfold wholeL
      rw [List.all_eq_true]
      intro c hc
      have : ¬ ([46, 101, 69] : List UInt8).contains c = true := fun e => h ⟨c, hc, e⟩
      simp at this ⊢
      exact ⟨⟨this.1, this.2.1⟩, this.2.2⟩
    rw [h3]; simpa using h1
end Go.Proofs.YtilndlifmpbfnaaDoor.M

/- Plain numbers and lists: tokens of CSS rise, and no two blanks stand side by side. Nothing of the program is imported. -/
namespace Go.Proofs.YtilndlifmpbfnaaDoor.M
open Go.Lib
set_option linter.unusedVariables false
set_option linter.unusedSimpArgs false

theorem oneK_ne (r : Int) : oneK r ≠ 13 := by unfold oneK; repeat' split
                                              all_goals decide
theorem way_kind (D : List Int) (h : (tkC D).1.kind = 13) : wayT D = 2 := by
  unfold tkC at h
  generalize wayT D = k at h ⊢
  unfold tokW at h
  split at h
  · exact absurd h (by simp)
  split at h
  · rename_i h2; exact h2
  split at h
  · exfalso; unfold txtT at h; split at h <;> exact absurd h (by simp)
  split at h
  · exact absurd h (by simp)
  split at h
  · exfalso; unfold numT at h
    split at h
    · exact absurd h (by simp)
    · split at h
      · exact absurd h (by simp)
      · exact absurd h (by simp [numT0])
  split at h
  · exact absurd h (by simp)
  split at h
  · exact absurd h (by simp)
  split at h
  · exfalso; unfold namT urlK at h
    repeat' split at h
    all_goals exact absurd h (by simp)
  split at h
  · exact absurd h (by simp)
  split at h
  · exact absurd h (by simp)
  · exact absurd h (oneK_ne _)
theorem way_blank (D : List Int) (h : wayT D = 2) : isBl (D.getD 0 (-1)) = true ∧ (tkC D).2 = blN D := by
  constructor
  · unfold wayT at h
    split at h
    · omega
    · split at h
      · rename_i h2; exact h2
      · repeat' split at h
        all_goals omega
  · unfold tkC; rw [h]; rfl
theorem blN_end (c : List Int) : isBl ((c.drop (blN c)).getD 0 (-1)) = false := by
  induction c with
  | nil => rfl
  | cons r t ih =>
    rw [blN_cons]
    split
    · rename_i h
      rw [Nat.add_comm, List.drop_succ_cons]; exact ih
    · rename_i h; simpa using h
/-- What is to hold of two tokens side by side. -/
def RisP (N : Int) (a b : CT × Int) : Prop := a.2 < b.2 ∧ b.2 < N ∧ ¬ (b.1.kind = 13 ∧ a.1.kind = 13)
theorem mono_of (L : List (Int × Int)) (h : ∀ k (h : k + 1 < L.length), (L[k]).2 < (L[k + 1]).2) (i j : Nat) (hij : i < j) (hj : j < L.length) : (L[i]).2 < (L[j]).2 := by
  induction j with
  | zero => omega
  | succ j ih =>
    by_cases e : i = j
    · subst e; exact h i hj
    · exact Int.lt_trans (ih (by omega) (by omega)) (h j hj)
def ChainP (N : Int) (T : List (CT × Int)) : Prop := ∀ j (h : j + 1 < T.length), RisP N (T[j]) (T[j + 1])
theorem chain_nil (N : Int) : ChainP N [] := fun j h => by simp at h
theorem chain_cons (N : Int) (x : CT × Int) (T : List (CT × Int)) (hT : ChainP N T) (hd : ∀ y T', T = y :: T' → RisP N x y) : ChainP N (x :: T) := by
  intro j h
  cases j with
  | succ j => exact hT j (by simpa using h)
  | zero =>
    cases T with
    | nil => simp at h
    | cons y T' => exact hd y T' rfl
theorem lex_rise (L : List (Int × Int)) (N : Int) (hm : ∀ k (h : k + 1 < L.length), (L[k]).2 < (L[k + 1]).2) (hN : ∀ k (h : k < L.length), (L[k]).2 < N) (n i : Nat) (hn : L.length - i ≤ n) :
    ChainP N (tksC (L.drop i)) := by
  induction n generalizing i with
  | zero => rw [List.drop_eq_nil_of_le (by omega), lexC_nil]; exact chain_nil N
  | succ n ih =>
    by_cases hi : i < L.length
    · have hlen := wayT_len ((L.map Prod.fst).drop i) (by simp; omega)
      obtain ⟨k, hk⟩ : ∃ k, i + (tkC ((L.map Prod.fst).drop i)).2 = k := ⟨_, rfl⟩
      have hik : i < k := by omega
      have e := lexC_in L i hi
      rw [hk] at e
      rw [e]
      refine chain_cons N _ _ (ih k (by omega)) ?_
      intro y T' hy
      by_cases hk2 : k < L.length
      · have e2 := lexC_in L k hk2
        rw [hy] at e2
        have hyy := (List.cons.inj e2).1
        subst hyy
        refine ⟨mono_of L hm i k hik hk2, hN k hk2, ?_⟩
        rintro ⟨h1, h2⟩
        have w1 := (way_blank _ (way_kind _ h1)).1
        have w2 := (way_blank _ (way_kind _ h2)).2
        have := blN_end ((L.map Prod.fst).drop i)
        rw [← w2, List.drop_drop, hk] at this
        rw [this] at w1
        exact absurd w1 (by simp)
      · rw [List.drop_eq_nil_of_le (show L.length ≤ k by omega), lexC_nil] at hy
        simp at hy
    · rw [List.drop_eq_nil_of_le (by omega), lexC_nil]; exact chain_nil N
theorem bytes_rise (l : List UInt8) : ChainP l.length (tksC (rn l 0)) := by
  have hr := rn_at l l.length 0 (by omega)
  have := lex_rise (rn l 0) l.length (fun k h => (hr k (by omega)).2.2 h) (fun k h => by have := (hr k h).2.1; omega) (rn l 0).length 0 (by omega)
  simpa using this
theorem bytes_head (l : List UInt8) (h : 0 < l.length) : ∃ t T, tksC (rn l 0) = (t, 0) :: T := by
  rw [rn_in l 0 h, tksC]
  exact ⟨_, _, rfl⟩
end Go.Proofs.YtilndlifmpbfnaaDoor.M
