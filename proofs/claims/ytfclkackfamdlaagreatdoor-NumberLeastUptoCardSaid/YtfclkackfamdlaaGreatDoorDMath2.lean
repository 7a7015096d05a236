/- Plain numbers and lists: adding and taking off, digit by digit, and which of two rows of digits is less. Nothing of the program is imported. -/
import Derived.Test.YtfclkackfamdlaaGreatDoorDMath
namespace Go.Proofs.YtfclkackfamdlaaGreatDoor.M

/-- The digit at a place, counted from the end; nought beyond. -/
def dat (x : List UInt8) (i : Nat) : Nat := if i < x.length then (x.getD (x.length - 1 - i) 48).toNat - 48 else 0
def lowv (x : List UInt8) : Nat → Nat
  | 0 => 0
  | k + 1 => lowv x k + dat x k * 10 ^ k
/-- The number of a row of digits that begins with the last one. -/
def lev : List UInt8 → Nat
  | [] => 0
  | c :: t => (c.toNat - 48) + 10 * lev t
theorem lev_snoc (l : List UInt8) (c : UInt8) : lev (l ++ [c]) = lev l + (c.toNat - 48) * 10 ^ l.length := by
  induction l with
  | nil => simp [lev]
  | cons a t ih =>
    simp only [List.cons_append, lev, ih, List.length_cons, Nat.pow_succ]
    rw [Nat.mul_add, Nat.add_assoc, ← Nat.mul_assoc, Nat.mul_comm 10 (c.toNat - 48), Nat.mul_assoc, Nat.mul_comm 10 (10 ^ t.length)]
theorem dval_reverse (l : List UInt8) : dval l.reverse = lev l := by
  induction l with
  | nil => rfl
  | cons c t ih => rw [List.reverse_cons, dval_snoc, ih]; simp only [lev]; omega
theorem lev_lt (l : List UInt8) (h : ∀ c ∈ l, dig c = true) : lev l < 10 ^ l.length := by
  induction l with
  | nil => simp [lev]
  | cons c t ih =>
    have h1 := ih (fun x hx => h x (by simp [hx]))
    have h2 := (dig_iff c).1 (h c (by simp))
    simp only [lev, List.length_cons, Nat.pow_succ]; omega
theorem dval_lt (l : List UInt8) (h : ∀ c ∈ l, dig c = true) : dval l < 10 ^ l.length := by
  have := lev_lt l.reverse (fun c hc => h c (by simpa using hc))
  rw [← dval_reverse, List.reverse_reverse, List.length_reverse] at this
  exact this
theorem dat_zero (x : List UInt8) (c : UInt8) : dat (x ++ [c]) 0 = c.toNat - 48 := by
  simp [dat]
theorem dat_succ (x : List UInt8) (c : UInt8) (i : Nat) : dat (x ++ [c]) (i + 1) = dat x i := by
  unfold dat
  simp only [List.length_append, List.length_cons, List.length_nil]
  by_cases h : i < x.length
  · rw [if_pos (by omega), if_pos h]
    rw [show x.length + (0 + 1) - 1 - (i + 1) = x.length - 1 - i by omega]
    congr 2
    simp only [List.getD]
    rw [List.getElem?_append_left (by omega)]
  · rw [if_neg (by omega), if_neg h]
theorem dat_le (x : List UInt8) (h : ∀ c ∈ x, dig c = true) (i : Nat) : dat x i ≤ 9 := by
  unfold dat
  split
  · rename_i hi
    have hl : x.length - 1 - i < x.length := by omega
    have := (dig_iff _).1 (h _ (List.getElem_mem hl))
    simp only [List.getD, List.getElem?_eq_getElem hl, Option.getD_some]
    omega
  · omega
theorem dat_out (x : List UInt8) (i : Nat) (h : x.length ≤ i) : dat x i = 0 := by unfold dat; rw [if_neg (by omega)]
theorem lowv_snoc (x : List UInt8) (c : UInt8) (k : Nat) : lowv (x ++ [c]) (k + 1) = (c.toNat - 48) + 10 * lowv x k := by
  induction k with
  | zero => simp [lowv, dat_zero]
  | succ k ih =>
    rw [lowv, ih, lowv, dat_succ, Nat.pow_succ, Nat.mul_add, Nat.add_assoc]
    congr 2
    rw [← Nat.mul_assoc, Nat.mul_comm 10]
theorem lowv_len (x : List UInt8) : lowv x x.length = dval x := by
  induction x using rev_ind with
  | h0 => rfl
  | h1 l c ih => rw [List.length_append, List.length_singleton, lowv_snoc, ih, dval_snoc]; omega
theorem lowv_all (x : List UInt8) (k : Nat) (h : x.length ≤ k) : lowv x k = dval x := by
  induction k with
  | zero => rw [← lowv_len x, show x.length = 0 by omega]
  | succ k ih =>
    by_cases hk : x.length = k + 1
    · rw [← lowv_len x, hk]
    · rw [lowv, ih (by omega), dat_out x k (by omega)]; simp
/-- Adding: what holds behind k rounds. -/
def Sum (x y : List UInt8) (k : Nat) (out : List UInt8) (carry : Nat) : Prop :=
  out.length = k ∧ (∀ c ∈ out, dig c = true) ∧ carry ≤ 1 ∧ lev out + carry * 10 ^ k = lowv x k + lowv y k
theorem sum_start (x y : List UInt8) : Sum x y 0 [] 0 := ⟨rfl, by simp, by omega, rfl⟩
theorem sum_step {x y : List UInt8} {k : Nat} {out : List UInt8} {carry : Nat} (hx : ∀ c ∈ x, dig c = true) (hy : ∀ c ∈ y, dig c = true) (h : Sum x y k out carry) :
    Sum x y (k + 1) (out ++ [ofD (dat x k + dat y k + carry)]) ((dat x k + dat y k + carry) / 10) := by
  obtain ⟨h1, h2, h3, h4⟩ := h
  have a := dat_le x hx k
  have b := dat_le y hy k
  refine ⟨by simp [h1], ?_, by omega, ?_⟩
  · intro c hc
    rcases List.mem_append.1 hc with hc | hc
    · exact h2 c hc
    · simp at hc; subst hc; exact ofD_dig _
  · rw [lev_snoc, ofD_nat, h1, lowv, lowv, Nat.pow_succ]
    generalize dat x k = p at *
    generalize dat y k = q at *
    have e : p + q + carry = (p + q + carry) % 10 + (p + q + carry) / 10 * 10 := by omega
    have e2 : (p + q + carry) * 10 ^ k = ((p + q + carry) % 10 + (p + q + carry) / 10 * 10) * 10 ^ k := by rw [← e]
    rw [Nat.add_mul, Nat.add_mul, Nat.add_mul] at e2
    rw [show 48 + (p + q + carry) % 10 - 48 = (p + q + carry) % 10 by omega]
    rw [← Nat.mul_assoc, Nat.mul_comm ((p + q + carry) / 10) (10 ^ k), Nat.mul_assoc, Nat.mul_comm (10 ^ k)]
    omega
theorem sum_end {x y : List UInt8} {k : Nat} {out : List UInt8} {carry : Nat} (hx : ∀ c ∈ x, dig c = true) (hy : ∀ c ∈ y, dig c = true) (h : Sum x y k out carry)
    (hk : x.length < k) (hk2 : y.length < k) : lev out = dval x + dval y := by
  obtain ⟨h1, h2, h3, h4⟩ := h
  rw [lowv_all x k (by omega), lowv_all y k (by omega)] at h4
  have a := dval_lt x hx
  have b := dval_lt y hy
  obtain ⟨m, rfl⟩ : ∃ m, k = m + 1 := ⟨k - 1, by omega⟩
  have c1 : 10 ^ x.length ≤ 10 ^ m := Nat.pow_le_pow_right (by omega) (by omega)
  have c2 : 10 ^ y.length ≤ 10 ^ m := Nat.pow_le_pow_right (by omega) (by omega)
  rw [Nat.pow_succ] at h4
  have : carry = 0 ∨ carry = 1 := by omega
  rcases this with rfl | rfl
  · omega
  · omega
/-- Taking off. -/
def Dif (x y : List UInt8) (k : Nat) (out : List UInt8) (borrow : Nat) : Prop :=
  out.length = k ∧ (∀ c ∈ out, dig c = true) ∧ borrow ≤ 1 ∧ lev out + lowv y k = lowv x k + borrow * 10 ^ k
theorem dif_start (x y : List UInt8) : Dif x y 0 [] 0 := ⟨rfl, by simp, by omega, rfl⟩
theorem dif_step {x y : List UInt8} {k : Nat} {out : List UInt8} {borrow : Nat} (hx : ∀ c ∈ x, dig c = true) (hy : ∀ c ∈ y, dig c = true) (h : Dif x y k out borrow) :
    Dif x y (k + 1) (out ++ [ofD (dat x k + 10 - dat y k - borrow)]) (1 - (dat x k + 10 - dat y k - borrow) / 10) := by
  obtain ⟨h1, h2, h3, h4⟩ := h
  have a := dat_le x hx k
  have b := dat_le y hy k
  refine ⟨by simp [h1], ?_, by omega, ?_⟩
  · intro c hc
    rcases List.mem_append.1 hc with hc | hc
    · exact h2 c hc
    · simp at hc; subst hc; exact ofD_dig _
  · rw [lev_snoc, ofD_nat, h1, lowv, lowv, Nat.pow_succ]
    generalize dat x k = p at *
    generalize dat y k = q at *
    obtain ⟨n, hn⟩ : ∃ n, p + 10 - q - borrow = n := ⟨_, rfl⟩
    rw [hn]
    have e : n % 10 + q + borrow = p + (1 - n / 10) * 10 := by
      have : n / 10 = 0 ∨ n / 10 = 1 := by omega
      rcases this with h | h <;> rw [h] <;> omega
    have e2 : (n % 10 + q + borrow) * 10 ^ k = (p + (1 - n / 10) * 10) * 10 ^ k := by rw [e]
    rw [Nat.add_mul, Nat.add_mul, Nat.add_mul] at e2
    rw [show 48 + n % 10 - 48 = n % 10 by omega]
    rw [← Nat.mul_assoc, Nat.mul_comm (1 - n / 10) (10 ^ k), Nat.mul_assoc, Nat.mul_comm (10 ^ k)]
    omega
theorem dif_end {x y : List UInt8} {k : Nat} {out : List UInt8} {borrow : Nat} (h : Dif x y k out borrow)
    (hk : x.length ≤ k) (hk2 : y.length ≤ k) (hle : dval y ≤ dval x) : lev out = dval x - dval y := by
  obtain ⟨h1, h2, h3, h4⟩ := h
  rw [lowv_all x k hk, lowv_all y k hk2] at h4
  have := lev_lt out h2
  rw [h1] at this
  have hb : borrow = 0 ∨ borrow = 1 := by omega
  rcases hb with rfl | rfl <;> omega
/-- A row of digits as a decimal has it: no nought ahead, but alone. -/
def Row (x : List UInt8) : Prop := (∀ c ∈ x, dig c = true) ∧ x ≠ [] ∧ (x = [48] ∨ x.head? ≠ some 48)
theorem row_unsign (l : List UInt8) (h : rightD l = true) : Row (unsign l) := by
  obtain ⟨h1, h2, h3⟩ := right_parts l h
  refine ⟨h1, h2, ?_⟩
  rcases h3 with rfl | h3
  · left; rfl
  · exact .inr h3
theorem row_ge (x : List UInt8) (h : Row x) (h1 : 2 ≤ x.length) : 10 ^ (x.length - 1) ≤ dval x := by
  obtain ⟨hd, hn, h0⟩ := h
  rcases h0 with rfl | h0
  · simp at h1
  · cases x with
    | nil => simp at h1
    | cons c t =>
      clear h1 hn
      have hc : c ≠ 48 := fun hh => h0 (by rw [hh]; rfl)
      have hc2 := (dig_iff c).1 (hd c (by simp))
      have hc3 : c.toNat ≠ 48 := fun hh => hc (UInt8.toNat_inj.1 hh)
      clear h0 hc
      simp only [List.length_cons, Nat.add_sub_cancel]
      clear hd
      induction t using rev_ind with
      | h0 => simp [dval]; omega
      | h1 l d ih => rw [← List.cons_append, dval_snoc, List.length_append, List.length_singleton, Nat.pow_succ]; omega
theorem dval_cons (c : UInt8) (t : List UInt8) : dval (c :: t) = (c.toNat - 48) * 10 ^ t.length + dval t := by
  induction t using rev_ind with
  | h0 => simp [dval]
  | h1 l d ih => rw [← List.cons_append, dval_snoc, dval_snoc, ih, List.length_append, List.length_singleton, Nat.pow_succ]; rw [Nat.mul_add, Nat.mul_left_comm 10, Nat.mul_comm 10 (10 ^ l.length)]; omega
theorem lex_dval (x y : List UInt8) (hx : ∀ c ∈ x, dig c = true) (hy : ∀ c ∈ y, dig c = true) (h : x.length = y.length) : x < y ↔ dval x < dval y := by
  induction x generalizing y with
  | nil =>
    cases y with
    | nil => simp [dval]
    | cons _ _ => simp at h
  | cons a s ih =>
    cases y with
    | nil => simp at h
    | cons b t =>
      have ha := (dig_iff a).1 (hx a (by simp))
      have hb := (dig_iff b).1 (hy b (by simp))
      have hl : s.length = t.length := by simpa using h
      have h1 := dval_lt s (fun c hc => hx c (by simp [hc]))
      have h2 := dval_lt t (fun c hc => hy c (by simp [hc]))
      rw [List.cons_lt_cons_iff, ih t (fun c hc => hx c (by simp [hc])) (fun c hc => hy c (by simp [hc])) hl, dval_cons, dval_cons, hl, UInt8.lt_iff_toNat_lt]
      rw [hl] at h1
      have hab : a = b ↔ a.toNat = b.toNat := UInt8.toNat_inj.symm
      rw [hab]
      generalize 10 ^ t.length = P at *
      obtain ⟨p, hp⟩ : ∃ p, a.toNat - 48 = p := ⟨_, rfl⟩
      obtain ⟨q, hq⟩ : ∃ q, b.toNat - 48 = q := ⟨_, rfl⟩
      rw [hp, hq]
      have e1 : a.toNat < b.toNat ↔ p < q := by omega
      have e2 : a.toNat = b.toNat ↔ p = q := by omega
      rw [e1, e2]
      constructor
      · rintro (h | ⟨h, h'⟩)
        · have : (p + 1) * P ≤ q * P := Nat.mul_le_mul_right _ h
          rw [Nat.add_mul] at this
          omega
        · subst h; omega
      · intro h
        by_cases c1 : p < q
        · exact .inl c1
        · by_cases c2 : p = q
          · subst c2; right; omega
          · have : (q + 1) * P ≤ p * P := Nat.mul_le_mul_right _ (by omega)
            rw [Nat.add_mul] at this
            omega
def lessB (x y : List UInt8) : Bool := if x.length ≠ y.length then decide (x.length < y.length) else decide (x < y)
theorem less_dval (x y : List UInt8) (hx : Row x) (hy : Row y) : lessB x y = decide (dval x < dval y) := by
  unfold lessB
  have key : ∀ a b : List UInt8, Row a → Row b → a.length < b.length → dval a < dval b := by
    intro a b ha hb h
    have h1 := dval_lt a ha.1
    have h0 : 1 ≤ a.length := by
      have := ha.2.1
      cases a with
      | nil => exact absurd rfl this
      | cons _ _ => simp
    have h2 := row_ge b hb (by omega)
    have h3 : 10 ^ a.length ≤ 10 ^ (b.length - 1) := Nat.pow_le_pow_right (by omega) (by omega)
    omega
  by_cases h : x.length = y.length
  · rw [if_neg (by simp [h])]
    have := lex_dval x y hx.1 hy.1 h
    simp only [this]
  · rw [if_pos h]
    by_cases h1 : x.length < y.length
    · have := key x y hx hy h1
      simp [h1, this]
    · have := key y x hy hx (by omega)
      have h2 : ¬ dval x < dval y := by omega
      simp [h1, h2]
end Go.Proofs.YtfclkackfamdlaaGreatDoor.M
