/- Plain numbers and lists: lines and columns. Nothing of the program is imported. -/
import Derived.Test.YtpedipalpebolaaDoorUMath3
namespace Go.Proofs.YtpedipalpebolaaDoor.M

/-- Does a line end behind the byte at a place? -/
def endsAt (l : List UInt8) (p : Nat) : Bool := if byte l p = 13 then (p + 1 == l.length || byte l (p + 1) != 10) else byte l p == 10
def unitsOf (r : Nat) : Nat := if 65536 ≤ r then 2 else 1
/-- The place behind the code point at a place: offset, line, column. -/
def stepP (l : List UInt8) (s : Nat × Nat × Nat) : Nat × Nat × Nat :=
  if endsAt l s.1 then (s.1 + (dec (l.drop s.1)).2, s.2.1 + 1, 0) else (s.1 + (dec (l.drop s.1)).2, s.2.1, s.2.2 + unitsOf (dec (l.drop s.1)).1)
def goP (l : List UInt8) : Nat → Nat → Nat × Nat × Nat → Nat × Nat × Nat
  | 0, _, s => s
  | f + 1, t, s => if s.1 < t then goP l f t (stepP l s) else s
theorem goP_stop (l : List UInt8) (f t : Nat) (s : Nat × Nat × Nat) (h : t ≤ s.1) : goP l f t s = s := by
  cases f <;> simp [goP]; omega
theorem goP_step (l : List UInt8) (f t : Nat) (s : Nat × Nat × Nat) (h : s.1 < t) (hf : 0 < f) : goP l f t s = goP l (f - 1) t (stepP l s) := by
  cases f with
  | zero => omega
  | succ f => simp [goP, h]
theorem stepP_off (l : List UInt8) (s : Nat × Nat × Nat) : s.1 < (stepP l s).1 := by
  have := (dec_width (l.drop s.1)).1
  unfold stepP
  split <;> simp only <;> omega
theorem stepP_le (l : List UInt8) (s : Nat × Nat × Nat) (h : s.1 < l.length) : (stepP l s).1 ≤ l.length := by
  have := dec_le (l.drop s.1) (by simp; omega)
  rw [List.length_drop] at this
  unfold stepP
  split <;> simp only <;> omega
/-- The line and the column of an offset. -/
def atP (l : List UInt8) (t : Nat) : Nat × Nat := (goP l l.length t (0, 0, 0)).2
def Later (a b : Nat × Nat) : Prop := a.1 < b.1 ∨ (a.1 = b.1 ∧ a.2 ≤ b.2)
theorem Later.refl (a : Nat × Nat) : Later a a := .inr ⟨rfl, Nat.le_refl _⟩
theorem Later.trans {a b c : Nat × Nat} (h : Later a b) (k : Later b c) : Later a c := by unfold Later at *; omega
theorem stepP_later (l : List UInt8) (s : Nat × Nat × Nat) : Later s.2 (stepP l s).2 := by
  unfold stepP Later
  cases endsAt l s.1 <;> simp
theorem goP_later (l : List UInt8) (f t : Nat) (s : Nat × Nat × Nat) : Later s.2 (goP l f t s).2 := by
  induction f generalizing s with
  | zero => exact Later.refl _
  | succ f ih =>
    by_cases h : s.1 < t
    · rw [goP_step l _ t s h (by omega)]
      exact (stepP_later l s).trans (ih _)
    · rw [goP_stop l _ t s (by omega)]; exact Later.refl _
theorem goP_order (l : List UInt8) (f i k : Nat) (s : Nat × Nat × Nat) (h : i ≤ k) : Later (goP l f i s).2 (goP l f k s).2 := by
  induction f generalizing s with
  | zero => exact Later.refl _
  | succ f ih =>
    by_cases h1 : s.1 < i
    · rw [goP_step l _ i s h1 (by omega), goP_step l _ k s (by omega) (by omega)]
      exact ih _
    · rw [goP_stop l _ i s (by omega)]; exact goP_later _ _ _ _
theorem atP_order (l : List UInt8) (i k : Nat) (h : i ≤ k) : Later (atP l i) (atP l k) := goP_order l _ i k _ h
/-- No line and no column is greater than the offset. -/
theorem goP_small (l : List UInt8) (f t : Nat) (s : Nat × Nat × Nat) (h1 : s.1 ≤ l.length) (ht : t ≤ l.length) (h2 : s.2.1 ≤ s.1) (h3 : s.2.2 ≤ 2 * s.1) :
    (goP l f t s).2.1 ≤ l.length ∧ (goP l f t s).2.2 ≤ 2 * l.length := by
  induction f generalizing s with
  | zero => simp only [goP]; omega
  | succ f ih =>
    by_cases h : s.1 < t
    · rw [goP_step l _ t s h (by omega)]
      have hw := (dec_width (l.drop s.1)).1
      refine ih _ (stepP_le l s (by omega)) ?_ ?_
      · unfold stepP; split <;> simp only <;> omega
      · have hu : unitsOf (dec (l.drop s.1)).1 ≤ 2 := by unfold unitsOf; split <;> omega
        unfold stepP; split <;> simp only <;> omega
    · rw [goP_stop l _ t s (by omega)]; omega
end Go.Proofs.YtpedipalpebolaaDoor.M
