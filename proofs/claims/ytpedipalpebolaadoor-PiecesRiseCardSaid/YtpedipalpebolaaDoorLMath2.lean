/- Plain numbers and lists: the columns of code points one behind the other. Nothing of the program is imported. -/
import Derived.Test.YtpedipalpebolaaDoorLMath
namespace Go.Proofs.YtpedipalpebolaaDoor.M

/-- Code points that end no line. -/
def Mid (r : Nat) : Prop := isCP r = true ∧ r ≠ 10 ∧ r ≠ 13
def encs (rs : List Nat) : List UInt8 := rs.flatMap fun (r : Nat) => enc (r : Int)
def tot : List Nat → Nat
  | [] => 0
  | r :: rs => unitsOf r + tot rs
theorem encs_snoc (rs : List Nat) (r : Nat) : encs (rs ++ [r]) = encs rs ++ enc r := by simp [encs]
theorem tot_snoc (rs : List Nat) (r : Nat) : tot (rs ++ [r]) = tot rs + unitsOf r := by
  induction rs with
  | nil => simp [tot]
  | cons a rs ih => simp only [List.cons_append, tot, ih]; omega
theorem encs_len (rs : List Nat) : (encs rs).length ≤ 4 * rs.length := by
  induction rs with
  | nil => simp [encs]
  | cons a rs ih =>
    have := enc_le a
    simp only [encs, List.flatMap_cons, List.length_append, List.length_cons] at *
    omega
theorem tot_le (rs : List Nat) : tot rs ≤ 2 * rs.length := by
  induction rs with
  | nil => simp [tot]
  | cons a rs ih =>
    have hu : unitsOf a ≤ 2 := by unfold unitsOf; split <;> omega
    simp only [tot, List.length_cons]; omega
theorem first_byte (r : Nat) (h : isCP r = true) (t : List UInt8) : byte (enc r ++ t) 0 = r ∨ 192 ≤ byte (enc r ++ t) 0 := by
  have hs := shape r h
  revert hs
  generalize enc r = l
  intro hs
  cases hs with
  | one h1 => left; simp only [byte, List.cons_append, List.getD_cons_zero]; exact toU8 r (by omega)
  | two h1 h2 => right; simp only [byte, List.cons_append, List.getD_cons_zero]; rw [toU8 _ (by omega)]; omega
  | three h1 h2 => right; simp only [byte, List.cons_append, List.getD_cons_zero]; rw [toU8 _ (by omega)]; omega
  | four h1 h2 => right; simp only [byte, List.cons_append, List.getD_cons_zero]; rw [toU8 _ (by omega)]; omega
theorem byte_at (pre x : List UInt8) : byte (pre ++ x) pre.length = byte x 0 := by
  unfold byte
  simp [List.getD, List.getElem?_append_right]
theorem goP_mid (rs : List Nat) (pre : List UInt8) (c f : Nat) (h : ∀ r ∈ rs, Mid r) (hf : (encs rs).length ≤ f) :
    (goP (pre ++ encs rs) f (pre ++ encs rs).length (pre.length, 0, c)).2 = (0, c + tot rs) := by
  induction rs generalizing pre c f with
  | nil => rw [goP_stop _ _ _ _ (by simp [encs])]; simp [tot]
  | cons r rs ih =>
    have hr := h r (by simp)
    have hp := enc_pos r
    have e : encs (r :: rs) = enc r ++ encs rs := by simp [encs]
    rw [e] at hf ⊢
    rw [List.length_append] at hf
    have hd : dec ((pre ++ (enc r ++ encs rs)).drop pre.length) = (r, wid r) := by
      rw [List.drop_left]; exact dec_enc r hr.1 _
    have hends : endsAt (pre ++ (enc r ++ encs rs)) pre.length = false := by
      unfold endsAt
      rw [byte_at]
      have := first_byte r hr.1 (encs rs)
      have h10 := hr.2.1
      have h13 := hr.2.2
      rw [if_neg (by omega)]
      rw [beq_eq_false_iff_ne]
      omega
    rw [goP_step _ _ _ _ (by simp; omega) (by omega)]
    have hst : stepP (pre ++ (enc r ++ encs rs)) (pre.length, 0, c) = ((pre ++ enc r).length, 0, c + unitsOf r) := by
      unfold stepP
      simp only [hends, hd]
      rw [List.length_append, enc_len r hr.1]
      rfl
    rw [hst, ← List.append_assoc]
    have := ih (pre ++ enc r) (c + unitsOf r) (f - 1) (fun x hx => h x (by simp [hx])) (by omega)
    rw [this]
    simp [tot]
    omega
theorem atP_mid (rs : List Nat) (h : ∀ r ∈ rs, Mid r) : atP (encs rs) (encs rs).length = (0, tot rs) := by
  have := goP_mid rs [] 0 (encs rs).length h (Nat.le_refl _)
  simpa [atP] using this
end Go.Proofs.YtpedipalpebolaaDoor.M
