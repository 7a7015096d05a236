/- Plain numbers and lists: the code points of an input, each from where. Nothing of the program is imported. -/
import Derived.Test.YtkaojigdogeliaaDoorUMath
import Derived.Test.YtkaojigdogeliaaDoorRMath
namespace Go.Proofs.YtkaojigdogeliaaDoor.M
open Go.Lib
set_option linter.unusedVariables false
set_option linter.unusedSimpArgs false

theorem dec_low (s : List UInt8) (h : (dec s).1 < 128) : (dec s).2 = 1 ∧ (dec s).1 = byte s 0 := by
  unfold dec decodeN at h ⊢
  have h0 := byte_lt s 0
  have h1 := byte_lt s 1
  have h2 := byte_lt s 2
  have h3 := byte_lt s 3
  repeat' split at h
  all_goals (simp only at h ⊢; try omega)
  all_goals first | (simp_all; done) | (repeat' split) <;> simp_all <;> omega
/-- What stands at a place, and how many bytes it takes. -/
def stepR (l : List UInt8) (i : Nat) : Int × Nat :=
  if (dec (l.drop i)).1 = 0 then (65533, (dec (l.drop i)).2) else if (dec (l.drop i)).1 = 12 then (10, (dec (l.drop i)).2)
  else if (dec (l.drop i)).1 = 13 then (10, if l.getD (i + 1) 0 = 10 then 2 else 1) else ((dec (l.drop i)).1, (dec (l.drop i)).2)
theorem step_le (l : List UInt8) (i : Nat) (h : i < l.length) : 1 ≤ (stepR l i).2 ∧ i + (stepR l i).2 ≤ l.length := by
  have hw := dec_width (l.drop i)
  have hl := dec_le (l.drop i) (by simp; omega)
  rw [List.length_drop] at hl
  unfold stepR
  repeat' split
  all_goals simp only
  all_goals try omega
  rename_i h3
  have : i + 1 < l.length := by
    by_cases hk : i + 1 < l.length
    · exact hk
    · exfalso
      simp [List.getD, List.getElem?_eq_none (Nat.le_of_not_lt hk)] at h3
  omega
def rn (l : List UInt8) (i : Nat) : List (Int × Int) := if h : i < l.length then ((stepR l i).1, (i : Int)) :: rn l (i + (stepR l i).2) else []
termination_by l.length - i
decreasing_by have := step_le l i h; omega
theorem rn_in (l : List UInt8) (i : Nat) (h : i < l.length) : rn l i = ((stepR l i).1, (i : Int)) :: rn l (i + (stepR l i).2) := by rw [rn, dif_pos h]
theorem rn_out (l : List UInt8) (i : Nat) (h : l.length ≤ i) : rn l i = [] := by rw [rn, dif_neg (by omega)]
theorem rn_len (l : List UInt8) (n i : Nat) (hn : l.length - i ≤ n) : (rn l i).length ≤ l.length - i := by
  induction n generalizing i with
  | zero => rw [rn_out l i (by omega)]; simp
  | succ n ih =>
    by_cases h : i < l.length
    · have hs := step_le l i h
      rw [rn_in l i h, List.length_cons]
      have := ih (i + (stepR l i).2) (by omega)
      omega
    · rw [rn_out l i (by omega)]; simp
theorem next_dec (l : List UInt8) (i : Nat) (h : i < l.length) : ∃ ok, nextAt l i = (((dec (l.drop i)).1 : Int), ((dec (l.drop i)).2 : Int), ok) := by
  rw [nextAt_in l i h]
  unfold nx
  by_cases hb : dec (l.drop i) = (65533, 1)
  · rw [if_pos hb, hb]; exact ⟨false, rfl⟩
  · rw [if_neg hb]; exact ⟨true, rfl⟩
/-- A list of code points as a text. -/
def encR (l : List (Int × Int)) : List UInt8 := l.flatMap fun r => enc r.1
theorem encR_snoc (l : List (Int × Int)) (k : Nat) (h : k < l.length) : encR (l.take (k + 1)) = encR (l.take k) ++ enc (l[k]).1 := by
  rw [List.take_succ_eq_append_getElem h]
  simp only [encR, List.flatMap_append, List.flatMap_cons, List.flatMap_nil, List.append_nil]
theorem encR_len (l : List (Int × Int)) : (encR l).length ≤ 4 * l.length := by
  induction l with
  | nil => simp [encR]
  | cons a l ih =>
    have := enc_le a.1
    simp only [encR, List.flatMap_cons, List.length_append, List.length_cons] at *
    omega
end Go.Proofs.YtkaojigdogeliaaDoor.M
