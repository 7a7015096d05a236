/- What a segment's text tells, given the segment ahead of it (plain lists; nothing of the program). -/
import Derived.Test.YtpfbhdkljcjhlaaDoorVqMath2
import Derived.Test.YtpfbhdkljcjhlaaDoorSMath
namespace Go.Proofs.YtpfbhdkljcjhlaaDoor.M
open Go.Proofs.YtpfbhdkljcjhlaaDoor

theorem vq_unzig_le (x : Nat) (h : x / 2 ≤ 1099511627776) : -1099511627776 ≤ V.unzig x ∧ V.unzig x ≤ 1099511627776 := by
  unfold V.unzig; split <;> omega
theorem vq_get_le (l : List UInt8) (n : Int) (k : Nat) (h : V.get l = some (n, k)) : -1099511627776 ≤ n ∧ n ≤ 1099511627776 := by
  unfold V.get at h
  split at h
  · exact absurd h (by simp)
  · split at h
    · rename_i ds _ hf
      simp only [Option.some.injEq, Prod.mk.injEq] at h
      obtain ⟨rfl, rfl⟩ := h
      simp only [V.fine, Bool.and_eq_true, decide_eq_true_eq] at hf
      exact vq_unzig_le _ hf.1.2
    · exact absurd h (by simp)
/-- What stands at a place: the number, the place behind it, and whether there is one. -/
def rd (t : List UInt8) (a : Int) : Int × Int × Bool := V.gN a (V.getAt t a)
theorem rd_le (t : List UInt8) (a : Int) : -1099511627776 ≤ (rd t a).1 ∧ (rd t a).1 ≤ 1099511627776 := by
  unfold rd
  cases h : V.getAt t a with
  | none => simp [V.gN]
  | some p =>
    obtain ⟨n, k⟩ := p
    unfold V.getAt at h
    split at h
    · exact absurd h (by simp)
    · simpa [V.gN] using vq_get_le _ _ _ h
def nth4 (m : S4) (k : Nat) : Int := if k = 0 then m.1 else if k = 1 then m.2.1 else if k = 2 then m.2.2.1 else m.2.2.2
def put4 (m : S4) (k : Nat) (v : Int) : S4 := if k = 0 then (v, m.2) else if k = 1 then (m.1, v, m.2.2) else if k = 2 then (m.1, m.2.1, v, m.2.2.2) else (m.1, m.2.1, m.2.2.1, v)
/-- The four numbers and the place, when k of them are read. -/
def segSt (t : List UInt8) (s : S4) : Nat → Option (S4 × Int)
  | 0 => some ((s.2.1, 0, s.2.2.1, s.2.2.2), 0)
  | k + 1 => match segSt t s k with
    | none => none
    | some (m, a) => if (rd t a).2.2 = true ∧ 0 ≤ nth4 m k + (rd t a).1 ∧ nth4 m k + (rd t a).1 ≤ 1073741824 then some (put4 m k (nth4 m k + (rd t a).1), (rd t a).2.1) else none
def segV (t : List UInt8) (s : S4) : S4 × Bool := match segSt t s 4 with
  | none => ((0, 0, 0, 0), false)
  | some (m, a) => ((s.1, m.1, m.2.2.1, m.2.2.2), a == (t.length : Int) && m.2.1 == 0)
theorem segSt_none (t : List UInt8) (s : S4) (k : Nat) (h : segSt t s k = none) (j : Nat) : segSt t s (k + j) = none := by
  induction j with
  | zero => exact h
  | succ j ih => show segSt t s (k + j + 1) = none; unfold segSt; rw [ih]
theorem segSt_go (t : List UInt8) (s m : S4) (a : Int) (k : Nat) (h : segSt t s k = some (m, a)) (h1 : (rd t a).2.2 = true) (h2 : 0 ≤ nth4 m k + (rd t a).1) (h3 : nth4 m k + (rd t a).1 ≤ 1073741824) :
    segSt t s (k + 1) = some (put4 m k (nth4 m k + (rd t a).1), (rd t a).2.1) := by
  rw [segSt, h]; simp only; rw [if_pos ⟨h1, h2, h3⟩]
theorem segSt_no (t : List UInt8) (s m : S4) (a : Int) (k : Nat) (hk : k < 4) (h : segSt t s k = some (m, a)) (hb : ¬ ((rd t a).2.2 = true ∧ 0 ≤ nth4 m k + (rd t a).1 ∧ nth4 m k + (rd t a).1 ≤ 1073741824)) :
    segV t s = ((0, 0, 0, 0), false) := by
  have h1 : segSt t s (k + 1) = none := by rw [segSt, h]; simp only; rw [if_neg hb]
  have h2 := segSt_none t s (k + 1) h1 (3 - k)
  rw [show k + 1 + (3 - k) = 4 by omega] at h2
  unfold segV; rw [h2]
theorem segV_yes (t : List UInt8) (s m : S4) (a : Int) (h : segSt t s 4 = some (m, a)) : segV t s = ((s.1, m.1, m.2.2.1, m.2.2.2), a == (t.length : Int) && m.2.1 == 0) := by
  unfold segV; rw [h]
/-- Four numbers in range. -/
def B4 (m : S4) : Prop := (0 ≤ m.1 ∧ m.1 ≤ 1073741824) ∧ (0 ≤ m.2.1 ∧ m.2.1 ≤ 1073741824) ∧ (0 ≤ m.2.2.1 ∧ m.2.2.1 ≤ 1073741824) ∧ (0 ≤ m.2.2.2 ∧ m.2.2.2 ≤ 1073741824)
theorem put4_b (m : S4) (k : Nat) (v : Int) (h : B4 m) (h1 : 0 ≤ v) (h2 : v ≤ 1073741824) : B4 (put4 m k v) := by
  obtain ⟨a, b, c, d⟩ := h
  unfold put4
  split
  · exact ⟨⟨h1, h2⟩, b, c, d⟩
  · split
    · exact ⟨a, ⟨h1, h2⟩, c, d⟩
    · split
      · exact ⟨a, b, ⟨h1, h2⟩, d⟩
      · exact ⟨a, b, c, ⟨h1, h2⟩⟩
end Go.Proofs.YtpfbhdkljcjhlaaDoor.M
