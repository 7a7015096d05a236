/- Plain numbers and lists: the two ways in which splitting ends. -/
import Derived.Test.YtakgkdgielkieaaDoorQMath3
namespace Go.Proofs.YtakgkdgielkieaaDoor.M
open Go.Lib
set_option linter.unusedVariables false
set_option linter.unusedSimpArgs false

theorem lex_err (N : Nat) : ∀ (s : List UInt8) (p e : Nat), s.length ≤ N → lexS s p = .error e → e ≤ p + s.length := by
  induction N with
  | zero => intro s p e h h2; rw [lexS_end s p (by omega)] at h2; exact absurd h2 (by simp)
  | succ N ih =>
    intro s p e h h2
    by_cases hle : s.length ≤ lead s
    · rw [lexS_end s p hle] at h2; exact absurd h2 (by simp)
    · cases ht : tokL (s.drop (lead s)) with
      | none =>
        rw [lexS_bad s p (by omega) ht] at h2
        simp only [Except.error.injEq] at h2
        omega
      | some km =>
        obtain ⟨k, m⟩ := km
        have hm := tok_le (s.drop (lead s)) (by rw [List.length_drop]; omega) k m ht
        rw [List.length_drop] at hm
        rw [lexS_in s p k m (by omega) ht] at h2
        cases hx : lexS (s.drop (lead s + m)) (p + (lead s + m)) with
        | error e' =>
          rw [hx] at h2
          simp only [Except.error.injEq] at h2
          subst h2
          have := ih _ _ _ (by rw [List.length_drop]; omega) hx
          rw [List.length_drop] at this
          omega
        | ok r => rw [hx] at h2; exact absurd h2 (by simp)
theorem cov_len (l : List UInt8) (r : Toks) : ∀ p, Cov l p r → p + r.length ≤ l.length := by
  induction r with
  | nil => intro p h; exact h.1
  | cons x r ih =>
    intro p h
    obtain ⟨h1, h2, h3, h4, h5⟩ := h
    have := ih _ h5
    simp only [List.length_cons]
    omega
theorem lex_len (l : List UInt8) (r : Toks) (h : lexS l 0 = .ok r) : r.length ≤ l.length := by
  have := cov_len l r 0 (lex_cov l.length l 0 r (by omega) (by omega) (by simpa using h))
  omega
theorem split_cases (l : List UInt8) (h : l.length ≤ 20000) : (∃ e a : Int, splitV l = ([], e, a) ∧ e ≠ 0 ∧ 0 ≤ a ∧ a ≤ l.length) ∨ (∃ r, splitV l = (r, 0, 0) ∧ lexS l 0 = .ok r ∧ (validAll l).2 = true) := by
  unfold splitV
  rw [if_neg (by omega)]
  cases hv : (validAll l).2 with
  | false =>
    left
    have := all_le l
    exact ⟨2, (validAll l).1, by rw [if_pos rfl], by decide, by omega, by omega⟩
  | true =>
    rw [if_neg (by simp)]
    cases hx : lexS l 0 with
    | error e =>
      left
      have := lex_err l.length l 0 e (Nat.le_refl _) hx
      exact ⟨3, e, rfl, by decide, by omega, by omega⟩
    | ok r => right; exact ⟨r, rfl, rfl, rfl⟩
theorem split_ok (l : List UInt8) (h : l.length ≤ 20000) (r : Toks) (h1 : lexS l 0 = .ok r) (h2 : (validAll l).2 = true) : splitV l = (r, 0, 0) := by
  unfold splitV
  rw [if_neg (by omega), if_neg (by rw [h2]; simp), h1]
end Go.Proofs.YtakgkdgielkieaaDoor.M
