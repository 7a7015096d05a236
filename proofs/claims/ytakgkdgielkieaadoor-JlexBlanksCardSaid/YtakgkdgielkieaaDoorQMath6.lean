/- Plain numbers and lists: two texts with a blank between, split. -/
import Derived.Test.YtakgkdgielkieaaDoorQMath5
namespace Go.Proofs.YtakgkdgielkieaaDoor.M
open Go.Lib
set_option linter.unusedVariables false
set_option linter.unusedSimpArgs false

theorem cov_mem (l : List UInt8) (r : Toks) : ∀ p, Cov l p r → ∀ j (hj : j < r.length), r[j].2.1 ≤ l.length ∧ r[j].2.2 ≤ l.length := by
  induction r with
  | nil => intro p h j hj; simp at hj
  | cons x r ih =>
    intro p h j hj
    obtain ⟨h1, h2, h3, h4, h5⟩ := h
    cases j with
    | zero => simp; omega
    | succ j => simpa using ih _ h5 j (by simpa using hj)
theorem lex_mem (l : List UInt8) (r : Toks) (h : lexS l 0 = .ok r) : ∀ j (hj : j < r.length), r[j].2.1 ≤ l.length ∧ r[j].2.2 ≤ l.length :=
  cov_mem l r 0 (lex_cov l.length l 0 r (by omega) (by omega) (by simpa using h))
def shiftT (d : Nat) (ts : Toks) : Toks := ts.map fun x => (x.1, x.2.1 + d, x.2.2 + d)
theorem split_join (l k : List UInt8) (a b : Toks) (hl : l.length ≤ 200) (hk : k.length ≤ 200) (h1 : lexS l 0 = .ok a) (v1 : (validAll l).2 = true) (h2 : lexS k 0 = .ok b) (v2 : (validAll k).2 = true) :
    splitV (l ++ 32 :: k) = (a ++ shiftT (l.length + 1) b, 0, 0) := by
  apply split_ok
  · simp only [List.length_append, List.length_cons]; omega
  · have := lex_shift k 0 (l.length + 1) b h2
    exact lex_join l.length l k 0 a _ (Nat.le_refl _) h1 (by rw [show 0 + l.length + 1 = 0 + (l.length + 1) by omega]; exact this)
  · rw [join_good l (32 :: k) v1]
    rw [valid_ascii (32 :: k) (by simp) (by simp)]
    simpa using v2
theorem shift_len (d : Nat) (ts : Toks) : (shiftT d ts).length = ts.length := by simp [shiftT]
theorem join_left (a : Toks) (d : Nat) (b : Toks) (i : Nat) (h : i < a.length) (h2 : i < (a ++ shiftT d b).length) : (a ++ shiftT d b)[i] = a[i] := List.getElem_append_left h
theorem join_right (a : Toks) (d : Nat) (b : Toks) (i : Nat) (h : ¬ i < a.length) (h2 : i < (a ++ shiftT d b).length) (h3 : i - a.length < b.length) : (a ++ shiftT d b)[i] = (b[i - a.length].1, b[i - a.length].2.1 + d, b[i - a.length].2.2 + d) := by
  rw [List.getElem_append_right (by omega)]
  simp [shiftT]
end Go.Proofs.YtakgkdgielkieaaDoor.M
