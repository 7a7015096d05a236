/- Plain numbers and lists: the text that the law on blanks puts together. -/
import Derived.Test.YtakgkdgielkieaaDoorQMath10
namespace Go.Proofs.YtakgkdgielkieaaDoor
open Go.Lib
set_option linter.unusedVariables false
set_option linter.unusedSimpArgs false

def blS : List (List UInt8) := [[], [32], [9], [10], [13, 10, 32]]
/-- The blanks that a number picks. -/
def pickB (a : Nat) : List UInt8 := blS.getD (a % 5) []
def kindAt (ts : M.Toks) (i : Nat) : Nat := (ts.getD i (0, 0, 0)).1
/-- The blanks ahead of the token i: numbers and words stay apart. -/
def PB (A : Nat → Nat) (ts : M.Toks) (i : Nat) : List UInt8 := if pickB (A i) = [] ∧ 0 < i ∧ i < ts.length ∧ 7 ≤ kindAt ts (i - 1) ∧ 7 ≤ kindAt ts i then [32] else pickB (A i)
theorem pickB_bl (a : Nat) : ∀ c ∈ pickB a, M.blB c = true := by
  have h : ∀ k : Nat, k < 5 → ∀ c ∈ blS.getD k [], M.blB c = true := by decide
  exact h (a % 5) (Nat.mod_lt _ (by omega))
theorem pickB_len (a : Nat) : (pickB a).length ≤ 3 := by
  have h : ∀ k : Nat, k < 5 → (blS.getD k []).length ≤ 3 := by decide
  exact h (a % 5) (Nat.mod_lt _ (by omega))
theorem PB_bl (A : Nat → Nat) (ts : M.Toks) : ∀ j, ∀ c ∈ PB A ts j, M.blB c = true := by
  intro j c hc
  unfold PB at hc
  split at hc
  · simp at hc; subst hc; decide
  · exact pickB_bl _ c hc
theorem PB_len (A : Nat → Nat) (ts : M.Toks) (j : Nat) : (PB A ts j).length ≤ 3 := by
  unfold PB
  split
  · simp
  · exact pickB_len _
theorem adj_of (P : Nat → List UInt8) (r : M.TL) : ∀ j, (∀ i (h : i + 1 < r.length), P (j + i + 1) ≠ [] ∨ (r[i]'(by omega)).1 ≤ 7 ∨ (r[i + 1]).1 ≤ 6) → M.Adj P j r := by
  induction r with
  | nil => intro j h; trivial
  | cons x r ih =>
    intro j h
    cases r with
    | nil => trivial
    | cons y r =>
      refine ⟨by simpa using h 0 (by simp), ih (j + 1) (fun i hi => ?_)⟩
      have := h (i + 1) (by simpa using hi)
      simp only [List.getElem_cons_succ] at this
      rwa [show j + (i + 1) + 1 = j + 1 + i + 1 by omega] at this
theorem PB_adj (A : Nat → Nat) (l : List UInt8) (ts : M.Toks) : M.Adj (PB A ts) 0 (tlOf l ts) := by
  apply adj_of
  intro i hi
  rw [tlOf_len] at hi
  have e1 : ((tlOf l ts)[i]'(by rw [tlOf_len]; omega)).1 = kindAt ts i := by
    unfold tlOf kindAt
    simp [List.getD, show i < ts.length by omega]
  have e2 : ((tlOf l ts)[i + 1]'(by rw [tlOf_len]; omega)).1 = kindAt ts (i + 1) := by
    unfold tlOf kindAt
    simp [List.getD, hi]
  rw [e1, e2, Nat.zero_add]
  unfold PB
  by_cases h : pickB (A (i + 1)) = [] ∧ 0 < i + 1 ∧ i + 1 < ts.length ∧ 7 ≤ kindAt ts (i + 1 - 1) ∧ 7 ≤ kindAt ts (i + 1)
  · left; rw [if_pos h]; simp
  · rw [if_neg h]
    by_cases hp : pickB (A (i + 1)) = []
    · right
      rw [Nat.add_sub_cancel] at h
      by_cases h7 : 7 ≤ kindAt ts i
      · right
        have : ¬ 7 ≤ kindAt ts (i + 1) := fun h8 => h ⟨hp, by omega, hi, h7, h8⟩
        omega
      · left; omega
    · exact .inl hp
/-- How long it is. -/
theorem bld_len (A : Nat → Nat) (ts0 : M.Toks) (l : List UInt8) (r : M.Toks) : ∀ (j p : Nat), M.Cov l p r → (M.bld (PB A ts0) j (tlOf l r)).length + p ≤ 3 * (r.length + 1) + l.length := by
  induction r with
  | nil =>
    intro j p h
    have := PB_len A ts0 j
    have h1 := h.1
    show (PB A ts0 j).length + p ≤ _
    simp only [List.length_nil]; omega
  | cons x r ih =>
    intro j p h
    obtain ⟨h1, h2, h3, h4, h5⟩ := h
    have hi := ih (j + 1) x.2.2 h5
    have hp := PB_len A ts0 j
    show (PB A ts0 j ++ ((l.drop x.2.1).take (x.2.2 - x.2.1) ++ M.bld (PB A ts0) (j + 1) (tlOf l r))).length + p ≤ _
    simp only [List.length_append, List.length_take, List.length_drop, List.length_cons]
    omega
/-- What the law on blanks hands to Split, and what Split says of it. -/
theorem blanks_split (A : Nat → Nat) (l : List UInt8) (ts : M.Toks) (hl : l.length ≤ 300) (hv : (M.validAll l).2 = true) (h : M.lexS l 0 = .ok ts) :
    (M.bld (PB A ts) 0 (tlOf l ts)).length ≤ 1500 ∧ M.splitV (M.bld (PB A ts) 0 (tlOf l ts)) = (M.pos (PB A ts) 0 0 (tlOf l ts), 0, 0) := by
  have hc := M.lex_cov l.length l 0 ts (by omega) (by omega) (by simpa using h)
  have hlen := bld_len A ts l ts 0 0 hc
  have hn := M.lex_len l ts h
  have hg := tlOf_good l ts hv h
  refine ⟨by omega, M.split_ok _ (by omega) _ (M.lex_bld _ (PB_bl A ts) _ 0 0 hg (PB_adj A l ts)) (M.valid_bld _ (PB_bl A ts) _ 0 hg)⟩
end Go.Proofs.YtakgkdgielkieaaDoor
