/- Several texts of ours in one: FSmall FLoop FNumB. -/
import Derived.Test.YtilndlifmpbfnaaDoorBgE
import Derived.Test.YtilndlifmpbfnaaDoorBgD
import Derived.Deep.QuietTactic
import Derived.BigQuiet
/- Tokens of CSS: the program's small functions of one place. -/
namespace Go.Proofs.YtilndlifmpbfnaaDoor
open Go.RowKit
set_option linter.unusedVariables false
set_option linter.unusedSimpArgs false

theorem getD_end (c : List Int) (n i : Nat) (hn : c.length = n) (h : n ≤ i) : c.getD i (-1) = -1 := by simp [List.getD, List.getElem?_eq_none (show c.length ≤ i by omega)]
/-- What a walk wants of a place: nothing there, or its cell. -/
theorem lc_at {w : World} {v : Value} {c : List Int} (hv : Lc w v c) {n : Nat} (hn : c.length = n) : ∃ a cap, v = .slice a n cap ∧ n ≤ cap ∧ cap ≤ maxLen ∧ ∀ i, i < n → ∃ b off, a = some ⟨b, off, none⟩ ∧ b < w.heap.size ∧ w.cell? ⟨b, off + i * 2, none⟩ = some (.int .i64 (c.getD i (-1))) := by
  obtain ⟨a, cap, rfl, h1, h2, h3⟩ := hv
  subst hn
  refine ⟨a, cap, rfl, h1, h2, fun i hi => ?_⟩
  obtain ⟨b, off, rfl, hb, hc⟩ := h3 (by omega)
  exact ⟨b, off, rfl, hb, hc i hi⟩
end Go.Proofs.YtilndlifmpbfnaaDoor

/- Tokens of CSS: the program's functions that run along code points. -/
namespace Go.Proofs.YtilndlifmpbfnaaDoor
open Go.RowKit
set_option linter.unusedVariables false
set_option linter.unusedSimpArgs false

theorem below_drewNF {B : Nat} {a w : World} (h : Below B a w) (n : Nat) : Below B a (w.drewN n) := ⟨h.os, h.tape, h.output, h.size, h.block⟩
theorem get_ofF (l : List UInt8) (S : ByteArray) (hS : bytes l = S) : S.size = l.length ∧ ∀ (j : Nat) (h : j < S.size) (h2 : j < l.length), S[j]'h = l[j] := by
  subst hS
  exact ⟨bytes_size l, fun j h h2 => rfl⟩
/-- The code points of an ASCII text. -/
def asI (s : List UInt8) : List Int := s.map fun x => (x.toNat : Int)
theorem stC_at (s c : List Int) : M.stC s c = true ↔ s.length ≤ c.length ∧ ∀ j, j < s.length → c.getD j (-1) = s.getD j 0 := by
  induction s generalizing c with
  | nil => simp [M.stC]
  | cons a t ih =>
    cases c with
    | nil => simp [M.stC]
    | cons b u =>
      have e : M.stC (a :: t) (b :: u) = (a == b && M.stC t u) := rfl
      rw [e, Bool.and_eq_true, ih, beq_iff_eq]
      constructor
      · rintro ⟨rfl, h1, h2⟩
        refine ⟨by simpa using h1, fun j hj => ?_⟩
        cases j with
        | zero => rfl
        | succ j => simpa using h2 j (by simpa using hj)
      · rintro ⟨h1, h2⟩
        refine ⟨by have := h2 0 (by simp); simpa using this.symm, by simpa using h1, fun j hj => ?_⟩
        have := h2 (j + 1) (by simp; omega)
        simpa using this
theorem digN_at (c : List Int) (i : Nat) (h : M.nDg (c.getD i (-1)) = true) : M.digN (c.drop i) = 1 + M.digN (c.drop (i + 1)) := by
  have hi : i < c.length := by
    rcases Nat.lt_or_ge i c.length with h1 | h1
    · exact h1
    · simp [List.getD, List.getElem?_eq_none h1, M.nDg] at h
  rw [drop_cons c i hi, M.digN_cons, if_pos (by rwa [getD_lt c i hi] at h)]
theorem digN_out (c : List Int) (i : Nat) (h : M.nDg (c.getD i (-1)) = false) : M.digN (c.drop i) = 0 := by
  by_cases hi : i < c.length
  · rw [drop_cons c i hi, M.digN_cons, if_neg (by rw [getD_lt c i hi] at h; simp [h])]
  · rw [List.drop_eq_nil_of_le (by omega)]; rfl
theorem blN_at (c : List Int) (i : Nat) (h : M.isBl (c.getD i (-1)) = true) : M.blN (c.drop i) = 1 + M.blN (c.drop (i + 1)) := by
  have hi : i < c.length := by
    rcases Nat.lt_or_ge i c.length with h1 | h1
    · exact h1
    · simp [List.getD, List.getElem?_eq_none h1, M.isBl] at h
  rw [drop_cons c i hi, M.blN_cons, if_pos (by rwa [getD_lt c i hi] at h)]
theorem blN_out (c : List Int) (i : Nat) (h : M.isBl (c.getD i (-1)) = false) : M.blN (c.drop i) = 0 := by
  by_cases hi : i < c.length
  · rw [drop_cons c i hi, M.blN_cons, if_neg (by rw [getD_lt c i hi] at h; simp [h])]
  · rw [List.drop_eq_nil_of_le (by omega)]; rfl
end Go.Proofs.YtilndlifmpbfnaaDoor

/- Tokens of CSS: where a number begins and ends. -/
namespace Go.Proofs.YtilndlifmpbfnaaDoor
open Go.RowKit
set_option linter.unusedVariables false
set_option linter.unusedSimpArgs false

theorem stC_one (r : Int) (c : List Int) (i : Nat) (hr : r ≠ -1) : M.stC [r] (c.drop i) = decide (c.getD i (-1) = r) := by
  by_cases hi : i < c.length
  · rw [drop_cons c i hi, getD_lt c i hi]
    show (r == c[i] && true) = _
    rw [Bool.and_true]
    by_cases h : c[i] = r
    · simp [h]
    · simp [h, Ne.symm h]
  · rw [List.drop_eq_nil_of_le (by omega)]
    simp [M.stC, List.getD, List.getElem?_eq_none (show c.length ≤ i by omega), Ne.symm hr]
/-- Where a number ends, by places. -/
def nE2 (c : List Int) (i : Nat) : Nat := i + M.sgN (c.drop i) + M.digN (c.drop (i + M.sgN (c.drop i)))
def nE3 (c : List Int) (k : Nat) : Nat := if M.fracB (c.drop k) = true then k + 1 + M.digN (c.drop (k + 1)) else k
def nEd (c : List Int) (k : Nat) : Nat := k + 1 + M.sgN (c.drop (k + 1))
def nE4 (c : List Int) (k : Nat) : Nat := if c.getD k (-1) = 101 ∨ c.getD k (-1) = 69 then (if M.nDg (c.getD (nEd c k) (-1)) = true then nEd c k + M.digN (c.drop (nEd c k)) else k) else k
theorem numE_at (c : List Int) (i : Nat) : i + M.numE (c.drop i) = nE4 c (nE3 c (nE2 c i)) := by
  have e1 : i + M.num1 (c.drop i) = nE2 c i := by unfold M.num1 nE2; rw [List.drop_drop]; omega
  have e2 : i + M.num2 (c.drop i) = nE3 c (nE2 c i) := by
    unfold M.num2 nE3
    rw [List.drop_drop, List.drop_drop, ← Nat.add_assoc, e1]
    split <;> omega
  unfold M.numE nE4 nEd
  rw [getD_drop, getD_drop, List.drop_drop, List.drop_drop]
  have e3 : i + (M.num2 (c.drop i) + 1) = nE3 c (nE2 c i) + 1 := by omega
  rw [e2, e3]
  have e4 : i + (M.num2 (c.drop i) + 1 + M.sgN (c.drop (nE3 c (nE2 c i) + 1))) = nE3 c (nE2 c i) + 1 + M.sgN (c.drop (nE3 c (nE2 c i) + 1)) := by omega
  rw [e4]
  split
  · split <;> omega
  · omega
theorem sgN_le1 (c : List Int) (i : Nat) : M.sgN (c.drop i) ≤ 1 := by unfold M.sgN; split <;> omega
theorem digN_lim (c : List Int) (i : Nat) : i + M.digN (c.drop i) ≤ max i c.length := by
  have := M.digN_le (c.drop i)
  rw [List.length_drop] at this; omega
end Go.Proofs.YtilndlifmpbfnaaDoor
