/- Tokens of CSS: the program's function of urls. -/
import Derived.Test.YtilndlifmpbfnaaDoorBgT
namespace Go.Proofs.YtilndlifmpbfnaaDoor
open Go.RowKit
set_option linter.unusedVariables false
set_option linter.unusedSimpArgs false

theorem urlT_atx (b s : Bool) (c : List Int) (j : Nat) (hj : c.length ≤ j) : M.urlT b s (c.drop j) = (b, [], 0) := by rw [List.drop_eq_nil_of_le hj, M.urlT]
theorem urlT_atp (b s : Bool) (c : List Int) (j : Nat) (hj : j < c.length) (h : c.getD j (-1) = 41) : M.urlT b s (c.drop j) = (b, [], 1) := by
  rw [drop_cons c j hj, ← getD_lt c j hj (-1), h, M.urlT, if_pos rfl]
theorem urlT_ate (b s : Bool) (c : List Int) (j : Nat) (hj : j < c.length) (h : c.getD j (-1) ≠ 41) (he : M.esB (c.drop j) = true) (r : Int) (k : Nat) (hr : M.escV (c.drop (j + 1)) = (r, k)) :
    M.urlT b s (c.drop j) = ((M.urlT (b || s) s (c.drop (j + 1 + k))).1, r :: (M.urlT (b || s) s (c.drop (j + 1 + k))).2.1, 1 + k + (M.urlT (b || s) s (c.drop (j + 1 + k))).2.2) := by
  rw [drop_cons c j hj] at he ⊢
  rw [M.urlT, if_neg (by rw [← getD_lt c j hj (-1)]; exact h), if_pos he, hr, List.drop_drop]
theorem urlT_atb (b s : Bool) (c : List Int) (j : Nat) (hj : j < c.length) (h : c.getD j (-1) ≠ 41) (he : M.esB (c.drop j) = false) (hb : M.isBl (c.getD j (-1)) = true) :
    M.urlT b s (c.drop j) = ((M.urlT b true (c.drop (j + 1))).1, (M.urlT b true (c.drop (j + 1))).2.1, 1 + (M.urlT b true (c.drop (j + 1))).2.2) := by
  rw [drop_cons c j hj] at he ⊢
  rw [getD_lt c j hj] at h hb
  rw [M.urlT, if_neg h, if_neg (by rw [he]; simp), if_pos hb]
theorem urlT_ato (b s : Bool) (c : List Int) (j : Nat) (hj : j < c.length) (h : c.getD j (-1) ≠ 41) (he : M.esB (c.drop j) = false) (hb : M.isBl (c.getD j (-1)) = false) :
    M.urlT b s (c.drop j) = ((M.urlT (b || s || !M.inU (c.getD j (-1))) s (c.drop (j + 1))).1, c.getD j (-1) :: (M.urlT (b || s || !M.inU (c.getD j (-1))) s (c.drop (j + 1))).2.1, 1 + (M.urlT (b || s || !M.inU (c.getD j (-1))) s (c.drop (j + 1))).2.2) := by
  rw [drop_cons c j hj] at he ⊢
  rw [getD_lt c j hj] at h hb ⊢
  rw [M.urlT, if_neg h, if_neg (by rw [he]; simp), if_neg (by rw [hb]; simp)]
/-- What is known of a url on the way. -/
def UtAt (c : List Int) (i j : Nat) (pre : List Int) (b s : Bool) : Prop :=
  M.urlT false false (c.drop i) = ((M.urlT b s (c.drop j)).1, pre ++ (M.urlT b s (c.drop j)).2.1, (j - i) + (M.urlT b s (c.drop j)).2.2) ∧ i ≤ j
theorem UtAt.go {c : List Int} {i j : Nat} {pre : List Int} {b s : Bool} (h : UtAt c i j pre b s) (m : Nat) (a : List Int) (b' s' : Bool) (e : M.urlT b s (c.drop j) = ((M.urlT b' s' (c.drop (j + m))).1, a ++ (M.urlT b' s' (c.drop (j + m))).2.1, m + (M.urlT b' s' (c.drop (j + m))).2.2)) : UtAt c i (j + m) (pre ++ a) b' s' := by
  obtain ⟨h1, h2⟩ := h
  refine ⟨?_, by omega⟩
  rw [h1, e]
  simp
  omega
end Go.Proofs.YtilndlifmpbfnaaDoor
