/- Tokens of CSS: the program's function of one token. -/
import Derived.Test.YtilndlifmpbfnaaDoorBgT
import Derived.Test.YtilndlifmpbfnaaDoorFTk6
import Derived.Test.YtilndlifmpbfnaaDoorFTk7
namespace Go.Proofs.YtilndlifmpbfnaaDoor
open Go.RowKit
set_option linter.unusedVariables false
set_option linter.unusedSimpArgs false

theorem tk_1 (D : List Int) (h1 : M.stC [47, 42] D = true) : M.tkC D = M.tokW 1 D := by
  unfold M.tkC
  rw [show M.wayT D = 1 by unfold M.wayT; rw [if_pos h1]]
theorem tk_2 (D : List Int) (h1 : ¬ (M.stC [47, 42] D = true)) (h2 : M.isBl (D.getD 0 (-1)) = true) : M.tkC D = M.tokW 2 D := by
  unfold M.tkC
  rw [show M.wayT D = 2 by unfold M.wayT; rw [if_neg h1, if_pos h2]]
theorem tk_3 (D : List Int) (h1 : ¬ (M.stC [47, 42] D = true)) (h2 : ¬ (M.isBl (D.getD 0 (-1)) = true)) (h3 : D.getD 0 (-1) = 34 ∨ D.getD 0 (-1) = 39) : M.tkC D = M.tokW 3 D := by
  unfold M.tkC
  rw [show M.wayT D = 3 by unfold M.wayT; rw [if_neg h1, if_neg h2, if_pos h3]]
theorem tk_4 (D : List Int) (h1 : ¬ (M.stC [47, 42] D = true)) (h2 : ¬ (M.isBl (D.getD 0 (-1)) = true)) (h3 : ¬ (D.getD 0 (-1) = 34 ∨ D.getD 0 (-1) = 39)) (h4 : D.getD 0 (-1) = 35 ∧ M.inNm (D.drop 1) = true) : M.tkC D = M.tokW 4 D := by
  unfold M.tkC
  rw [show M.wayT D = 4 by unfold M.wayT; rw [if_neg h1, if_neg h2, if_neg h3, if_pos h4]]
theorem tk_5 (D : List Int) (h1 : ¬ (M.stC [47, 42] D = true)) (h2 : ¬ (M.isBl (D.getD 0 (-1)) = true)) (h3 : ¬ (D.getD 0 (-1) = 34 ∨ D.getD 0 (-1) = 39)) (h4 : ¬ (D.getD 0 (-1) = 35 ∧ M.inNm (D.drop 1) = true)) (h5 : M.numB D = true) : M.tkC D = M.tokW 5 D := by
  unfold M.tkC
  rw [show M.wayT D = 5 by unfold M.wayT; rw [if_neg h1, if_neg h2, if_neg h3, if_neg h4, if_pos h5]]
theorem tk_6 (D : List Int) (h1 : ¬ (M.stC [47, 42] D = true)) (h2 : ¬ (M.isBl (D.getD 0 (-1)) = true)) (h3 : ¬ (D.getD 0 (-1) = 34 ∨ D.getD 0 (-1) = 39)) (h4 : ¬ (D.getD 0 (-1) = 35 ∧ M.inNm (D.drop 1) = true)) (h5 : ¬ (M.numB D = true)) (h6 : M.stC [45, 45, 62] D = true) : M.tkC D = M.tokW 6 D := by
  unfold M.tkC
  rw [show M.wayT D = 6 by unfold M.wayT; rw [if_neg h1, if_neg h2, if_neg h3, if_neg h4, if_neg h5, if_pos h6]]
theorem tk_7 (D : List Int) (h1 : ¬ (M.stC [47, 42] D = true)) (h2 : ¬ (M.isBl (D.getD 0 (-1)) = true)) (h3 : ¬ (D.getD 0 (-1) = 34 ∨ D.getD 0 (-1) = 39)) (h4 : ¬ (D.getD 0 (-1) = 35 ∧ M.inNm (D.drop 1) = true)) (h5 : ¬ (M.numB D = true)) (h6 : ¬ (M.stC [45, 45, 62] D = true)) (h7 : M.stC [60, 33, 45, 45] D = true) : M.tkC D = M.tokW 7 D := by
  unfold M.tkC
  rw [show M.wayT D = 7 by unfold M.wayT; rw [if_neg h1, if_neg h2, if_neg h3, if_neg h4, if_neg h5, if_neg h6, if_pos h7]]
theorem tk_8 (D : List Int) (h1 : ¬ (M.stC [47, 42] D = true)) (h2 : ¬ (M.isBl (D.getD 0 (-1)) = true)) (h3 : ¬ (D.getD 0 (-1) = 34 ∨ D.getD 0 (-1) = 39)) (h4 : ¬ (D.getD 0 (-1) = 35 ∧ M.inNm (D.drop 1) = true)) (h5 : ¬ (M.numB D = true)) (h6 : ¬ (M.stC [45, 45, 62] D = true)) (h7 : ¬ (M.stC [60, 33, 45, 45] D = true)) (h8 : M.begN D = true) : M.tkC D = M.tokW 8 D := by
  unfold M.tkC
  rw [show M.wayT D = 8 by unfold M.wayT; rw [if_neg h1, if_neg h2, if_neg h3, if_neg h4, if_neg h5, if_neg h6, if_neg h7, if_pos h8]]
theorem tk_9 (D : List Int) (h1 : ¬ (M.stC [47, 42] D = true)) (h2 : ¬ (M.isBl (D.getD 0 (-1)) = true)) (h3 : ¬ (D.getD 0 (-1) = 34 ∨ D.getD 0 (-1) = 39)) (h4 : ¬ (D.getD 0 (-1) = 35 ∧ M.inNm (D.drop 1) = true)) (h5 : ¬ (M.numB D = true)) (h6 : ¬ (M.stC [45, 45, 62] D = true)) (h7 : ¬ (M.stC [60, 33, 45, 45] D = true)) (h8 : ¬ (M.begN D = true)) (h9 : D.getD 0 (-1) = 64 ∧ M.begN (D.drop 1) = true) : M.tkC D = M.tokW 9 D := by
  unfold M.tkC
  rw [show M.wayT D = 9 by unfold M.wayT; rw [if_neg h1, if_neg h2, if_neg h3, if_neg h4, if_neg h5, if_neg h6, if_neg h7, if_neg h8, if_pos h9]]
theorem tk_10 (D : List Int) (h1 : ¬ (M.stC [47, 42] D = true)) (h2 : ¬ (M.isBl (D.getD 0 (-1)) = true)) (h3 : ¬ (D.getD 0 (-1) = 34 ∨ D.getD 0 (-1) = 39)) (h4 : ¬ (D.getD 0 (-1) = 35 ∧ M.inNm (D.drop 1) = true)) (h5 : ¬ (M.numB D = true)) (h6 : ¬ (M.stC [45, 45, 62] D = true)) (h7 : ¬ (M.stC [60, 33, 45, 45] D = true)) (h8 : ¬ (M.begN D = true)) (h9 : ¬ (D.getD 0 (-1) = 64 ∧ M.begN (D.drop 1) = true)) : M.tkC D = M.tokW 10 D := by
  unfold M.tkC
  rw [show M.wayT D = 10 by unfold M.wayT; rw [if_neg h1, if_neg h2, if_neg h3, if_neg h4, if_neg h5, if_neg h6, if_neg h7, if_neg h8, if_neg h9]]
end Go.Proofs.YtilndlifmpbfnaaDoor
