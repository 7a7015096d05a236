/- Plain numbers and lists: the token with which bytes begin, as the reference finds it: signs one by one, words one by one. -/
import Derived.Test.YtakgkdgielkieaaDoorQMath5
namespace Go.Proofs.YtakgkdgielkieaaDoor.M
open Go.Lib
set_option linter.unusedVariables false
set_option linter.unusedSimpArgs false

def sgn6 : List UInt8 := [123, 125, 91, 93, 58, 44]
def sgK (c : UInt8) : Nat → Nat
  | 0 => 0
  | k + 1 => if sgn6.getD k 0 = c then k + 1 else sgK c k
def sgT (c : UInt8) (i : Nat) : Nat → Int
  | 0 => -1
  | k + 1 => if sgn6.getD k 0 = c then (i : Int) + 1 else sgT c i k
def wds (k : Nat) : List UInt8 := [tru, fls, nul].getD k []
def wOk (s : List UInt8) (k : Nat) : Bool := decide (s.take (wds k).length = wds k) && !goB (s.getD (wds k).length 0)
def wK (s : List UInt8) (K : Nat) : Nat → Nat
  | 0 => K
  | k + 1 => if wOk s k = true then 9 + k else wK s K k
def wT (s : List UInt8) (i : Nat) (T : Int) : Nat → Int
  | 0 => T
  | k + 1 => if wOk s k = true then ((i + (wds k).length : Nat) : Int) else wT s i T k
theorem take_head (s : List UInt8) (n : Nat) (h : 0 < n) : (s.take n).getD 0 0 = s.getD 0 0 := by
  simp only [List.getD]; rw [List.getElem?_take_of_lt h]
theorem wOk_head (s : List UInt8) (k : Nat) (hk : k < 3) (h : s.getD 0 0 ≠ (wds k).getD 0 0) : wOk s k = false := by
  unfold wOk
  rw [Bool.and_eq_false_iff]
  left
  rw [decide_eq_false_iff_not]
  intro e
  apply h
  have hl : 0 < (wds k).length := by
    have : k = 0 ∨ k = 1 ∨ k = 2 := by omega
    rcases this with rfl | rfl | rfl <;> decide
  rw [← take_head s _ hl, e]
theorem wOk_word (s : List UInt8) (k q : Nat) : (wOk s k = true → wordL (wds k) s q = some (q, (wds k).length)) ∧ (wOk s k = false → wordL (wds k) s q = none) := by
  unfold wOk wordL
  constructor
  · intro h
    rw [Bool.and_eq_true, decide_eq_true_eq, Bool.not_eq_true'] at h
    rw [if_pos h]
  · intro h
    rw [if_neg]
    rintro ⟨h1, h2⟩
    rw [h2] at h
    simp only [Bool.not_false, Bool.and_true, decide_eq_false_iff_not] at h
    exact h h1
theorem tok_other (s : List UInt8) (i : Nat) (c : UInt8) (hc : s.getD 0 0 = c) (h34 : c ≠ 34) (h45 : c ≠ 45) (hd : dgB c = false) :
    (∃ k m, tokL s = some (k, m) ∧ wK s (sgK c 6) 3 = k ∧ wT s i (sgT c i 6) 3 = ((i + m : Nat) : Int)) ∨ (tokL s = none ∧ wT s i (sgT c i 6) 3 = -1) := by
  have hw : ∀ k, k < 3 → c ≠ (wds k).getD 0 0 → wOk s k = false := fun k hk h => wOk_head s k hk (by rw [hc]; exact h)
  have w0 : (wds 0).getD 0 0 = 116 := rfl
  have w1 : (wds 1).getD 0 0 = 102 := rfl
  have w2 : (wds 2).getD 0 0 = 110 := rfl
  have x0 := hw 0 (by omega)
  have x1 := hw 1 (by omega)
  have x2 := hw 2 (by omega)
  rw [w0] at x0
  rw [w1] at x1
  rw [w2] at x2
  have hns : ∀ c : UInt8, c ≠ 123 → c ≠ 125 → c ≠ 91 → c ≠ 93 → c ≠ 58 → c ≠ 44 → sgK c 6 = 0 ∧ sgT c i 6 = -1 := by
    intro c a1 a2 a3 a4 a5 a6
    simp only [sgK, sgT, sgn6, List.getD_cons_zero, List.getD_cons_succ]
    rw [if_neg (Ne.symm a6), if_neg (Ne.symm a5), if_neg (Ne.symm a4), if_neg (Ne.symm a3), if_neg (Ne.symm a2), if_neg (Ne.symm a1), if_neg (Ne.symm a6), if_neg (Ne.symm a5), if_neg (Ne.symm a4), if_neg (Ne.symm a3), if_neg (Ne.symm a2), if_neg (Ne.symm a1)]
    exact ⟨rfl, rfl⟩
  have sign : ∀ K : Nat, c ≠ 116 → c ≠ 102 → c ≠ 110 → wK s K 3 = K := fun K a b d => by simp only [wK, x0 a, x1 b, x2 d]; rfl
  have signT : ∀ T : Int, c ≠ 116 → c ≠ 102 → c ≠ 110 → wT s i T 3 = T := fun T a b d => by simp only [wT, x0 a, x1 b, x2 d]; rfl
  unfold tokL
  rw [hc]
  by_cases c1 : c = 123
  · subst c1; left; exact ⟨1, 1, by rw [if_pos rfl], by rw [sign _ (by decide) (by decide) (by decide)]; rfl, by rw [signT _ (by decide) (by decide) (by decide)]; simp [sgT, sgn6]⟩
  rw [if_neg c1]
  by_cases c2 : c = 125
  · subst c2; left; exact ⟨2, 1, by rw [if_pos rfl], by rw [sign _ (by decide) (by decide) (by decide)]; rfl, by rw [signT _ (by decide) (by decide) (by decide)]; simp [sgT, sgn6]⟩
  rw [if_neg c2]
  by_cases c3 : c = 91
  · subst c3; left; exact ⟨3, 1, by rw [if_pos rfl], by rw [sign _ (by decide) (by decide) (by decide)]; rfl, by rw [signT _ (by decide) (by decide) (by decide)]; simp [sgT, sgn6]⟩
  rw [if_neg c3]
  by_cases c4 : c = 93
  · subst c4; left; exact ⟨4, 1, by rw [if_pos rfl], by rw [sign _ (by decide) (by decide) (by decide)]; rfl, by rw [signT _ (by decide) (by decide) (by decide)]; simp [sgT, sgn6]⟩
  rw [if_neg c4]
  by_cases c5 : c = 58
  · subst c5; left; exact ⟨5, 1, by rw [if_pos rfl], by rw [sign _ (by decide) (by decide) (by decide)]; rfl, by rw [signT _ (by decide) (by decide) (by decide)]; simp [sgT, sgn6]⟩
  rw [if_neg c5]
  by_cases c6 : c = 44
  · subst c6; left; exact ⟨6, 1, by rw [if_pos rfl], by rw [sign _ (by decide) (by decide) (by decide)]; rfl, by rw [signT _ (by decide) (by decide) (by decide)]; simp [sgT, sgn6]⟩
  rw [if_neg c6, if_neg h34]
  obtain ⟨s1, s2⟩ := hns c c1 c2 c3 c4 c5 c6
  rw [s1, s2]
  by_cases c7 : c = 116
  · rw [if_pos c7]
    have y := wOk_word s 0 9
    have z1 := x1 (by rw [c7]; decide)
    have z2 := x2 (by rw [c7]; decide)
    cases hk : wOk s 0 with
    | true => left; exact ⟨9, _, y.1 hk, by simp only [wK, z1, z2, hk]; rfl, by simp only [wT, z1, z2, hk]; rfl⟩
    | false => right; exact ⟨y.2 hk, by simp only [wT, z1, z2, hk]; rfl⟩
  rw [if_neg c7]
  by_cases c8 : c = 102
  · rw [if_pos c8]
    have y := wOk_word s 1 10
    have z1 := x0 (by rw [c8]; decide)
    have z2 := x2 (by rw [c8]; decide)
    cases hk : wOk s 1 with
    | true => left; exact ⟨10, _, y.1 hk, by simp only [wK, z1, z2, hk]; rfl, by simp only [wT, z1, z2, hk]; rfl⟩
    | false => right; exact ⟨y.2 hk, by simp only [wT, z1, z2, hk]; rfl⟩
  rw [if_neg c8]
  by_cases c9 : c = 110
  · rw [if_pos c9]
    have y := wOk_word s 2 11
    have z1 := x0 (by rw [c9]; decide)
    have z2 := x1 (by rw [c9]; decide)
    cases hk : wOk s 2 with
    | true => left; exact ⟨11, _, y.1 hk, by simp only [wK, z1, z2, hk]; rfl, by simp only [wT, z1, z2, hk]; rfl⟩
    | false => right; exact ⟨y.2 hk, by simp only [wT, z1, z2, hk]; rfl⟩
  rw [if_neg c9]
  right
  refine ⟨?_, signT _ c7 c8 c9⟩
  unfold numL
  have hn : neg s = 0 := by unfold neg; rw [hc, if_neg h45]
  rw [hn, hc, if_neg (by rw [hd]; simp)]
  rfl
end Go.Proofs.YtakgkdgielkieaaDoor.M
