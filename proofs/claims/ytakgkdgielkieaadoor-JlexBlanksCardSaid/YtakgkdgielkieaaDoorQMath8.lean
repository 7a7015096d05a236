/- Plain numbers and lists: tokens with blanks between them, put together and split again. -/
import Derived.Test.YtakgkdgielkieaaDoorQMath6
import Derived.Test.YtakgkdgielkieaaDoorQMath4
namespace Go.Proofs.YtakgkdgielkieaaDoor.M
open Go.Lib
set_option linter.unusedVariables false
set_option linter.unusedSimpArgs false

abbrev TL := List (Nat × List UInt8)
/-- Blanks, a token, blanks, .. and blanks behind the last one. -/
def bld (P : Nat → List UInt8) : Nat → TL → List UInt8
  | j, [] => P j
  | j, x :: r => P j ++ (x.2 ++ bld P (j + 1) r)
theorem bld_cons (P : Nat → List UInt8) (j : Nat) (x : Nat × List UInt8) (r : TL) : bld P j (x :: r) = P j ++ (x.2 ++ bld P (j + 1) r) := rfl
theorem bld_nil (P : Nat → List UInt8) (j : Nat) : bld P j [] = P j := rfl
/-- Where the tokens then stand. -/
def pos (P : Nat → List UInt8) : Nat → Nat → TL → Toks
  | _, _, [] => []
  | j, p, x :: r => (x.1, p + (P j).length, p + ((P j).length + x.2.length)) :: pos P (j + 1) (p + ((P j).length + x.2.length)) r
def GoodT (x : Nat × List UInt8) : Prop := 0 < x.2.length ∧ tokL x.2 = some (x.1, x.2.length) ∧ (validAll x.2).2 = true
/-- Two numbers or words stay apart. -/
def Adj (P : Nat → List UInt8) : Nat → TL → Prop
  | _, [] => True
  | _, [_] => True
  | j, x :: y :: r => (P (j + 1) ≠ [] ∨ x.1 ≤ 7 ∨ y.1 ≤ 6) ∧ Adj P (j + 1) (y :: r)
theorem bl_go (c : UInt8) (h : blB c = true) : goB c = false ∧ c.toNat < 128 := by
  have h0 : ∀ d : Fin 256, blB d.val.toUInt8 = true → goB d.val.toUInt8 = false ∧ d.val < 128 := by decide +kernel
  have := h0 ⟨c.toNat, c.toNat_lt⟩
  simp only at this
  rw [show c.toNat.toUInt8 = c from by apply UInt8.toNat_inj.1; rw [toU8 c.toNat c.toNat_lt]] at this
  exact this h
theorem tok_head (s : List UInt8) (k n : Nat) (h : tokL s = some (k, n)) : blB (s.getD 0 0) = false := by
  cases hb : blB (s.getD 0 0) with
  | false => rfl
  | true =>
    exfalso
    have hx : (s.getD 0 0 = 32 ∨ s.getD 0 0 = 9) ∨ s.getD 0 0 = 10 ∨ s.getD 0 0 = 13 := by
      unfold blB at hb
      simp only [Bool.or_eq_true, beq_iff_eq] at hb
      rcases hb with ((e | e) | e) | e
      · exact .inl (.inl e)
      · exact .inl (.inr e)
      · exact .inr (.inl e)
      · exact .inr (.inr e)
    have hn : numL s = none := by
      unfold numL
      have hg : neg s = 0 := by
        unfold neg
        rw [if_neg (by rcases hx with (e | e) | e | e <;> (rw [e]; decide))]
      rw [hg, if_neg (by rcases hx with (e | e) | e | e <;> (rw [e]; decide))]
    unfold tokL at h
    rw [hn] at h
    rcases hx with (e | e) | e | e <;> (rw [e] at h; simp at h)
theorem tok_sign (s : List UInt8) (k n : Nat) (h : tokL s = some (k, n)) (hk : k ≤ 6) : goB (s.getD 0 0) = false := by
  unfold tokL at h
  by_cases c1 : s.getD 0 0 = 123
  · rw [c1]; decide
  rw [if_neg c1] at h
  by_cases c2 : s.getD 0 0 = 125
  · rw [c2]; decide
  rw [if_neg c2] at h
  by_cases c3 : s.getD 0 0 = 91
  · rw [c3]; decide
  rw [if_neg c3] at h
  by_cases c4 : s.getD 0 0 = 93
  · rw [c4]; decide
  rw [if_neg c4] at h
  by_cases c5 : s.getD 0 0 = 58
  · rw [c5]; decide
  rw [if_neg c5] at h
  by_cases c6 : s.getD 0 0 = 44
  · rw [c6]; decide
  rw [if_neg c6] at h
  exfalso
  split at h
  · cases hj : jtS (s.drop 1) with
    | none => rw [hj] at h; simp at h
    | some m => rw [hj] at h; simp at h; omega
  · split at h
    · have := (wordL_le tru s 9 (by decide) k n h).1; omega
    · split at h
      · have := (wordL_le fls s 10 (by decide) k n h).1; omega
      · split at h
        · have := (wordL_le nul s 11 (by decide) k n h).1; omega
        · cases hj : numL s with
          | none => rw [hj] at h; simp at h
          | some m => rw [hj] at h; simp at h; omega
theorem getD_app (a b : List UInt8) (h : a ≠ []) : (a ++ b).getD 0 0 = a.getD 0 0 := by
  cases a with
  | nil => exact absurd rfl h
  | cons c t => rfl
theorem lead_app (p s : List UInt8) (hp : ∀ c ∈ p, blB c = true) (hs : blB (s.getD 0 0) = false) : lead (p ++ s) = p.length := by
  apply lead_of
  · intro j hj
    rw [show (p ++ s).getD j 0 = p[j] by simp [List.getD, List.getElem?_append_left hj, hj]]
    exact hp _ (List.getElem_mem hj)
  · rw [show (p ++ s).getD p.length 0 = s.getD 0 0 by simp only [List.getD]; rw [List.getElem?_append_right (Nat.le_refl _), Nat.sub_self]]
    exact hs
theorem lead_only (p : List UInt8) (hp : ∀ c ∈ p, blB c = true) : lead p = p.length := by
  have := lead_app p [] hp (by decide)
  rwa [List.append_nil] at this
theorem bld_head (P : Nat → List UInt8) (hP : ∀ j, ∀ c ∈ P j, blB c = true) (j : Nat) (r : TL) (hg : ∀ x ∈ r, GoodT x) (h : P j ≠ [] ∨ (∀ y, r.head? = some y → y.1 ≤ 6)) : goB ((bld P j r).getD 0 0) = false := by
  by_cases hne : P j = []
  · cases r with
    | nil => unfold bld; rw [hne]; decide
    | cons y r =>
      rw [bld_cons, hne, List.nil_append]
      have gy := hg y (by simp)
      have hy : y.1 ≤ 6 := by
        rcases h with h | h
        · exact absurd hne h
        · exact h y rfl
      rw [getD_app _ _ (by intro e; have g1 := gy.1; rw [e] at g1; exact absurd g1 (by simp))]
      exact tok_sign y.2 y.1 _ gy.2.1 hy
  · have hb : ∀ t, goB ((P j ++ t).getD 0 0) = false := fun t => by
      rw [getD_app _ _ hne]
      cases hp : P j with
      | nil => exact absurd hp hne
      | cons c u => exact (bl_go c (hP j c (by rw [hp]; simp))).1
    cases r with
    | nil => unfold bld; have := hb []; rwa [List.append_nil] at this
    | cons y r => rw [bld_cons]; exact hb _
theorem lex_bld (P : Nat → List UInt8) (hP : ∀ j, ∀ c ∈ P j, blB c = true) (r : TL) : ∀ (j p : Nat), (∀ x ∈ r, GoodT x) → Adj P j r → lexS (bld P j r) p = .ok (pos P j p r) := by
  induction r with
  | nil =>
    intro j p hg ha
    unfold bld pos
    exact lexS_end _ _ (by rw [lead_only _ (hP j)]; exact Nat.le_refl _)
  | cons x r ih =>
    intro j p hg ha
    have gx := hg x (by simp)
    have hg' : ∀ y ∈ r, GoodT y := fun y hy => hg y (by simp [hy])
    have ha' : Adj P (j + 1) r := by
      cases r with
      | nil => trivial
      | cons y r => exact ha.2
    have hh := tok_head x.2 _ _ gx.2.1
    have hne : x.2 ≠ [] := by intro e; have g1 := gx.1; rw [e] at g1; exact absurd g1 (by simp)
    have hld : lead (bld P j (x :: r)) = (P j).length := by
      rw [bld_cons]
      exact lead_app _ _ (hP j) (by rw [getD_app _ _ hne]; exact hh)
    have hdr : (bld P j (x :: r)).drop (P j).length = x.2 ++ bld P (j + 1) r := by rw [bld_cons]; exact List.drop_left
    have htk : tokL (x.2 ++ bld P (j + 1) r) = some (x.1, x.2.length) := by
      have hloc := tok_local x.2 (bld P (j + 1) r) x.1 x.2.length gx.1 gx.2.1 (by
        by_cases hk : x.1 ≤ 7
        · exact .inl hk
        · right
          apply bld_head P hP (j + 1) r hg'
          cases r with
          | nil => right; intro y hy; simp at hy
          | cons y r =>
            rcases ha.1 with h | h | h
            · exact .inl h
            · exact absurd h hk
            · right; intro z hz; simp at hz; subst hz; exact h)
      rwa [List.take_length] at hloc
    have hlt : lead (bld P j (x :: r)) < (bld P j (x :: r)).length := by
      rw [hld, bld_cons]; simp only [List.length_append]; have := gx.1; omega
    rw [lexS_in _ p x.1 x.2.length hlt (by rw [hld, hdr]; exact htk), hld]
    have hdr2 : (bld P j (x :: r)).drop ((P j).length + x.2.length) = bld P (j + 1) r := by
      rw [← List.drop_drop, hdr]; exact List.drop_left
    rw [hdr2, ih (j + 1) (p + ((P j).length + x.2.length)) hg' ha']
    rfl
theorem valid_blank (p : List UInt8) (hp : ∀ c ∈ p, blB c = true) : (validAll p).2 = true := by
  have := valid_asciis p.length p (Nat.le_refl _) (fun j hj => by
    rw [show p.getD j 0 = p[j] by simp [hj]]
    exact (bl_go _ (hp _ (List.getElem_mem hj))).2)
  rw [this, List.drop_length]; rfl
theorem valid_bld (P : Nat → List UInt8) (hP : ∀ j, ∀ c ∈ P j, blB c = true) (r : TL) : ∀ j, (∀ x ∈ r, GoodT x) → (validAll (bld P j r)).2 = true := by
  induction r with
  | nil => intro j hg; unfold bld; exact valid_blank _ (hP j)
  | cons x r ih =>
    intro j hg
    rw [bld_cons, join_good _ _ (valid_blank _ (hP j)), join_good _ _ (hg x (by simp)).2.2]
    exact ih (j + 1) (fun y hy => hg y (by simp [hy]))
end Go.Proofs.YtakgkdgielkieaaDoor.M
