/- Plain numbers and lists: the tokens of a text as texts of their own; where they stand when they are put together anew. -/
import Derived.Test.YtakgkdgielkieaaDoorQMath9
namespace Go.Proofs.YtakgkdgielkieaaDoor
open Go.Lib
set_option linter.unusedVariables false
set_option linter.unusedSimpArgs false

theorem lex_each (N : Nat) (l : List UInt8) : ∀ (p : Nat) (r : M.Toks), p ≤ l.length → l.length ≤ p + N → Okv l p → M.lexS (l.drop p) p = .ok r → ∀ x ∈ r, M.tokL (l.drop x.2.1) = some (x.1, x.2.2 - x.2.1) ∧ Okv l x.2.1 ∧ x.2.1 < x.2.2 ∧ x.2.2 ≤ l.length := by
  induction N with
  | zero =>
    intro p r h1 h2 hv h
    rw [M.lexS_end _ _ (by simp; omega)] at h
    simp only [Except.ok.injEq] at h
    subst h
    intro x hx; simp at hx
  | succ N ih =>
    intro p r h1 h2 hv h
    by_cases hle : (l.drop p).length ≤ M.lead (l.drop p)
    · rw [M.lexS_end _ _ hle] at h
      simp only [Except.ok.injEq] at h
      subst h
      intro x hx; simp at hx
    · have hlt : M.lead (l.drop p) < (l.drop p).length := by omega
      have hv1 : Okv l (p + M.lead (l.drop p)) := by
        refine okv_ascii l p _ (by rw [List.length_drop] at hlt; omega) (fun j hj => ?_) hv
        have := M.lead_bl (l.drop p) j hj
        rw [M.drop_getD] at this
        exact (M.bl_go _ this).2
      cases ht : M.tokL ((l.drop p).drop (M.lead (l.drop p))) with
      | none => rw [M.lexS_bad _ p hlt ht] at h; exact absurd h (by simp)
      | some km =>
        obtain ⟨k, m⟩ := km
        have hm := M.tok_le ((l.drop p).drop (M.lead (l.drop p))) (by rw [List.length_drop]; omega) k m ht
        have hm1 := hm.1
        have hm2 : p + (M.lead (l.drop p) + m) ≤ l.length := by
          have h3 := hm.2.1
          have h4 := hlt
          rw [List.length_drop] at h3 h4
          rw [List.length_drop] at h3
          omega
        have ht2 := ht
        rw [List.drop_drop] at ht2
        have hv2 := tok_okv l (p + M.lead (l.drop p)) k m (by omega) hv1 ht2
        rw [M.lexS_in _ p k m hlt ht, List.drop_drop] at h
        cases hx : M.lexS (l.drop (p + (M.lead (l.drop p) + m))) (p + (M.lead (l.drop p) + m)) with
        | error e => rw [hx] at h; exact absurd h (by simp)
        | ok q =>
          rw [hx] at h
          simp only [Except.ok.injEq] at h
          subst h
          intro x hxm
          rcases List.mem_cons.1 hxm with rfl | hxm
          · simp only
            refine ⟨?_, hv1, by omega, hm2⟩
            rw [ht2, show p + (M.lead (l.drop p) + m) - (p + M.lead (l.drop p)) = m by omega]
          · exact ih (p + (M.lead (l.drop p) + m)) q hm2 (by omega) (by rw [← Nat.add_assoc]; exact hv2) hx x hxm
/-- The tokens of a text as texts of their own. -/
def tlOf (l : List UInt8) (r : M.Toks) : M.TL := r.map fun x => (x.1, (l.drop x.2.1).take (x.2.2 - x.2.1))
theorem tlOf_good (l : List UInt8) (r : M.Toks) (hv : (M.validAll l).2 = true) (h : M.lexS l 0 = .ok r) : ∀ x ∈ tlOf l r, M.GoodT x := by
  intro x hx
  obtain ⟨y, hy, rfl⟩ := List.mem_map.1 hx
  obtain ⟨h1, h2, h3, h4⟩ := lex_each l.length l 0 r (by omega) (by omega) (by unfold Okv; simpa using hv) (by simpa using h) y hy
  exact tok_take (l.drop y.2.1) y.1 _ (by rw [List.length_drop]; omega) h2 h1
theorem tlOf_len (l : List UInt8) (r : M.Toks) : (tlOf l r).length = r.length := by simp [tlOf]
theorem pos_len (P : Nat → List UInt8) (r : M.TL) : ∀ j p, (M.pos P j p r).length = r.length := by
  induction r with
  | nil => intro j p; rfl
  | cons x r ih => intro j p; unfold M.pos; simp [ih]
/-- Each token stands where it was put. -/
theorem pos_at (P : Nat → List UInt8) (r : M.TL) : ∀ (j : Nat) (pre : List UInt8) (i : Nat) (h : i < r.length) (h2 : i < (M.pos P j pre.length r).length),
    (M.pos P j pre.length r)[i].1 = r[i].1 ∧ (M.pos P j pre.length r)[i].2.1 ≤ (M.pos P j pre.length r)[i].2.2 ∧ (M.pos P j pre.length r)[i].2.2 ≤ (pre ++ M.bld P j r).length ∧
    ((pre ++ M.bld P j r).drop (M.pos P j pre.length r)[i].2.1).take ((M.pos P j pre.length r)[i].2.2 - (M.pos P j pre.length r)[i].2.1) = r[i].2 := by
  induction r with
  | nil => intro j pre i h; simp at h
  | cons x r ih =>
    intro j pre i h h2
    cases i with
    | zero =>
      simp only [M.pos, List.getElem_cons_zero]
      rw [M.bld_cons]
      refine ⟨trivial, by omega, by simp only [List.length_append]; omega, ?_⟩
      have e : pre ++ (P j ++ (x.2 ++ M.bld P (j + 1) r)) = (pre ++ P j) ++ (x.2 ++ M.bld P (j + 1) r) := by simp
      rw [e, show pre.length + (P j).length = (pre ++ P j).length by simp, List.drop_left, show pre.length + ((P j).length + x.2.length) - (pre ++ P j).length = x.2.length by simp; omega, List.take_left]
    | succ i =>
      have hs := ih (j + 1) (pre ++ (P j ++ x.2)) i (by simpa using h) (by rw [pos_len]; simpa using h)
      have el : (pre ++ (P j ++ x.2)).length = pre.length + ((P j).length + x.2.length) := by simp
      have eb : pre ++ (P j ++ x.2) ++ M.bld P (j + 1) r = pre ++ M.bld P j (x :: r) := by rw [M.bld_cons]; simp
      simp only [el, eb] at hs
      simp only [M.pos, List.getElem_cons_succ]
      exact hs
end Go.Proofs.YtakgkdgielkieaaDoor
