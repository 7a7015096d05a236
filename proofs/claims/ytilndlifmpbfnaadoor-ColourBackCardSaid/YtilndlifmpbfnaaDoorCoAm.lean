/- Colours: whatever token is a colour, its text in small letters is one of the spellings of it: plain. -/
import Derived.Test.YtilndlifmpbfnaaDoorCoRd0
namespace Go.Proofs.YtilndlifmpbfnaaDoor
open Go.RowKit
set_option linter.unusedVariables false
set_option linter.unusedSimpArgs false

theorem hxd_low (c : UInt8) (h : M.hexN c < 16) : M.hxd (M.hexN c : Int) = M.lowB c := by
  have : ∀ n : Fin 256, M.hexN (UInt8.ofNat n.val) < 16 → M.hxd (M.hexN (UInt8.ofNat n.val) : Int) = M.lowB (UInt8.ofNat n.val) := by decide +kernel
  have h2 := this ⟨c.toNat, c.toNat_lt⟩
  simp only [UInt8.ofNat_toNat] at h2
  exact h2 h
theorem names_mem (e : M.CE) (h : e ∈ M.ceT) : e.1 ∈ M.spellC (M.colE e) := by
  have h1 := M.ce_one e h
  unfold M.spellC
  rw [if_pos (by simp [M.numsC, M.colE, M.okN]; omega)]
  refine List.mem_append_right _ ?_
  unfold M.namesC
  exact List.mem_map.2 ⟨e, List.mem_filter.2 ⟨h, by simp⟩, rfl⟩
theorem named_plain (s : List UInt8) (c : M.C4) (h : namedV s = (c, true)) : M.lowL s ∈ M.spellC c := by
  unfold namedV at h
  cases hn : M.namedC s with
  | none => rw [hn] at h; simp at h
  | some e =>
    rw [hn] at h
    simp only [Prod.mk.injEq, and_true] at h
    subst h
    have h1 := List.mem_of_find?_eq_some hn
    have h2 := List.find?_some hn
    simp only [decide_eq_true_eq] at h2
    rw [← h2]
    exact names_mem e h1
theorem named_zero (s : List UInt8) (c : M.C4) (h : namedV s = (c, false)) : c = (0, 0, 0, 0) := by
  unfold namedV at h
  cases hn : M.namedC s with
  | none => rw [hn] at h; simpa using h.symm
  | some e => rw [hn] at h; simp at h
theorem numX_zero (s : List UInt8) (c : M.C4) (h : M.numX s = (c, false)) : c = (0, 0, 0, 0) := by
  unfold M.numX at h
  repeat' split at h
  all_goals first | (simp at h; done) | (simpa using h.symm)
theorem hexB (x y : UInt8) (hx : M.hexN x < 16) (hy : M.hexN y < 16) (v : Int) (hv : v = M.hexNum [x, y]) : M.okN v = true ∧ M.hxd (M.hi v) = M.lowB x ∧ M.hxd (M.lo v) = M.lowB y ∧ (M.hi v = M.hexN x) ∧ (M.lo v = M.hexN y) := by
  have e : v = (M.hexN x : Int) * 16 + M.hexN y := by rw [hv]; unfold M.hexNum; simp
  have h1 : M.hi v = M.hexN x := by unfold M.hi; omega
  have h2 : M.lo v = M.hexN y := by unfold M.lo; omega
  refine ⟨by unfold M.okN; simp; omega, by rw [h1]; exact hxd_low x hx, by rw [h2]; exact hxd_low y hy, h1, h2⟩
theorem short_mem (l : List Int) (c : M.C4) (hn : M.numsC c = l) (hok : l.all M.okN = true) (he : M.evenL l = true) : M.shortL l ∈ M.spellC c := by
  unfold M.spellC
  rw [hn, if_pos hok, if_pos he]
  simp
theorem long_mem (l : List Int) (c : M.C4) (hn : M.numsC c = l) (hok : l.all M.okN = true) : M.longL l ∈ M.spellC c := by
  unfold M.spellC
  rw [hn, if_pos hok]
  split <;> simp
theorem num_plain (s : List UInt8) (c : M.C4) (h : M.numX s = (c, true)) : (35 :: M.lowL s) ∈ M.spellC c ∨ (c.2.2.2 = 255 ∧ (s.length = 4 ∨ s.length = 8)) := by
  unfold M.numX at h
  split at h
  · rename_i hall
    have hx : ∀ x ∈ s, M.hexN x < 16 := fun x hx => by simpa [M.isXB] using List.all_eq_true.1 hall x hx
    split at h
    · rename_i hl
      match s, hl with
      | [x, y, z], _ =>
        simp only [Prod.mk.injEq, and_true] at h
        obtain ⟨a1, a2, a3, a4, a5⟩ := hexB x x (hx x (by simp)) (hx x (by simp)) _ (show M.valX [x, y, z] 1 0 = _ from rfl)
        obtain ⟨b1, b2, b3, b4, b5⟩ := hexB y y (hx y (by simp)) (hx y (by simp)) _ (show M.valX [x, y, z] 1 1 = _ from rfl)
        obtain ⟨c1, c2, c3, c4, c5⟩ := hexB z z (hx z (by simp)) (hx z (by simp)) _ (show M.valX [x, y, z] 1 2 = _ from rfl)
        left
        have := short_mem [M.valX [x, y, z] 1 0, M.valX [x, y, z] 1 1, M.valX [x, y, z] 1 2] c (by rw [← h]; rfl) (by simp [a1, b1, c1]) (by simp [M.evenL, a4, a5, b4, b5, c4, c5])
        simpa [M.shortL, M.lowL, a2, b2, c2] using this
    · split at h
      · rename_i hl
        match s, hl with
        | [x, y, z, u], _ =>
          simp only [Prod.mk.injEq, and_true] at h
          obtain ⟨a1, a2, a3, a4, a5⟩ := hexB x x (hx x (by simp)) (hx x (by simp)) _ (show M.valX [x, y, z, u] 1 0 = _ from rfl)
          obtain ⟨b1, b2, b3, b4, b5⟩ := hexB y y (hx y (by simp)) (hx y (by simp)) _ (show M.valX [x, y, z, u] 1 1 = _ from rfl)
          obtain ⟨c1, c2, c3, c4, c5⟩ := hexB z z (hx z (by simp)) (hx z (by simp)) _ (show M.valX [x, y, z, u] 1 2 = _ from rfl)
          obtain ⟨d1, d2, d3, d4, d5⟩ := hexB u u (hx u (by simp)) (hx u (by simp)) _ (show M.valX [x, y, z, u] 1 3 = _ from rfl)
          by_cases h255 : c.2.2.2 = 255
          · exact .inr ⟨h255, .inl rfl⟩
          · left
            have := short_mem [M.valX [x, y, z, u] 1 0, M.valX [x, y, z, u] 1 1, M.valX [x, y, z, u] 1 2, M.valX [x, y, z, u] 1 3] c (by unfold M.numsC; rw [if_neg h255, ← h]) (by simp [a1, b1, c1, d1]) (by simp [M.evenL, a4, a5, b4, b5, c4, c5, d4, d5])
            simpa [M.shortL, M.lowL, a2, b2, c2, d2] using this
      · split at h
        · rename_i hl
          match s, hl with
          | [x, x', y, y', z, z'], _ =>
            simp only [Prod.mk.injEq, and_true] at h
            obtain ⟨a1, a2, a3, a4, a5⟩ := hexB x x' (hx x (by simp)) (hx x' (by simp)) _ (show M.valX [x, x', y, y', z, z'] 2 0 = _ from rfl)
            obtain ⟨b1, b2, b3, b4, b5⟩ := hexB y y' (hx y (by simp)) (hx y' (by simp)) _ (show M.valX [x, x', y, y', z, z'] 2 1 = _ from rfl)
            obtain ⟨c1, c2, c3, c4, c5⟩ := hexB z z' (hx z (by simp)) (hx z' (by simp)) _ (show M.valX [x, x', y, y', z, z'] 2 2 = _ from rfl)
            left
            have := long_mem [M.valX [x, x', y, y', z, z'] 2 0, M.valX [x, x', y, y', z, z'] 2 1, M.valX [x, x', y, y', z, z'] 2 2] c (by rw [← h]; rfl) (by simp [a1, b1, c1])
            simpa [M.longL, M.lowL, a2, a3, b2, b3, c2, c3] using this
        · split at h
          · rename_i hl
            match s, hl with
            | [x, x', y, y', z, z', u, u'], _ =>
              simp only [Prod.mk.injEq, and_true] at h
              obtain ⟨a1, a2, a3, a4, a5⟩ := hexB x x' (hx x (by simp)) (hx x' (by simp)) _ (show M.valX [x, x', y, y', z, z', u, u'] 2 0 = _ from rfl)
              obtain ⟨b1, b2, b3, b4, b5⟩ := hexB y y' (hx y (by simp)) (hx y' (by simp)) _ (show M.valX [x, x', y, y', z, z', u, u'] 2 1 = _ from rfl)
              obtain ⟨c1, c2, c3, c4, c5⟩ := hexB z z' (hx z (by simp)) (hx z' (by simp)) _ (show M.valX [x, x', y, y', z, z', u, u'] 2 2 = _ from rfl)
              obtain ⟨d1, d2, d3, d4, d5⟩ := hexB u u' (hx u (by simp)) (hx u' (by simp)) _ (show M.valX [x, x', y, y', z, z', u, u'] 2 3 = _ from rfl)
              by_cases h255 : c.2.2.2 = 255
              · exact .inr ⟨h255, .inr rfl⟩
              · left
                have := long_mem [M.valX [x, x', y, y', z, z', u, u'] 2 0, M.valX [x, x', y, y', z, z', u, u'] 2 1, M.valX [x, x', y, y', z, z', u, u'] 2 2, M.valX [x, x', y, y', z, z', u, u'] 2 3] c (by unfold M.numsC; rw [if_neg h255, ← h]) (by simp [a1, b1, c1, d1])
                simpa [M.longL, M.lowL, a2, a3, b2, b3, c2, c3, d2, d3] using this
          · simp at h
  · simp at h
theorem val_ok1 (s : List UInt8) (h : ∀ x ∈ s, M.hexN x < 16) (i : Nat) (hi : i < s.length) : M.okN (M.valX s 1 i) = true :=
  (hexB (s.getD i 0) (s.getD i 0) (h _ (by rw [List.getD_eq_getElem?_getD, List.getElem?_eq_getElem hi]; exact List.getElem_mem _)) (h _ (by rw [List.getD_eq_getElem?_getD, List.getElem?_eq_getElem hi]; exact List.getElem_mem _)) _ rfl).1
theorem val_ok2 (s : List UInt8) (h : ∀ x ∈ s, M.hexN x < 16) (i : Nat) (hi : i * 2 + 1 < s.length) : M.okN (M.valX s 2 i) = true :=
  (hexB (s.getD (i * 2) 0) (s.getD (i * 2 + 1) 0) (h _ (by rw [List.getD_eq_getElem?_getD, List.getElem?_eq_getElem (by omega)]; exact List.getElem_mem _)) (h _ (by rw [List.getD_eq_getElem?_getD, List.getElem?_eq_getElem hi]; exact List.getElem_mem _)) _ rfl).1
theorem spell_ne (c : M.C4) (h1 : M.okN c.1 = true) (h2 : M.okN c.2.1 = true) (h3 : M.okN c.2.2.1 = true) (h4 : M.okN c.2.2.2 = true) : M.spellC c ≠ [] := by
  have := long_mem (M.numsC c) c rfl (by unfold M.numsC; split <;> simp [h1, h2, h3, h4])
  exact List.ne_nil_of_mem this
theorem num_ne (s : List UInt8) (c : M.C4) (h : M.numX s = (c, true)) : M.spellC c ≠ [] := by
  unfold M.numX at h
  split at h
  · rename_i hall
    have hx : ∀ x ∈ s, M.hexN x < 16 := fun x hx => by simpa [M.isXB] using List.all_eq_true.1 hall x hx
    have o : M.okN 255 = true := by decide
    split at h
    · simp only [Prod.mk.injEq, and_true] at h
      subst h
      exact spell_ne _ (val_ok1 s hx 0 (by omega)) (val_ok1 s hx 1 (by omega)) (val_ok1 s hx 2 (by omega)) o
    · split at h
      · simp only [Prod.mk.injEq, and_true] at h
        subst h
        exact spell_ne _ (val_ok1 s hx 0 (by omega)) (val_ok1 s hx 1 (by omega)) (val_ok1 s hx 2 (by omega)) (val_ok1 s hx 3 (by omega))
      · split at h
        · simp only [Prod.mk.injEq, and_true] at h
          subst h
          exact spell_ne _ (val_ok2 s hx 0 (by omega)) (val_ok2 s hx 1 (by omega)) (val_ok2 s hx 2 (by omega)) o
        · split at h
          · simp only [Prod.mk.injEq, and_true] at h
            subst h
            exact spell_ne _ (val_ok2 s hx 0 (by omega)) (val_ok2 s hx 1 (by omega)) (val_ok2 s hx 2 (by omega)) (val_ok2 s hx 3 (by omega))
          · simp at h
  · simp at h
theorem named_ne (s : List UInt8) (c : M.C4) (h : namedV s = (c, true)) : M.spellC c ≠ [] := List.ne_nil_of_mem (named_plain s c h)
end Go.Proofs.YtilndlifmpbfnaaDoor
