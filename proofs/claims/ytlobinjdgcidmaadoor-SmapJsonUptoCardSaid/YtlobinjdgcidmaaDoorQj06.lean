/- Texts of ours in one: NSign. -/
import Derived.Test.YtlobinjdgcidmaaDoorQj05
import Derived.Test.YtlobinjdgcidmaaDoorQj00
import Derived.Test.YtlobinjdgcidmaaDoorQj02
import Derived.Test.YtlobinjdgcidmaaDoorQj01
import Derived.Deep.QuietTactic
import Derived.BigQuiet
/- Numbers: a sign, and digits, cut off a text. -/
namespace Go.Proofs.YtlobinjdgcidmaaDoor
open Go.RowKit
set_option linter.unusedVariables false
set_option linter.unusedSimpArgs false

theorem ext_b (l : List UInt8) (i j : Nat) : (bytes l).extract i j = bytes ((l.drop i).take (j - i)) := by
  apply ByteArray.ext
  simp [bytes, List.extract_toArray, List.extract]
theorem ext_from (l : List UInt8) (i : Nat) : (bytes l).extract i l.length = bytes (l.drop i) := by
  rw [ext_b, List.take_of_length_le (by simp)]
theorem ext_to (l : List UInt8) (j : Nat) : (bytes l).extract 0 j = bytes (l.take j) := by
  rw [ext_b]; simp
theorem dg_get (l : List UInt8) : ∀ k, (k < (M.dg l).length → ∃ h : k < l.length, M.dig l[k] = true) ∧ (k = (M.dg l).length → ∀ h : k < l.length, M.dig l[k] = false) := by
  intro k
  have e := M.dg_rs l
  obtain ⟨D, hD⟩ : ∃ D, M.dg l = D := ⟨_, rfl⟩
  obtain ⟨R, hR⟩ : ∃ D, M.rs l = D := ⟨_, rfl⟩
  have hd := M.dg_dig l
  have hr := M.rs_head l
  rw [hD] at e hd ⊢
  rw [hR] at e hr
  subst e
  refine ⟨fun h => ⟨by simp; omega, ?_⟩, fun h hk => ?_⟩
  · rw [List.getElem_append_left h]; exact hd _ (List.getElem_mem h)
  · subst h
    rw [List.getElem_append_right (Nat.le_refl _)]
    simp only [Nat.sub_self]
    cases R with
    | nil => simp at hk
    | cons c t => exact hr c rfl
theorem dg_take (l : List UInt8) : l.take (M.dg l).length = M.dg l ∧ l.drop (M.dg l).length = M.rs l := by
  have h1 := List.take_left (l₁ := M.dg l) (l₂ := M.rs l)
  have h2 := List.drop_left (l₁ := M.dg l) (l₂ := M.rs l)
  rw [M.dg_rs l] at h1 h2
  exact ⟨h1, h2⟩
end Go.Proofs.YtlobinjdgcidmaaDoor
