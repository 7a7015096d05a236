/- RenderLines' loop over the text, plain: what lies between two line ends is a line that may be. -/
import Derived.Test.YtehofomfblfhaaaYLines
namespace Go.Proofs.Ytehofomfblfhaaa
open Go.RowKit
set_option linter.unusedVariables false
set_option linter.unusedSimpArgs false

theorem in_h (h T : List UInt8) (j : Nat) (hj : j < h.length) (c : UInt8) (hn : c ∉ h) : (h ++ T)[j]? ≠ some c := by
  rw [List.getElem?_append_left hj]
  intro e
  exact hn (List.mem_of_getElem? e)
theorem past_h (h T : List UInt8) (j : Nat) : (h ++ 10 :: T)[h.length + 1 + j]? = T[j]? := by
  rw [List.getElem?_append_right (by omega), show h.length + 1 + j - h.length = j + 1 by omega, List.getElem?_cons_succ]
theorem at_h (h T : List UInt8) : (h ++ 10 :: T)[h.length]? = some 10 := by
  rw [List.getElem?_append_right (Nat.le_refl _), Nat.sub_self, List.getElem?_cons_zero]
theorem whole_ok (w : Nat) (h T : List UInt8) (ho : okL w h) : h.length - 0 ≤ w ∨ ∀ j, 0 ≤ j → j < h.length → (h ++ T)[j]? ≠ some 32 := by
  rcases ho.2 with e | e
  · exact .inl (by omega)
  · exact .inr fun j _ hj => in_h h T j hj 32 e
theorem seg_ok (w : Nat) : ∀ (ls : List (List UInt8)) (h : List UInt8), okL w h → (∀ l ∈ ls, okL w l) → ∀ a i, a ≤ i → i ≤ (h ++ tlL ls).length → (a = 0 ∨ (0 < a ∧ (h ++ tlL ls)[a - 1]? = some 10)) →
    (∀ j, a ≤ j → j < i → (h ++ tlL ls)[j]? ≠ some 10) → (i = (h ++ tlL ls).length ∨ (h ++ tlL ls)[i]? = some 10) →
    i - a ≤ w ∨ ∀ j, a ≤ j → j < i → (h ++ tlL ls)[j]? ≠ some 32 := by
  intro ls
  induction ls with
  | nil =>
    intro h ho _ a i hai hi ha hno hend
    have e : h ++ tlL [] = h := by simp [tlL]
    have ha0 : a = 0 := by
      rcases ha with e0 | ⟨e0, e1⟩
      · exact e0
      · rw [e] at e1 hi
        exact absurd (List.mem_of_getElem? e1) ho.1
    have hi0 : i = h.length := by
      rcases hend with e0 | e1
      · rw [e] at e0; exact e0
      · rw [e] at e1
        exact absurd (List.mem_of_getElem? e1) ho.1
    subst ha0
    subst hi0
    exact whole_ok w h _ ho
  | cons l ls ih =>
    intro h ho hl a i hai hi ha hno hend
    have e : h ++ tlL (l :: ls) = h ++ 10 :: (l ++ tlL ls) := by simp [tlL]
    rw [e] at hi ha hno hend ⊢
    have hlen : (h ++ 10 :: (l ++ tlL ls)).length = h.length + 1 + (l ++ tlL ls).length := by simp only [List.length_append, List.length_cons]; omega
    rw [hlen] at hi hend
    by_cases hb : a ≤ h.length
    · have ha0 : a = 0 := by
        rcases ha with e0 | ⟨e0, e1⟩
        · exact e0
        · exact absurd e1 (in_h h _ (a - 1) (by omega) 10 ho.1)
      have h1 : i ≤ h.length := by
        by_cases h2 : i ≤ h.length
        · exact h2
        · exact absurd (at_h h _) (hno h.length hb (by omega))
      have hi0 : i = h.length := by
        rcases hend with e0 | e1
        · omega
        · by_cases h2 : i = h.length
          · exact h2
          · exact absurd e1 (in_h h _ i (by omega) 10 ho.1)
      subst ha0
      rw [hi0]
      exact whole_ok w h _ ho
    · obtain ⟨b, hb2⟩ : ∃ b, a = h.length + 1 + b := ⟨a - (h.length + 1), by omega⟩
      obtain ⟨k, hk⟩ : ∃ k, i = h.length + 1 + k := ⟨i - (h.length + 1), by omega⟩
      subst hb2
      subst hk
      have r := ih l (hl l (List.mem_cons_self ..)) (fun x hx => hl x (List.mem_cons_of_mem _ hx)) b k (by omega) (by omega) ?_ ?_ ?_
      · rcases r with r | r
        · exact .inl (by omega)
        · refine .inr fun j h1 h2 => ?_
          obtain ⟨x, hx⟩ : ∃ x, j = h.length + 1 + x := ⟨j - (h.length + 1), by omega⟩
          subst hx
          rw [past_h]
          exact r x (by omega) (by omega)
      · by_cases hz : b = 0
        · exact .inl hz
        · refine .inr ⟨by omega, ?_⟩
          rcases ha with e0 | ⟨_, e1⟩
          · omega
          · rw [show h.length + 1 + b - 1 = h.length + 1 + (b - 1) by omega, past_h] at e1
            exact e1
      · intro j h1 h2
        have := hno (h.length + 1 + j) (by omega) (by omega)
        rwa [past_h] at this
      · rcases hend with e0 | e1
        · exact .inl (by omega)
        · rw [past_h] at e1
          exact .inr e1
end Go.Proofs.Ytehofomfblfhaaa
