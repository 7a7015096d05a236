/- Layouts: how many pieces, and how long each, there may be. -/
import Derived.Test.YtehofomfblfhaaaYTxt
namespace Go.Proofs.Ytehofomfblfhaaa
open Go.RowKit
set_option linter.unusedVariables false
set_option linter.unusedSimpArgs false

theorem items_in2 (lv : Nat) (fl : Bool) (L : Fo) : ∀ x ∈ items lv fl L, x.lv = lv ∧ x.s.size + FoSz x.kids ≤ FoSz L ∧ 1 + FoN x.kids ≤ FoN L := by
  induction L with
  | nil => intro x hx; exact absurd hx (by simp [items])
  | cons k f s kids rest _ ih =>
    intro x hx
    simp only [FoSz, FoN]
    rcases List.mem_cons.1 hx with e | hx
    · subst e
      refine ⟨rfl, ?_, ?_⟩
      · show s.size + FoSz kids ≤ _; omega
      · show 1 + FoN kids ≤ _; omega
    · obtain ⟨a, b, c⟩ := ih x hx
      exact ⟨a, by omega, by omega⟩
theorem lay_small (width indent M D : Nat) : ∀ (n : Nat) (row : List It) (col : Nat), rowN row ≤ n → (∀ x ∈ row, x.s.size + FoSz x.kids ≤ M ∧ x.lv + FoN x.kids ≤ D) →
    (lay width indent row col).length ≤ rowN row ∧ ∀ p ∈ lay width indent row col, p.1.size ≤ M + D * indent + 1 := by
  intro n
  induction n with
  | zero =>
    intro row col h hm
    cases row with
    | nil => rw [lay_nil]; exact ⟨by simp, by simp⟩
    | cons x r => simp only [rowN] at h; omega
  | succ n ih =>
    intro row col h hm
    cases row with
    | nil => rw [lay_nil]; exact ⟨by simp, by simp⟩
    | cons x r =>
      simp only [rowN] at h ⊢
      have hx := hm x (List.mem_cons_self ..)
      have hr : ∀ y ∈ r, y.s.size + FoSz y.kids ≤ M ∧ y.lv + FoN y.kids ≤ D := fun y hy => hm y (List.mem_cons_of_mem _ hy)
      have hD : x.lv * indent ≤ D * indent := Nat.mul_le_mul_right _ (by omega)
      have step : ∀ (p : Pc) (c : Nat), p.1.size ≤ M + D * indent + 1 → (p :: lay width indent r c).length ≤ 1 + FoN x.kids + rowN r ∧ ∀ q ∈ p :: lay width indent r c, q.1.size ≤ M + D * indent + 1 := by
        intro p c hp
        obtain ⟨a, b⟩ := ih r c (by omega) hr
        refine ⟨by simp only [List.length_cons]; omega, fun q hq => ?_⟩
        rcases List.mem_cons.1 hq with e | hq
        · rw [e]; exact hp
        · exact b q hq
      have skip : ∀ c, (lay width indent r c).length ≤ 1 + FoN x.kids + rowN r ∧ ∀ q ∈ lay width indent r c, q.1.size ≤ M + D * indent + 1 := by
        intro c
        obtain ⟨a, b⟩ := ih r c (by omega) hr
        exact ⟨by omega, b⟩
      rw [lay_cons]
      split
      · split
        · exact skip _
        · exact step _ _ (by simp only; omega)
      · split
        · split
          · split
            · exact step _ _ (by show (1 : Nat) ≤ _; omega)
            · exact skip _
          · refine step _ _ ?_
            unfold brk
            simp only [bytes_size, List.length_cons, List.length_replicate]
            omega
        · obtain ⟨a, b⟩ := ih (items (lvK x.k x.lv) (flOf width col x r) x.kids ++ r) col (by rw [rowN_append, rowN_items]; omega) (by
            intro y hy
            rcases List.mem_append.1 hy with hy | hy
            · obtain ⟨e1, e2, e3⟩ := items_in2 _ _ _ y hy
              have : lvK x.k x.lv ≤ x.lv + 1 := by unfold lvK; split <;> omega
              exact ⟨by omega, by omega⟩
            · exact hr y hy)
          rw [rowN_append, rowN_items] at a
          exact ⟨by omega, b⟩
theorem renP_small (k f : Int) (s : ByteArray) (kids : Fo) (width indent : Nat) (hs : s.size + 1 + FoSz kids ≤ 36000) (hN : FoN kids ≤ 99000) (hi : indent ≤ 16) :
    (renP k f s kids width indent).length ≤ 100000 ∧ ∀ p ∈ renP k f s kids width indent, p.1.size ≤ 1000000000 := by
  unfold renP
  split
  · unfold layD
    obtain ⟨a, b⟩ := lay_small width indent 36000 99000 _ [⟨k, f, s, kids, 0, false⟩] 0 (Nat.le_refl _) (by
      intro x hx
      rw [List.mem_singleton.1 hx]
      exact ⟨by simp only; omega, by simp only; omega⟩)
    have h1 : 99000 * indent ≤ 99000 * 16 := Nat.mul_le_mul_left _ hi
    refine ⟨by simp only [rowN] at a; omega, fun p hp => by have := b p hp; omega⟩
  · exact ⟨by simp, by simp⟩
end Go.Proofs.Ytehofomfblfhaaa
