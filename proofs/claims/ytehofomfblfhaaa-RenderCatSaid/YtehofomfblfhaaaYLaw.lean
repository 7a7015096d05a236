/- Layouts: what chapter 11's laws say, plain. -/
import Derived.Test.YtehofomfblfhaaaYLay
namespace Go.Proofs.Ytehofomfblfhaaa
open Go.RowKit
set_option linter.unusedVariables false
set_option linter.unusedSimpArgs false

/-- A list of one. -/
def Fo.one (k f : Int) (s : ByteArray) (L : Fo) : Fo := .cons k f s L .nil
def Fo.pair (a : Int × Int × ByteArray × Fo) (b : Int × Int × ByteArray × Fo) : Fo := .cons a.1 a.2.1 a.2.2.1 a.2.2.2 (.cons b.1 b.2.1 b.2.2.1 b.2.2.2 .nil)
def itD (a : Int × Int × ByteArray × Fo) : It := ⟨a.1, a.2.1, a.2.2.1, a.2.2.2, 0, false⟩
/-- Held together one way or the other: the same. -/
theorem cat_left (w i : Nat) (a b c : Int × Int × ByteArray × Fo) : layD w i 5 0 ⟨#[]⟩ (Fo.pair a (5, 0, ⟨#[]⟩, Fo.pair b c)) = lay w i [itD a, itD b, itD c] 0 :=
  RowEq.lay_eq w i _ 0 (Nat.le_refl _) (.cat 0 ⟨#[]⟩ _ 0 (.same _ (.cat 0 ⟨#[]⟩ _ 0 (.same _ (.same _ .nil)))))
theorem cat_right (w i : Nat) (a b c : Int × Int × ByteArray × Fo) : layD w i 5 0 ⟨#[]⟩ (Fo.pair (5, 0, ⟨#[]⟩, Fo.pair a b) c) = lay w i [itD a, itD b, itD c] 0 :=
  RowEq.lay_eq w i _ 0 (Nat.le_refl _) (.cat 0 ⟨#[]⟩ _ 0 (.cat 0 ⟨#[]⟩ _ 0 (.same _ (.same _ (.same _ .nil)))))
theorem cat_three (w i : Nat) (a b c : Int × Int × ByteArray × Fo) : layD w i 5 0 ⟨#[]⟩ (.cons a.1 a.2.1 a.2.2.1 a.2.2.2 (Fo.pair b c)) = lay w i [itD a, itD b, itD c] 0 :=
  RowEq.lay_eq w i _ 0 (Nat.le_refl _) (.cat 0 ⟨#[]⟩ _ 0 (.same _ (.same _ (.same _ .nil))))
/-- Whatever the width and the indent: the same texts. -/
theorem same_texts (w i w' i' : Nat) (k f : Int) (s : ByteArray) (kids : Fo) : notBk (layD w i k f s kids) = notBk (layD w' i' k f s kids) := by
  unfold layD
  rw [lay_leaf w i _ _ 0 (Nat.le_refl _), lay_leaf w' i' _ _ 0 (Nat.le_refl _)]
theorem flatF_one (k f : Int) (s : ByteArray) (kids : Fo) (h : (flatD k s kids).2 = true) : flatF (Fo.one k f s kids) = flatD k s kids := by
  unfold Fo.one
  rw [flatF_cons, if_pos h]
  obtain ⟨⟨x, y⟩, hd⟩ : ∃ p, flatD k s kids = p := ⟨_, rfl⟩
  rw [hd] at h ⊢
  simp only at h
  subst h
  simp [flatF]
theorem flat_six (L : Fo) : flatD 6 ⟨#[]⟩ L = flatF L := by unfold flatD; simp
/-- A group that fits, alone. -/
theorem group_fits (w i : Nat) (L : Fo) (lv : Nat) (h : (flatF L).2 = true) (hw : wd (bytes (flatF L).1) ≤ w) : lay w i [⟨6, 0, ⟨#[]⟩, L, lv, false⟩] 0 = flatP L := by
  have hf : flOf w 0 ⟨6, 0, ⟨#[]⟩, L, lv, false⟩ [] = true := by
    unfold flOf fitsI ftx
    simp only [flat_six, h, if_true, afterR]
    simpa using hw
  rw [lay_cons]
  simp only [hf]
  obtain ⟨c, e⟩ := lay_flat w i L (lvK 6 lv) [] 0
  rw [List.append_nil] at e
  simp [e, lay_nil]
theorem group_breaks (w i : Nat) (L : Fo) (lv : Nat) (h : ¬ ((flatF L).2 = true ∧ wd (bytes (flatF L).1) ≤ w)) : lay w i [⟨6, 0, ⟨#[]⟩, L, lv, false⟩] 0 = lay w i (items lv false L) 0 := by
  have hf : flOf w 0 ⟨6, 0, ⟨#[]⟩, L, lv, false⟩ [] = false := by
    unfold flOf fitsI ftx
    simp only [flat_six, afterR]
    by_cases h2 : (flatF L).2 = true
    · have h3 : ¬ wd (bytes (flatF L).1) ≤ w := fun e => h ⟨h2, e⟩
      simp [h2, h3]
    · simp [h2]
  rw [lay_cons]
  simp only [hf]
  simp [lvK]
theorem nest_is (w i : Nat) (L : Fo) (lv : Nat) (row : List It) (col : Nat) : lay w i (⟨7, 0, ⟨#[]⟩, L, lv, false⟩ :: row) col = lay w i (items (lv + 1) false L ++ row) col := by
  rw [lay_cons]
  simp [lvK, flOf]
/-- What a nest round a group that fits is. -/
theorem nest_group (w i : Nat) (L : Fo) (h : (flatF L).2 = true) (hw : wd (bytes (flatF L).1) ≤ w) : layD w i 7 0 ⟨#[]⟩ (Fo.one 6 0 ⟨#[]⟩ L) = flatP L := by
  unfold layD
  rw [nest_is]
  exact group_fits w i L 1 h hw
theorem ptext_append (a b : List Pc) : ptext (a ++ b) = ptext a ++ ptext b := by unfold ptext; rw [List.flatMap_append]
/-- The text of what is flat. -/
theorem flat_text (L : Fo) : ∀ d, rightF L d = true → (flatF L).2 = true → ptext (flatP L) = (flatF L).1 := by
  induction L with
  | nil => intros; rfl
  | cons k f s kids rest ih1 ih2 =>
    intro d hr h
    have hr0 := right_at _ d hr 0 k f s kids rfl
    have hrest : rightF rest d = true := by
      have : rightF (.cons k f s kids rest) d = (rightD k f s kids d && rightF rest d) := by rw [rightD_is]; rfl
      rw [this] at hr
      exact (Bool.and_eq_true_iff.1 hr).2
    rw [flatF_cons] at h ⊢
    by_cases hd : (flatD k s kids).2 = true
    · rw [if_pos hd] at h ⊢
      simp only at h ⊢
      simp only [flatP]
      rw [ptext_append, ih2 d hrest h]
      congr 1
      rw [rightD_is] at hr0
      by_cases h1 : k = 1
      · rw [if_pos h1]
        by_cases hs : s = ⟨#[]⟩
        · subst hs
          subst h1
          rfl
        · rw [if_neg hs]
          subst h1
          simp [ptext, flatD]
      · rw [if_neg h1]
        by_cases h2 : k = 2
        · subst h2
          rfl
        · by_cases h3 : k = 3
          · subst h3
            rw [if_neg h1, if_pos (by simp)] at hr0
            have hz : kids.len = 0 := by simpa using (Bool.and_eq_true_iff.1 hr0).2
            rw [fo_nil_len kids hz]
            rfl
          · by_cases h4 : k = 4
            · subst h4
              simp [flatD] at hd
            · rw [if_neg (by omega)]
              rw [if_neg h1, if_neg (by omega)] at hr0
              by_cases h5 : k = 5 ∨ k = 6 ∨ k = 7
              · rw [if_pos h5] at hr0
                have e : flatD k s kids = flatF kids := by unfold flatD; rw [if_neg h1, if_neg h2, if_neg h4]
                rw [e] at hd ⊢
                exact ih1 (d - 1) (Bool.and_eq_true_iff.1 hr0).2 hd
              · rw [if_neg h5] at hr0
                exact absurd hr0 (by simp)
    · rw [if_neg hd] at h
      exact absurd h (by simp)
/-- A text, kept in its place. -/
theorem lay_text (w i : Nat) (f : Int) (s : ByteArray) (lv : Nat) (fl : Bool) (row : List It) (col : Nat) (hs : s ≠ ⟨#[]⟩) : lay w i (⟨1, f, s, .nil, lv, fl⟩ :: row) col = (s, f) :: lay w i row (col + wd s) := by
  rw [lay_cons]
  simp [hs]
theorem lay_brk (w i : Nat) (k : Int) (hk : k = 2 ∨ k = 3 ∨ k = 4) (lv : Nat) (row : List It) (col : Nat) : lay w i (⟨k, 0, ⟨#[]⟩, .nil, lv, false⟩ :: row) col = brk (lv * i) :: lay w i row (lv * i) := by
  rw [lay_cons]
  simp only [if_pos hk]
  rw [if_neg (by omega)]
  simp
theorem lay_cat (w i : Nat) (L : Fo) (lv : Nat) (row : List It) (col : Nat) : lay w i (⟨5, 0, ⟨#[]⟩, L, lv, false⟩ :: row) col = lay w i (items lv false L ++ row) col := by
  rw [lay_cons]
  simp [lvK, flOf]
/-- RenderHard: so many nests round a hard line and a text. -/
def nests : Nat → Fo → Fo
  | 0, L => Fo.one 5 0 ⟨#[]⟩ L
  | n + 1, L => Fo.one 7 0 ⟨#[]⟩ (nests n L)
theorem nests_item (n : Nat) (L : Fo) (lv : Nat) (fl : Bool) : ∃ x, items lv fl (nests n L) = [x] := by
  cases n <;> exact ⟨_, rfl⟩
theorem lay_nests (w i : Nat) (L : Fo) (row : List It) : ∀ (n lv col : Nat), lay w i (items lv false (nests n L) ++ row) col = lay w i (items (lv + n) false L ++ row) col := by
  intro n
  induction n with
  | zero =>
    intro lv col
    show lay w i (⟨5, 0, ⟨#[]⟩, L, lv, false⟩ :: row) col = _
    rw [lay_cat]
    rfl
  | succ n ih =>
    intro lv col
    show lay w i (⟨7, 0, ⟨#[]⟩, nests n L, lv, false⟩ :: row) col = _
    rw [nest_is, ih (lv + 1) col, show lv + 1 + n = lv + (n + 1) by omega]
end Go.Proofs.Ytehofomfblfhaaa
