/- Layouts: the document of RenderLines, plain: each line is narrow, or has no blank. -/
import Derived.Test.YtehofomfblfhaaaYHard
namespace Go.Proofs.Ytehofomfblfhaaa
open Go.RowKit
set_option linter.unusedVariables false
set_option linter.unusedSimpArgs false

def yw (t : Nat) : List UInt8 := List.replicate t 121
def gW (t : Nat) : Fo := .cons 1 (-1) (bytes (yw t)) .nil (.cons 2 0 ⟨#[]⟩ .nil (.cons 1 (-1) (bytes (yw t)) .nil .nil))
def linL : List Nat → Fo
  | [] => .nil
  | t :: ts => .cons 2 0 ⟨#[]⟩ .nil (.cons 6 0 ⟨#[]⟩ (gW t) (linL ts))
def linA : List Nat → Fo
  | [] => .nil
  | t :: ts => .cons 6 0 ⟨#[]⟩ (gW t) (linL ts)
/-- A line that may be. -/
def okL (w : Nat) (l : List UInt8) : Prop := (10 : UInt8) ∉ l ∧ (l.length ≤ w ∨ (32 : UInt8) ∉ l)
def tlL (ls : List (List UInt8)) : List UInt8 := ls.flatMap fun l => 10 :: l
theorem tlL_append (a b : List (List UInt8)) : tlL (a ++ b) = tlL a ++ tlL b := by unfold tlL; rw [List.flatMap_append]
def gT (t : Nat) : List UInt8 := yw t ++ 32 :: yw t
theorem flatF_gW (t : Nat) : flatF (gW t) = (gT t, true) := by
  have h1 : flatD 1 (bytes (yw t)) .nil = (yw t, true) := by
    unfold flatD; rw [if_pos rfl, bytes_list]
  have h2 : flatD 2 ⟨#[]⟩ .nil = ([32], true) := rfl
  unfold gW
  rw [flatF_cons, h1, if_pos rfl, flatF_cons, h2, if_pos rfl, flatF_cons, h1, if_pos rfl]
  simp [flatF, gT]
theorem flatP_gW (t : Nat) : ptext (flatP (gW t)) = gT t := by
  unfold gW
  have h2 : ptext [spc] = [32] := rfl
  simp only [flatP]
  rw [ptext_append, if_pos trivial, ptext_word]
  simp only [List.append_nil]
  rw [ptext_append, if_pos trivial, ptext_word]
  simp [gT, h2]
theorem yw_no (t : Nat) (c : UInt8) (h : c ≠ 121) : c ∉ yw t := by
  intro e
  exact h (List.mem_replicate.1 e).2
theorem gT_no (t : Nat) : (10 : UInt8) ∉ gT t := by
  unfold gT
  intro e
  rcases List.mem_append.1 e with e | e
  · exact yw_no t 10 (by decide) e
  · rcases List.mem_cons.1 e with e | e
    · exact absurd e (by decide)
    · exact yw_no t 10 (by decide) e
theorem gT_wd (t : Nat) : wd (bytes (gT t)) = (gT t).length := by
  apply wd_ascii
  intro c hc
  unfold gT at hc
  rcases List.mem_append.1 hc with e | e
  · rw [(List.mem_replicate.1 e).2]; decide
  · rcases List.mem_cons.1 e with e | e
    · rw [e]; decide
    · rw [(List.mem_replicate.1 e).2]; decide
theorem yw_ok (w t : Nat) : okL w (yw t) := ⟨yw_no t 10 (by decide), .inr (yw_no t 32 (by decide))⟩
/-- A group of two words at a line's beginning, nothing behind it on its line. -/
theorem lay_grp (w t : Nat) (row : List It) (hr : (afterR row).1 = 0) : ∃ h ls c, ptext (lay w 0 (⟨6, 0, ⟨#[]⟩, gW t, 0, false⟩ :: row) 0) = h ++ tlL ls ++ ptext (lay w 0 row c) ∧ okL w h ∧ ∀ l ∈ ls, okL w l := by
  rw [lay_cons]
  rw [if_neg (by show ¬ (6 : Int) = 1; decide), if_neg (by show ¬ ((6 : Int) = 2 ∨ (6 : Int) = 3 ∨ (6 : Int) = 4); decide)]
  by_cases hf : flOf w 0 ⟨6, 0, ⟨#[]⟩, gW t, 0, false⟩ row = true
  · simp only [hf]
    obtain ⟨c, e⟩ := lay_flat w 0 (gW t) (lvK 6 0) row 0
    rw [e, ptext_append, flatP_gW]
    refine ⟨gT t, [], c, by simp [tlL], ⟨gT_no t, .inl ?_⟩, by simp⟩
    unfold flOf fitsI ftx at hf
    have e6 : flatD 6 ⟨#[]⟩ (gW t) = (gT t, true) := by rw [flat_six, flatF_gW]
    simp only [e6, hr] at hf
    simp [gT_wd] at hf
    exact hf
  · have hf2 : flOf w 0 ⟨6, 0, ⟨#[]⟩, gW t, 0, false⟩ row = false := by simpa using hf
    simp only [hf2]
    show ∃ h ls c, ptext (lay w 0 (⟨1, -1, bytes (yw t), .nil, 0, false⟩ :: ⟨2, 0, ⟨#[]⟩, .nil, 0, false⟩ :: ⟨1, -1, bytes (yw t), .nil, 0, false⟩ :: row) 0) = _ ∧ _
    obtain ⟨c, e⟩ := lay_word w 0 (yw t) (-1) 0 false (⟨2, 0, ⟨#[]⟩, .nil, 0, false⟩ :: ⟨1, -1, bytes (yw t), .nil, 0, false⟩ :: row) 0
    rw [e, lay_brk _ _ _ (by omega), ptext_brk]
    obtain ⟨c2, e2⟩ := lay_word w 0 (yw t) (-1) 0 false row (0 * 0)
    rw [e2]
    refine ⟨yw t, [yw t], c2, by simp [tlL], yw_ok w t, ?_⟩
    intro l hl
    rw [List.mem_singleton.1 hl]
    exact yw_ok w t
theorem after_lin (ts : List Nat) : (afterR (items 0 false (linL ts))).1 = 0 := by
  cases ts with
  | nil => rfl
  | cons t ts =>
    show (comb (behindI ⟨2, 0, ⟨#[]⟩, .nil, 0, false⟩) (afterR (items 0 false (.cons 6 0 ⟨#[]⟩ (gW t) (linL ts))))).1 = 0
    have e : behindI ⟨2, 0, ⟨#[]⟩, .nil, 0, false⟩ = (0, true) := rfl
    rw [e]
    rfl
theorem lay_linL (w : Nat) (ts : List Nat) : ∀ col, ∃ ls, ptext (lay w 0 (items 0 false (linL ts)) col) = tlL ls ∧ ∀ l ∈ ls, okL w l := by
  induction ts with
  | nil => intro col; exact ⟨[], by show ptext (lay w 0 [] col) = []; rw [lay_nil]; rfl, by simp⟩
  | cons t ts ih =>
    intro col
    show ∃ ls, ptext (lay w 0 (⟨2, 0, ⟨#[]⟩, .nil, 0, false⟩ :: ⟨6, 0, ⟨#[]⟩, gW t, 0, false⟩ :: items 0 false (linL ts)) col) = _ ∧ _
    rw [lay_brk _ _ _ (by omega), ptext_brk]
    obtain ⟨h, ls, c, e, h1, h2⟩ := lay_grp w t (items 0 false (linL ts)) (after_lin ts)
    obtain ⟨ls2, e3, h3⟩ := ih c
    rw [show 0 * 0 = 0 from rfl, e, e3]
    refine ⟨h :: (ls ++ ls2), ?_, ?_⟩
    · show _ = (10 :: h) ++ tlL (ls ++ ls2)
      rw [tlL_append]
      simp
    · intro l hl
      rcases List.mem_cons.1 hl with e | hl
      · rw [e]; exact h1
      · rcases List.mem_append.1 hl with hl | hl
        · exact h2 l hl
        · exact h3 l hl
def linT (ts : List Nat) : List UInt8 := ts.flatMap fun t => 32 :: gT t
theorem flatF_linL (ts : List Nat) : flatF (linL ts) = (linT ts, true) := by
  induction ts with
  | nil => rfl
  | cons t ts ih =>
    have h2 : flatD 2 ⟨#[]⟩ .nil = ([32], true) := rfl
    show flatF (.cons 2 0 ⟨#[]⟩ .nil (.cons 6 0 ⟨#[]⟩ (gW t) (linL ts))) = _
    rw [flatF_cons, h2, if_pos rfl, flatF_cons, flat_six, flatF_gW, if_pos rfl, ih]
    simp [linT]
theorem flatP_linL (ts : List Nat) : ptext (flatP (linL ts)) = linT ts := by
  induction ts with
  | nil => rfl
  | cons t ts ih =>
    show ptext (flatP (.cons 2 0 ⟨#[]⟩ .nil (.cons 6 0 ⟨#[]⟩ (gW t) (linL ts)))) = _
    have e : flatP (.cons 2 0 ⟨#[]⟩ .nil (.cons 6 0 ⟨#[]⟩ (gW t) (linL ts))) = spc :: (flatP (gW t) ++ flatP (linL ts)) := by
      simp [flatP]
    rw [e, ptext_cons, ptext_append, flatP_gW, ih]
    rfl
/-- RenderLines, plain. -/
theorem lines_plain (w : Nat) (ts : List Nat) : ∃ h ls, ptext (layD w 0 6 0 ⟨#[]⟩ (linA ts)) = h ++ tlL ls ∧ okL w h ∧ ∀ l ∈ ls, okL w l := by
  unfold layD
  cases ts with
  | nil =>
    refine ⟨[], [], ?_, ⟨by simp, .inr (by simp)⟩, by simp⟩
    have h0 : (flatF (linA [])).2 = true := rfl
    by_cases h : (flatF (linA [])).2 = true ∧ wd (bytes (flatF (linA [])).1) ≤ w
    · rw [group_fits w 0 _ 0 h.1 h.2]; rfl
    · rw [group_breaks w 0 _ 0 h]
      show ptext (lay w 0 [] 0) = _
      rw [lay_nil]; rfl
  | cons t ts =>
    have hF : flatF (linA (t :: ts)) = (gT t ++ linT ts, true) := by
      show flatF (.cons 6 0 ⟨#[]⟩ (gW t) (linL ts)) = _
      rw [flatF_cons, flat_six, flatF_gW, if_pos rfl, flatF_linL]
    have hno : ∀ c ∈ gT t ++ linT ts, c = 121 ∨ c = 32 := by
      have hg : ∀ t, ∀ c ∈ gT t, c = 121 ∨ c = 32 := by
        intro t c hc
        unfold gT at hc
        rcases List.mem_append.1 hc with e | e
        · exact .inl (List.mem_replicate.1 e).2
        · rcases List.mem_cons.1 e with e | e
          · exact .inr e
          · exact .inl (List.mem_replicate.1 e).2
      intro c hc
      rcases List.mem_append.1 hc with e | e
      · exact hg t c e
      · unfold linT at e
        obtain ⟨t2, _, h⟩ := List.mem_flatMap.1 e
        rcases List.mem_cons.1 h with h | h
        · exact .inr h
        · exact hg t2 c h
    have hwd : wd (bytes (gT t ++ linT ts)) = (gT t ++ linT ts).length := by
      apply wd_ascii
      intro c hc
      rcases hno c hc with e | e <;> rw [e] <;> decide
    by_cases h : (flatF (linA (t :: ts))).2 = true ∧ wd (bytes (flatF (linA (t :: ts))).1) ≤ w
    · rw [group_fits w 0 _ 0 h.1 h.2]
      have h2 := h.2
      rw [hF] at h2
      simp only at h2
      rw [hwd] at h2
      refine ⟨gT t ++ linT ts, [], ?_, ⟨?_, .inl h2⟩, by simp⟩
      · have e : flatP (linA (t :: ts)) = flatP (gW t) ++ flatP (linL ts) := by simp [linA, flatP]
        rw [e, ptext_append, flatP_gW, flatP_linL]
        simp [tlL]
      · intro e
        rcases hno 10 e with e | e <;> exact absurd e (by decide)
    · rw [group_breaks w 0 _ 0 h]
      show ∃ h ls, ptext (lay w 0 (⟨6, 0, ⟨#[]⟩, gW t, 0, false⟩ :: items 0 false (linL ts)) 0) = _ ∧ _
      obtain ⟨h, ls, c, e, h1, h2⟩ := lay_grp w t (items 0 false (linL ts)) (after_lin ts)
      obtain ⟨ls2, e3, h3⟩ := lay_linL w ts c
      rw [e, e3]
      refine ⟨h, ls ++ ls2, by rw [tlL_append]; simp, h1, ?_⟩
      intro l hl
      rcases List.mem_append.1 hl with hl | hl
      · exact h2 l hl
      · exact h3 l hl
end Go.Proofs.Ytehofomfblfhaaa
