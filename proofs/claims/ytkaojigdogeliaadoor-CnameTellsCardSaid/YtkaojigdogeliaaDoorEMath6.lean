/- Plain numbers and lists: names and texts between marks, written one code point after the other, as the reference does. Nothing of the program is imported. -/
import Derived.Test.YtkaojigdogeliaaDoorEMath5
namespace Go.Proofs.YtkaojigdogeliaaDoor.M
open Go.Lib
set_option linter.unusedVariables false
set_option linter.unusedSimpArgs false

theorem dgG_dgx (n : Nat) : dgG false n = dgx n := by unfold dgG dgx; split <;> simp
theorem hexd_hx (r : Nat) (h1 : 1 ≤ r) (h2 : r < 256) : hexd r = (hx16 r).map (dgG false) := by
  by_cases h : r < 16
  · have e : hx16 r = [r] := by rw [hx16_pos r h1, show r / 16 = 0 by omega, hx16_zero, show r % 16 = r by omega]; rfl
    rw [e]; unfold hexd; rw [if_pos (by omega)]; simp [dgG_dgx]
  · have e : hx16 r = [r / 16, r % 16] := by
      rw [hx16_pos r h1, hx16_pos (r / 16) (by omega), show r / 16 / 16 = 0 by omega, hx16_zero, show r / 16 % 16 = r / 16 by omega]; rfl
    rw [e]; unfold hexd; rw [if_neg (by omega)]
    simp only [List.map_cons, List.map_nil, dgG_dgx]
    rw [show ((r : Int) / 16).toNat = r / 16 by omega, show ((r : Int) % 16).toNat = r % 16 by omega]
/-- What one code point of a name adds. -/
def ctr (f : Bool) (ps : List Int) (i : Nat) : List Int :=
  if ps.getD i 0 < 32 ∨ ps.getD i 0 = 127 ∨ (f = true ∧ nDg (ps.getD i 0) = true ∧ (i = 0 ∨ (i = 1 ∧ ps.getD 0 0 = 45))) then numN (ps.getD i 0)
  else if f = true ∧ ps.getD i 0 = 45 ∧ ps.length = 1 then [92, 45] else if nIn (ps.getD i 0) = true then [ps.getD i 0] else [92, ps.getD i 0]
def accN (f : Bool) (ps : List Int) (n : Nat) : List Int := (List.range n).flatMap (ctr f ps)
theorem accN_zero (f : Bool) (ps : List Int) : accN f ps 0 = [] := rfl
theorem accN_succ (f : Bool) (ps : List Int) (n : Nat) : accN f ps (n + 1) = accN f ps n ++ ctr f ps n := by
  unfold accN; rw [List.range_succ, List.flatMap_append]; simp
theorem numN_len (r : Int) : (numN r).length ≤ 4 := by unfold numN hexd; split <;> simp
theorem ctr_len (f : Bool) (ps : List Int) (i : Nat) : (ctr f ps i).length ≤ 4 := by
  unfold ctr
  repeat' split
  all_goals first | exact numN_len _ | simp
theorem accN_len (f : Bool) (ps : List Int) (n : Nat) : (accN f ps n).length ≤ 4 * n := by
  induction n with
  | zero => simp [accN_zero]
  | succ n ih => have := ctr_len f ps n; rw [accN_succ, List.length_append]; omega
theorem ctr_sp (f : Bool) (ps : List Int) (i : Nat) (h : ¬ (f = true ∧ nDg (ps.getD i 0) = true ∧ (i = 0 ∨ (i = 1 ∧ ps.getD 0 0 = 45)))) (h2 : ¬ (f = true ∧ ps.getD i 0 = 45 ∧ ps.length = 1)) : ctr f ps i = sp (ps.getD i 0) := by
  unfold ctr sp
  by_cases h3 : ps.getD i 0 < 32 ∨ ps.getD i 0 = 127
  · rw [if_pos h3, if_pos (by rcases h3 with h3 | h3; exact .inl h3; exact .inr (.inl h3))]
  · rw [if_neg h3, if_neg (by intro hh; rcases hh with hh | hh | hh; exact h3 (.inl hh); exact h3 (.inr hh); exact h hh), if_neg h2]
theorem accN_false (ps : List Int) : accN false ps ps.length = spR ps := by
  suffices ∀ k, k ≤ ps.length → accN false ps k = spR (ps.take k) by
    have := this ps.length (Nat.le_refl _)
    rwa [List.take_length] at this
  intro k
  induction k with
  | zero => intro _; rfl
  | succ k ih =>
    intro hk
    have hlt : k < ps.length := by omega
    have hg : ps.getD k 0 = ps[k] := by simp [List.getD, hlt]
    rw [accN_succ, ih (by omega), List.take_succ_eq_append_getElem hlt, ctr_sp false ps k (by simp) (by simp), hg]
    unfold spR
    rw [List.flatMap_append]
    simp
theorem accN_more (ps : List Int) (j : Nat) : ∀ k, j + k ≤ ps.length → 2 ≤ j → accN true ps (j + k) = accN true ps j ++ spR ((ps.drop j).take k) := by
  intro k
  induction k with
  | zero => intro _ _; simp [spR]
  | succ k ih =>
    intro hk hj
    have hlt : k < (ps.drop j).length := by rw [List.length_drop]; omega
    have hg : ps.getD (j + k) 0 = (ps.drop j)[k] := by simp [List.getD, show j + k < ps.length by omega]
    rw [← Nat.add_assoc, accN_succ, ih (by omega) hj, List.take_succ_eq_append_getElem hlt, ctr_sp true ps (j + k) (by intro hh; obtain ⟨_, _, hh⟩ := hh; omega) (by intro hh; obtain ⟨_, _, hh⟩ := hh; omega), hg]
    simp [spR]
theorem accN_true (ps : List Int) (hok : ∀ r ∈ ps, okP r) : accN true ps ps.length = spF ps := by
  match ps, hok with
  | [], _ => rfl
  | [a], hok =>
    have ha := (hok a (by simp)).2
    show accN true [a] (0 + 1) = _
    rw [accN_succ, accN_zero, List.nil_append, spF_cons]
    unfold ctr
    simp only [List.getD_cons_zero, List.length_cons, List.length_nil]
    by_cases hd : nDg a = true
    · rw [if_pos (.inr (.inr ⟨trivial, hd, .inl trivial⟩)), if_pos hd]; simp [spR]
    · rw [if_neg hd]
      by_cases h45 : a = 45
      · subst h45; decide
      · rw [if_neg h45]
        have : spR [a] = sp a := by simp [spR]
        rw [this]
        unfold sp
        by_cases h3 : a < 32 ∨ a = 127
        · rw [if_pos h3, if_pos (by rcases h3 with h3 | h3; exact .inl h3; exact .inr (.inl h3))]
        · rw [if_neg h3, if_neg (by intro hh; rcases hh with hh | hh | hh; exact h3 (.inl hh); exact h3 (.inr hh); exact hd hh.2.1), if_neg (by intro hh; exact h45 hh.2.1)]
  | a :: b :: t, hok =>
    have e : (a :: b :: t).length = 2 + t.length := by simp; omega
    have h := accN_more (a :: b :: t) 2 t.length (by rw [e]; exact Nat.le_refl _) (Nat.le_refl _)
    rw [e, h]
    have h2 : accN true (a :: b :: t) 2 = ctr true (a :: b :: t) 0 ++ ctr true (a :: b :: t) 1 := by
      show accN true _ (1 + 1) = _
      rw [accN_succ]
      show accN true _ (0 + 1) ++ _ = _
      rw [accN_succ, accN_zero, List.nil_append]
    have h3 : ((a :: b :: t).drop 2).take t.length = t := by simp
    rw [h2, h3, spF_cons]
    have c0 : ctr true (a :: b :: t) 0 = if nDg a = true then numN a else sp a := by
      by_cases hd : nDg a = true
      · rw [if_pos hd]
        unfold ctr
        rw [if_pos (.inr (.inr ⟨rfl, hd, .inl rfl⟩))]; rfl
      · rw [if_neg hd, ctr_sp true _ 0 (by intro hh; exact hd hh.2.1) (by intro hh; have := hh.2.2; simp at this)]; rfl
    have c1 : ctr true (a :: b :: t) 1 = if nDg b = true ∧ a = 45 then numN b else sp b := by
      by_cases hd : nDg b = true ∧ a = 45
      · rw [if_pos hd]
        unfold ctr
        rw [if_pos (.inr (.inr ⟨rfl, hd.1, .inr ⟨rfl, hd.2⟩⟩))]; rfl
      · rw [if_neg hd, ctr_sp true _ 1 (by intro hh; obtain ⟨_, h1, h2⟩ := hh; rcases h2 with h2 | h2; exact absurd h2 (by decide); exact hd ⟨h1, h2.2⟩) (by intro hh; have := hh.2.2; simp at this)]; rfl
    rw [c0, c1]
    by_cases hd : nDg a = true
    · have : a ≠ 45 := by intro h; subst h; exact absurd hd (by decide)
      rw [if_pos hd, if_pos hd, if_neg (by intro hh; exact this hh.2)]
      simp [spR]
    · rw [if_neg hd, if_neg hd]
      by_cases h45 : a = 45
      · subst h45
        rw [if_pos rfl]
        simp only
        by_cases hb : nDg b = true
        · rw [if_pos ⟨hb, by first | trivial | rfl⟩, if_pos hb]
          simp [sp, nIn, nSt, nDg]
        · rw [if_neg (by intro hh; exact hb hh.1), if_neg hb]
          simp [spR, sp, nIn, nSt, nDg]
      · rw [if_neg h45, if_neg (by intro hh; exact h45 hh.2)]
        simp [spR]
/-- Between marks. -/
def qacc (q : Int) (ps : List Int) (n : Nat) : List Int := (List.range n).flatMap fun i => qt q (ps.getD i 0) (ps.getD (i + 1) 0)
theorem qacc_zero (q : Int) (ps : List Int) : qacc q ps 0 = [] := rfl
theorem qacc_succ (q : Int) (ps : List Int) (n : Nat) : qacc q ps (n + 1) = qacc q ps n ++ qt q (ps.getD n 0) (ps.getD (n + 1) 0) := by
  unfold qacc; rw [List.range_succ, List.flatMap_append]; simp
theorem qt_len4 (q r n : Int) : (qt q r n).length ≤ 4 := by
  unfold qt hexd
  repeat' split
  all_goals simp
theorem qacc_len (q : Int) (ps : List Int) (n : Nat) : (qacc q ps n).length ≤ 4 * n := by
  induction n with
  | zero => simp [qacc_zero]
  | succ n ih => have := qt_len4 q (ps.getD n 0) (ps.getD (n + 1) 0); rw [qacc_succ, List.length_append]; omega
theorem qacc_full (q : Int) (ps : List Int) : qacc q ps ps.length = qB q ps := by
  suffices ∀ k, k ≤ ps.length → qacc q ps k ++ qB q (ps.drop k) = qB q ps by
    have := this ps.length (Nat.le_refl _)
    rwa [List.drop_length, qB, List.append_nil] at this
  intro k
  induction k with
  | zero => intro _; simp [qacc_zero]
  | succ k ih =>
    intro hk
    have hlt : k < ps.length := by omega
    have hg : ps.getD k 0 = ps[k] := by simp [List.getD, hlt]
    have h := ih (by omega)
    rw [List.drop_eq_getElem_cons hlt, qB] at h
    have hn : (ps.drop (k + 1)).getD 0 0 = ps.getD (k + 1) 0 := by simp [List.getD]
    rw [hn] at h
    rw [qacc_succ, hg, List.append_assoc]; exact h
end Go.Proofs.YtkaojigdogeliaaDoor.M
