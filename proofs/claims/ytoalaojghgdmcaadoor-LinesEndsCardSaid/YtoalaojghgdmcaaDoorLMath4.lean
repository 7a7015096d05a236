/- Plain numbers and lists: lines of a width, whatever ends them. Nothing of the program is imported. -/
import Derived.Test.YtoalaojghgdmcaaDoorLMath2
namespace Go.Proofs.YtoalaojghgdmcaaDoor.M

/-- The three ends of lines. -/
def markOf (m : Nat) : List UInt8 := if m = 0 then [10] else if m = 1 then [13] else [13, 10]
def xs (k : Nat) : List UInt8 := List.replicate k 120
def lineOf (wide m : Nat) : List UInt8 := xs wide ++ markOf m
def textOf (wide : Nat) (ms : List Nat) : List UInt8 := ms.flatMap (lineOf wide)
/-- A bare byte 13 is not followed by a byte 10. -/
def Apart (wide : Nat) (ms : List Nat) : Prop := ∀ i, i + 1 < ms.length → wide = 0 → ms.getD i 0 = 1 → ms.getD (i + 1) 0 ≠ 0
/-- What may stand behind a line: not a byte 10. -/
def NoLF (t : List UInt8) : Prop := t = [] ∨ byte t 0 ≠ 10

theorem xs_succ (k : Nat) : xs (k + 1) = 120 :: xs k := rfl
theorem xs_snoc (k : Nat) : xs (k + 1) = xs k ++ [120] := by unfold xs; rw [List.replicate_succ']
theorem xs_len (k : Nat) : (xs k).length = k := by simp [xs]
theorem dec_low (c : UInt8) (t : List UInt8) (h : c.toNat < 128) : dec (c :: t) = (c.toNat, 1) := by
  unfold dec byte Go.Lib.decodeN
  simp [h]
theorem units_low (r : Nat) (h : r < 65536) : unitsOf r = 1 := by unfold unitsOf; rw [if_neg (by omega)]
theorem at_cons (pre : List UInt8) (c : UInt8) (t : List UInt8) : byte (pre ++ c :: t) pre.length = c.toNat := by rw [byte_at]; simp [byte]
theorem at_next (pre : List UInt8) (c : UInt8) (t : List UInt8) : byte (pre ++ c :: t) (pre.length + 1) = byte t 0 := by
  unfold byte
  simp [List.getD, List.getElem?_append_right]
/-- One plain byte. -/
theorem step_plain (pre : List UInt8) (c : UInt8) (t : List UInt8) (k col : Nat) (h : c.toNat < 128) (h1 : c.toNat ≠ 10) (h2 : c.toNat ≠ 13 ∨ (t ≠ [] ∧ byte t 0 = 10)) :
    stepP (pre ++ c :: t) (pre.length, k, col) = ((pre ++ [c]).length, k, col + 1) := by
  have he : endsAt (pre ++ c :: t) pre.length = false := by
    unfold endsAt
    rw [at_cons]
    rcases h2 with h2 | ⟨h2, h3⟩
    · rw [if_neg h2, beq_eq_false_iff_ne]; exact h1
    · by_cases h13 : c.toNat = 13
      · rw [if_pos h13, at_next, h3]
        have : 0 < t.length := List.length_pos_iff.2 h2
        rw [Bool.or_eq_false_iff]
        refine ⟨?_, by simp⟩
        rw [beq_eq_false_iff_ne]; simp; omega
      · rw [if_neg h13, beq_eq_false_iff_ne]; exact h1
  unfold stepP
  simp only [he]
  rw [List.drop_left, dec_low c t h, units_low _ (by omega)]
  simp
/-- One byte that ends a line. -/
theorem step_end (pre : List UInt8) (c : UInt8) (t : List UInt8) (k col : Nat) (h : c.toNat = 10 ∨ (c.toNat = 13 ∧ NoLF t)) :
    stepP (pre ++ c :: t) (pre.length, k, col) = ((pre ++ [c]).length, k + 1, 0) := by
  have he : endsAt (pre ++ c :: t) pre.length = true := by
    unfold endsAt
    rw [at_cons]
    rcases h with h | ⟨h, h3⟩
    · rw [if_neg (by omega), h]; rfl
    · rw [if_pos h, at_next]
      rcases h3 with h3 | h3
      · subst h3; simp
      · rw [Bool.or_eq_true]; right; simpa using h3
  unfold stepP
  simp only [he, if_true]
  rw [List.drop_left, dec_low c t (by omega)]
  simp
theorem go_xs (n : Nat) (pre t : List UInt8) (k col f T : Nat) (hT : pre.length + n ≤ T) :
    goP (pre ++ (xs n ++ t)) (f + n) T (pre.length, k, col) = goP (pre ++ (xs n ++ t)) f T ((pre ++ xs n).length, k, col + n) := by
  induction n generalizing pre col with
  | zero => simp [xs]
  | succ n ih =>
    rw [goP_step _ (f + (n + 1)) T _ (by simp only; omega) (by omega), xs_succ]
    simp only [List.cons_append]
    rw [step_plain pre 120 (xs n ++ t) k col (by decide) (by decide) (.inl (by decide))]
    have := ih (pre ++ [120]) (col + 1) (by simp; omega)
    simp only [List.append_assoc, List.cons_append, List.nil_append] at this
    rw [show f + (n + 1) - 1 = f + n by omega]
    rw [this, show col + 1 + n = col + (n + 1) by omega]
theorem go_mark (m : Nat) (pre t : List UInt8) (k col f T : Nat) (hT : pre.length + (markOf m).length ≤ T) (hn : m = 1 → NoLF t) :
    goP (pre ++ (markOf m ++ t)) (f + (markOf m).length) T (pre.length, k, col) = goP (pre ++ (markOf m ++ t)) f T ((pre ++ markOf m).length, k + 1, 0) := by
  unfold markOf at *
  by_cases h0 : m = 0
  · rw [if_pos h0] at hT ⊢
    simp only [List.length_cons, List.length_nil, List.cons_append, List.nil_append] at hT ⊢
    rw [goP_step _ _ T _ (by simp only; omega) (by omega), step_end pre 10 t k col (.inl (by decide))]
    rfl
  · rw [if_neg h0] at hT ⊢
    by_cases h1 : m = 1
    · rw [if_pos h1] at hT ⊢
      simp only [List.length_cons, List.length_nil, List.cons_append, List.nil_append] at hT ⊢
      rw [goP_step _ _ T _ (by simp only; omega) (by omega), step_end pre 13 t k col (.inr ⟨by decide, hn h1⟩)]
      rfl
    · rw [if_neg h1] at hT ⊢
      simp only [List.length_cons, List.length_nil, List.cons_append, List.nil_append] at hT ⊢
      rw [goP_step _ _ T _ (by simp only; omega) (by omega), step_plain pre 13 (10 :: t) k col (by decide) (by decide) (.inr ⟨by simp, by simp [byte]⟩)]
      have e : pre ++ 13 :: 10 :: t = (pre ++ [13]) ++ 10 :: t := by simp
      rw [e, goP_step _ _ T _ (by simp only [List.length_append, List.length_cons, List.length_nil]; omega) (by omega), step_end (pre ++ [13]) 10 t k (col + 1) (.inl (by decide))]
      simp
theorem mark_len (m : Nat) : 1 ≤ (markOf m).length ∧ (markOf m).length ≤ 2 := by unfold markOf; split <;> (try split) <;> simp
/-- All lines, with a rest of plain bytes behind them. -/
theorem go_text (wide : Nat) (ms : List Nat) (pre : List UInt8) (w2 k f T : Nat) (hA : Apart wide ms) (hw : w2 = 0 ∨ w2 = wide) (hT : T = pre.length + (textOf wide ms ++ xs w2).length) (hf : (textOf wide ms ++ xs w2).length ≤ f) :
    (goP (pre ++ (textOf wide ms ++ xs w2)) f T (pre.length, k, 0)).2 = (k + ms.length, w2) := by
  induction ms generalizing pre k f with
  | nil =>
    simp only [textOf, List.flatMap_nil, List.nil_append] at hT hf ⊢
    have := go_xs w2 pre [] k 0 (f - w2) T (by rw [hT, xs_len]; omega)
    simp only [List.append_nil] at this
    rw [xs_len] at hf
    rw [show f - w2 + w2 = f by omega] at this
    rw [this, goP_stop _ _ _ _ (by simp only [List.length_append]; omega)]
    simp
  | cons m ms ih =>
    have e : textOf wide (m :: ms) = xs wide ++ (markOf m ++ textOf wide ms) := by simp [textOf, lineOf]
    have hm := mark_len m
    have hA2 : Apart wide ms := fun i hi h0 h1 => by
      have := hA (i + 1) (by simp; omega) h0
      simpa using this h1
    have hno : m = 1 → NoLF (textOf wide ms ++ xs w2) := by
      intro h1
      unfold NoLF
      cases ms with
      | nil =>
        simp only [textOf, List.flatMap_nil, List.nil_append]
        cases w2 with
        | zero => left; rfl
        | succ n => right; rw [xs_succ]; simp [byte]
      | cons m2 ms =>
        right
        have e2 : textOf wide (m2 :: ms) = xs wide ++ (markOf m2 ++ textOf wide ms) := by simp [textOf, lineOf]
        rw [e2]
        cases wide with
        | zero =>
          have h2 := hA 0 (by simp) rfl (by simpa using h1)
          simp at h2
          simp only [xs, List.replicate_zero, List.nil_append, markOf]
          rw [if_neg h2]
          split <;> simp [byte]
        | succ n => rw [xs_succ]; simp [byte]
    rw [e] at hT hf ⊢
    simp only [List.append_assoc, List.length_append, xs_len] at hT hf ⊢
    have s1 := go_xs wide pre (markOf m ++ (textOf wide ms ++ xs w2)) k 0 (f - wide) T (by omega)
    rw [show f - wide + wide = f by omega] at s1
    rw [s1]
    have s2 := go_mark m (pre ++ xs wide) (textOf wide ms ++ xs w2) k (0 + wide) (f - wide - (markOf m).length) T (by simp only [List.length_append, xs_len]; omega) hno
    rw [show f - wide - (markOf m).length + (markOf m).length = f - wide by omega] at s2
    simp only [List.append_assoc] at s2
    rw [s2]
    have s3 := ih (pre ++ (xs wide ++ markOf m)) (k + 1) (f - wide - (markOf m).length) hA2 (by simp only [List.length_append, xs_len]; omega) (by simp only [List.length_append, xs_len]; omega)
    simp only [List.append_assoc] at s3
    rw [s3]
    simp only [List.length_cons, Prod.mk.injEq, and_true]
    omega
theorem atP_text (wide : Nat) (ms : List Nat) (w2 : Nat) (hA : Apart wide ms) (hw : w2 = 0 ∨ w2 = wide) :
    atP (textOf wide ms ++ xs w2) (textOf wide ms ++ xs w2).length = (ms.length, w2) := by
  have := go_text wide ms [] w2 0 (textOf wide ms ++ xs w2).length (textOf wide ms ++ xs w2).length hA hw (by simp) (Nat.le_refl _)
  simpa [atP] using this
theorem text_snoc (wide : Nat) (ms : List Nat) (m : Nat) : textOf wide (ms ++ [m]) = textOf wide ms ++ xs wide ++ markOf m := by simp [textOf, lineOf]
theorem text_len (wide : Nat) (ms : List Nat) : (textOf wide ms).length ≤ (wide + 2) * ms.length := by
  induction ms with
  | nil => simp [textOf]
  | cons m ms ih =>
    have hm := mark_len m
    have e : textOf wide (m :: ms) = xs wide ++ (markOf m ++ textOf wide ms) := by simp [textOf, lineOf]
    rw [e, List.length_append, List.length_append, xs_len, List.length_cons, Nat.mul_succ]
    omega

theorem apart_snoc (wide : Nat) (ms : List Nat) (j : Nat) (h : Apart wide ms) (hn : wide = 0 → 0 < ms.length → ms.getD (ms.length - 1) 0 = 1 → j ≠ 0) : Apart wide (ms ++ [j]) := by
  intro i hi h0 h1
  rw [List.length_append, List.length_singleton] at hi
  by_cases hl : i + 1 < ms.length
  · have e1 : (ms ++ [j]).getD i 0 = ms.getD i 0 := by simp [List.getD, List.getElem?_append_left (show i < ms.length by omega)]
    have e2 : (ms ++ [j]).getD (i + 1) 0 = ms.getD (i + 1) 0 := by simp [List.getD, List.getElem?_append_left hl]
    rw [e1] at h1
    rw [e2]
    exact h i hl h0 h1
  · have hil : i + 1 = ms.length := by omega
    have e1 : (ms ++ [j]).getD i 0 = ms.getD i 0 := by simp [List.getD, List.getElem?_append_left (show i < ms.length by omega)]
    have e2 : (ms ++ [j]).getD (i + 1) 0 = j := by rw [hil]; simp [List.getD]
    rw [e1] at h1
    rw [e2]
    exact hn h0 (by omega) (by rw [← hil]; simpa using h1)
theorem last_text (wide : Nat) (ms : List Nat) (h : 0 < ms.length) : ∃ pre : List UInt8, textOf wide ms = pre ++ [if ms.getD (ms.length - 1) 0 = 1 then 13 else 10] := by
  obtain ⟨init, m, rfl⟩ : ∃ init m, ms = init ++ [m] := ⟨ms.dropLast, ms.getLast (by intro h0; rw [h0] at h; simp at h), (List.dropLast_concat_getLast _).symm⟩
  have e : (init ++ [m]).getD ((init ++ [m]).length - 1) 0 = m := by simp [List.getD]
  rw [e, text_snoc]
  unfold markOf
  by_cases h0 : m = 0
  · subst h0; exact ⟨textOf wide init ++ xs wide, by simp⟩
  · by_cases h1 : m = 1
    · subst h1; exact ⟨textOf wide init ++ xs wide, by simp⟩
    · exact ⟨textOf wide init ++ xs wide ++ [13], by simp [h0, h1]⟩
end Go.Proofs.YtoalaojghgdmcaaDoor.M
