/- Plain: how wide a text is that two texts come to: what lies across the seam. -/
import Derived.Test.YtehofomfblfhaaaTMath
namespace Go.Proofs.Ytehofomfblfhaaa.M
open Go.Lib
set_option linter.unusedVariables false
set_option linter.unusedSimpArgs false

/-- What the encodings that begin at a text's own places save. -/
def sv : List UInt8 → Nat
  | [] => 0
  | c :: t => ((dec (c :: t)).2 - 1) + sv t
theorem sv_cons (c : UInt8) (t : List UInt8) : sv (c :: t) = ((dec (c :: t)).2 - 1) + sv t := rfl
theorem dec_tail (l : List UInt8) (h : byte l 0 / 64 = 2) : dec l = (65533, 1) := by
  unfold dec decodeN
  rw [if_neg (by omega), if_neg (by omega), if_neg (by omega), if_neg (by omega)]
theorem byte_dropS (l : List UInt8) (p j : Nat) : byte (l.drop p) j = byte l (p + j) := by
  unfold byte; simp [List.getD]
theorem dec_inner (l : List UInt8) (j : Nat) (h0 : 0 < j) (hj : j < (dec l).2) : byte l j / 64 = 2 := by
  revert hj
  unfold dec decodeN
  repeat' split
  all_goals (
    intro hj
    simp only at hj)
  all_goals first
    | omega
    | (obtain rfl : j = 1 := by omega
       rename_i h _; exact h.2.2)
    | (rename_i h _
       rcases (show j = 1 ∨ j = 2 by omega) with rfl | rfl
       · exact h.2.1.2
       · exact h.2.2.2)
    | (rename_i h _
       rcases (show j = 1 ∨ j = 2 ∨ j = 3 by omega) with rfl | rfl | rfl
       · exact h.2.1.2
       · exact h.2.2.1.2
       · exact h.2.2.2.2)
theorem sv_step (l : List UInt8) : ∀ k, (∀ j, j < k → j < l.length → byte l j / 64 = 2) → sv l = sv (l.drop k) := by
  intro k
  induction k generalizing l with
  | zero => intro _; rfl
  | succ k ih =>
    intro h
    cases l with
    | nil => rfl
    | cons c t =>
      have h0 := h 0 (by omega) (by simp)
      rw [sv_cons, dec_tail _ h0, List.drop_succ_cons, ← ih t (fun j hj hl => by
        have := h (j + 1) (by omega) (by simp; omega)
        simpa [byte] using this)]
      simp
theorem sv_dec (c : UInt8) (t : List UInt8) : sv (c :: t) = ((dec (c :: t)).2 - 1) + sv ((c :: t).drop (dec (c :: t)).2) := by
  have hw := dec_width (c :: t)
  obtain ⟨k, hk⟩ : ∃ k, (dec (c :: t)).2 = k + 1 := ⟨(dec (c :: t)).2 - 1, by omega⟩
  rw [sv_cons, hk, List.drop_succ_cons]
  rw [← sv_step t k (fun j hj hl => by
    have := dec_inner (c :: t) (j + 1) (by omega) (by omega)
    simpa [byte] using this)]
theorem count_sv (l : List UInt8) : ∀ (f p : Nat), l.length ≤ p + f → runeCountFrom ⟨l.toArray⟩ f p + sv (l.drop p) = l.length - p := by
  intro f
  induction f with
  | zero =>
    intro p h
    rw [List.drop_eq_nil_of_le (by omega)]
    simp [runeCountFrom, sv]
    omega
  | succ f ih =>
    intro p h
    by_cases hp : p < l.length
    · have hd := congrArg Prod.snd (decode_dec l p)
      unfold runeCountFrom
      rw [if_pos (by simpa [ByteArray.size] using hp), hd]
      have hw := dec_width (l.drop p)
      have hl := dec_le (l.drop p) (by simp; omega)
      rw [List.length_drop] at hl
      have := ih (p + (dec (l.drop p)).2) (by omega)
      obtain ⟨c, t, e⟩ : ∃ c t, l.drop p = c :: t := ⟨_, _, List.drop_eq_getElem_cons hp⟩
      have hs := sv_dec c t
      rw [← e, List.drop_drop] at hs
      omega
    · rw [runeCountFrom_end _ _ _ (by simpa [ByteArray.size] using hp), List.drop_eq_nil_of_le (by omega)]
      simp [sv]
      omega
/-- How wide a text is. -/
def wl (l : List UInt8) : Nat := runeCount ⟨l.toArray⟩
theorem wl_sv (l : List UInt8) : wl l + sv l = l.length := by
  have := count_sv l l.length 0 (by omega)
  unfold wl runeCount
  have hsz : (ByteArray.mk l.toArray).size = l.length := by simp [ByteArray.size]
  rw [hsz]
  simpa using this
/-- An encoding is told by its first four bytes. -/
theorem dec_four (x y : List UInt8) (h : x.take 4 = y.take 4) : (dec x) = dec y := by
  have hb : ∀ j, j < 4 → byte x j = byte y j := fun j hj => by
    have e : ∀ z : List UInt8, byte z j = byte (z.take 4) j := fun z => by
      unfold byte; simp [List.getD, hj]
    rw [e x, e y, h]
  have hl : ∀ j, j < 4 → (j < x.length ↔ j < y.length) := fun j hj => by
    have e := congrArg List.length h
    simp only [List.length_take] at e
    omega
  have l1 := hl 1 (by omega)
  have l2 := hl 2 (by omega)
  have l3 := hl 3 (by omega)
  unfold dec decodeN
  rw [hb 0 (by omega), hb 1 (by omega), hb 2 (by omega), hb 3 (by omega)]
  simp only [l1, l2, l3]
/-- What is saved by the encodings that begin in a, with b behind it. -/
def svB : List UInt8 → List UInt8 → Nat
  | [], _ => 0
  | c :: t, b => ((dec (c :: t ++ b)).2 - 1) + svB t b
theorem sv_append (a b : List UInt8) : sv (a ++ b) = svB a b + sv b := by
  induction a with
  | nil => simp [svB]
  | cons c t ih =>
    rw [List.cons_append, sv_cons, ih]
    simp only [svB, List.cons_append]
    omega
theorem svB_nil (a : List UInt8) : svB a [] = sv a := by
  induction a with
  | nil => rfl
  | cons c t ih => simp only [svB, List.append_nil, ih, sv_cons]
theorem svB_head (a b : List UInt8) : svB a b = svB a (b.take 3) := by
  induction a with
  | nil => rfl
  | cons c t ih =>
    simp only [svB, ← ih]
    rw [dec_four (c :: t ++ b) (c :: t ++ b.take 3)]
    simp only [List.cons_append, List.take_succ_cons, List.take_append, List.take_take]
    congr 3
    omega
/-- The last three. -/
def hd3 (l : List UInt8) : List UInt8 := l.take 3
def tl3 (l : List UInt8) : List UInt8 := l.drop (l.length - 3)
theorem svB_tail (a b : List UInt8) : svB a b + sv (tl3 a) = sv a + svB (tl3 a) b := by
  induction a with
  | nil => simp [svB, sv, tl3]
  | cons c t ih =>
    by_cases h : t.length < 3
    · have e : tl3 (c :: t) = c :: t := by
        unfold tl3
        rw [show (c :: t).length - 3 = 0 by simp; omega]
        rfl
      rw [e]; omega
    · have e : tl3 (c :: t) = tl3 t := by
        unfold tl3
        rw [show (c :: t).length - 3 = (t.length - 3) + 1 by simp; omega]
        rfl
      rw [e]
      have : dec (c :: t ++ b) = dec (c :: t) := by
        apply dec_four
        rw [List.cons_append, List.take_succ_cons, List.take_succ_cons, List.take_append_of_le_length (by omega)]
      simp only [svB, this, sv_cons]
      omega
/-- THE SEAM. -/
theorem wl_join (a b : List UInt8) : wl (a ++ b) + (wl (tl3 a) + wl (hd3 b)) = wl a + wl b + wl (tl3 a ++ hd3 b) := by
  have h1 := wl_sv (a ++ b)
  have h2 := wl_sv (tl3 a)
  have h3 := wl_sv (hd3 b)
  have h4 := wl_sv a
  have h5 := wl_sv b
  have h6 := wl_sv (tl3 a ++ hd3 b)
  have h7 := svB_tail a b
  have h8 := svB_head (tl3 a) b
  rw [sv_append, List.length_append] at h1 h6
  unfold hd3 at h3 h6 ⊢
  omega
theorem wl_le (l : List UInt8) : wl l ≤ l.length := by have := wl_sv l; omega
theorem hd3_join (a b : List UInt8) : hd3 (hd3 a ++ hd3 b) = hd3 (a ++ b) := by
  unfold hd3
  rw [List.take_append, List.take_append, List.take_take, List.take_take, List.length_take]
  congr 1
  by_cases h : a.length ≤ 3
  · congr 1; omega
  · rw [show 3 - a.length = 0 by omega, show min (3 - min 3 a.length) 3 = 0 by omega]
theorem tl3_join (a b : List UInt8) : tl3 (tl3 a ++ tl3 b) = tl3 (a ++ b) := by
  unfold tl3
  simp only [List.length_append, List.length_drop, List.drop_append, List.drop_drop]
  congr 1
  · by_cases h : b.length ≤ 3
    · congr 1; omega
    · rw [List.drop_eq_nil_of_le (by omega), List.drop_eq_nil_of_le (by omega)]
  · congr 1; omega
theorem hd3_len (l : List UInt8) : (hd3 l).length ≤ 3 := by unfold hd3; simp; omega
theorem tl3_len (l : List UInt8) : (tl3 l).length ≤ 3 := by unfold tl3; simp; omega
end Go.Proofs.Ytehofomfblfhaaa.M
