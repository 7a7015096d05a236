/- Plain numbers and lists: lines and columns as the reference counts them: line ends byte by byte, then code points from the line's beginning. Nothing of the program is imported. -/
import Derived.Test.YtpedipalpebolaaDoorLMath3
import Derived.Test.YtpedipalpebolaaDoorRMath
namespace Go.Proofs.YtpedipalpebolaaDoor.M
open Go.Lib

def lineOf (l : List UInt8) : Nat → Nat
  | 0 => 0
  | i + 1 => if endsAt l i then lineOf l i + 1 else lineOf l i
def fromOf (l : List UInt8) : Nat → Nat
  | 0 => 0
  | i + 1 => if endsAt l i then i + 1 else fromOf l i
def colGo (l : List UInt8) (t : Nat) : Nat → Nat → Nat → Nat
  | 0, _, c => c
  | f + 1, i, c => if i < t then colGo l t f (i + (dec (l.drop i)).2) (c + unitsOf (dec (l.drop i)).1) else c
def refAt (l : List UInt8) (t : Nat) : Nat × Nat := (lineOf l t, colGo l t l.length (fromOf l t) 0)
theorem colGo_stop (l : List UInt8) (t f i c : Nat) (h : t ≤ i) : colGo l t f i c = c := by
  cases f <;> simp [colGo]; omega
theorem colGo_step (l : List UInt8) (t f i c : Nat) (h : i < t) (hf : 0 < f) : colGo l t f i c = colGo l t (f - 1) (i + (dec (l.drop i)).2) (c + unitsOf (dec (l.drop i)).1) := by
  cases f with
  | zero => omega
  | succ f => simp [colGo, h]
theorem colGo_fuel (l : List UInt8) (t f g i c : Nat) (hf : t ≤ i + f) (hg : t ≤ i + g) : colGo l t f i c = colGo l t g i c := by
  induction f generalizing g i c with
  | zero => rw [colGo_stop _ _ _ _ _ (by omega), colGo_stop _ _ _ _ _ (by omega)]
  | succ f ih =>
    by_cases h : i < t
    · have hw := (dec_width (l.drop i)).1
      rw [colGo_step l t (f + 1) i c h (by omega), colGo_step l t g i c h (by omega)]
      exact ih _ _ _ (by omega) (by omega)
    · rw [colGo_stop _ _ _ _ _ (by omega), colGo_stop _ _ _ _ _ (by omega)]
theorem fromOf_le (l : List UInt8) (i : Nat) : fromOf l i ≤ i := by
  induction i with
  | zero => simp [fromOf]
  | succ i ih => unfold fromOf; split <;> omega
theorem lineOf_le (l : List UInt8) (i : Nat) : lineOf l i ≤ i := by
  induction i with
  | zero => simp [lineOf]
  | succ i ih => unfold lineOf; split <;> omega
inductive Path (l : List UInt8) (i : Nat) : Nat → Nat → Prop
  | refl : Path l i i 0
  | step {o c} : Path l i o c → o < l.length → Path l i (o + (dec (l.drop o)).2) (c + unitsOf (dec (l.drop o)).1)
theorem path_col {l : List UInt8} {i p c : Nat} (h : Path l i p c) (t : Nat) (hp : p ≤ t) (ht : t ≤ l.length) (c0 : Nat) : colGo l t l.length i c0 = colGo l t l.length p (c0 + c) := by
  induction h generalizing c0 with
  | refl => rfl
  | @step o c hpath hol ih =>
    have hw := (dec_width (l.drop o)).1
    rw [ih (by omega), colGo_step l t l.length o _ (by omega) (by omega), Nat.add_assoc]
    exact colGo_fuel _ _ _ _ _ _ (by omega) (by omega)
/-- Of bytes that go on with a code point none ends a line. -/
theorem inner_byte (l : List UInt8) (o j : Nat) (h1 : 1 ≤ j) (h2 : j < (dec (l.drop o)).2) : 128 ≤ byte l (o + j) := by
  rw [dec_drop] at h2
  unfold decodeN at h2
  have hb : ∀ x : Nat, x / 64 = 2 → 128 ≤ x := fun x h => by omega
  split at h2
  · simp only at h2; omega
  · split at h2
    · rename_i _ hc
      split at h2
      · simp only at h2
        obtain rfl : j = 1 := by omega
        exact hb _ hc.2.2
      · simp only at h2; omega
    · split at h2
      · rename_i _ _ hc
        split at h2
        · simp only at h2
          have : j = 1 ∨ j = 2 := by omega
          rcases this with rfl | rfl
          · exact hb _ hc.2.1.2
          · exact hb _ hc.2.2.2
        · simp only at h2; omega
      · split at h2
        · rename_i _ _ _ hc
          split at h2
          · simp only at h2
            have : j = 1 ∨ j = 2 ∨ j = 3 := by omega
            rcases this with rfl | rfl | rfl
            · exact hb _ hc.2.1.2
            · exact hb _ hc.2.2.1.2
            · exact hb _ hc.2.2.2.2
          · simp only at h2; omega
        · simp only at h2; omega
theorem ends_small (l : List UInt8) (o : Nat) (h : endsAt l o = true) : byte l o = 13 ∨ byte l o = 10 := by
  unfold endsAt at h
  split at h
  · left; assumption
  · right; simpa using h
theorem inner_ends (l : List UInt8) (o j : Nat) (h1 : 1 ≤ j) (h2 : j < (dec (l.drop o)).2) : endsAt l (o + j) = false := by
  have := inner_byte l o j h1 h2
  cases h : endsAt l (o + j) with
  | false => rfl
  | true => have := ends_small l _ h; omega
theorem ends_one (l : List UInt8) (o : Nat) (h : endsAt l o = true) : (dec (l.drop o)).2 = 1 := by
  have := ends_small l o h
  rw [dec_drop]
  unfold decodeN
  rw [if_pos (by omega)]
theorem over_ends (l : List UInt8) (o n : Nat) (h0 : endsAt l o = false) (hn : n ≤ (dec (l.drop o)).2) : lineOf l (o + n) = lineOf l o ∧ (0 < n → fromOf l (o + n) = fromOf l o) := by
  induction n with
  | zero => simp
  | succ n ih =>
    have h := ih (by omega)
    have he : endsAt l (o + n) = false := by
      by_cases hz : n = 0
      · subst hz; exact h0
      · exact inner_ends l o n (by omega) (by omega)
    rw [← Nat.add_assoc]
    refine ⟨by rw [lineOf, he]; exact h.1, fun _ => ?_⟩
    rw [fromOf, he]
    by_cases hz : n = 0
    · subst hz; rfl
    · exact h.2 (by omega)
theorem go_ref (l : List UInt8) (f t o k c : Nat) (hot : o ≤ t) (ht : t ≤ l.length) (hf : t ≤ o + f) (hk : k = lineOf l o) (hp : Path l (fromOf l o) o c) : (goP l f t (o, k, c)).2 = refAt l t := by
  induction f generalizing o k c with
  | zero =>
    obtain rfl : o = t := by omega
    subst hk
    unfold refAt goP
    rw [path_col hp o (Nat.le_refl _) ht, colGo_stop _ _ _ _ _ (Nat.le_refl _), Nat.zero_add]
  | succ f ih =>
    by_cases h : o < t
    · have hw := (dec_width (l.drop o)).1
      rw [goP_step l (f + 1) t (o, k, c) h (by omega), Nat.add_sub_cancel]
      cases he : endsAt l o with
      | true =>
        have h1 := ends_one l o he
        have hst : stepP l (o, k, c) = (o + 1, k + 1, 0) := by unfold stepP; simp only [he, h1]; rfl
        rw [hst]
        refine ih (o + 1) (k + 1) 0 (by omega) (by omega) (by rw [lineOf, he, hk]; rfl) ?_
        rw [fromOf, he]; exact Path.refl
      | false =>
        have hst : stepP l (o, k, c) = (o + (dec (l.drop o)).2, k, c + unitsOf (dec (l.drop o)).1) := by unfold stepP; simp only [he]; rfl
        rw [hst]
        have hpath := Path.step hp (by omega)
        by_cases hle : o + (dec (l.drop o)).2 ≤ t
        · have ho := over_ends l o _ he (Nat.le_refl _)
          refine ih _ _ _ hle (by omega) (by rw [ho.1, hk]) ?_
          rw [ho.2 (by omega)]
          exact hpath
        · rw [goP_stop _ _ _ _ (by simp only; omega)]
          have ho := over_ends l o (t - o) he (by omega)
          rw [show o + (t - o) = t by omega] at ho
          unfold refAt
          rw [ho.1, ho.2 (by omega), path_col hp t (by omega) ht, colGo_step l t l.length o _ h (by omega), colGo_stop _ _ _ _ _ (by omega), hk, Nat.zero_add]
    · obtain rfl : o = t := by omega
      rw [goP_stop l (f + 1) o (o, k, c) (Nat.le_refl _)]
      subst hk
      unfold refAt
      rw [path_col hp o (Nat.le_refl _) ht, colGo_stop _ _ _ _ _ (Nat.le_refl _), Nat.zero_add]
theorem refAt_eq (l : List UInt8) (t : Nat) (ht : t ≤ l.length) : refAt l t = atP l t := by
  unfold atP
  exact (go_ref l l.length t 0 0 0 (by omega) ht (by omega) rfl Path.refl).symm

/-- Where the first code point at or behind a place begins. -/
def bd (l : List UInt8) (t : Nat) : Nat := (goP l l.length t (0, 0, 0)).1
theorem goP_reach (l : List UInt8) (f t : Nat) (s : Nat × Nat × Nat) (hs : s.1 ≤ l.length) (ht : t ≤ l.length) (hf : t ≤ s.1 + f) : t ≤ (goP l f t s).1 ∧ (goP l f t s).1 ≤ l.length := by
  induction f generalizing s with
  | zero => simp only [goP]; omega
  | succ f ih =>
    by_cases h : s.1 < t
    · rw [goP_step l _ t s h (by omega)]
      have h1 := stepP_off l s
      have h2 := stepP_le l s (by omega)
      exact ih _ h2 (by omega)
    · rw [goP_stop l _ t s (by omega)]; omega
/-- From its own end on a reading is the same. -/
theorem goP_again (l : List UInt8) (f t : Nat) (s : Nat × Nat × Nat) (u : Nat) (hu : u = (goP l f t s).1) (hst : s.1 ≤ t) (hf : t ≤ s.1 + f) : goP l f u s = goP l f t s := by
  induction f generalizing s with
  | zero => rfl
  | succ f ih =>
    by_cases h : s.1 < t
    · have h1 := stepP_off l s
      rw [goP_step l (f + 1) t s h (by omega), Nat.add_sub_cancel] at hu ⊢
      have hlt : s.1 < u := by
        have : (stepP l s).1 ≤ (goP l f t (stepP l s)).1 := by
          clear ih hu
          generalize stepP l s = x
          clear h1 h hst hf
          induction f generalizing x with
          | zero => simp [goP]
          | succ f ih2 =>
            by_cases hx : x.1 < t
            · rw [goP_step l _ t x hx (by omega)]
              have := stepP_off l x
              have := ih2 (stepP l x)
              simp only [Nat.add_sub_cancel]; omega
            · rw [goP_stop l _ t x (by omega)]; omega
        omega
      rw [goP_step l (f + 1) u s hlt (by omega), Nat.add_sub_cancel]
      by_cases hle : (stepP l s).1 ≤ t
      · exact ih (stepP l s) hu hle (by omega)
      · rw [goP_stop l f t _ (by omega)] at hu ⊢
        rw [goP_stop l f u _ (by omega)]
    · rw [goP_stop l _ t s (by omega)] at hu ⊢
      rw [goP_stop l _ u s (by omega)]
theorem bd_ge (l : List UInt8) (t : Nat) (ht : t ≤ l.length) : t ≤ bd l t ∧ bd l t ≤ l.length := goP_reach l _ t _ (by simp) ht (by simp; omega)
theorem atP_bd (l : List UInt8) (t : Nat) (ht : t ≤ l.length) : atP l (bd l t) = atP l t := by
  unfold atP
  rw [goP_again l l.length t (0, 0, 0) (bd l t) rfl (by simp) (by simp; omega)]
theorem back_bd (l : List UInt8) (t x y : Nat) (ht : t ≤ l.length) (h : atP l t = (x, y)) : backP l x y l.length (0, 0, 0) = (bd l t, x, y) := by
  have := back_goP l l.length t (0, 0, 0) ht
  have e : (goP l l.length t (0, 0, 0)).2 = (x, y) := h
  rw [e] at this
  rw [this]
  unfold bd
  rw [← e]
/-- Where nothing is found, the end of the reading is somewhere else. -/
theorem backP_ends (l : List UInt8) (x y f : Nat) (s : Nat × Nat × Nat) (hs : s.1 ≤ l.length) (hf : l.length ≤ s.1 + f) (hat : ∀ t, t ≤ l.length → s.1 ≤ t → (goP l f t s).2 ≠ (x, y)) :
    (backP l x y f s).1 = l.length ∧ ¬ ((backP l x y f s).2.1 = x ∧ (backP l x y f s).2.2 = y) := by
  induction f generalizing s with
  | zero =>
    have := hat s.1 hs (Nat.le_refl _)
    simp only [goP] at this
    simp only [backP]
    refine ⟨by omega, fun ⟨a, b⟩ => this (by rw [← a, ← b])⟩
  | succ f ih =>
    have h0 := hat s.1 hs (Nat.le_refl _)
    rw [goP_stop l _ _ s (Nat.le_refl _)] at h0
    have h1 : ¬ (s.2.1 = x ∧ s.2.2 = y) := fun ⟨a, b⟩ => h0 (by rw [← a, ← b])
    by_cases h : s.1 < l.length
    · rw [backP_step l x y (f + 1) s h h1 (by omega)]
      have h2 := stepP_off l s
      refine ih _ (stepP_le l s h) (by omega) (fun t ht hst => ?_)
      have := hat t ht (by omega)
      rw [goP_step l (f + 1) t s (by omega) (by omega)] at this
      exact this
    · rw [backP_stop l x y (f + 1) s (.inl (by omega))]
      exact ⟨by omega, h1⟩
/-- The greatest offset of a place, as the reference seeks it from the end. -/
def seek (l : List UInt8) (x y : Int) : Nat → Int × Bool
  | 0 => if ((atP l 0).1 : Int) = x ∧ ((atP l 0).2 : Int) = y then (0, true) else (0, false)
  | i + 1 => if ((atP l (i + 1)).1 : Int) = x ∧ ((atP l (i + 1)).2 : Int) = y then (((i + 1 : Nat) : Int), true) else seek l x y i
theorem seek_hit (l : List UInt8) (x y : Int) (i : Nat) (h : ((atP l i).1 : Int) = x ∧ ((atP l i).2 : Int) = y) : seek l x y i = ((i : Int), true) := by
  cases i <;> simp only [seek, if_pos h]; rfl
theorem seek_miss (l : List UInt8) (x y : Int) (i : Nat) (h : ¬ (((atP l (i + 1)).1 : Int) = x ∧ ((atP l (i + 1)).2 : Int) = y)) : seek l x y (i + 1) = seek l x y i := by
  simp only [seek, if_neg h]
theorem seek_none (l : List UInt8) (x y : Int) (i : Nat) (h : ∀ t, t ≤ i → ¬ (((atP l t).1 : Int) = x ∧ ((atP l t).2 : Int) = y)) : seek l x y i = (0, false) := by
  induction i with
  | zero => simp only [seek, if_neg (h 0 (Nat.le_refl _))]
  | succ i ih => rw [seek_miss l x y i (h _ (Nat.le_refl _))]; exact ih (fun t ht => h t (by omega))
theorem seek_some (l : List UInt8) (x y : Int) (i p : Nat) (hp : p ≤ i) (h : ((atP l p).1 : Int) = x ∧ ((atP l p).2 : Int) = y) (hm : ∀ t, p < t → t ≤ i → ¬ (((atP l t).1 : Int) = x ∧ ((atP l t).2 : Int) = y)) : seek l x y i = ((p : Int), true) := by
  induction i with
  | zero =>
    obtain rfl : p = 0 := by omega
    exact seek_hit l x y 0 h
  | succ i ih =>
    by_cases e : p = i + 1
    · subst e; exact seek_hit l x y _ h
    · rw [seek_miss l x y i (hm _ (by omega) (Nat.le_refl _))]
      exact ih (by omega) (fun t a b => hm t a (by omega))
theorem atP_pastbd (l : List UInt8) (t u : Nat) (ht : t ≤ l.length) (hu : u ≤ l.length) (h : bd l t < u) : atP l u ≠ atP l t := by
  intro he
  have h1 := back_bd l t _ _ ht (rfl : atP l t = ((atP l t).1, (atP l t).2))
  have h2 := back_bd l u _ _ hu (show atP l u = ((atP l t).1, (atP l t).2) from he)
  have h3 := h1.symm.trans h2
  have := (Prod.mk.inj h3).1
  have := bd_ge l u hu
  omega
/-- What the code finds and what the reference finds. -/
def found (l : List UInt8) (x y : Int) : Int × Bool := seek l x y l.length
theorem found_none (l : List UInt8) (x y : Int) (h : ∀ t, t ≤ l.length → ¬ (((atP l t).1 : Int) = x ∧ ((atP l t).2 : Int) = y)) : found l x y = (0, false) := seek_none l x y _ h
theorem found_some (l : List UInt8) (x y t : Nat) (ht : t ≤ l.length) (h : atP l t = (x, y)) : found l x y = (((bd l t : Nat) : Int), true) ∧ backP l x y l.length (0, 0, 0) = (bd l t, x, y) := by
  refine ⟨?_, back_bd l t x y ht h⟩
  have hb := bd_ge l t ht
  have hab := atP_bd l t ht
  refine seek_some l x y l.length (bd l t) hb.2 (by rw [hab, h]; exact ⟨rfl, rfl⟩) (fun u hu hl => ?_)
  have := atP_pastbd l t u ht hl hu
  intro ⟨a, b⟩
  refine this ?_
  rw [h]
  exact Prod.ext (by simp only; omega) (by simp only; omega)
end Go.Proofs.YtpedipalpebolaaDoor.M
