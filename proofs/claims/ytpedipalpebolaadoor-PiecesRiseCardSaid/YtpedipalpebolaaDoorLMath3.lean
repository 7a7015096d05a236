/- Plain numbers and lists: a place is found again. Nothing of the program is imported. -/
import Derived.Test.YtpedipalpebolaaDoorLMath2
namespace Go.Proofs.YtpedipalpebolaaDoor.M

def backP (l : List UInt8) (k c : Nat) : Nat → Nat × Nat × Nat → Nat × Nat × Nat
  | 0, s => s
  | f + 1, s => if s.1 < l.length ∧ ¬ (s.2.1 = k ∧ s.2.2 = c) then backP l k c f (stepP l s) else s
theorem backP_stop (l : List UInt8) (k c f : Nat) (s : Nat × Nat × Nat) (h : l.length ≤ s.1 ∨ (s.2.1 = k ∧ s.2.2 = c)) : backP l k c f s = s := by
  cases f with
  | zero => rfl
  | succ f => unfold backP; rw [if_neg]; omega
theorem backP_step (l : List UInt8) (k c f : Nat) (s : Nat × Nat × Nat) (h : s.1 < l.length) (h2 : ¬ (s.2.1 = k ∧ s.2.2 = c)) (hf : 0 < f) : backP l k c f s = backP l k c (f - 1) (stepP l s) := by
  cases f with
  | zero => omega
  | succ f => simp only [backP]; rw [if_pos ⟨h, h2⟩]; rfl
/-- One step leads to another place. -/
theorem stepP_strict (l : List UInt8) (s : Nat × Nat × Nat) : s.2.1 < (stepP l s).2.1 ∨ (s.2.1 = (stepP l s).2.1 ∧ s.2.2 < (stepP l s).2.2) := by
  have hu : 1 ≤ unitsOf (dec (l.drop s.1)).1 := by unfold unitsOf; split <;> omega
  unfold stepP
  cases endsAt l s.1
  · right; simp; omega
  · left; simp
theorem goP_strict (l : List UInt8) (f t : Nat) (s : Nat × Nat × Nat) (h : s.1 < t) (hf : 0 < f) : s.2.1 < (goP l f t s).2.1 ∨ (s.2.1 = (goP l f t s).2.1 ∧ s.2.2 < (goP l f t s).2.2) := by
  rw [goP_step l f t s h hf]
  have h1 := stepP_strict l s
  have h2 := goP_later l (f - 1) t (stepP l s)
  unfold Later at h2
  omega
theorem back_goP (l : List UInt8) (f t : Nat) (s : Nat × Nat × Nat) (ht : t ≤ l.length) : backP l (goP l f t s).2.1 (goP l f t s).2.2 f s = goP l f t s := by
  induction f generalizing s with
  | zero => rfl
  | succ f ih =>
    by_cases h : s.1 < t
    · have hs := goP_strict l (f + 1) t s h (by omega)
      rw [backP_step l _ _ (f + 1) s (by omega) (by omega) (by omega), goP_step l (f + 1) t s h (by omega)]
      exact ih _
    · rw [goP_stop l _ t s (by omega)]
      exact backP_stop l _ _ _ s (.inr ⟨rfl, rfl⟩)
/-- The reading comes by where a code point begins. -/
theorem goP_hit (rs : List Nat) (pre post : List UInt8) (k c f : Nat) (h : ∀ r ∈ rs, isCP (r : Int) = true) (hf : (encs rs).length ≤ f) :
    (goP (pre ++ (encs rs ++ post)) f (pre.length + (encs rs).length) (pre.length, k, c)).1 = pre.length + (encs rs).length := by
  induction rs generalizing pre k c f with
  | nil => rw [goP_stop _ _ _ _ (by simp [encs])]; simp [encs]
  | cons r rs ih =>
    have hr := h r (by simp)
    have hp := enc_pos r
    have e : encs (r :: rs) = enc r ++ encs rs := by simp [encs]
    rw [e] at hf ⊢
    rw [List.length_append] at hf ⊢
    have hd : dec ((pre ++ (enc r ++ encs rs ++ post)).drop pre.length) = (r, wid r) := by
      rw [List.drop_left, List.append_assoc]; exact dec_enc r hr _
    rw [goP_step _ _ _ _ (by simp only; omega) (by omega)]
    obtain ⟨k2, c2, hst⟩ : ∃ k2 c2, stepP (pre ++ (enc r ++ encs rs ++ post)) (pre.length, k, c) = ((pre ++ enc r).length, k2, c2) := by
      unfold stepP
      simp only [hd]
      rw [List.length_append, enc_len r hr]
      split <;> exact ⟨_, _, rfl⟩
    rw [hst]
    have := ih (pre ++ enc r) k2 c2 (f - 1) (fun x hx => h x (by simp [hx])) (by omega)
    simp only [List.append_assoc, List.length_append, Nat.add_assoc] at this ⊢
    exact this
theorem encs_append (a b : List Nat) : encs (a ++ b) = encs a ++ encs b := by simp [encs]
theorem back_found (rs : List Nat) (t : Nat) (h : ∀ r ∈ rs, isCP (r : Int) = true) :
    ∃ k c, atP (encs rs) (encs (rs.take t)).length = (k, c) ∧ backP (encs rs) k c (encs rs).length (0, 0, 0) = ((encs (rs.take t)).length, k, c) := by
  have e : encs rs = encs (rs.take t) ++ encs (rs.drop t) := by rw [← encs_append, List.take_append_drop]
  have hle : (encs (rs.take t)).length ≤ (encs rs).length := by rw [e, List.length_append]; omega
  have hit := goP_hit (rs.take t) [] (encs (rs.drop t)) 0 0 (encs rs).length (fun r hr => h r (List.mem_of_mem_take hr)) hle
  rw [List.nil_append, ← e] at hit
  simp only [List.length_nil, Nat.zero_add] at hit
  have hb := back_goP (encs rs) (encs rs).length (encs (rs.take t)).length (0, 0, 0) hle
  unfold atP
  obtain ⟨⟨n, k, c⟩, hg⟩ : ∃ s, goP (encs rs) (encs rs).length (encs (rs.take t)).length (0, 0, 0) = s := ⟨_, rfl⟩
  rw [hg] at hit hb ⊢
  simp only at hit hb
  subst hit
  exact ⟨k, c, rfl, hb⟩
end Go.Proofs.YtpedipalpebolaaDoor.M
