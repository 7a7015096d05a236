/- Plain numbers and lists: an input as a text is that input again. -/
import Derived.Test.YtkaojigdogeliaaDoorCMath
import Derived.Test.YtkaojigdogeliaaDoorUMath3
namespace Go.Proofs.YtkaojigdogeliaaDoor.M
open Go.Lib
set_option linter.unusedVariables false
set_option linter.unusedSimpArgs false

/-- A code point that an input may have. -/
def Okr (r : Int) : Prop := isCP r = true ∧ r ≠ 0 ∧ r ≠ 12 ∧ r ≠ 13
theorem dec_cp (s : List UInt8) : isCP ((dec s).1 : Int) = true := by
  rw [isCP_iff]
  have h0 := byte_lt s 0
  have h1 := byte_lt s 1
  have h2 := byte_lt s 2
  have h3 := byte_lt s 3
  unfold dec decodeN
  repeat' split
  all_goals (simp only; omega)
theorem step_ok (l : List UInt8) (i : Nat) : Okr (stepR l i).1 := by
  have hc := dec_cp (l.drop i)
  unfold stepR Okr
  repeat' split
  all_goals simp only
  · exact ⟨by decide, by decide, by decide, by decide⟩
  · exact ⟨by decide, by decide, by decide, by decide⟩
  · exact ⟨by decide, by decide, by decide, by decide⟩
  · exact ⟨by decide, by decide, by decide, by decide⟩
  · exact ⟨hc, by omega, by omega, by omega⟩
theorem rn_ok (l : List UInt8) (n i : Nat) (hn : l.length - i ≤ n) : ∀ r ∈ rn l i, Okr r.1 := by
  induction n generalizing i with
  | zero => rw [rn_out l i (by omega)]; simp
  | succ n ih =>
    by_cases h : i < l.length
    · have hs := step_le l i h
      rw [rn_in l i h]
      intro r hr
      rcases List.mem_cons.1 hr with rfl | hr
      · exact step_ok l i
      · exact ih _ (by omega) r hr
    · rw [rn_out l i (by omega)]; simp
/-- The places rise, from i on, below the end. -/
theorem rn_at (l : List UInt8) (n i : Nat) (hn : l.length - i ≤ n) : ∀ k (h : k < (rn l i).length), (i : Int) + k ≤ ((rn l i)[k]).2 ∧ ((rn l i)[k]).2 < l.length ∧ (∀ h2 : k + 1 < (rn l i).length, ((rn l i)[k]).2 < ((rn l i)[k + 1]).2) := by
  induction n generalizing i with
  | zero => intro k h; rw [rn_out l i (by omega)] at h; simp at h
  | succ n ih =>
    by_cases hi : i < l.length
    · have hs := step_le l i hi
      have e := rn_in l i hi
      have ih' := ih (i + (stepR l i).2) (by omega)
      rw [e]
      intro k h
      cases k with
      | zero =>
        refine ⟨by simp, by simp; omega, fun h2 => ?_⟩
        have := (ih' 0 (by simpa using h2)).1
        simp at this ⊢
        omega
      | succ k =>
        have := ih' k (by simpa using h)
        refine ⟨?_, ?_, fun h2 => ?_⟩
        · have := this.1; simp; omega
        · simpa using this.2.1
        · simpa using this.2.2 (by simpa using h2)
    · intro k h; rw [rn_out l i (by omega)] at h; simp at h
theorem enc_step (pre t : List UInt8) (z : Int) (h : Okr z) : stepR (pre ++ (enc z ++ t)) pre.length = (z, (enc z).length) := by
  obtain ⟨h1, h2, h3, h4⟩ := h
  have h5 := (isCP_iff z).1 h1
  obtain ⟨n, rfl⟩ : ∃ n : Nat, z = n := ⟨z.toNat, by omega⟩
  have hd := dec_enc n h1 t
  have hl := enc_len n h1
  unfold stepR
  have e : (pre ++ (enc (n : Int) ++ t)).drop pre.length = enc (n : Int) ++ t := by simp
  rw [e, hd]
  simp only
  rw [if_neg (by omega), if_neg (by omega), if_neg (by omega), hl]
/-- What is read of a text of code points. -/
theorem rn_enc (zs : List (Int × Int)) (h : ∀ r ∈ zs, Okr r.1) (pre : List UInt8) : (rn (pre ++ encR zs) pre.length).map Prod.fst = zs.map Prod.fst := by
  induction zs generalizing pre with
  | nil => rw [show encR [] = [] from rfl, List.append_nil, rn_out _ _ (Nat.le_refl _)]
  | cons a zs ih =>
    have e : encR (a :: zs) = enc a.1 ++ encR zs := by simp [encR]
    have hp := enc_pos a.1
    have hs := enc_step pre (encR zs) a.1 (h a (by simp))
    rw [e, rn_in _ _ (by rw [List.length_append, List.length_append]; omega), hs]
    simp only [List.map_cons, List.cons.injEq, true_and]
    have := ih (fun r hr => h r (by simp [hr])) (pre ++ enc a.1)
    rw [List.append_assoc, List.length_append] at this
    exact this
theorem enc_clean (z : Int) (h : Okr z) : ∀ c ∈ enc z, c ≠ 0 ∧ c ≠ 12 ∧ c ≠ 13 := by
  obtain ⟨h1, h2, h3, h4⟩ := h
  have h5 := (isCP_iff z).1 h1
  obtain ⟨n, rfl⟩ : ∃ n : Nat, z = n := ⟨z.toNat, by omega⟩
  intro c hc
  have hb : c.toNat ≠ 0 ∧ c.toNat ≠ 12 ∧ c.toNat ≠ 13 := by
    by_cases a1 : n < 128
    · rw [enc_one n a1] at hc
      simp only [List.mem_singleton] at hc
      subst hc
      rw [toU8 n (by omega)]; omega
    · by_cases a2 : n < 2048
      · rw [enc_two n (by omega) a2] at hc
        simp only [List.mem_cons, List.mem_nil_iff, or_false] at hc
        rcases hc with rfl | rfl <;> (rw [toU8 _ (by omega)]; omega)
      · by_cases a3 : n ≤ 65535
        · rw [enc_three n (by omega)] at hc
          simp only [List.mem_cons, List.mem_nil_iff, or_false] at hc
          rcases hc with rfl | rfl | rfl <;> (rw [toU8 _ (by omega)]; omega)
        · rw [enc_four n (by omega) (by omega)] at hc
          simp only [List.mem_cons, List.mem_nil_iff, or_false] at hc
          rcases hc with rfl | rfl | rfl | rfl <;> (rw [toU8 _ (by omega)]; omega)
  refine ⟨fun e => ?_, fun e => ?_, fun e => ?_⟩ <;> (subst e; simp at hb)
theorem encR_clean (zs : List (Int × Int)) (h : ∀ r ∈ zs, Okr r.1) : ∀ c ∈ encR zs, c ≠ 0 ∧ c ≠ 12 ∧ c ≠ 13 := by
  intro c hc
  simp only [encR, List.mem_flatMap] at hc
  obtain ⟨r, hr, hc⟩ := hc
  exact enc_clean r.1 (h r hr) c hc
theorem enc_valid (z : Int) (h : isCP z = true) : (validAll (enc z)).2 = true := by
  have h5 := (isCP_iff z).1 h
  obtain ⟨n, rfl⟩ : ∃ n : Nat, z = n := ⟨z.toNat, by omega⟩
  have hp := enc_pos (n : Int)
  have hn := nx_enc n h []
  have hd := dec_enc n h []
  rw [List.append_nil] at hn hd
  unfold validAll
  rw [valid_good _ _ _ (by omega) (by omega) (by simp [hn]), valid_end _ _ _ (by simp [hd, enc_len n h])]
theorem encR_valid (zs : List (Int × Int)) (h : ∀ r ∈ zs, Okr r.1) : validAll (encR zs) = ((encR zs).length, true) := by
  have h2 : (validAll (encR zs)).2 = true := by
    induction zs with
    | nil => rfl
    | cons a zs ih =>
      have e : encR (a :: zs) = enc a.1 ++ encR zs := by simp [encR]
      rw [e, join_good _ _ (enc_valid a.1 (h a (by simp)).1)]
      exact ih (fun r hr => h r (by simp [hr]))
  exact Prod.ext (all_len _ h2) h2
end Go.Proofs.YtkaojigdogeliaaDoor.M
