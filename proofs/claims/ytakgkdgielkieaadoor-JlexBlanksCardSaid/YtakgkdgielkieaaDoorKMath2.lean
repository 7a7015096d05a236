/- Plain numbers and lists: what is written of units is read as those units, and no text that stands for the same units is shorter. -/
import Derived.Test.YtakgkdgielkieaaDoorKMath
import Derived.Test.YtakgkdgielkieaaDoorUMath3
namespace Go.Proofs.YtakgkdgielkieaaDoor.M
open Go.Lib
set_option linter.unusedVariables false
set_option linter.unusedSimpArgs false

theorem dec_cont (s : List UInt8) (h : (nx s).2.2 = true) : ∀ j, 1 ≤ j → j < (dec s).2 → 128 ≤ byte s j := by
  rw [nx_ok] at h
  intro j h1 h2
  unfold dec decodeN at h h2
  have h3 := byte_lt s 1
  repeat' split at h2
  all_goals
    simp only at h2
    first
      | omega
      | (have : j = 1 := by omega
         subst this; omega)
      | (have : j = 1 ∨ j = 2 := by omega
         rcases this with rfl | rfl <;> omega)
      | (have : j = 1 ∨ j = 2 ∨ j = 3 := by omega
         rcases this with rfl | rfl | rfl <;> omega)
theorem validAll_step (s : List UInt8) (h : 0 < s.length) : (validAll s).2 = ((nx s).2.2 && (validAll (s.drop (dec s).2)).2) := by
  unfold validAll
  cases hn : (nx s).2.2 with
  | false => rw [valid_bad _ _ _ h h (by simpa using hn)]; simp
  | true =>
    rw [valid_good _ _ _ h h (by simpa using hn)]
    simp only [List.drop_zero, Nat.zero_add, Bool.true_and]
    have hw := dec_width s
    have hl := dec_le s h
    obtain ⟨a, b, hab, ha⟩ : ∃ a b, s = a ++ b ∧ a.length = (dec s).2 := ⟨s.take (dec s).2, s.drop (dec s).2, by simp, by simp; omega⟩
    have hb : s.drop (dec s).2 = b := by rw [← ha, hab]; simp
    have := valid_shift a b (s.length - 1) 0
    rw [hb, ← ha]
    conv => lhs; rw [show valid (s.length - 1) s a.length = valid (s.length - 1) (a ++ b) (a.length + 0) by rw [← hab, Nat.add_zero]]
    rw [this]
    simp only
    rw [valid_fuel b (s.length - 1) b.length 0 (by have := congrArg List.length hab; simp at this; omega) (by omega)]
theorem jtS_high (h s : List UInt8) (hh : ∀ c ∈ h, 128 ≤ c.toNat) : jtS (h ++ s) = (jtS s).map (· + h.length) := by
  induction h with
  | nil => simp
  | cons c t ih =>
    have hc := hh c (by simp)
    rw [List.cons_append, jtS_cons, if_neg (by intro e; subst e; simp at hc), if_neg (by omega), if_pos (by intro e; subst e; simp at hc), ih (fun d hd => hh d (by simp [hd]))]
    rw [Option.map_map]
    congr 1
theorem byte_get (s : List UInt8) (j : Nat) (h : j < s.length) : byte s j = s[j].toNat := by unfold byte; simp [h]
/-- One code point on. -/
theorem jt_cp (s : List UInt8) (h : jtS s = some s.length) (hl : 1 < s.length) (hv : (validAll s).2 = true) (hc : s.getD 0 0 ≠ 92) :
    s.getD 0 0 ≠ 34 ∧ 32 ≤ (s.getD 0 0).toNat ∧ (nx s).2.2 = true ∧ (dec s).2 < s.length ∧ jtS (s.drop (dec s).2) = some (s.drop (dec s).2).length ∧ (validAll (s.drop (dec s).2)).2 = true := by
  rw [validAll_step s (by omega), Bool.and_eq_true] at hv
  have hw := dec_width s
  have hdl := dec_le s (by omega)
  have hcont := dec_cont s hv.1
  match s, hl with
  | c :: t, hl =>
    simp only [List.getD_cons_zero] at hc ⊢
    rw [jtS_cons] at h
    by_cases h34 : c = 34
    · rw [if_pos h34] at h; simp at h; subst h; simp at hl
    · rw [if_neg h34] at h
      by_cases h32 : c.toNat < 32
      · rw [if_pos h32] at h; exact absurd h (by simp)
      · rw [if_neg h32, if_pos hc] at h
        obtain ⟨n, hn⟩ : ∃ n, (dec (c :: t)).2 = n + 1 := ⟨(dec (c :: t)).2 - 1, by omega⟩
        rw [hn] at hv hdl hcont ⊢
        simp only [List.drop_succ_cons] at hv ⊢
        have hsp : t = t.take n ++ t.drop n := by simp
        have hhi := jtS_high (t.take n) (t.drop n) (fun d hd => by
          obtain ⟨j, hj, rfl⟩ := List.getElem_of_mem hd
          simp only [List.length_take] at hj
          have := hcont (j + 1) (by omega) (by omega)
          rw [byte_get _ _ (by simp; omega)] at this
          simpa using this)
        rw [← hsp] at hhi
        rw [hhi] at h
        have hn2 : n ≤ t.length := by simp at hdl; omega
        cases hj : jtS (t.drop n) with
        | none => rw [hj] at h; exact absurd h (by simp)
        | some m =>
          rw [hj] at h
          simp at h
          have hm := jtS_le _ m hj
          refine ⟨h34, by omega, hv.1, ?_, ?_, hv.2⟩
          · simp at hm ⊢; omega
          · rw [List.length_drop]; congr 1; omega
theorem getD_in (t : List UInt8) (k : Nat) (h : t.getD k 0 ≠ 0) : k < t.length := by
  by_cases hk : k < t.length
  · exact hk
  · exact absurd (by simp [List.getD, List.getElem?_eq_none (Nat.le_of_not_lt hk)]) h
theorem hexOk_in (t : List UInt8) (k : Nat) (h : hexOk t k = true) : k < t.length ∧ 48 ≤ (t.getD k 0).toNat ∧ (t.getD k 0).toNat < 128 := by
  unfold hexOk at h
  have h2 := of_decide_eq_true h
  unfold hexV at h2
  have : 48 ≤ (t.getD k 0).toNat ∧ (t.getD k 0).toNat < 128 := by
    repeat' split at h2
    all_goals omega
  exact ⟨getD_in t k (by intro e; rw [e] at this; simp at this), this⟩
theorem nx_ascii (s : List UInt8) (h : 0 < s.length) (hb : (s.getD 0 0).toNat < 128) : (nx s).2.2 = true ∧ (dec s).2 = 1 ∧ (dec s).1 = (s.getD 0 0).toNat := by
  have hd : dec s = ((s.getD 0 0).toNat, 1) := by unfold dec decodeN byte; rw [if_pos hb]
  rw [nx_ok, hd]
  refine ⟨?_, rfl, rfl⟩
  intro e
  have := congrArg Prod.fst e
  simp only at this
  omega
theorem valid_ascii (s : List UInt8) (h : 0 < s.length) (hb : (s.getD 0 0).toNat < 128) : (validAll s).2 = (validAll (s.drop 1)).2 := by
  have := nx_ascii s h hb
  rw [validAll_step s h, this.1, this.2.1]; simp
theorem valid_asciis (k : Nat) (s : List UInt8) (h : k ≤ s.length) (hb : ∀ j, j < k → (s.getD j 0).toNat < 128) : (validAll s).2 = (validAll (s.drop k)).2 := by
  induction k generalizing s with
  | zero => simp
  | succ k ih =>
    rw [valid_ascii s (by omega) (hb 0 (by omega)), ih (s.drop 1) (by simp; omega) (fun j hj => by have := hb (j + 1) (by omega); simpa [List.getD, Nat.add_comm] using this)]
    rw [List.drop_drop, Nat.add_comm]
/-- One number on. -/
theorem jt_hex (t : List UInt8) (h : jtS (92 :: t) = some (t.length + 1)) (hv : (validAll (92 :: t)).2 = true) (h1 : t.getD 0 0 = 117) :
    5 < t.length ∧ hex4ok (t.drop 1) = true ∧ jtS (t.drop 5) = some (t.drop 5).length ∧ (validAll (t.drop 5)).2 = true := by
  rw [jtS_cons, if_neg (by decide), if_neg (by decide), if_neg (by simp), if_pos h1] at h
  cases h4 : hex4ok (t.drop 1) with
  | false => rw [h4] at h; exact absurd h (by simp)
  | true =>
    rw [h4, if_pos rfl] at h
    cases hj : jtS (t.drop 5) with
    | none => rw [hj] at h; exact absurd h (by simp)
    | some m =>
      rw [hj] at h
      simp at h
      have hm := jtS_le _ m hj
      rw [List.length_drop] at hm
      refine ⟨by omega, rfl, by rw [List.length_drop]; congr 1; omega, ?_⟩
      unfold hex4ok at h4
      simp only [Bool.and_eq_true] at h4
      have e : ∀ j, (t.drop 1).getD j 0 = t.getD (j + 1) 0 := fun j => by simp [List.getD, Nat.add_comm]
      have q0 := hexOk_in _ _ h4.1.1.1
      have q1 := hexOk_in _ _ h4.1.1.2
      have q2 := hexOk_in _ _ h4.1.2
      have q3 := hexOk_in _ _ h4.2
      rw [e] at q0 q1 q2 q3
      simp only [Nat.zero_add, Nat.reduceAdd] at q0 q1 q2 q3
      rw [valid_asciis 6 (92 :: t) (by simp; omega) (fun j hj => by
        have : j = 0 ∨ j = 1 ∨ j = 2 ∨ j = 3 ∨ j = 4 ∨ j = 5 := by omega
        rcases this with rfl | rfl | rfl | rfl | rfl | rfl
        · simp
        · simp only [List.getD_cons_succ]; rw [h1]; decide
        · simp only [List.getD_cons_succ]; omega
        · simp only [List.getD_cons_succ]; omega
        · simp only [List.getD_cons_succ]; omega
        · simp only [List.getD_cons_succ]; omega)] at hv
      simpa using hv
/-- One escape on. -/
theorem jt_esc (t : List UInt8) (h : jtS (92 :: t) = some (t.length + 1)) (hv : (validAll (92 :: t)).2 = true) (h1 : t.getD 0 0 ≠ 117) :
    1 < t.length ∧ t.getD 0 0 ∈ escL ∧ jtS (t.drop 1) = some (t.drop 1).length ∧ (validAll (t.drop 1)).2 = true := by
  rw [jtS_cons, if_neg (by decide), if_neg (by decide), if_neg (by simp), if_neg h1] at h
  by_cases h2 : t.getD 0 0 ∈ escL
  · rw [if_pos h2] at h
    cases hj : jtS (t.drop 1) with
    | none => rw [hj] at h; exact absurd h (by simp)
    | some m =>
      rw [hj] at h
      simp at h
      have hm := jtS_le _ m hj
      rw [List.length_drop] at hm
      refine ⟨by omega, h2, by rw [List.length_drop]; congr 1; omega, ?_⟩
      have hlow : (t.getD 0 0).toNat < 128 := by
        revert h2; generalize t.getD 0 0 = d
        unfold escL; intro h2
        simp only [List.mem_cons, List.mem_nil_iff, or_false] at h2
        rcases h2 with rfl | rfl | rfl | rfl | rfl | rfl | rfl | rfl <;> decide
      rw [valid_asciis 2 (92 :: t) (by simp; omega) (fun j hj => by
        have : j = 0 ∨ j = 1 := by omega
        rcases this with rfl | rfl
        · simp
        · simpa using hlow)] at hv
      simpa using hv
  · rw [if_neg h2] at h; exact absurd h (by simp)
end Go.Proofs.YtakgkdgielkieaaDoor.M
