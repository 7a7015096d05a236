/- Plain numbers and lists: each token of a text, taken out, is a token alone, and UTF-8. -/
import Derived.Test.YtakgkdgielkieaaDoorQMath8
namespace Go.Proofs.YtakgkdgielkieaaDoor
open Go.Lib
set_option linter.unusedVariables false
set_option linter.unusedSimpArgs false

theorem decodeN_less (n m b0 b1 b2 b3 c1 c2 c3 : Nat) (hok : decodeN m b0 c1 c2 c3 ≠ (65533, 1)) (hw : (decodeN m b0 c1 c2 c3).2 ≤ n) (h1 : 1 < n → c1 = b1) (h2 : 2 < n → c2 = b2) (h3 : 3 < n → c3 = b3) :
    decodeN n b0 b1 b2 b3 = decodeN m b0 c1 c2 c3 := by
  by_cases a0 : b0 < 128
  · unfold decodeN; rw [if_pos a0, if_pos a0]
  · by_cases a1 : b0 / 32 = 6 ∧ (1 < m ∧ c1 / 64 = 2)
    · have e : decodeN m b0 c1 c2 c3 = if b0 % 32 * 64 + c1 % 64 ≥ 128 then (b0 % 32 * 64 + c1 % 64, 2) else (65533, 1) := by unfold decodeN; rw [if_neg a0, if_pos a1]
      rw [e] at hok hw ⊢
      split at hok
      · rename_i hc
        rw [if_pos hc] at hw ⊢
        simp only at hw
        obtain rfl := h1 (by omega)
        unfold decodeN
        rw [if_neg a0, if_pos ⟨a1.1, by omega, a1.2.2⟩, if_pos hc]
      · exact absurd rfl hok
    · by_cases a2 : b0 / 16 = 14 ∧ (1 < m ∧ c1 / 64 = 2) ∧ (2 < m ∧ c2 / 64 = 2)
      · have e := show decodeN m b0 c1 c2 c3 = _ by unfold decodeN; rw [if_neg a0, if_neg a1, if_pos a2]
        rw [e] at hok hw ⊢
        split at hok
        · rename_i hc
          rw [if_pos hc] at hw ⊢
          simp only at hw
          obtain rfl := h1 (by omega)
          obtain rfl := h2 (by omega)
          unfold decodeN
          rw [if_neg a0, if_neg (by omega), if_pos ⟨a2.1, ⟨by omega, a2.2.1.2⟩, by omega, a2.2.2.2⟩, if_pos hc]
        · exact absurd rfl hok
      · by_cases a3 : b0 / 8 = 30 ∧ (1 < m ∧ c1 / 64 = 2) ∧ (2 < m ∧ c2 / 64 = 2) ∧ (3 < m ∧ c3 / 64 = 2)
        · have e := show decodeN m b0 c1 c2 c3 = _ by unfold decodeN; rw [if_neg a0, if_neg a1, if_neg a2, if_pos a3]
          rw [e] at hok hw ⊢
          split at hok
          · rename_i hc
            rw [if_pos hc] at hw ⊢
            simp only at hw
            obtain rfl := h1 (by omega)
            obtain rfl := h2 (by omega)
            obtain rfl := h3 (by omega)
            unfold decodeN
            rw [if_neg a0, if_neg (by omega), if_neg (by omega), if_pos ⟨a3.1, ⟨by omega, a3.2.1.2⟩, ⟨by omega, a3.2.2.1.2⟩, by omega, a3.2.2.2.2⟩, if_pos hc]
          · exact absurd rfl hok
        · exfalso; apply hok; unfold decodeN; rw [if_neg a0, if_neg a1, if_neg a2, if_neg a3]
theorem byte_take (s : List UInt8) (n i : Nat) (h : i < n) : M.byte (s.take n) i = M.byte s i := by
  unfold M.byte; simp only [List.getD]; rw [List.getElem?_take_of_lt h]
theorem dec_take (s : List UInt8) (n : Nat) (hn : n ≤ s.length) (h0 : 0 < n) (h : (M.nx s).2.2 = true) (hw : (M.dec s).2 ≤ n) : M.dec (s.take n) = M.dec s := by
  rw [M.nx_ok] at h
  unfold M.dec at *
  rw [byte_take s n 0 h0]
  have hl : (s.take n).length = n := by rw [List.length_take]; omega
  rw [hl]
  exact decodeN_less n s.length _ _ _ _ _ _ _ h hw (fun h => (byte_take s n 1 h).symm) (fun h => (byte_take s n 2 h).symm) (fun h => (byte_take s n 3 h).symm)
theorem valid_all_ascii (s : List UInt8) (h : ∀ j, j < s.length → (s.getD j 0).toNat < 128) : (M.validAll s).2 = true := by
  rw [M.valid_asciis s.length s (Nat.le_refl _) h, List.drop_length]; rfl
theorem take_get (s : List UInt8) (n j : Nat) (h : j < n) : (s.take n).getD j 0 = s.getD j 0 := by simp only [List.getD]; rw [List.getElem?_take_of_lt h]
/-- One element, taken out, is UTF-8. -/
theorem elem_valid (u : List UInt8) (h : 0 < u.length) (hv : (M.validAll u).2 = true) (he : 0 < elemN u 0) : (M.validAll (u.take (elemN u 0))).2 = true := by
  have hok : Okv u 0 := by unfold Okv; simpa using hv
  by_cases h92 : u.getD 0 0 = 92
  · by_cases h117 : u.getD 1 0 = 117
    · cases h4 : M.hex4ok (u.drop 2) with
      | false => exfalso; unfold elemN at he; rw [if_pos h92, if_pos h117, if_neg (by rw [h4]; simp)] at he; omega
      | true =>
        have e6 : elemN u 0 = 6 := by unfold elemN; rw [if_pos h92, if_pos h117, if_pos h4]
        rw [e6]
        unfold M.hex4ok at h4
        simp only [Bool.and_eq_true] at h4
        have q0 := M.hexOk_in _ _ h4.1.1.1
        have q1 := M.hexOk_in _ _ h4.1.1.2
        have q2 := M.hexOk_in _ _ h4.1.2
        have q3 := M.hexOk_in _ _ h4.2
        rw [M.drop_getD] at q0 q1 q2 q3
        apply valid_all_ascii
        intro j hj
        rw [List.length_take] at hj
        rw [take_get u 6 j (by omega)]
        have : j = 0 ∨ j = 1 ∨ j = 2 ∨ j = 3 ∨ j = 4 ∨ j = 5 := by omega
        rcases this with rfl | rfl | rfl | rfl | rfl | rfl
        · rw [h92]; decide
        · rw [h117]; decide
        · exact q0.2.2
        · exact q1.2.2
        · exact q2.2.2
        · exact q3.2.2
    · by_cases hm : u.getD 1 0 ∈ M.escL
      · have e2 : elemN u 0 = 2 := by unfold elemN; rw [if_pos h92, if_neg h117, if_pos hm]
        rw [e2]
        apply valid_all_ascii
        intro j hj
        rw [List.length_take] at hj
        rw [take_get u 2 j (by omega)]
        have : j = 0 ∨ j = 1 := by omega
        rcases this with rfl | rfl
        · rw [h92]; decide
        · have : ∀ d : UInt8, d ∈ M.escL → d.toNat < 128 := by decide
          exact this _ hm
      · exfalso; unfold elemN at he; rw [if_pos h92, if_neg h117, if_neg hm] at he; omega
  · by_cases h32 : 32 ≤ (u.getD 0 0).toNat
    · have ed : elemN u 0 = (M.dec u).2 := by unfold elemN; rw [if_neg h92, if_pos h32, List.drop_zero]
      rw [ed]
      have hw := M.dec_width u
      have hle := M.dec_le u h
      have hnx := (okv_nx u 0 h hok).1
      rw [List.drop_zero] at hnx
      have hd := dec_take u (M.dec u).2 hle (by omega) hnx (Nat.le_refl _)
      have hl : (u.take (M.dec u).2).length = (M.dec u).2 := by rw [List.length_take]; omega
      rw [M.validAll_step _ (by omega), hd, List.drop_eq_nil_of_le (by omega)]
      rw [Bool.and_eq_true]
      refine ⟨?_, rfl⟩
      rw [M.nx_ok, hd, ← M.nx_ok]; exact hnx
    · exfalso; unfold elemN at he; rw [if_neg h92, if_neg h32] at he; omega
theorem text_take (N : Nat) : ∀ (u : List UInt8) (n : Nat), u.length ≤ N → (M.validAll u).2 = true → M.jtS u = some n → (M.validAll (u.take n)).2 = true := by
  induction N with
  | zero => intro u n h hv hj; have : u = [] := List.length_eq_zero_iff.1 (by omega); subst this; rw [M.jtS_nil] at hj; exact absurd hj (by simp)
  | succ N ih =>
    intro u n h hv hj
    have h0 : 0 < u.length := by
      rcases Nat.eq_zero_or_pos u.length with e | e
      · have : u = [] := List.length_eq_zero_iff.1 e
        subst this; rw [M.jtS_nil] at hj; exact absurd hj (by simp)
      · exact e
    have hn := M.jtS_le u n hj
    by_cases h34 : u.getD 0 0 = 34
    · have hgd : u.getD 0 0 = u[0] := by simp [h0]
      have := drop_at u 0 h0
      rw [List.drop_zero] at this
      rw [this, M.jtS_cons, if_pos (by rw [← hgd]; exact h34)] at hj
      simp only [Option.some.injEq] at hj
      subst hj
      apply valid_all_ascii
      intro j hjj
      rw [List.length_take] at hjj
      rw [take_get u 1 j (by omega), show j = 0 by omega, h34]; decide
    · have hok : Okv u 0 := by unfold Okv; simpa using hv
      have hz : jtI u 0 = (n : Int) := by unfold jtI; rw [List.drop_zero, hj]; simp
      rcases elem_facts u 0 h0 h34 hok with ⟨_, e⟩ | ⟨e1, e2, e3, e4⟩
      · omega
      · have hev := elem_valid u h0 hv e1
        rw [Nat.zero_add] at e2 e3 e4
        obtain ⟨m, hm⟩ : ∃ m, elemN u 0 = m := ⟨_, rfl⟩
        rw [hm] at e1 e2 e3 e4 hev
        rw [hz] at e3
        unfold jtI at e3
        cases hq : M.jtS (u.drop m) with
        | none => rw [hq] at e3; simp only at e3; omega
        | some q =>
          rw [hq] at e3
          simp only at e3
          have hnq : n = m + q := by omega
          have := ih (u.drop m) q (by rw [List.length_drop]; omega) e4 hq
          rw [hnq, List.take_add, M.join_good _ _ hev]
          exact this
theorem tok_take (s : List UInt8) (k m : Nat) (h0 : 0 < s.length) (hv : (M.validAll s).2 = true) (h : M.tokL s = some (k, m)) : M.GoodT (k, s.take m) := by
  have hm := M.tok_le s h0 k m h
  have hl : (s.take m).length = m := by rw [List.length_take]; omega
  refine ⟨by simp only; omega, ?_, ?_⟩
  · have := M.tok_local s [] k m h0 h (.inr (by decide))
    rw [List.append_nil] at this
    simp only
    rw [hl]; exact this
  · simp only
    by_cases hk : k = 7
    · rcases M.tok_cases s k m h with ⟨h1, _⟩ | ⟨_, h34, q, hq, rfl⟩ | ⟨nm, hnm, _⟩ | ⟨h8, _⟩
      · omega
      · have hv1 : (M.validAll (s.drop 1)).2 = true := by rw [← M.valid_ascii s h0 (by rw [h34]; decide)]; exact hv
        have ht := text_take _ (s.drop 1) q (Nat.le_refl _) hv1 hq
        have e : s.take (q + 1) = s.take 1 ++ (s.drop 1).take q := by rw [Nat.add_comm, List.take_add]
        have h1 : (M.validAll (s.take 1)).2 = true := valid_all_ascii _ (fun j hj => by
          rw [List.length_take] at hj
          rw [take_get s 1 j (by omega), show j = 0 by omega, h34]; decide)
        rw [e, M.join_good _ _ h1]
        exact ht
      · rcases hnm with ⟨_, e⟩ | ⟨_, e⟩ | ⟨_, e⟩ <;> omega
      · omega
    · apply valid_all_ascii
      intro j hj
      rw [hl] at hj
      rw [take_get s m j hj]
      exact M.tok_ascii s k m h hk j hj
end Go.Proofs.YtakgkdgielkieaaDoor
