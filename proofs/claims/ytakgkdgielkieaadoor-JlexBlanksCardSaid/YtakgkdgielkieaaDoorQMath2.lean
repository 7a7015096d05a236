/- Plain numbers and lists: a token is the same whatever stands behind it, but what goes on with it; texts with a blank between. -/
import Derived.Test.YtakgkdgielkieaaDoorQMath
namespace Go.Proofs.YtakgkdgielkieaaDoor.M
open Go.Lib
set_option linter.unusedVariables false
set_option linter.unusedSimpArgs false

theorem take_getD (s t : List UInt8) (n j : Nat) (hj : j < n) (hn : n ≤ s.length) : (s.take n ++ t).getD j 0 = s.getD j 0 := by
  have h1 : j < s.length := by omega
  have h2 : j < (s.take n).length := by rw [List.length_take]; omega
  simp only [List.getD, List.getElem?_append_left h2]
  rw [List.getElem?_take_of_lt hj]
theorem take_getD_n (s t : List UInt8) (n : Nat) (hn : n ≤ s.length) : (s.take n ++ t).getD n 0 = t.getD 0 0 := by
  have h2 : (s.take n).length = n := by rw [List.length_take]; omega
  simp only [List.getD]
  rw [List.getElem?_append_right (by omega), h2, Nat.sub_self]
theorem take_drop (s t : List UInt8) (n m : Nat) (hm : m ≤ n) (hn : n ≤ s.length) : (s.take n ++ t).drop m = (s.drop m).take (n - m) ++ t := by
  rw [List.drop_append_of_le_length (by rw [List.length_take]; omega), List.drop_take]
theorem jtS_local (N : Nat) : ∀ s : List UInt8, s.length ≤ N → ∀ n t, jtS s = some n → jtS (s.take n ++ t) = some n := by
  induction N with
  | zero => intro s hs n t h; have : s = [] := List.length_eq_zero_iff.1 (by omega); subst this; rw [jtS_nil] at h; exact absurd h (by simp)
  | succ N ih =>
    intro s hs n t h
    match s with
    | [] => rw [jtS_nil] at h; exact absurd h (by simp)
    | c :: u =>
      have hle := jtS_le _ n h
      obtain ⟨k, rfl⟩ : ∃ k, n = k + 1 := ⟨n - 1, by omega⟩
      simp only [List.length_cons] at hle hs
      rw [List.take_succ_cons, List.cons_append, jtS_cons]
      rw [jtS_cons] at h
      by_cases h34 : c = 34
      · rw [if_pos h34] at h ⊢; exact h
      rw [if_neg h34] at h ⊢
      by_cases h32 : c.toNat < 32
      · rw [if_pos h32] at h; exact absurd h (by simp)
      rw [if_neg h32] at h ⊢
      by_cases h92 : c ≠ 92
      · rw [if_pos h92] at h ⊢
        cases hj : jtS u with
        | none => rw [hj] at h; exact absurd h (by simp)
        | some m =>
          rw [hj] at h; simp at h; subst h
          rw [ih u (by omega) m t hj]; rfl
      rw [if_neg h92] at h ⊢
      by_cases h117 : u.getD 0 0 = 117
      · rw [if_pos h117] at h
        cases h4 : hex4ok (u.drop 1) with
        | false => rw [h4] at h; exact absurd h (by simp)
        | true =>
          rw [h4, if_pos rfl] at h
          cases hj : jtS (u.drop 5) with
          | none => rw [hj] at h; exact absurd h (by simp)
          | some m =>
            rw [hj] at h; simp at h
            have hm := jtS_le _ m hj
            rw [List.length_drop] at hm
            have hk : k = m + 5 := by omega
            subst hk
            rw [if_pos (by rw [take_getD u t _ 0 (by omega) (by omega)]; exact h117)]
            have e4 : hex4ok ((u.take (m + 5) ++ t).drop 1) = true := by
              rw [← h4]
              unfold hex4ok hexOk
              simp only [drop_getD]
              rw [take_getD u t _ _ (by omega) (by omega), take_getD u t _ _ (by omega) (by omega), take_getD u t _ _ (by omega) (by omega), take_getD u t _ _ (by omega) (by omega)]
            rw [if_pos e4, take_drop u t (m + 5) 5 (by omega) (by omega), Nat.add_sub_cancel, ih (u.drop 5) (by rw [List.length_drop]; omega) m t hj]
            rfl
      · rw [if_neg h117] at h
        by_cases he : u.getD 0 0 ∈ escL
        · rw [if_pos he] at h
          cases hj : jtS (u.drop 1) with
          | none => rw [hj] at h; exact absurd h (by simp)
          | some m =>
            rw [hj] at h; simp at h
            have hm := jtS_le _ m hj
            rw [List.length_drop] at hm
            have hk : k = m + 1 := by omega
            subst hk
            rw [if_neg (by rw [take_getD u t _ 0 (by omega) (by omega)]; exact h117), if_pos (by rw [take_getD u t _ 0 (by omega) (by omega)]; exact he)]
            rw [take_drop u t (m + 1) 1 (by omega) (by omega), Nat.add_sub_cancel, ih (u.drop 1) (by rw [List.length_drop]; omega) m t hj]
            rfl
        · rw [if_neg he] at h; exact absurd h (by simp)

/-- Two texts that agree up to n, and neither of which goes on there. -/
def Ag (n : Nat) (s t : List UInt8) : Prop := (∀ j, j < n → t.getD j 0 = s.getD j 0) ∧ goB (s.getD n 0) = false ∧ goB (t.getD n 0) = false
theorem ag_dg {n : Nat} {s t : List UInt8} (h : Ag n s t) (j : Nat) (hj : j ≤ n) : dgB (t.getD j 0) = dgB (s.getD j 0) := by
  by_cases hlt : j < n
  · rw [h.1 j hlt]
  · obtain rfl : j = n := by omega
    rw [dg_go _ h.2.1, dg_go _ h.2.2]
theorem ag_eq {n : Nat} {s t : List UInt8} (h : Ag n s t) (c : UInt8) (hc : goB c = true) (j : Nat) (hj : j ≤ n) : t.getD j 0 = c ↔ s.getD j 0 = c := by
  by_cases hlt : j < n
  · rw [h.1 j hlt]
  · obtain rfl : j = n := by omega
    constructor
    · intro e; have := h.2.2; rw [e, hc] at this; exact absurd this (by simp)
    · intro e; have := h.2.1; rw [e, hc] at this; exact absurd this (by simp)
theorem ag_lt {n : Nat} {s t : List UInt8} (h : Ag n s t) (c : UInt8) (hc : goB c = true) (j : Nat) (hj : j ≤ n) (e : s.getD j 0 = c) : j < n := by
  rcases Nat.lt_or_ge j n with hlt | hge
  · exact hlt
  · obtain rfl : j = n := by omega
    have := h.2.1; rw [e, hc] at this; exact absurd this (by simp)
theorem ag_dg_lt {n : Nat} {s t : List UInt8} (h : Ag n s t) (j : Nat) (hj : j ≤ n) (e : dgB (s.getD j 0) = true) : j < n := by
  rcases Nat.lt_or_ge j n with hlt | hge
  · exact hlt
  · obtain rfl : j = n := by omega
    have := dg_go _ h.2.1; rw [e] at this; exact absurd this (by simp)
theorem ag_run {n : Nat} {s t : List UInt8} (h : Ag n s t) (a : Nat) (ha : a + run (s.drop a) ≤ n) : run (t.drop a) = run (s.drop a) := by
  rw [run_iff]
  obtain ⟨h1, h2⟩ := (run_iff (s.drop a) _).1 rfl
  refine ⟨fun j hj => ?_, ?_⟩
  · rw [drop_getD, ag_dg h _ (by omega), ← drop_getD]; exact h1 j hj
  · rw [drop_getD, ag_dg h _ ha, ← drop_getD]; exact h2
theorem ag_frac {n : Nat} {s t : List UInt8} (h : Ag n s t) (a : Nat) (ha : a + frac (s.drop a) ≤ n) : frac (t.drop a) = frac (s.drop a) := by
  have ha0 : a ≤ n := by omega
  unfold frac at ha ⊢
  simp only [drop_getD, Nat.add_zero, List.drop_drop] at ha ⊢
  by_cases h46 : s.getD a 0 = 46
  · have hlt := ag_lt h 46 (by decide) a ha0 h46
    have e1 := (ag_eq h 46 (by decide) a ha0).2 h46
    have e2 := ag_dg h (a + 1) (by omega)
    by_cases hd : dgB (s.getD (a + 1) 0) = true
    · rw [if_pos ⟨h46, hd⟩] at ha
      rw [if_pos ⟨e1, by rw [e2]; exact hd⟩, if_pos ⟨h46, hd⟩, ag_run h (a + 1) (by omega)]
    · rw [if_neg (fun hh => hd (by rw [← e2]; exact hh.2)), if_neg (fun hh => hd hh.2)]
  · rw [if_neg (fun hh => h46 ((ag_eq h 46 (by decide) a ha0).1 hh.1)), if_neg (fun hh => h46 hh.1)]
theorem ag_sgn {n : Nat} {s t : List UInt8} (h : Ag n s t) (a : Nat) (ha : a + 1 ≤ n) : sgn (t.drop a) = sgn (s.drop a) := by
  unfold sgn
  simp only [drop_getD]
  by_cases hh : s.getD (a + 1) 0 = 43 ∨ s.getD (a + 1) 0 = 45
  · rw [if_pos (by rwa [ag_eq h 43 (by decide) _ ha, ag_eq h 45 (by decide) _ ha]), if_pos hh]
  · rw [if_neg (by rwa [ag_eq h 43 (by decide) _ ha, ag_eq h 45 (by decide) _ ha]), if_neg hh]
theorem ag_expo {n : Nat} {s t : List UInt8} (h : Ag n s t) (a : Nat) (ha : a + expo (s.drop a) ≤ n) : expo (t.drop a) = expo (s.drop a) := by
  have ha0 : a ≤ n := by omega
  unfold expo at ha ⊢
  simp only [drop_getD, Nat.add_zero, List.drop_drop] at ha ⊢
  by_cases he : s.getD a 0 = 101 ∨ s.getD a 0 = 69
  · have hlt : a < n := by
      rcases he with he | he
      · exact ag_lt h 101 (by decide) a ha0 he
      · exact ag_lt h 69 (by decide) a ha0 he
    have e1 : t.getD a 0 = 101 ∨ t.getD a 0 = 69 := by rwa [ag_eq h 101 (by decide) a ha0, ag_eq h 69 (by decide) a ha0]
    have e2 := ag_sgn h a (by omega)
    have hs : a + sgn (s.drop a) ≤ n := by
      rcases sgn_two (s.drop a) with e | e
      · omega
      · unfold sgn at e
        simp only [drop_getD] at e
        split at e
        · rename_i hh
          rcases hh with hh | hh
          · have := ag_lt h 43 (by decide) (a + 1) (by omega) hh; unfold sgn; simp only [drop_getD]; rw [if_pos (.inl hh)]; omega
          · have := ag_lt h 45 (by decide) (a + 1) (by omega) hh; unfold sgn; simp only [drop_getD]; rw [if_pos (.inr hh)]; omega
        · omega
    rw [if_pos he] at ha
    rw [if_pos e1, if_pos he, e2]
    have e3 := ag_dg h _ hs
    by_cases hd : dgB (s.getD (a + sgn (s.drop a)) 0) = true
    · rw [if_pos hd] at ha
      rw [if_pos (by rw [e3]; exact hd), if_pos hd, ag_run h _ (by omega)]
    · rw [if_neg (by rw [e3]; exact hd), if_neg hd]
  · rw [if_neg (by rwa [ag_eq h 101 (by decide) a ha0, ag_eq h 69 (by decide) a ha0]), if_neg he]
theorem ag_num {n : Nat} {s t : List UInt8} (h : Ag n s t) (hn : numL s = some n) : numL t = some n := by
  have h1 := numL_le s n hn
  have hneg : neg t = neg s := by
    unfold neg
    by_cases hh : s.getD 0 0 = 45
    · rw [if_pos ((ag_eq h 45 (by decide) 0 (by omega)).2 hh), if_pos hh]
    · rw [if_neg (fun k => hh ((ag_eq h 45 (by decide) 0 (by omega)).1 k)), if_neg hh]
  unfold numL at hn ⊢
  rw [hneg]
  split at hn
  · rename_i hd
    simp only at hn
    split at hn
    · exact absurd hn (by simp)
    · rename_i hg
      simp only [Option.some.injEq] at hn
      have hnl : neg s < n := by
        rcases neg_two s with e | e
        · rw [e]; omega
        · have := whole_le (s.drop (neg s)) (by rw [drop_getD]; exact hd)
          omega
      have hw : whole (t.drop (neg s)) = whole (s.drop (neg s)) := by
        unfold whole
        simp only [drop_getD, Nat.add_zero]
        by_cases hz : s.getD (neg s) 0 = 48
        · rw [if_pos (by rw [h.1 _ hnl]; exact hz), if_pos hz]
        · rw [if_neg (by rw [h.1 _ hnl]; exact hz), if_neg hz]
          apply ag_run h
          have e : whole (s.drop (neg s)) = run (s.drop (neg s)) := by unfold whole; rw [drop_getD, Nat.add_zero, if_neg hz]
          rw [← e]; omega
      rw [if_pos (by rw [h.1 _ hnl]; exact hd), hw]
      simp only
      rw [ag_frac h _ (by omega), ag_expo h _ (by omega), hn, if_neg (by rw [h.2.2]; simp)]
  · exact absurd hn (by simp)
theorem tok_local (s t : List UInt8) (k n : Nat) (h0 : 0 < s.length) (h : tokL s = some (k, n)) (hg : k ≤ 7 ∨ goB (t.getD 0 0) = false) : tokL (s.take n ++ t) = some (k, n) := by
  have hl := tok_le s h0 k n h
  have hhd : (s.take n ++ t).getD 0 0 = s.getD 0 0 := take_getD s t n 0 (by omega) hl.2.1
  have hgo := tok_goes s k n h
  rcases tok_cases s k n h with ⟨h1, h2, rfl, hc⟩ | ⟨rfl, h34, m, hm, rfl⟩ | ⟨nm, hnm, hw, hc⟩ | ⟨rfl, hn, hc⟩
  · exact hc _ hhd
  · unfold tokL
    rw [hhd, h34]
    rw [if_neg (by decide), if_neg (by decide), if_neg (by decide), if_neg (by decide), if_neg (by decide), if_neg (by decide), if_pos rfl]
    rw [take_drop s t (m + 1) 1 (by omega) hl.2.1, Nat.add_sub_cancel, jtS_local _ (s.drop 1) (Nat.le_refl _) m t hm]
    rfl
  · rw [hc _ hhd]
    have hp : 1 ≤ nm.length ∧ 7 < k := by rcases hnm with ⟨rfl, rfl⟩ | ⟨rfl, rfl⟩ | ⟨rfl, rfl⟩ <;> decide
    obtain ⟨_, rfl, h3, h4, h5⟩ := wordL_le nm s k hp.1 k n hw
    unfold wordL
    rw [if_pos]
    refine ⟨?_, ?_⟩
    · rw [List.take_append_of_le_length (by rw [List.length_take]; omega), List.take_take, Nat.min_self]; exact h3
    · rw [take_getD_n s t _ h5]
      rcases hg with hg | hg
      · omega
      · exact hg
  · rw [hc _ hhd]
    have ha : Ag n s (s.take n ++ t) := ⟨fun j hj => take_getD s t n j hj hl.2.1, hgo (by omega), by
      rw [take_getD_n s t n hl.2.1]
      rcases hg with hg | hg
      · omega
      · exact hg⟩
    rw [ag_num ha hn]; rfl

theorem lexS_shift (N : Nat) : ∀ (s : List UInt8) (p d : Nat), s.length ≤ N → lexS s (p + d) = (lexS s p).bind (fun r => .ok (r.map fun x => (x.1, x.2.1 + d, x.2.2 + d))) ∨ ∃ e, lexS s p = .error e := by
  induction N with
  | zero => intro s p d h; left; rw [lexS_end s _ (by omega), lexS_end s _ (by omega)]; rfl
  | succ N ih =>
    intro s p d h
    by_cases hle : s.length ≤ lead s
    · left; rw [lexS_end s _ hle, lexS_end s _ hle]; rfl
    · cases ht : tokL (s.drop (lead s)) with
      | none => exact .inr ⟨_, lexS_bad s p (by omega) ht⟩
      | some km =>
        obtain ⟨k, m⟩ := km
        have hm := tok_le (s.drop (lead s)) (by simp; omega) k m ht
        rw [lexS_in s p k m (by omega) ht, lexS_in s (p + d) k m (by omega) ht]
        rcases ih (s.drop (lead s + m)) (p + (lead s + m)) d (by simp; omega) with hi | ⟨e, he⟩
        · rw [show p + d + (lead s + m) = p + (lead s + m) + d by omega, hi]
          cases hx : lexS (s.drop (lead s + m)) (p + (lead s + m)) with
          | error e => exact .inr ⟨e, rfl⟩
          | ok r => left; simp only [Except.bind, List.map_cons]; rw [show p + d + lead s = p + lead s + d by omega]
        · rw [he]; exact .inr ⟨e, rfl⟩
theorem lex_shift (s : List UInt8) (p d : Nat) (r : Toks) (h : lexS s p = .ok r) : lexS s (p + d) = .ok (r.map fun x => (x.1, x.2.1 + d, x.2.2 + d)) := by
  rcases lexS_shift s.length s p d (Nat.le_refl _) with h1 | ⟨e, he⟩
  · rw [h1, h]; rfl
  · rw [h] at he; exact absurd he (by simp)
theorem lead_all (s t : List UInt8) (h : s.length ≤ lead s) : lead (s ++ t) = s.length + lead t := by
  induction s with
  | nil => simp
  | cons c u ih =>
    by_cases hc : blB c = true
    · have e : lead (c :: u) = lead u + 1 := by simp [lead, hc]
      rw [e] at h
      simp only [List.length_cons] at h ⊢
      rw [List.cons_append, show lead (c :: (u ++ t)) = lead (u ++ t) + 1 by simp [lead, hc], ih (by omega)]; omega
    · have e : lead (c :: u) = 0 := by simp [lead, hc]
      rw [e] at h; simp at h
theorem lead_some (s t : List UInt8) (h : lead s < s.length) : lead (s ++ t) = lead s := by
  apply lead_of
  · intro j hj
    have := lead_bl s j hj
    rwa [show (s ++ t).getD j 0 = s.getD j 0 by simp [List.getD, List.getElem?_append_left (show j < s.length by omega)]]
  · have := lead_not s h
    rwa [show (s ++ t).getD (lead s) 0 = s.getD (lead s) 0 by simp [List.getD, List.getElem?_append_left h]]
theorem lex_join (N : Nat) : ∀ (s t : List UInt8) (p : Nat) (a b : Toks), s.length ≤ N → lexS s p = .ok a → lexS t (p + s.length + 1) = .ok b → lexS (s ++ 32 :: t) p = .ok (a ++ b) := by
  induction N with
  | zero =>
    intro s t p a b hN ha hb
    have hs : s = [] := List.length_eq_zero_iff.1 (by omega)
    subst hs
    rw [lexS_end [] p (by simp)] at ha
    simp only [Except.ok.injEq] at ha
    subst ha
    rw [List.nil_append, List.nil_append, lexS_skip (32 :: t) p 1 (by simp [lead, blB])]
    simpa using hb
  | succ N ih =>
    intro s t p a b hN ha hb
    by_cases hle : s.length ≤ lead s
    · rw [lexS_end s p hle] at ha
      simp only [Except.ok.injEq] at ha
      subst ha
      have h1 := lead_all s (32 :: t) hle
      have h2 : 1 ≤ lead (32 :: t) := by simp [lead, blB]
      rw [List.nil_append, lexS_skip (s ++ 32 :: t) p (s.length + 1) (by omega)]
      have e : (s ++ 32 :: t).drop (s.length + 1) = t := by rw [List.drop_append]; simp [List.drop_eq_nil_of_le]
      rw [e, ← Nat.add_assoc]; exact hb
    · have hlt : lead s < s.length := by omega
      have hld := lead_some s (32 :: t) hlt
      cases ht : tokL (s.drop (lead s)) with
      | none => rw [lexS_bad s p hlt ht] at ha; exact absurd ha (by simp)
      | some km =>
        obtain ⟨k, m⟩ := km
        have hm := tok_le (s.drop (lead s)) (by simp; omega) k m ht
        have hgo := tok_goes _ k m ht
        rw [lexS_in s p k m hlt ht] at ha
        have hds : (s.drop (lead s)).length = s.length - lead s := by simp
        cases hx : lexS (s.drop (lead s + m)) (p + (lead s + m)) with
        | error e => rw [hx] at ha; exact absurd ha (by simp)
        | ok r =>
          rw [hx] at ha
          simp only [Except.ok.injEq] at ha
          subst ha
          have hsp : (s ++ 32 :: t).drop (lead s) = (s.drop (lead s)).take m ++ ((s.drop (lead s)).drop m ++ 32 :: t) := by
            rw [List.drop_append_of_le_length (by omega), ← List.append_assoc, List.take_append_drop]
          have htok : tokL ((s ++ 32 :: t).drop (lead s)) = some (k, m) := by
            rw [hsp]
            refine tok_local _ _ k m (by omega) ht ?_
            by_cases hk : k ≤ 7
            · exact .inl hk
            · right
              have hg := hgo (by omega)
              by_cases hend : m < (s.drop (lead s)).length
              · have e : ((s.drop (lead s)).drop m ++ 32 :: t).getD 0 0 = (s.drop (lead s)).getD m 0 := by
                  have e2 := drop_getD (s.drop (lead s)) m 0
                  rw [Nat.add_zero] at e2
                  rw [← e2]
                  simp only [List.getD]
                  rw [List.getElem?_append_left (by rw [List.length_drop]; omega)]
                rw [e]; exact hg
              · rw [List.drop_eq_nil_of_le (by omega)]; rfl
          rw [lexS_in (s ++ 32 :: t) p k m (by rw [hld]; simp; omega) (by rw [hld]; exact htok), hld]
          have e : (s ++ 32 :: t).drop (lead s + m) = s.drop (lead s + m) ++ 32 :: t := List.drop_append_of_le_length (by omega)
          rw [e, ih (s.drop (lead s + m)) t (p + (lead s + m)) r b (by rw [List.length_drop]; omega) hx (by rw [List.length_drop, show p + (lead s + m) + (s.length - (lead s + m)) + 1 = p + s.length + 1 by omega]; exact hb)]
          rfl
/-- Each token stands behind the one ahead, with but blanks between. -/
def Cov (l : List UInt8) : Nat → Toks → Prop
  | p, [] => p ≤ l.length ∧ ∀ j, p ≤ j → j < l.length → blB (l.getD j 0) = true
  | p, x :: r => p ≤ x.2.1 ∧ x.2.1 < x.2.2 ∧ x.2.2 ≤ l.length ∧ (∀ j, p ≤ j → j < x.2.1 → blB (l.getD j 0) = true) ∧ Cov l x.2.2 r
theorem lex_cov (N : Nat) (l : List UInt8) : ∀ (p : Nat) (r : Toks), p ≤ l.length → l.length ≤ p + N → lexS (l.drop p) p = .ok r → Cov l p r := by
  induction N with
  | zero =>
    intro p r h1 h2 h
    rw [lexS_end _ _ (by simp; omega)] at h
    simp only [Except.ok.injEq] at h
    subst h
    exact ⟨h1, fun j h3 h4 => by omega⟩
  | succ N ih =>
    intro p r h1 h2 h
    have hbl : ∀ j, p ≤ j → j < p + lead (l.drop p) → blB (l.getD j 0) = true := by
      intro j h3 h4
      have := lead_bl (l.drop p) (j - p) (by omega)
      rwa [drop_getD, show p + (j - p) = j by omega] at this
    by_cases hle : (l.drop p).length ≤ lead (l.drop p)
    · rw [lexS_end _ _ hle] at h
      simp only [Except.ok.injEq] at h
      subst h
      rw [List.length_drop] at hle
      exact ⟨h1, fun j h3 h4 => hbl j h3 (by omega)⟩
    · have hlt : lead (l.drop p) < (l.drop p).length := by omega
      cases ht : tokL ((l.drop p).drop (lead (l.drop p))) with
      | none => rw [lexS_bad _ p hlt ht] at h; exact absurd h (by simp)
      | some km =>
        obtain ⟨k, m⟩ := km
        have hm := tok_le ((l.drop p).drop (lead (l.drop p))) (by rw [List.length_drop]; omega) k m ht
        have hm1 := hm.1
        have hm2 : p + (lead (l.drop p) + m) ≤ l.length := by
          have h3 := hm.2.1
          have h4 := hlt
          rw [List.length_drop] at h3 h4
          rw [List.length_drop] at h3
          omega
        rw [lexS_in _ p k m hlt ht, List.drop_drop] at h
        clear hm hlt hle
        cases hx : lexS (l.drop (p + (lead (l.drop p) + m))) (p + (lead (l.drop p) + m)) with
        | error e => rw [hx] at h; exact absurd h (by simp)
        | ok q =>
          rw [hx] at h
          simp only [Except.ok.injEq] at h
          subst h
          exact ⟨Nat.le_add_right _ _, Nat.add_lt_add_left (by omega) _, hm2, fun j h3 h4 => hbl j h3 h4, ih (p + (lead (l.drop p) + m)) q hm2 (by omega) hx⟩
theorem run_go (s : List UInt8) (j : Nat) (h : j < run s) : goB (s.getD j 0) = true := by
  have := ((run_iff s _).1 rfl).1 j h
  unfold goB; rw [this]; rfl
theorem frac_go (s : List UInt8) (j : Nat) (h : j < frac s) : goB (s.getD j 0) = true := by
  unfold frac at h
  split at h
  · rename_i hh
    cases j with
    | zero => rw [hh.1]; decide
    | succ j =>
      have := run_go (s.drop 1) j (by omega)
      rwa [drop_getD, Nat.add_comm] at this
  · omega
theorem expo_go (s : List UInt8) (j : Nat) (h : j < expo s) : goB (s.getD j 0) = true := by
  unfold expo at h
  split at h
  · rename_i hh
    split at h
    · by_cases hj : j < sgn s
      · cases j with
        | zero => rcases hh with e | e <;> (rw [e]; decide)
        | succ j =>
          unfold sgn at hj
          split at hj
          · rename_i h2
            have : j = 0 := by omega
            subst this
            rcases h2 with e | e <;> (rw [e]; decide)
          · omega
      · have := run_go (s.drop (sgn s)) (j - sgn s) (by omega)
        rwa [drop_getD, show sgn s + (j - sgn s) = j by omega] at this
    · omega
  · omega
theorem whole_go (s : List UInt8) (hd : dgB (s.getD 0 0) = true) (j : Nat) (h : j < whole s) : goB (s.getD j 0) = true := by
  unfold whole at h
  split at h
  · have : j = 0 := by omega
    subst this
    unfold goB; rw [hd]; rfl
  · exact run_go s j h
theorem num_go (s : List UInt8) (n : Nat) (h : numL s = some n) : ∀ j, j < n → goB (s.getD j 0) = true := by
  unfold numL at h
  split at h
  · rename_i hd
    simp only at h
    split at h
    · exact absurd h (by simp)
    · simp only [Option.some.injEq] at h
      intro j hj
      by_cases h1 : j < neg s
      · unfold neg at h1
        split at h1
        · rename_i e
          have : j = 0 := by omega
          subst this
          rw [e]; decide
        · omega
      by_cases h2 : j < neg s + whole (s.drop (neg s))
      · have := whole_go (s.drop (neg s)) (by rw [drop_getD]; exact hd) (j - neg s) (by omega)
        rwa [drop_getD, show neg s + (j - neg s) = j by omega] at this
      generalize neg s + whole (s.drop (neg s)) = a at h h2
      by_cases h3 : j < a + frac (s.drop a)
      · have := frac_go (s.drop a) (j - a) (by omega)
        rwa [drop_getD, show a + (j - a) = j by omega] at this
      generalize a + frac (s.drop a) = b at h h3
      have := expo_go (s.drop b) (j - b) (by omega)
      rwa [drop_getD, show b + (j - b) = j by omega] at this
  · exact absurd h (by simp)
theorem go_ascii (c : UInt8) (h : goB c = true) : c.toNat < 128 := by
  have h0 : ∀ d : Fin 256, goB d.val.toUInt8 = true → d.val < 128 := by decide +kernel
  have := h0 ⟨c.toNat, c.toNat_lt⟩
  simp only at this
  rw [show c.toNat.toUInt8 = c from by apply UInt8.toNat_inj.1; rw [toU8 c.toNat c.toNat_lt]] at this
  exact this h
/-- All bytes of a token that is no text are plain. -/
theorem tok_ascii (s : List UInt8) (k n : Nat) (h : tokL s = some (k, n)) (hk : k ≠ 7) : ∀ j, j < n → (s.getD j 0).toNat < 128 := by
  intro j hj
  have hkeep := h
  rcases tok_cases s k n h with ⟨h1, h2, rfl, _⟩ | ⟨rfl, _⟩ | ⟨nm, hnm, hw, _⟩ | ⟨rfl, hn, _⟩
  · have : j = 0 := by omega
    subst this
    unfold tokL at h
    by_cases c1 : s.getD 0 0 = 123
    · rw [c1]; decide
    rw [if_neg c1] at h
    by_cases c2 : s.getD 0 0 = 125
    · rw [c2]; decide
    rw [if_neg c2] at h
    by_cases c3 : s.getD 0 0 = 91
    · rw [c3]; decide
    rw [if_neg c3] at h
    by_cases c4 : s.getD 0 0 = 93
    · rw [c4]; decide
    rw [if_neg c4] at h
    by_cases c5 : s.getD 0 0 = 58
    · rw [c5]; decide
    rw [if_neg c5] at h
    by_cases c6 : s.getD 0 0 = 44
    · rw [c6]; decide
    rw [if_neg c6] at h
    exfalso
    split at h
    · cases hj : jtS (s.drop 1) with
      | none => rw [hj] at h; simp at h
      | some m => rw [hj] at h; simp at h; omega
    · split at h
      · have := (wordL_le tru s 9 (by decide) k 1 h).1; omega
      · split at h
        · have := (wordL_le fls s 10 (by decide) k 1 h).1; omega
        · split at h
          · have := (wordL_le nul s 11 (by decide) k 1 h).1; omega
          · cases hj : numL s with
            | none => rw [hj] at h; simp at h
            | some m => rw [hj] at h; simp at h; omega
  · omega
  · have hp : 1 ≤ nm.length ∧ ∀ j, j < nm.length → (nm.getD j 0).toNat < 128 := by rcases hnm with ⟨rfl, rfl⟩ | ⟨rfl, rfl⟩ | ⟨rfl, rfl⟩ <;> decide
    obtain ⟨_, rfl, h3, h4, h5⟩ := wordL_le nm s k hp.1 k n hw
    have h6 := hp.2 j hj
    rw [← h3] at h6
    have e : (s.take nm.length).getD j 0 = s.getD j 0 := by simp only [List.getD]; rw [List.getElem?_take_of_lt hj]
    rwa [e] at h6
  · exact go_ascii _ (num_go s n hn j hj)
end Go.Proofs.YtakgkdgielkieaaDoor.M
