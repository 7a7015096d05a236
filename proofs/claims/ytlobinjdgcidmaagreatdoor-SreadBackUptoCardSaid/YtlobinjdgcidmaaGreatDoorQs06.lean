/- Texts of ours in one: JgK. -/
import Derived.Test.YtlobinjdgcidmaaGreatDoorQs00
import Derived.Test.YtlobinjdgcidmaaGreatDoorQs02
import Derived.Deep.QuietTactic
import Derived.BigQuiet
import Derived.Outline
/- Several texts of ours in one: KHex KText QMath4. -/
/- Texts of JSON as the reference reads them: hexDigit. -/
namespace Go.Proofs.YtlobinjdgcidmaaGreatDoor
open Go.RowKit
set_option linter.unusedVariables false
set_option linter.unusedSimpArgs false

end Go.Proofs.YtlobinjdgcidmaaGreatDoor

/- Texts of JSON as the reference reads them: jtext: where a text ends. -/
namespace Go.Proofs.YtlobinjdgcidmaaGreatDoor
open Go.RowKit
set_option linter.unusedVariables false
set_option linter.unusedSimpArgs false

def jtI (l : List UInt8) (i : Nat) : Int := match M.jtS (l.drop i) with | some n => (i : Int) + n | none => -1
theorem drop_at (l : List UInt8) (i : Nat) (h : i < l.length) : l.drop i = l[i] :: l.drop (i + 1) := List.drop_eq_getElem_cons h
theorem jtI_out (l : List UInt8) (i : Nat) (h : l.length ≤ i) : jtI l i = -1 := by
  unfold jtI; rw [List.drop_eq_nil_of_le h, M.jtS_nil]
theorem jtI_map (l : List UInt8) (i k : Nat) (h : M.jtS (l.drop i) = (M.jtS (l.drop (i + k))).map (· + k)) : jtI l (i + k) = jtI l i := by
  unfold jtI
  rw [h]
  cases M.jtS (l.drop (i + k)) with
  | none => rfl
  | some n => simp; omega
theorem jt_end (l : List UInt8) (i : Nat) (h : i < l.length) (hc : l[i] = 34) : jtI l i = i + 1 := by
  unfold jtI; rw [drop_at l i h, M.jtS_cons, if_pos hc]; rfl
theorem jt_low (l : List UInt8) (i : Nat) (h : i < l.length) (hc : l[i] ≠ 34) (h2 : l[i].toNat < 32) : jtI l i = -1 := by
  unfold jtI; rw [drop_at l i h, M.jtS_cons, if_neg hc, if_pos h2]
theorem jt_plain (l : List UInt8) (i : Nat) (h : i < l.length) (hc : l[i] ≠ 34) (h2 : ¬ l[i].toNat < 32) (h3 : l[i] ≠ 92) : jtI l (i + 1) = jtI l i := by
  apply jtI_map; rw [drop_at l i h, M.jtS_cons, if_neg hc, if_neg h2, if_pos h3]
theorem getD_drop (l : List UInt8) (i k : Nat) : (l.drop i).getD k 0 = l.getD (i + k) 0 := by simp [List.getD]
theorem drop_drop' (l : List UInt8) (i k : Nat) : (l.drop i).drop k = l.drop (i + k) := by rw [List.drop_drop]
theorem jt_back (l : List UInt8) (i : Nat) (h : i < l.length) (hc : l[i] = 92) : M.jtS (l.drop i) = if l.getD (i + 1) 0 = 117 then (if M.hex4ok (l.drop (i + 2)) then (M.jtS (l.drop (i + 6))).map (· + 6) else none)
    else if l.getD (i + 1) 0 ∈ M.escL then (M.jtS (l.drop (i + 2))).map (· + 2) else none := by
  rw [drop_at l i h, M.jtS_cons, if_neg (by rw [hc]; decide), if_neg (by rw [hc]; decide), if_neg (by rw [hc]; simp), getD_drop, drop_drop', drop_drop']
theorem jt_six (l : List UInt8) (i : Nat) (h : i < l.length) (hc : l[i] = 92) (h1 : l.getD (i + 1) 0 = 117) (h4 : M.hex4ok (l.drop (i + 2)) = true) : jtI l (i + 6) = jtI l i := by
  apply jtI_map; rw [jt_back l i h hc, if_pos h1, if_pos h4]
theorem jt_six_no (l : List UInt8) (i : Nat) (h : i < l.length) (hc : l[i] = 92) (h1 : l.getD (i + 1) 0 = 117) (h4 : M.hex4ok (l.drop (i + 2)) = false) : jtI l i = -1 := by
  unfold jtI; rw [jt_back l i h hc, if_pos h1, if_neg (by simp [h4])]
theorem jt_two (l : List UInt8) (i : Nat) (h : i < l.length) (hc : l[i] = 92) (h1 : l.getD (i + 1) 0 ≠ 117) (h4 : l.getD (i + 1) 0 ∈ M.escL) : jtI l (i + 2) = jtI l i := by
  apply jtI_map; rw [jt_back l i h hc, if_neg h1, if_pos h4]
theorem jt_two_no (l : List UInt8) (i : Nat) (h : i < l.length) (hc : l[i] = 92) (h1 : l.getD (i + 1) 0 ≠ 117) (h4 : l.getD (i + 1) 0 ∉ M.escL) : jtI l i = -1 := by
  unfold jtI; rw [jt_back l i h hc, if_neg h1, if_neg h4]
theorem esc_in (l : List UInt8) (k : Nat) (h : l.getD k 0 ∈ M.escL) : k < l.length := M.getD_in l k (by intro e; rw [e] at h; exact absurd h (by decide))
def hexTo (l : List UInt8) (p : Nat) : Nat → Bool
  | 0 => true
  | j + 1 => hexTo l p j && decide (0 ≤ M.hexV (l.getD (p + j) 0))
theorem hexTo_four (l : List UInt8) (p : Nat) : M.hex4ok (l.drop p) = hexTo l p 4 := by
  unfold M.hex4ok M.hexOk
  simp only [getD_drop, hexTo, Bool.true_and]
theorem hexTo_no (l : List UInt8) (p j : Nat) (hj : j < 4) (h : ¬ 0 ≤ M.hexV (l.getD (p + j) 0)) : M.hex4ok (l.drop p) = false := by
  rw [hexTo_four]
  simp only [hexTo, Bool.true_and, Bool.and_eq_false_iff, decide_eq_false_iff_not]
  have : j = 0 ∨ j = 1 ∨ j = 2 ∨ j = 3 := by omega
  rcases this with rfl | rfl | rfl | rfl
  · exact .inl (.inl (.inl h))
  · exact .inl (.inl (.inr h))
  · exact .inl (.inr h)
  · exact .inr h
theorem hexV_in (l : List UInt8) (k : Nat) (h : 0 ≤ M.hexV (l.getD k 0)) : k < l.length := by
  apply M.getD_in; intro e; rw [e] at h; exact absurd h (by decide)
end Go.Proofs.YtlobinjdgcidmaaGreatDoor

/- Plain numbers and lists: one element of a text on. -/
namespace Go.Proofs.YtlobinjdgcidmaaGreatDoor
open Go.Lib
set_option linter.unusedVariables false
set_option linter.unusedSimpArgs false

def elemN (l : List UInt8) (i : Nat) : Nat :=
  if l.getD i 0 = 92 then
    (if l.getD (i + 1) 0 = 117 then (if M.hex4ok (l.drop (i + 2)) = true then 6 else 0) else if l.getD (i + 1) 0 ∈ M.escL then 2 else 0)
  else if 32 ≤ (l.getD i 0).toNat then (M.dec (l.drop i)).2 else 0
def Okv (l : List UInt8) (i : Nat) : Prop := (M.validAll (l.drop i)).2 = true
theorem okv_nx (l : List UInt8) (i : Nat) (h : i < l.length) (hv : Okv l i) : (M.nx (l.drop i)).2.2 = true ∧ Okv l (i + (M.dec (l.drop i)).2) := by
  unfold Okv at *
  rw [M.validAll_step _ (by rw [List.length_drop]; omega), Bool.and_eq_true, List.drop_drop] at hv
  exact hv
theorem okv_ascii (l : List UInt8) (i k : Nat) (h : i + k ≤ l.length) (hb : ∀ j, j < k → (l.getD (i + j) 0).toNat < 128) (hv : Okv l i) : Okv l (i + k) := by
  unfold Okv at *
  rw [M.valid_asciis k (l.drop i) (by rw [List.length_drop]; omega) (fun j hj => by rw [getD_drop]; exact hb j hj), List.drop_drop] at hv
  exact hv
theorem jt_high (l : List UInt8) (i k : Nat) (h : i + k ≤ l.length) (hb : ∀ j, j < k → 128 ≤ (l.getD (i + j) 0).toNat) : jtI l (i + k) = jtI l i := by
  apply jtI_map
  have e : l.drop i = (l.drop i).take k ++ l.drop (i + k) := by rw [← List.drop_drop, List.take_append_drop]
  have hh := M.jtS_high ((l.drop i).take k) (l.drop (i + k)) (fun c hc => by
    obtain ⟨j, hj, rfl⟩ := List.getElem_of_mem hc
    rw [List.length_take, List.length_drop] at hj
    have := hb j (by omega)
    rw [List.getElem_take, List.getElem_drop]
    rw [show l.getD (i + j) 0 = l[i + j]'(by omega) by simp [show i + j < l.length by omega]] at this
    exact this)
  rw [← e] at hh
  rw [hh]
  have e3 : ((l.drop i).take k).length = k := by rw [List.length_take, List.length_drop]; omega
  rw [e3]
theorem elem_facts (l : List UInt8) (i : Nat) (h : i < l.length) (hc : l.getD i 0 ≠ 34) (hv : Okv l i) :
    (elemN l i = 0 ∧ jtI l i = -1) ∨ (0 < elemN l i ∧ i + elemN l i ≤ l.length ∧ jtI l (i + elemN l i) = jtI l i ∧ Okv l (i + elemN l i)) := by
  have hgd : l.getD i 0 = l[i] := by simp [h]
  have hc' := hc
  rw [hgd] at hc'
  unfold elemN
  by_cases h92 : l.getD i 0 = 92
  · rw [if_pos h92]
    have h92' := h92
    rw [hgd] at h92'
    by_cases h117 : l.getD (i + 1) 0 = 117
    · rw [if_pos h117]
      cases h4 : M.hex4ok (l.drop (i + 2)) with
      | false => left; exact ⟨by simp, jt_six_no l i h h92' h117 h4⟩
      | true =>
        right
        rw [if_pos rfl]
        have h4' := h4
        unfold M.hex4ok at h4'
        simp only [Bool.and_eq_true] at h4'
        have q0 := M.hexOk_in _ _ h4'.1.1.1
        have q1 := M.hexOk_in _ _ h4'.1.1.2
        have q2 := M.hexOk_in _ _ h4'.1.2
        have q3 := M.hexOk_in _ _ h4'.2
        rw [getD_drop, List.length_drop] at q0 q1 q2 q3
        refine ⟨by omega, by omega, jt_six l i h h92' h117 h4, okv_ascii l i 6 (by omega) (fun j hj => ?_) hv⟩
        have : j = 0 ∨ j = 1 ∨ j = 2 ∨ j = 3 ∨ j = 4 ∨ j = 5 := by omega
        rcases this with rfl | rfl | rfl | rfl | rfl | rfl
        · rw [Nat.add_zero, h92]; decide
        · rw [h117]; decide
        · exact q0.2.2
        · exact q1.2.2
        · exact q2.2.2
        · exact q3.2.2
    · rw [if_neg h117]
      by_cases he : l.getD (i + 1) 0 ∈ M.escL
      · right
        rw [if_pos he]
        have := esc_in l _ he
        refine ⟨by omega, by omega, jt_two l i h h92' h117 he, okv_ascii l i 2 (by omega) (fun j hj => ?_) hv⟩
        have : j = 0 ∨ j = 1 := by omega
        rcases this with rfl | rfl
        · rw [Nat.add_zero, h92]; decide
        · unfold M.escL at he; simp at he
          rcases he with e | e | e | e | e | e | e | e <;> (rw [show l.getD (i + 1) 0 = _ from (by simpa [List.getD] using e)]; decide)
      · left; rw [if_neg he]; exact ⟨rfl, jt_two_no l i h h92' h117 he⟩
  · rw [if_neg h92]
    have h92' := h92
    rw [hgd] at h92'
    by_cases h32 : 32 ≤ (l.getD i 0).toNat
    · right
      rw [if_pos h32]
      have hw := M.dec_width (l.drop i)
      have hle := M.dec_le (l.drop i) (by rw [List.length_drop]; omega)
      rw [List.length_drop] at hle
      obtain ⟨h1, h2⟩ := okv_nx l i h hv
      refine ⟨by omega, by omega, ?_, h2⟩
      have hco := M.dec_cont _ h1
      have e1 := jt_plain l i h hc' (by rw [← hgd]; omega) h92'
      have e2 := jt_high l (i + 1) ((M.dec (l.drop i)).2 - 1) (by omega) (fun j hj => by
        have := hco (j + 1) (by omega) (by omega)
        unfold M.byte at this
        rw [getD_drop] at this
        rwa [show i + (j + 1) = i + 1 + j by omega] at this)
      rw [show i + 1 + ((M.dec (l.drop i)).2 - 1) = i + (M.dec (l.drop i)).2 by omega] at e2
      rw [e2, e1]
    · left
      rw [if_neg h32]
      exact ⟨rfl, jt_low l i h hc' (by rw [← hgd]; omega)⟩
theorem text_okv (l : List UInt8) (N : Nat) : ∀ j n : Nat, l.length ≤ j + N → Okv l j → M.jtS (l.drop j) = some n → Okv l (j + n) := by
  induction N with
  | zero => intro j n h1 h2 h3; rw [List.drop_eq_nil_of_le (by omega), M.jtS_nil] at h3; exact absurd h3 (by simp)
  | succ N ih =>
    intro j n h1 h2 h3
    have hj : j < l.length := by
      rcases Nat.lt_or_ge j l.length with h | h
      · exact h
      · rw [List.drop_eq_nil_of_le h, M.jtS_nil] at h3; exact absurd h3 (by simp)
    by_cases h34 : l.getD j 0 = 34
    · have hgd : l.getD j 0 = l[j] := by simp [hj]
      rw [drop_at l j hj, M.jtS_cons, if_pos (by rw [← hgd]; exact h34)] at h3
      simp only [Option.some.injEq] at h3
      subst h3
      exact okv_ascii l j 1 (by omega) (fun q hq => by rw [show j + q = j by omega, h34]; decide) h2
    · have hz : jtI l j = (j : Int) + n := by unfold jtI; rw [h3]
      rcases elem_facts l j hj h34 h2 with ⟨_, e⟩ | ⟨e1, e2, e3, e4⟩
      · omega
      · generalize elemN l j = m at *
        rw [hz] at e3
        unfold jtI at e3
        cases hm : M.jtS (l.drop (j + m)) with
        | none => rw [hm] at e3; simp only at e3; omega
        | some q =>
          rw [hm] at e3
          simp only at e3
          have := ih (j + m) q (by omega) e4 hm
          rwa [show j + m + q = j + n by omega] at this
theorem tok_okv (l : List UInt8) (i k m : Nat) (hi : i < l.length) (h : Okv l i) (ht : M.tokL (l.drop i) = some (k, m)) : Okv l (i + m) := by
  have hm := M.tok_le (l.drop i) (by rw [List.length_drop]; omega) k m ht
  rw [List.length_drop] at hm
  by_cases hk : k = 7
  · rcases M.tok_cases _ k m ht with ⟨h1, h2, _, _⟩ | ⟨_, h34, q, hq, rfl⟩ | ⟨nm, hnm, _, _⟩ | ⟨h8, _, _⟩
    · omega
    · rw [M.drop_getD, Nat.add_zero] at h34
      have h1 := okv_ascii l i 1 (by omega) (fun q hq => by rw [show i + q = i by omega, h34]; decide) h
      rw [List.drop_drop] at hq
      have := text_okv l l.length (i + 1) q (by omega) h1 hq
      rwa [show i + 1 + q = i + (q + 1) by omega] at this
    · rcases hnm with ⟨_, e⟩ | ⟨_, e⟩ | ⟨_, e⟩ <;> omega
    · omega
  · refine okv_ascii l i m (by omega) (fun j hj => ?_) h
    have := M.tok_ascii (l.drop i) k m ht hk j hj
    rwa [M.drop_getD] at this
end Go.Proofs.YtlobinjdgcidmaaGreatDoor
