/- Plain numbers and lists: the digits of an escape, one by one; names by their places. Nothing of the program is imported. -/
import Derived.Test.YtkaojigdogeliaaDoorEMath4
namespace Go.Proofs.YtkaojigdogeliaaDoor.M
open Go.Lib
set_option linter.unusedVariables false
set_option linter.unusedSimpArgs false

theorem hexRun_get (n : Nat) (t : List Int) (j : Nat) (h : j < (hexRun n t).length) : t.getD j (-1) = (hexRun n t)[j] ∧ isX (t.getD j (-1)) = true := by
  induction n generalizing t j with
  | zero => simp [hexRun] at h
  | succ n ih =>
    cases t with
    | nil => simp [hexRun] at h
    | cons r t =>
      by_cases hx : isX r = true
      · have e := hexRun_go n r t hx
        simp only [e] at h ⊢
        cases j with
        | zero => simp [hx]
        | succ j => simpa using ih t j (by simpa using h)
      · rw [hexRun_stop (n + 1) r t (by simpa using hx)] at h; simp at h
theorem hexRun_end (n : Nat) (t : List Int) : (hexRun n t).length = n ∨ (hexRun n t).length = t.length ∨ ((hexRun n t).length < t.length ∧ isX (t.getD (hexRun n t).length (-1)) = false) := by
  induction n generalizing t with
  | zero => left; simp [hexRun]
  | succ n ih =>
    cases t with
    | nil => right; left; simp [hexRun]
    | cons r t =>
      by_cases hx : isX r = true
      · rw [hexRun_go n r t hx]
        rcases ih t with h | h | ⟨h, h2⟩
        · left; simp [h]
        · right; left; simp [h]
        · right; right; refine ⟨by simp; exact h, by simpa using h2⟩
      · rw [hexRun_stop (n + 1) r t (by simpa using hx)]
        right; right; exact ⟨by simp, by simpa using hx⟩
theorem hexVal_step (l : List Int) (j : Nat) (h : j < l.length) : hexVal (l.take (j + 1)) = 16 * hexVal (l.take j) + xv l[j] := by
  rw [List.take_succ_eq_append_getElem h, hexVal_snoc]
theorem hexVal_range (l : List Int) (h : ∀ c ∈ l, isX c = true) : 0 ≤ hexVal l ∧ hexVal l < 16 ^ l.length := by
  suffices ∀ (r : List Int), (∀ c ∈ r, isX c = true) → 0 ≤ hexVal r.reverse ∧ hexVal r.reverse < 16 ^ r.length by
    have := this l.reverse (by simpa using h)
    simpa using this
  intro r
  induction r with
  | nil => intro _; simp [hexVal]
  | cons a r ih =>
    intro h
    have h1 := ih (fun c hc => h c (by simp [hc]))
    have h2 := xv_range a (h a (by simp))
    rw [List.reverse_cons, hexVal_snoc, List.length_cons, Int.pow_succ]
    omega
theorem hexVal_small (n : Nat) (t : List Int) (j : Nat) (hn : n ≤ 6) : 0 ≤ hexVal ((hexRun n t).take j) ∧ hexVal ((hexRun n t).take j) < 16777216 := by
  have hl := (hexRun_len n t).1
  have h1 := hexVal_range ((hexRun n t).take j) (fun c hc => by
    obtain ⟨i, hi, rfl⟩ := List.getElem_of_mem (List.mem_of_mem_take hc)
    have := hexRun_get n t i hi
    rw [← this.1]; exact this.2)
  refine ⟨h1.1, Int.lt_of_lt_of_le h1.2 ?_⟩
  have hk : ((hexRun n t).take j).length ≤ 6 := by rw [List.length_take]; omega
  generalize ((hexRun n t).take j).length = k at hk
  have : ∀ k : Fin 7, (16 : Int) ^ k.val ≤ 16777216 := by decide +kernel
  exact this ⟨k, by omega⟩
/-- A name from a place on: what each way adds. -/
theorem takeN_at_esc (c : List Int) (i : Nat) (hi : i < c.length) (h : esB (c.drop i) = true) :
    takeN (c.drop i) = ((escV (c.drop (i + 1))).1 :: (takeN (c.drop (i + 1 + (escV (c.drop (i + 1))).2))).1, 1 + (escV (c.drop (i + 1))).2 + (takeN (c.drop (i + 1 + (escV (c.drop (i + 1))).2))).2) := by
  rw [List.drop_eq_getElem_cons hi] at h ⊢
  rw [takeN_esc _ _ h, List.drop_drop]
theorem takeN_at_in (c : List Int) (i : Nat) (hi : i < c.length) (h : nIn (c.getD i (-1)) = true) : takeN (c.drop i) = (c.getD i (-1) :: (takeN (c.drop (i + 1))).1, 1 + (takeN (c.drop (i + 1))).2) := by
  have e : c.getD i (-1) = c[i] := by simp [List.getD, hi]
  rw [e] at h ⊢
  rw [List.drop_eq_getElem_cons hi, takeN_in _ _ h]
theorem takeN_at_out (c : List Int) (i : Nat) (hi : i < c.length) (h : esB (c.drop i) = false) (h2 : nIn (c.getD i (-1)) = false) : takeN (c.drop i) = ([], 0) := by
  have e : c.getD i (-1) = c[i] := by simp [List.getD, hi]
  rw [e] at h2
  rw [List.drop_eq_getElem_cons hi] at h ⊢
  exact takeN_out _ _ h h2
theorem takeN_at_end (c : List Int) (i : Nat) (hi : c.length ≤ i) : takeN (c.drop i) = ([], 0) := by rw [List.drop_eq_nil_of_le hi]; exact takeN_nil
theorem escV_le_at (c : List Int) (i : Nat) (hi : i < c.length) : i + 1 + (escV (c.drop (i + 1))).2 ≤ c.length := by
  have := escV_le (c.drop (i + 1))
  rw [List.length_drop] at this; omega
end Go.Proofs.YtkaojigdogeliaaDoor.M
