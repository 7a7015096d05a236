/- Plain numbers and lists: when the digits that were read are those that are written. Nothing of the program is imported. -/
import Derived.Test.YtkkidjaagahniaaMath
namespace Go.Proofs.Ytkkidjaagahniaa.M

/-- Digits that end where one is below 32, and nowhere ahead. -/
def Good : List Nat → Prop
  | [] => False
  | [d] => d < 32
  | d :: e :: r => 32 ≤ d ∧ d < 64 ∧ Good (e :: r)
theorem good_snoc (ds : List Nat) (d : Nat) (h : ∀ x ∈ ds, 32 ≤ x ∧ x < 64) (hd : d < 32) : Good (ds ++ [d]) := by
  induction ds with
  | nil => exact hd
  | cons a l ih =>
    have ha := h a (by simp)
    have hl := ih (fun x hx => h x (by simp [hx]))
    cases l with
    | nil => exact ⟨ha.1, ha.2, hl⟩
    | cons b m => exact ⟨ha.1, ha.2, hl⟩
theorem val_pos (ds : List Nat) (h : Good ds) (hl : ds.getLastD 0 ≠ 0) : 0 < val ds := by
  induction ds with
  | nil => simp at hl
  | cons a l ih =>
    cases l with
    | nil => simp only [Good] at h; simp at hl; simp [val]; omega
    | cons b m =>
      have := ih h.2.2 (by simpa using hl)
      simp only [val] at *
      omega
theorem digs_val (f : Nat) (ds : List Nat) (h : Good ds) (hf : ds.length ≤ f) (hl : ¬ (ds.getLastD 0 = 0 ∧ 1 < ds.length)) : digs f (val ds) = ds := by
  induction ds generalizing f with
  | nil => exact h.elim
  | cons a l ih =>
    cases f with
    | zero => simp at hf
    | succ f =>
      cases l with
      | nil =>
        simp only [Good] at h
        have : val [a] = a := by simp [val]; omega
        rw [this, digs_small _ _ h]
      | cons b m =>
        have hl2 : (b :: m).getLastD 0 ≠ 0 := by
          intro h0
          exact hl ⟨by simpa using h0, by simp⟩
        have hp := val_pos (b :: m) h.2.2 hl2
        have e : val (a :: b :: m) = a % 32 + 32 * val (b :: m) := rfl
        have h1 := h.1
        have h2 := h.2.1
        rw [e, digs_big _ _ (by omega)]
        have e1 : (a % 32 + 32 * val (b :: m)) / 32 = val (b :: m) := by omega
        have e2 : 32 + (a % 32 + 32 * val (b :: m)) % 32 = a := by omega
        rw [e1, e2, ih f h.2.2 (by simp at hf ⊢; omega) (fun h0 => hl2 h0.1)]
theorem zig_unzig (x : Nat) (h : x ≠ 1) : zig (unzig x) = x := by
  unfold zig unzig
  split <;> split <;> omega
theorem unzig_range (x : Nat) (h : x / 2 ≤ 1099511627776) : -1099511627776 ≤ unzig x ∧ unzig x ≤ 1099511627776 := by
  unfold unzig
  split <;> omega
theorem scan_good (ds : List Nat) (h : Good ds) (f : Nat) (hf : ds.length ≤ f) : scan f (ds.map letter) = some ds := by
  induction ds generalizing f with
  | nil => exact h.elim
  | cons a l ih =>
    cases f with
    | zero => simp at hf
    | succ f =>
      cases l with
      | nil =>
        simp only [Good] at h
        have e := idx_letter_all a (by omega)
        simp only [List.map_cons, List.map_nil, scan, e]
        rw [if_neg (by omega), if_pos (by omega)]
        simp
      | cons b m =>
        have e := idx_letter_all a h.2.1
        have := ih h.2.2 f (by simp at hf ⊢; omega)
        have h1 := h.1
        simp only [List.map_cons] at this
        simp only [List.map_cons, scan, e, this]
        rw [if_neg (by omega), if_neg (by omega)]
        simp

/-- What is written of a number from nothing on: nothing if it is out of range. -/
def out (n : Int) : List UInt8 := if n < -1099511627776 ∨ 1099511627776 < n then [] else text n
theorem out_fine (ds : List Nat) (h : Good ds) (h9 : ds.length ≤ 9) : (out (unzig (val ds)) = ds.map letter) ↔ fine ds = true := by
  have hne : ds ≠ [] := fun h0 => by rw [h0] at h; exact h.elim
  constructor
  · intro ho
    unfold out at ho
    split at ho
    · exact absurd (List.map_eq_nil_iff.1 ho.symm) hne
    · rename_i hr
      have hg := get_text (unzig (val ds)) (by omega) (by omega) []
      rw [List.append_nil] at hg
      unfold get at hg
      rw [ho, scan_good ds h 9 h9] at hg
      by_cases hf : fine ds = true
      · exact hf
      · simp [hf] at hg
  · intro hf
    unfold fine at hf
    simp only [Bool.and_eq_true, bne_iff_ne, decide_eq_true_eq, Bool.not_eq_true', Bool.and_eq_false_iff, beq_eq_false_iff_ne, decide_eq_false_iff_not] at hf
    obtain ⟨⟨f1, f2⟩, f3⟩ := hf
    have hr := unzig_range (val ds) f2
    unfold out text
    rw [if_neg (by omega), zig_unzig _ f1, digs_val 9 ds h h9 (fun h0 => by rcases f3 with f3 | f3; exact f3 h0.1; exact f3 h0.2)]

/-- Beside 'Read': the digits are the letters at the head, each 32 or more. -/
def Heads (l : List UInt8) (k : Nat) (ds : List Nat) : Prop := ds.map letter = l.take k ∧ ∀ x ∈ ds, 32 ≤ x ∧ x < 64
theorem heads_start (l : List UInt8) : Heads l 0 [] := ⟨by simp, by simp⟩
theorem heads_take {l : List UInt8} {k : Nat} {ds : List Nat} (h : Heads l k ds) (hl : k < l.length) (h0 : 0 ≤ idx l[k]) : (ds ++ [(idx l[k]).toNat]).map letter = l.take (k + 1) := by
  have hc := idx_cases l[k]
  rw [List.take_succ_eq_append_getElem hl, List.map_append, h.1]
  have : letter (idx l[k]).toNat = l[k] := by
    rcases hc with hc | hc
    · omega
    · exact hc.2.2
  simp [this]
theorem heads_step {l : List UInt8} {k : Nat} {ds : List Nat} (h : Heads l k ds) (hl : k < l.length) (h32 : 32 ≤ idx l[k]) : Heads l (k + 1) (ds ++ [(idx l[k]).toNat]) := by
  refine ⟨heads_take h hl (by omega), fun x hx => ?_⟩
  have hc := idx_cases l[k]
  rcases List.mem_append.1 hx with hx | hx
  · exact h.2 x hx
  · simp at hx; subst hx; omega
/-- The number that stands there is taken just if it is written so. -/
theorem heads_fine {l : List UInt8} {k : Nat} {ds : List Nat} (hR : Read l k ds) (h : Heads l k ds) (hk : k < 9) (hl : k < l.length) (h0 : 0 ≤ idx l[k]) (h32 : idx l[k] < 32) :
    (out (unzig (val (ds ++ [(idx l[k]).toNat]))) = l.take (k + 1)) ↔ fine (ds ++ [(idx l[k]).toNat]) = true := by
  rw [← heads_take h hl h0]
  exact out_fine _ (good_snoc _ _ h.2 (by omega)) (by have := hR.1; simp; omega)

/-- What the search among the first k letters has found. -/
def found (c : UInt8) (k : Nat) : Int := if 0 ≤ idx c ∧ idx c < k then idx c else -1
theorem found_zero (c : UInt8) : found c 0 = -1 := by unfold found; rw [if_neg (by omega)]
theorem found_all (c : UInt8) : found c 64 = idx c := by
  unfold found
  rcases idx_cases c with h | h
  · rw [if_neg (by omega), h]
  · rw [if_pos (by omega)]
theorem found_hit (c : UInt8) (k : Nat) (hk : k < 64) (h : letter k = c) : found c (k + 1) = k := by
  have := idx_letter_all k hk
  rw [h] at this
  unfold found
  rw [if_pos (by omega), this]
theorem found_miss (c : UInt8) (k : Nat) (h : letter k ≠ c) : found c (k + 1) = found c k := by
  unfold found
  rcases idx_cases c with h1 | h1
  · rw [if_neg (by omega), if_neg (by omega)]
  · by_cases h2 : idx c = k
    · exfalso; apply h; have := h1.2.2; rw [h2] at this; simpa using this
    · by_cases h3 : idx c < k
      · rw [if_pos (by omega), if_pos (by omega)]
      · rw [if_neg (by omega), if_neg (by omega)]
end Go.Proofs.Ytkkidjaagahniaa.M
