/- Plain numbers and lists: tokens of JSON, as they stand in a list of bytes. Nothing of the program is imported. -/
import Derived.Test.YtakgkdgielkieaaDoorKMath2
namespace Go.Proofs.YtakgkdgielkieaaDoor.M
open Go.Lib
set_option linter.unusedVariables false
set_option linter.unusedSimpArgs false

def blB (c : UInt8) : Bool := c == 32 || c == 9 || c == 10 || c == 13
def dgB (c : UInt8) : Bool := decide (48 ≤ c.toNat) && decide (c.toNat ≤ 57)
def goB (c : UInt8) : Bool := dgB c || (decide (97 ≤ c.toNat) && decide (c.toNat ≤ 122)) || (decide (65 ≤ c.toNat) && decide (c.toNat ≤ 90)) || c == 46 || c == 43 || c == 45 || c == 95
def lead : List UInt8 → Nat
  | [] => 0
  | c :: t => if blB c then lead t + 1 else 0
def run : List UInt8 → Nat
  | [] => 0
  | c :: t => if dgB c then run t + 1 else 0
def frac (s : List UInt8) : Nat := if s.getD 0 0 = 46 ∧ dgB (s.getD 1 0) = true then 1 + run (s.drop 1) else 0
def sgn (s : List UInt8) : Nat := if s.getD 1 0 = 43 ∨ s.getD 1 0 = 45 then 2 else 1
def expo (s : List UInt8) : Nat := if s.getD 0 0 = 101 ∨ s.getD 0 0 = 69 then (if dgB (s.getD (sgn s) 0) = true then sgn s + run (s.drop (sgn s)) else 0) else 0
def neg (s : List UInt8) : Nat := if s.getD 0 0 = 45 then 1 else 0
def whole (s : List UInt8) : Nat := if s.getD 0 0 = 48 then 1 else run s
def numL (s : List UInt8) : Option Nat :=
  if dgB (s.getD (neg s) 0) = true then
    (let a := neg s + whole (s.drop (neg s))
     let b := a + frac (s.drop a)
     let c := b + expo (s.drop b)
     if goB (s.getD c 0) = true then none else some c)
  else none
def tru : List UInt8 := [116, 114, 117, 101]
def fls : List UInt8 := [102, 97, 108, 115, 101]
def nul : List UInt8 := [110, 117, 108, 108]
def wordL (nm s : List UInt8) (k : Nat) : Option (Nat × Nat) := if s.take nm.length = nm ∧ goB (s.getD nm.length 0) = false then some (k, nm.length) else none
/-- The token with which these bytes begin: its kind, and how long it is. -/
def tokL (s : List UInt8) : Option (Nat × Nat) :=
  if s.getD 0 0 = 123 then some (1, 1) else if s.getD 0 0 = 125 then some (2, 1) else if s.getD 0 0 = 91 then some (3, 1) else if s.getD 0 0 = 93 then some (4, 1)
  else if s.getD 0 0 = 58 then some (5, 1) else if s.getD 0 0 = 44 then some (6, 1)
  else if s.getD 0 0 = 34 then (jtS (s.drop 1)).map fun n => (7, n + 1)
  else if s.getD 0 0 = 116 then wordL tru s 9 else if s.getD 0 0 = 102 then wordL fls s 10 else if s.getD 0 0 = 110 then wordL nul s 11
  else (numL s).map fun n => (8, n)
abbrev Toks := List (Nat × Nat × Nat)
def lexF : Nat → List UInt8 → Nat → Except Nat Toks
  | 0, _, _ => .ok []
  | f + 1, s, p =>
    if s.length ≤ lead s then .ok [] else
    match tokL (s.drop (lead s)) with
    | none => .error (p + lead s)
    | some (k, m) => match lexF f (s.drop (lead s + m)) (p + (lead s + m)) with
      | .error e => .error e
      | .ok r => .ok ((k, p + lead s, p + (lead s + m)) :: r)
def lexS (s : List UInt8) (p : Nat) : Except Nat Toks := lexF (s.length + 1) s p

theorem drop_getD (s : List UInt8) (a j : Nat) : (s.drop a).getD j 0 = s.getD (a + j) 0 := by simp [List.getD]
theorem lead_le (s : List UInt8) : lead s ≤ s.length := by
  induction s with
  | nil => simp [lead]
  | cons c t ih => unfold lead; split <;> simp <;> omega
theorem lead_bl (s : List UInt8) : ∀ j, j < lead s → blB (s.getD j 0) = true := by
  induction s with
  | nil => intro j h; simp [lead] at h
  | cons c t ih =>
    intro j h
    unfold lead at h
    split at h
    · cases j with
      | zero => simpa using by assumption
      | succ j => simpa using ih j (by omega)
    · omega
theorem lead_not (s : List UInt8) (h : lead s < s.length) : blB (s.getD (lead s) 0) = false := by
  induction s with
  | nil => simp at h
  | cons c t ih =>
    by_cases hc : blB c = true
    · have e : lead (c :: t) = lead t + 1 := by simp [lead, hc]
      rw [e] at h ⊢
      simpa using ih (by simpa using h)
    · have e : lead (c :: t) = 0 := by simp [lead, hc]
      rw [e]; simpa using hc
theorem lead_of (s : List UInt8) (n : Nat) (h : ∀ j, j < n → blB (s.getD j 0) = true) (hn : blB (s.getD n 0) = false) : lead s = n := by
  induction s generalizing n with
  | nil =>
    cases n with
    | zero => rfl
    | succ n => exact absurd (h 0 (by omega)) (by decide)
  | cons c t ih =>
    cases n with
    | zero => simp at hn; simp [lead, hn]
    | succ n =>
      have h0 := h 0 (by omega)
      simp at h0
      unfold lead
      rw [if_pos h0, ih n (fun j hj => by simpa using h (j + 1) (by omega)) (by simpa using hn)]
theorem lead_drop (s : List UInt8) (m : Nat) (h : m ≤ lead s) : lead (s.drop m) = lead s - m := by
  induction m generalizing s with
  | zero => simp
  | succ m ih =>
    match s with
    | [] => simp [lead] at h
    | c :: t =>
      by_cases hc : blB c = true
      · have e : lead (c :: t) = lead t + 1 := by simp [lead, hc]
        rw [e] at h ⊢
        rw [List.drop_succ_cons, ih t (by omega)]; omega
      · have e : lead (c :: t) = 0 := by simp [lead, hc]
        omega
theorem run_iff (s : List UInt8) (r : Nat) : run s = r ↔ (∀ j, j < r → dgB (s.getD j 0) = true) ∧ dgB (s.getD r 0) = false := by
  induction s generalizing r with
  | nil =>
    constructor
    · intro h; simp [run] at h; subst h; exact ⟨fun j h => by omega, by decide⟩
    · intro h
      cases r with
      | zero => rfl
      | succ r => exact absurd (h.1 0 (by omega)) (by decide)
  | cons c t ih =>
    by_cases hc : dgB c = true
    · have e : run (c :: t) = run t + 1 := by simp [run, hc]
      rw [e]
      cases r with
      | zero => simp [hc]
      | succ r =>
        rw [Nat.add_right_cancel_iff, ih]
        constructor
        · rintro ⟨h1, h2⟩
          refine ⟨fun j hj => ?_, by simpa using h2⟩
          cases j with
          | zero => simpa using hc
          | succ j => simpa using h1 j (by omega)
        · rintro ⟨h1, h2⟩
          exact ⟨fun j hj => by simpa using h1 (j + 1) (by omega), by simpa using h2⟩
    · have e : run (c :: t) = 0 := by simp [run, hc]
      rw [e]
      constructor
      · intro h; subst h; exact ⟨fun j h => by omega, by simpa using hc⟩
      · rintro ⟨h1, h2⟩
        cases r with
        | zero => rfl
        | succ r => exact absurd (by simpa using h1 0 (by omega)) hc
theorem run_le (s : List UInt8) : run s ≤ s.length := by
  induction s with
  | nil => simp [run]
  | cons c t ih => unfold run; split <;> simp <;> omega
theorem dg_in (s : List UInt8) (k : Nat) (h : dgB (s.getD k 0) = true) : k < s.length := getD_in s k (by intro e; rw [e] at h; exact absurd h (by decide))
theorem go_in (s : List UInt8) (k : Nat) (h : goB (s.getD k 0) = true) : k < s.length := getD_in s k (by intro e; rw [e] at h; exact absurd h (by decide))
theorem dg_go (c : UInt8) (h : goB c = false) : dgB c = false := by
  unfold goB at h
  simp only [Bool.or_eq_false_iff] at h
  exact h.1.1.1.1.1.1
theorem run_pos (s : List UInt8) (h : dgB (s.getD 0 0) = true) : 1 ≤ run s := by
  cases hr : run s with
  | zero => exact absurd ((run_iff s 0).1 hr).2 (by rw [h]; simp)
  | succ n => omega
theorem frac_le (s : List UInt8) : frac s ≤ s.length := by
  unfold frac
  split
  · have h := run_le (s.drop 1)
    rename_i hh
    have := dg_in s 1 hh.2
    rw [List.length_drop] at h; omega
  · omega
theorem sgn_two (s : List UInt8) : sgn s = 1 ∨ sgn s = 2 := by unfold sgn; split <;> simp
theorem expo_le (s : List UInt8) : expo s ≤ s.length := by
  unfold expo
  split
  · split
    · have h := run_le (s.drop (sgn s))
      rename_i hh
      have := dg_in s _ hh
      rw [List.length_drop] at h; omega
    · omega
  · omega
theorem neg_two (s : List UInt8) : neg s = 0 ∨ neg s = 1 := by unfold neg; split <;> simp
theorem whole_le (s : List UInt8) (h : dgB (s.getD 0 0) = true) : 1 ≤ whole s ∧ whole s ≤ s.length := by
  have := dg_in s 0 h
  unfold whole
  split
  · omega
  · exact ⟨run_pos s h, run_le s⟩
theorem numL_le (s : List UInt8) (n : Nat) (h : numL s = some n) : 1 ≤ n ∧ n ≤ s.length := by
  unfold numL at h
  split at h
  · rename_i hd
    have h0 : dgB ((s.drop (neg s)).getD 0 0) = true := by rw [drop_getD]; exact hd
    have h1 := whole_le _ h0
    have hin := dg_in s _ hd
    rw [List.length_drop] at h1
    have h2 := frac_le (s.drop (neg s + whole (s.drop (neg s))))
    rw [List.length_drop] at h2
    have h3 := expo_le (s.drop (neg s + whole (s.drop (neg s)) + frac (s.drop (neg s + whole (s.drop (neg s))))))
    rw [List.length_drop] at h3
    simp only at h
    split at h
    · exact absurd h (by simp)
    · simp only [Option.some.injEq] at h
      omega
  · exact absurd h (by simp)
theorem wordL_le (nm s : List UInt8) (k : Nat) (hn : 1 ≤ nm.length) (k' n : Nat) (h : wordL nm s k = some (k', n)) : k' = k ∧ n = nm.length ∧ s.take n = nm ∧ goB (s.getD n 0) = false ∧ n ≤ s.length := by
  unfold wordL at h
  split at h
  · rename_i hh
    simp only [Option.some.injEq, Prod.mk.injEq] at h
    obtain ⟨rfl, rfl⟩ := h
    refine ⟨rfl, rfl, hh.1, hh.2, ?_⟩
    have := congrArg List.length hh.1
    rw [List.length_take] at this; omega
  · exact absurd h (by simp)
/-- Which token it may be. -/
theorem tok_cases (s : List UInt8) (k n : Nat) (h : tokL s = some (k, n)) :
    (k ≤ 6 ∧ 1 ≤ k ∧ n = 1 ∧ ∀ t, t.getD 0 0 = s.getD 0 0 → tokL t = some (k, 1)) ∨
    (k = 7 ∧ s.getD 0 0 = 34 ∧ ∃ m, jtS (s.drop 1) = some m ∧ n = m + 1) ∨
    (∃ nm, (nm = tru ∧ k = 9 ∨ nm = fls ∧ k = 10 ∨ nm = nul ∧ k = 11) ∧ wordL nm s k = some (k, n) ∧ (∀ t, t.getD 0 0 = s.getD 0 0 → tokL t = wordL nm t k)) ∨
    (k = 8 ∧ numL s = some n ∧ ∀ t, t.getD 0 0 = s.getD 0 0 → tokL t = (numL t).map fun n => (8, n)) := by
  have h' := h
  unfold tokL at h
  by_cases c1 : s.getD 0 0 = 123
  · rw [if_pos c1] at h; simp only [Option.some.injEq, Prod.mk.injEq] at h; obtain ⟨rfl, rfl⟩ := h
    exact .inl ⟨by omega, by omega, rfl, fun t ht => by unfold tokL; rw [ht, if_pos c1]⟩
  rw [if_neg c1] at h
  by_cases c2 : s.getD 0 0 = 125
  · rw [if_pos c2] at h; simp only [Option.some.injEq, Prod.mk.injEq] at h; obtain ⟨rfl, rfl⟩ := h
    exact .inl ⟨by omega, by omega, rfl, fun t ht => by unfold tokL; rw [ht, if_neg c1, if_pos c2]⟩
  rw [if_neg c2] at h
  by_cases c3 : s.getD 0 0 = 91
  · rw [if_pos c3] at h; simp only [Option.some.injEq, Prod.mk.injEq] at h; obtain ⟨rfl, rfl⟩ := h
    exact .inl ⟨by omega, by omega, rfl, fun t ht => by unfold tokL; rw [ht, if_neg c1, if_neg c2, if_pos c3]⟩
  rw [if_neg c3] at h
  by_cases c4 : s.getD 0 0 = 93
  · rw [if_pos c4] at h; simp only [Option.some.injEq, Prod.mk.injEq] at h; obtain ⟨rfl, rfl⟩ := h
    exact .inl ⟨by omega, by omega, rfl, fun t ht => by unfold tokL; rw [ht, if_neg c1, if_neg c2, if_neg c3, if_pos c4]⟩
  rw [if_neg c4] at h
  by_cases c5 : s.getD 0 0 = 58
  · rw [if_pos c5] at h; simp only [Option.some.injEq, Prod.mk.injEq] at h; obtain ⟨rfl, rfl⟩ := h
    exact .inl ⟨by omega, by omega, rfl, fun t ht => by unfold tokL; rw [ht, if_neg c1, if_neg c2, if_neg c3, if_neg c4, if_pos c5]⟩
  rw [if_neg c5] at h
  by_cases c6 : s.getD 0 0 = 44
  · rw [if_pos c6] at h; simp only [Option.some.injEq, Prod.mk.injEq] at h; obtain ⟨rfl, rfl⟩ := h
    exact .inl ⟨by omega, by omega, rfl, fun t ht => by unfold tokL; rw [ht, if_neg c1, if_neg c2, if_neg c3, if_neg c4, if_neg c5, if_pos c6]⟩
  rw [if_neg c6] at h
  by_cases c7 : s.getD 0 0 = 34
  · rw [if_pos c7] at h
    right; left
    cases hj : jtS (s.drop 1) with
    | none => rw [hj] at h; exact absurd h (by simp)
    | some m => rw [hj] at h; simp at h; exact ⟨h.1.symm, c7, m, rfl, h.2.symm⟩
  rw [if_neg c7] at h
  by_cases c8 : s.getD 0 0 = 116
  · rw [if_pos c8] at h
    obtain ⟨rfl, _⟩ := wordL_le tru s 9 (by decide) k n h
    exact .inr (.inr (.inl ⟨tru, .inl ⟨rfl, rfl⟩, h, fun t ht => by unfold tokL; rw [ht, if_neg c1, if_neg c2, if_neg c3, if_neg c4, if_neg c5, if_neg c6, if_neg c7, if_pos c8]⟩))
  rw [if_neg c8] at h
  by_cases c9 : s.getD 0 0 = 102
  · rw [if_pos c9] at h
    obtain ⟨rfl, _⟩ := wordL_le fls s 10 (by decide) k n h
    exact .inr (.inr (.inl ⟨fls, .inr (.inl ⟨rfl, rfl⟩), h, fun t ht => by unfold tokL; rw [ht, if_neg c1, if_neg c2, if_neg c3, if_neg c4, if_neg c5, if_neg c6, if_neg c7, if_neg c8, if_pos c9]⟩))
  rw [if_neg c9] at h
  by_cases c10 : s.getD 0 0 = 110
  · rw [if_pos c10] at h
    obtain ⟨rfl, _⟩ := wordL_le nul s 11 (by decide) k n h
    exact .inr (.inr (.inl ⟨nul, .inr (.inr ⟨rfl, rfl⟩), h, fun t ht => by unfold tokL; rw [ht, if_neg c1, if_neg c2, if_neg c3, if_neg c4, if_neg c5, if_neg c6, if_neg c7, if_neg c8, if_neg c9, if_pos c10]⟩))
  rw [if_neg c10] at h
  right; right; right
  cases hj : numL s with
  | none => rw [hj] at h; exact absurd h (by simp)
  | some m =>
    rw [hj] at h; simp at h
    exact ⟨h.1.symm, by rw [h.2], fun t ht => by unfold tokL; rw [ht, if_neg c1, if_neg c2, if_neg c3, if_neg c4, if_neg c5, if_neg c6, if_neg c7, if_neg c8, if_neg c9, if_neg c10]⟩
theorem tok_le (s : List UInt8) (h0 : 0 < s.length) (k n : Nat) (h : tokL s = some (k, n)) : 1 ≤ n ∧ n ≤ s.length ∧ 1 ≤ k ∧ k ≤ 11 := by
  rcases tok_cases s k n h with ⟨h1, h2, rfl, _⟩ | ⟨rfl, _, m, hm, rfl⟩ | ⟨nm, hnm, hw, _⟩ | ⟨rfl, hn, _⟩
  · omega
  · have := jtS_le _ m hm
    rw [List.length_drop] at this; omega
  · rcases hnm with ⟨rfl, rfl⟩ | ⟨rfl, rfl⟩ | ⟨rfl, rfl⟩
    · obtain ⟨_, rfl, _, _, hl⟩ := wordL_le tru s 9 (by decide) _ n hw
      exact ⟨by decide, hl, by omega, by omega⟩
    · obtain ⟨_, rfl, _, _, hl⟩ := wordL_le fls s 10 (by decide) _ n hw
      exact ⟨by decide, hl, by omega, by omega⟩
    · obtain ⟨_, rfl, _, _, hl⟩ := wordL_le nul s 11 (by decide) _ n hw
      exact ⟨by decide, hl, by omega, by omega⟩
  · have := numL_le s n hn
    omega
theorem numL_goes (s : List UInt8) (n : Nat) (h : numL s = some n) : goB (s.getD n 0) = false := by
  unfold numL at h
  split at h
  · simp only at h
    split at h
    · exact absurd h (by simp)
    · rename_i hg
      simp only [Option.some.injEq] at h
      rw [← h]
      simpa using hg
  · exact absurd h (by simp)
theorem tok_goes (s : List UInt8) (k n : Nat) (h : tokL s = some (k, n)) (hk : 7 < k) : goB (s.getD n 0) = false := by
  rcases tok_cases s k n h with ⟨h1, h2, rfl, _⟩ | ⟨rfl, _⟩ | ⟨nm, hnm, hw, _⟩ | ⟨rfl, hn, _⟩
  · omega
  · omega
  · have hp : 1 ≤ nm.length := by rcases hnm with ⟨rfl, _⟩ | ⟨rfl, _⟩ | ⟨rfl, _⟩ <;> decide
    exact (wordL_le nm s k hp k n hw).2.2.2.1
  · exact numL_goes s n hn

theorem lexF_fuel (f g : Nat) (s : List UInt8) (p : Nat) (hf : s.length < f) (hg : s.length < g) : lexF f s p = lexF g s p := by
  induction f generalizing g s p with
  | zero => omega
  | succ f ih =>
    cases g with
    | zero => omega
    | succ g =>
      unfold lexF
      by_cases hle : s.length ≤ lead s
      · rw [if_pos hle, if_pos hle]
      · rw [if_neg hle, if_neg hle]
        cases ht : tokL (s.drop (lead s)) with
        | none => rfl
        | some km =>
          obtain ⟨k, m⟩ := km
          have hm := tok_le (s.drop (lead s)) (by simp; omega) k m ht
          rw [List.length_drop] at hm
          simp only
          rw [ih g (s.drop (lead s + m)) (p + (lead s + m)) (by simp; omega) (by simp; omega)]
theorem lexS_end (s : List UInt8) (p : Nat) (h : s.length ≤ lead s) : lexS s p = .ok [] := by unfold lexS lexF; rw [if_pos h]
theorem lexS_bad (s : List UInt8) (p : Nat) (h : lead s < s.length) (ht : tokL (s.drop (lead s)) = none) : lexS s p = .error (p + lead s) := by
  unfold lexS lexF; rw [if_neg (by omega), ht]
theorem lexS_in (s : List UInt8) (p k m : Nat) (h : lead s < s.length) (ht : tokL (s.drop (lead s)) = some (k, m)) :
    lexS s p = match lexS (s.drop (lead s + m)) (p + (lead s + m)) with
      | .error e => .error e
      | .ok r => .ok ((k, p + lead s, p + (lead s + m)) :: r) := by
  have hm := tok_le (s.drop (lead s)) (by simp; omega) k m ht
  rw [List.length_drop] at hm
  conv => lhs; unfold lexS lexF
  rw [if_neg (by omega), ht]
  simp only
  rw [lexF_fuel s.length ((s.drop (lead s + m)).length + 1) (s.drop (lead s + m)) (p + (lead s + m)) (by simp; omega) (by omega)]
  rfl
theorem lexS_skip (s : List UInt8) (p m : Nat) (h : m ≤ lead s) : lexS s p = lexS (s.drop m) (p + m) := by
  have hl := lead_le s
  have hd := lead_drop s m h
  by_cases hle : s.length ≤ lead s
  · rw [lexS_end s p hle, lexS_end (s.drop m) (p + m) (by rw [hd, List.length_drop]; omega)]
  · have e : (s.drop m).drop (lead (s.drop m)) = s.drop (lead s) := by rw [hd, List.drop_drop]; congr 1; omega
    cases ht : tokL (s.drop (lead s)) with
    | none => rw [lexS_bad s p (by omega) ht, lexS_bad (s.drop m) (p + m) (by rw [hd, List.length_drop]; omega) (by rw [e]; exact ht)]; congr 1; omega
    | some km =>
      obtain ⟨k, n⟩ := km
      rw [lexS_in s p k n (by omega) ht, lexS_in (s.drop m) (p + m) k n (by rw [hd, List.length_drop]; omega) (by rw [e]; exact ht)]
      rw [hd, List.drop_drop, show m + (lead s - m + n) = lead s + n by omega, show p + m + (lead s - m + n) = p + (lead s + n) by omega, show p + m + (lead s - m) = p + lead s by omega]
end Go.Proofs.YtakgkdgielkieaaDoor.M
