/- Plain numbers and lists: a text of JSON as the reference reads it: where it ends, which units it stands for. Nothing of the program is imported. -/
import Derived.Test.YtbmnmnfdlajgnaaDoorJMath
import Derived.Test.YtbmnmnfdlajgnaaDoorUMath2
namespace Go.Proofs.YtbmnmnfdlajgnaaDoor.M
set_option linter.unusedVariables false
set_option linter.unusedSimpArgs false

/-- The value of a hexadecimal digit; below 0: it is none. -/
def hexV (c : UInt8) : Int := if 48 ≤ c.toNat ∧ c.toNat ≤ 57 then (c.toNat : Int) - 48 else if 97 ≤ c.toNat ∧ c.toNat ≤ 102 then (c.toNat : Int) - 87 else if 65 ≤ c.toNat ∧ c.toNat ≤ 70 then (c.toNat : Int) - 55 else -1
theorem hexV_lt (c : UInt8) : -1 ≤ hexV c ∧ hexV c ≤ 15 := by
  unfold hexV; repeat' split
  all_goals omega
def escL : List UInt8 := [34, 92, 47, 98, 102, 110, 114, 116]
def hexOk (t : List UInt8) (k : Nat) : Bool := decide (0 ≤ hexV (t.getD k 0))
def hex4ok (t : List UInt8) : Bool := hexOk t 0 && hexOk t 1 && hexOk t 2 && hexOk t 3
/-- How many bytes there are up to the mark at the end, and it. -/
def jtS (l : List UInt8) : Option Nat :=
  match l with
  | [] => none
  | c :: t =>
    if c = 34 then some 1 else if c.toNat < 32 then none else if c ≠ 92 then (jtS t).map (· + 1)
    else if t.getD 0 0 = 117 then (if hex4ok (t.drop 1) then (jtS (t.drop 5)).map (· + 6) else none)
    else if t.getD 0 0 ∈ escL then (jtS (t.drop 1)).map (· + 2) else none
termination_by l.length
decreasing_by all_goals (simp; try omega)
theorem jtS_nil : jtS [] = none := by rw [jtS]
theorem jtS_cons (c : UInt8) (t : List UInt8) : jtS (c :: t) = if c = 34 then some 1 else if c.toNat < 32 then none else if c ≠ 92 then (jtS t).map (· + 1)
    else if t.getD 0 0 = 117 then (if hex4ok (t.drop 1) then (jtS (t.drop 5)).map (· + 6) else none)
    else if t.getD 0 0 ∈ escL then (jtS (t.drop 1)).map (· + 2) else none := by rw [jtS]
def hexN (t : List UInt8) (k : Nat) : Nat := (hexV (t.getD k 0)).toNat
def hex4 (t : List UInt8) : Nat := hexN t 0 * 4096 + hexN t 1 * 256 + hexN t 2 * 16 + hexN t 3
def escV (d : UInt8) : Nat := if d = 98 then 8 else if d = 102 then 12 else if d = 110 then 10 else if d = 114 then 13 else if d = 116 then 9 else d.toNat
/-- A code point's units. -/
def pairU (r : Nat) : List Nat := if r < 65536 then [r] else [55296 + (r - 65536) / 1024, 56320 + (r - 65536) % 1024]
/-- The units of what stands between the marks. -/
def ulS (l : List UInt8) : List Nat :=
  match l with
  | [] => []
  | [_] => []
  | c :: d :: t =>
    if c ≠ 92 then pairU (dec (c :: d :: t)).1 ++ ulS ((c :: d :: t).drop (dec (c :: d :: t)).2)
    else if d = 117 then hex4 t :: ulS (t.drop 4)
    else escV d :: ulS t
termination_by l.length
decreasing_by
  · have := dec_width (c :: d :: t); simp only [List.length_drop, List.length_cons]; omega
  · simp; omega
  · simp; omega
theorem ulS_end (l : List UInt8) (h : l.length ≤ 1) : ulS l = [] := by
  match l with
  | [] => rw [ulS]
  | [_] => rw [ulS]
  | c :: d :: t => simp at h
theorem ulS_cp (c : UInt8) (t : List UInt8) (h : 0 < t.length) (hc : c ≠ 92) : ulS (c :: t) = pairU (dec (c :: t)).1 ++ ulS ((c :: t).drop (dec (c :: t)).2) := by
  match t, h with
  | d :: u, _ => rw [ulS, if_pos hc]
theorem ulS_hex (t : List UInt8) (h : t.getD 0 0 = 117) : ulS (92 :: t) = hex4 (t.drop 1) :: ulS (t.drop 5) := by
  match t with
  | [] => simp at h
  | d :: u =>
    simp at h; subst h
    rw [ulS, if_neg (by simp), if_pos rfl]; rfl
theorem ulS_esc (t : List UInt8) (h0 : 0 < t.length) (h : t.getD 0 0 ≠ 117) : ulS (92 :: t) = escV (t.getD 0 0) :: ulS (t.drop 1) := by
  match t, h0 with
  | d :: u, _ =>
    simp at h
    rw [ulS, if_neg (by simp), if_neg h]; rfl
theorem jtS_le (l : List UInt8) : ∀ n, jtS l = some n → 1 ≤ n ∧ n ≤ l.length := by
  induction l using jtS.induct with
  | case1 => intro n h; rw [jtS_nil] at h; exact absurd h (by simp)
  | case2 t => intro n h; rw [jtS_cons, if_pos rfl] at h; simp at h; subst h; simp
  | case3 c t h1 h2 => intro n h; rw [jtS_cons, if_neg h1, if_pos h2] at h; exact absurd h (by simp)
  | case4 c t h1 h2 h3 ih =>
    intro n h; rw [jtS_cons, if_neg h1, if_neg h2, if_pos h3] at h
    cases hh : jtS t with
    | none => rw [hh] at h; exact absurd h (by simp)
    | some m => rw [hh] at h; simp at h; have := ih m hh; simp; omega
  | case5 c t h1 h2 h3 h4 h5 ih =>
    intro n h; rw [jtS_cons, if_neg h1, if_neg h2, if_neg h3, if_pos h4, if_pos h5] at h
    cases hh : jtS (t.drop 5) with
    | none => rw [hh] at h; exact absurd h (by simp)
    | some m => rw [hh] at h; simp at h; have := ih m hh; simp at this ⊢; omega
  | case6 c t h1 h2 h3 h4 h5 => intro n h; rw [jtS_cons, if_neg h1, if_neg h2, if_neg h3, if_pos h4, if_neg h5] at h; exact absurd h (by simp)
  | case7 c t h1 h2 h3 h4 h5 ih =>
    intro n h; rw [jtS_cons, if_neg h1, if_neg h2, if_neg h3, if_neg h4, if_pos h5] at h
    cases hh : jtS (t.drop 1) with
    | none => rw [hh] at h; exact absurd h (by simp)
    | some m => rw [hh] at h; simp at h; have := ih m hh; simp at this ⊢; omega
  | case8 c t h1 h2 h3 h4 h5 => intro n h; rw [jtS_cons, if_neg h1, if_neg h2, if_neg h3, if_neg h4, if_neg h5] at h; exact absurd h (by simp)
end Go.Proofs.YtbmnmnfdlajgnaaDoor.M
