/- Plain numbers and lists: names of CSS, read and written, as code points. Nothing of the program is imported. -/
import Derived.Test.YtkaojigdogeliaaDoorCMath2
namespace Go.Proofs.YtkaojigdogeliaaDoor.M
open Go.Lib
set_option linter.unusedVariables false
set_option linter.unusedSimpArgs false

/-- May a name begin with it? -/
def nSt (r : Int) : Bool := (decide (97 ≤ r) && decide (r ≤ 122)) || (decide (65 ≤ r) && decide (r ≤ 90)) || decide (r = 95) || decide (128 ≤ r)
def nDg (r : Int) : Bool := decide (48 ≤ r) && decide (r ≤ 57)
def nIn (r : Int) : Bool := nSt r || nDg r || decide (r = 45)
def isX (r : Int) : Bool := nDg r || (decide (97 ≤ r) && decide (r ≤ 102)) || (decide (65 ≤ r) && decide (r ≤ 70))
def xv (r : Int) : Int := if r ≤ 57 then r - 48 else if r ≤ 70 then r - 55 else r - 87
def isBl (r : Int) : Bool := decide (r = 32) || decide (r = 9) || decide (r = 10)
theorem nSt_iff (r : Int) : nSt r = true ↔ (97 ≤ r ∧ r ≤ 122) ∨ (65 ≤ r ∧ r ≤ 90) ∨ r = 95 ∨ 128 ≤ r := by simp [nSt]; omega
theorem nDg_iff (r : Int) : nDg r = true ↔ (48 ≤ r ∧ r ≤ 57) := by simp [nDg]
theorem nIn_iff (r : Int) : nIn r = true ↔ (97 ≤ r ∧ r ≤ 122) ∨ (65 ≤ r ∧ r ≤ 90) ∨ r = 95 ∨ 128 ≤ r ∨ (48 ≤ r ∧ r ≤ 57) ∨ r = 45 := by simp [nIn, nSt, nDg]; omega
theorem isX_iff (r : Int) : isX r = true ↔ (48 ≤ r ∧ r ≤ 57) ∨ (97 ≤ r ∧ r ≤ 102) ∨ (65 ≤ r ∧ r ≤ 70) := by simp [isX, nDg]; omega
theorem isBl_iff (r : Int) : isBl r = true ↔ r = 32 ∨ r = 9 ∨ r = 10 := by simp [isBl]; omega
theorem nSt_not (r : Int) : nSt r = false ↔ ¬ ((97 ≤ r ∧ r ≤ 122) ∨ (65 ≤ r ∧ r ≤ 90) ∨ r = 95 ∨ 128 ≤ r) := by rw [← nSt_iff]; simp
theorem nDg_not (r : Int) : nDg r = false ↔ ¬ (48 ≤ r ∧ r ≤ 57) := by rw [← nDg_iff]; simp
theorem nIn_not (r : Int) : nIn r = false ↔ ¬ ((97 ≤ r ∧ r ≤ 122) ∨ (65 ≤ r ∧ r ≤ 90) ∨ r = 95 ∨ 128 ≤ r ∨ (48 ≤ r ∧ r ≤ 57) ∨ r = 45) := by rw [← nIn_iff]; simp
theorem isX_not (r : Int) : isX r = false ↔ ¬ ((48 ≤ r ∧ r ≤ 57) ∨ (97 ≤ r ∧ r ≤ 102) ∨ (65 ≤ r ∧ r ≤ 70)) := by rw [← isX_iff]; simp
theorem isBl_not (r : Int) : isBl r = false ↔ ¬ (r = 32 ∨ r = 9 ∨ r = 10) := by rw [← isBl_iff]; simp
theorem xv_range (r : Int) (h : isX r = true) : 0 ≤ xv r ∧ xv r ≤ 15 := by
  rw [isX_iff] at h
  unfold xv
  repeat' split
  all_goals omega

/-- Does an escape begin here? -/
def esB : List Int → Bool
  | [] => false
  | r :: t => decide (r = 92) && decide (t.getD 0 (-1) ≠ 10)
/-- At most so many digits of base 16. -/
def hexRun : Nat → List Int → List Int
  | 0, _ => []
  | _, [] => []
  | n + 1, r :: t => if isX r then r :: hexRun n t else []
def hexVal (l : List Int) : Int := l.foldl (fun a r => 16 * a + xv r) 0
/-- A number that may be, or U+FFFD. -/
def okX (x : Int) : Int := if x = 0 ∨ (55296 ≤ x ∧ x ≤ 57343) ∨ 1114111 < x then 65533 else x
/-- What an escape stands for, and how long it is, behind its backslash. -/
def escV (t : List Int) : Int × Nat :=
  match t with
  | [] => (65533, 0)
  | r :: u => if isX r then (okX (hexVal (hexRun 6 (r :: u))), (hexRun 6 (r :: u)).length + if isBl ((r :: u).getD (hexRun 6 (r :: u)).length (-1)) then 1 else 0) else (r, 1)
theorem hexRun_len (n : Nat) (l : List Int) : (hexRun n l).length ≤ n ∧ (hexRun n l).length ≤ l.length := by
  induction n generalizing l with
  | zero => simp [hexRun]
  | succ n ih =>
    cases l with
    | nil => simp [hexRun]
    | cons r t =>
      unfold hexRun
      split
      · have := ih t; simp; omega
      · simp
theorem escV_le (t : List Int) : (escV t).2 ≤ t.length := by
  unfold escV
  split
  · simp
  · rename_i r u
    have := hexRun_len 6 (r :: u)
    split
    · simp only
      split
      · rename_i hb
        by_cases h : (hexRun 6 (r :: u)).length < (r :: u).length
        · omega
        · simp [List.getD, List.getElem?_eq_none (Nat.le_of_not_lt h)] at hb
          simp [isBl] at hb
      · omega
    · simp
/-- The name that begins here, and how long it is. -/
def takeN (c : List Int) : List Int × Nat :=
  match c with
  | [] => ([], 0)
  | r :: t =>
    if esB (r :: t) then ((escV t).1 :: (takeN (t.drop (escV t).2)).1, 1 + (escV t).2 + (takeN (t.drop (escV t).2)).2)
    else if nIn r then (r :: (takeN t).1, 1 + (takeN t).2) else ([], 0)
termination_by c.length
decreasing_by all_goals (simp; try omega)
theorem takeN_nil : takeN [] = ([], 0) := by rw [takeN]
theorem takeN_esc (r : Int) (t : List Int) (h : esB (r :: t) = true) : takeN (r :: t) = ((escV t).1 :: (takeN (t.drop (escV t).2)).1, 1 + (escV t).2 + (takeN (t.drop (escV t).2)).2) := by rw [takeN, if_pos h]
theorem takeN_in (r : Int) (t : List Int) (h : nIn r = true) : takeN (r :: t) = (r :: (takeN t).1, 1 + (takeN t).2) := by
  have : esB (r :: t) = false := by rw [nIn_iff] at h; simp [esB]; omega
  rw [takeN, if_neg (by simp [this]), if_pos h]
theorem takeN_out (r : Int) (t : List Int) (h : esB (r :: t) = false) (h2 : nIn r = false) : takeN (r :: t) = ([], 0) := by
  rw [takeN, if_neg (by simp [h]), if_neg (by simp [h2])]
theorem takeN_le (n : Nat) (c : List Int) (hn : c.length ≤ n) : (takeN c).2 ≤ c.length ∧ (takeN c).1.length ≤ (takeN c).2 := by
  induction n generalizing c with
  | zero => obtain rfl := List.length_eq_zero_iff.1 (Nat.le_zero.1 hn); simp [takeN_nil]
  | succ n ih =>
    cases c with
    | nil => simp [takeN_nil]
    | cons r t =>
      simp at hn
      by_cases he : esB (r :: t) = true
      · rw [takeN_esc r t he]
        have h1 := escV_le t
        have := ih (t.drop (escV t).2) (by simp; omega)
        simp at this ⊢; omega
      · by_cases hi : nIn r = true
        · rw [takeN_in r t hi]; have := ih t hn; simp; omega
        · rw [takeN_out r t (by simpa using he) (by simpa using hi)]; simp
/-- Does a name begin here? -/
def begN (c : List Int) : Bool :=
  match c with
  | [] => false
  | r :: t => if r = 45 then nSt (t.getD 0 (-1)) || decide (t.getD 0 (-1) = 45) || esB t else nSt r || esB (r :: t)

/-- A digit of base 16, small. -/
def dgx (n : Nat) : Int := if n < 10 then 48 + n else 87 + n
/-- A number below 256 in base 16. -/
def hexd (r : Int) : List Int := if r < 16 then [dgx r.toNat] else [dgx (r / 16).toNat, dgx (r % 16).toNat]
/-- A code point as a number. -/
def numN (r : Int) : List Int := 92 :: hexd r ++ [32]
/-- How a code point is written within a name. -/
def sp (r : Int) : List Int := if r < 32 ∨ r = 127 then numN r else if nIn r then [r] else [92, r]
/-- The rest of a name. -/
def spR (l : List Int) : List Int := l.flatMap sp
/-- A name. -/
def spF (l : List Int) : List Int :=
  match l with
  | [] => []
  | a :: t => if nDg a then numN a ++ spR t else if a = 45 then (match t with
    | [] => [92, 45]
    | b :: u => if nDg b then 45 :: numN b ++ spR u else 45 :: spR (b :: u)) else spR (a :: t)
/-- Does it join a number ahead? -/
def jn (r : Int) : Bool := isX r || isBl r || decide (r = 12) || decide (r = 13)
/-- A code point between marks; n: the one behind. -/
def qt (q r n : Int) : List Int := if r = q ∨ r = 92 then [92, r] else if r = 10 ∨ r = 12 ∨ r = 13 then 92 :: hexd r ++ (if jn n then [32] else []) else [r]
def qB (q : Int) : List Int → List Int
  | [] => []
  | r :: t => qt q r (t.getD 0 0) ++ qB q t
def qF (q : Int) (l : List Int) : List Int := q :: qB q l ++ [q]
def encZs (l : List Int) : List UInt8 := l.flatMap enc
/-- What is written between the shorter marks. -/
def qText (l : List Int) : List UInt8 := if (encZs (qF 39 l)).length < (encZs (qF 34 l)).length then encZs (qF 39 l) else encZs (qF 34 l)

/-- A code point of a text, byte 0 as U+FFFD. -/
def ptv (s : List UInt8) : Int := if (dec s).1 = 0 then 65533 else (dec s).1
/-- The code points of a text. -/
def pn (l : List UInt8) (i : Nat) : List Int := if h : i < l.length then ptv (l.drop i) :: pn l (i + (dec (l.drop i)).2) else []
termination_by l.length - i
decreasing_by have := dec_width (l.drop i); omega
theorem pn_in (l : List UInt8) (i : Nat) (h : i < l.length) : pn l i = ptv (l.drop i) :: pn l (i + (dec (l.drop i)).2) := by rw [pn, dif_pos h]
theorem pn_out (l : List UInt8) (i : Nat) (h : l.length ≤ i) : pn l i = [] := by rw [pn, dif_neg (by omega)]
theorem pn_len (l : List UInt8) (n i : Nat) (hn : l.length - i ≤ n) : (pn l i).length ≤ l.length - i := by
  induction n generalizing i with
  | zero => rw [pn_out l i (by omega)]; simp
  | succ n ih =>
    by_cases h : i < l.length
    · have hs := dec_width (l.drop i)
      have hl := dec_le (l.drop i) (by simp; omega)
      rw [List.length_drop] at hl
      rw [pn_in l i h, List.length_cons]
      have := ih (i + (dec (l.drop i)).2) (by omega)
      omega
    · rw [pn_out l i (by omega)]; simp
theorem pn_drop (l : List UInt8) (n i k : Nat) (hn : l.length - (k + i) ≤ n) : pn (l.drop k) i = pn l (k + i) := by
  induction n generalizing i with
  | zero => rw [pn_out l (k + i) (by omega), pn_out _ _ (by simp; omega)]
  | succ n ih =>
    by_cases h : k + i < l.length
    · have hs := dec_width (l.drop (k + i))
      rw [pn_in l _ h, pn_in (l.drop k) i (by simp; omega), List.drop_drop, ih _ (by omega), Nat.add_assoc]
    · rw [pn_out l (k + i) (by omega), pn_out _ _ (by simp; omega)]
def okP (r : Int) : Prop := isCP r = true ∧ 1 ≤ r
theorem ptv_ok (s : List UInt8) : okP (ptv s) := by
  have h := dec_cp s
  unfold ptv okP
  split
  · decide
  · refine ⟨h, ?_⟩; omega
theorem pn_ok (l : List UInt8) (n i : Nat) (hn : l.length - i ≤ n) : ∀ r ∈ pn l i, okP r := by
  induction n generalizing i with
  | zero => rw [pn_out l i (by omega)]; simp
  | succ n ih =>
    by_cases h : i < l.length
    · have hs := dec_width (l.drop i)
      rw [pn_in l i h]
      intro r hr
      rcases List.mem_cons.1 hr with rfl | hr
      · exact ptv_ok _
      · exact ih _ (by omega) r hr
    · rw [pn_out l i (by omega)]; simp
theorem encZs_append (a b : List Int) : encZs (a ++ b) = encZs a ++ encZs b := by simp [encZs]
theorem encZs_cons (a : Int) (b : List Int) : encZs (a :: b) = enc a ++ encZs b := by simp [encZs]
theorem encZs_nil : encZs [] = [] := rfl
end Go.Proofs.YtkaojigdogeliaaDoor.M
