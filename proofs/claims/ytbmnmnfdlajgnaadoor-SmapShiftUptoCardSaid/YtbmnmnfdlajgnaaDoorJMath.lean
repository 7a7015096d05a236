/- Plain numbers and lists: how units of UTF-16 are written as a text of JSON. Nothing of the program is imported. -/
import Derived.Test.YtbmnmnfdlajgnaaDoorUMath
namespace Go.Proofs.YtbmnmnfdlajgnaaDoor.M

def hexd (n : Nat) : UInt8 := if n < 10 then (48 + n).toUInt8 else (87 + n).toUInt8
def Sur (r : Nat) : Prop := 55296 ≤ r ∧ r < 57344
instance (r : Nat) : Decidable (Sur r) := by unfold Sur; infer_instance
def num6 (r : Nat) : List UInt8 := [92, 117, hexd (r / 4096), hexd (r / 256 % 16), hexd (r / 16 % 16), hexd (r % 16)]
/-- What is written of a code point, or of a single surrogate. -/
def spel (r : Nat) : List UInt8 :=
  if r = 34 then [92, 34] else if r = 92 then [92, 92] else if r = 8 then [92, 98] else if r = 12 then [92, 102] else if r = 10 then [92, 110] else if r = 13 then [92, 114] else if r = 9 then [92, 116]
  else if r < 32 ∨ Sur r then num6 r else enc r
/-- Are two units a pair? -/
def isPair (u v : Nat) : Bool := decide (55296 ≤ u) && decide (u < 56320) && decide (56320 ≤ v) && decide (v < 57344)
theorem isPair_iff (u v : Nat) : isPair u v = true ↔ (55296 ≤ u ∧ u < 56320 ∧ 56320 ≤ v ∧ v < 57344) := by simp [isPair, and_assoc]
def joinU (u v : Nat) : Nat := 65536 + (u - 55296) * 1024 + (v - 56320)
/-- The first code point, and how many units it has. -/
def firstU : List Nat → Nat × Nat
  | [] => (0, 0)
  | [u] => (u, 1)
  | u :: v :: _ => if isPair u v then (joinU u v, 2) else (u, 1)
def body : List Nat → List UInt8
  | [] => []
  | [u] => spel u
  | u :: v :: t => if isPair u v then spel (joinU u v) ++ body t else spel u ++ body (v :: t)
def spell (l : List Nat) : List UInt8 := 34 :: (body l ++ [34])
def rightU (l : List Int) : Bool := l.all fun u => decide (0 ≤ u) && decide (u ≤ 65535)
theorem rightU_iff (l : List Int) : rightU l = true ↔ ∀ u ∈ l, 0 ≤ u ∧ u ≤ 65535 := by simp [rightU]

theorem join_lt (u v : Nat) (h : isPair u v = true) : 65536 ≤ joinU u v ∧ joinU u v ≤ 1114111 := by
  rw [isPair_iff] at h; unfold joinU; omega
theorem spel_join (u v : Nat) (h : isPair u v = true) : spel (joinU u v) = enc (joinU u v) := by
  have := join_lt u v h
  unfold spel Sur
  repeat rw [if_neg (by omega)]
theorem body_step (l : List Nat) (h : l ≠ []) : body l = spel (firstU l).1 ++ body (l.drop (firstU l).2) := by
  match l, h with
  | [u], _ => simp [body, firstU]
  | u :: v :: t, _ =>
    by_cases hp : isPair u v = true
    · simp [body, firstU, hp]
    · simp [body, firstU, hp]
theorem first_len (l : List Nat) (h : l ≠ []) : 1 ≤ (firstU l).2 ∧ (firstU l).2 ≤ l.length ∧ (firstU l).2 ≤ 2 := by
  match l, h with
  | [u], _ => simp [firstU]
  | u :: v :: t, _ =>
    by_cases hp : isPair u v = true
    · simp [firstU, hp]
    · simp [firstU, hp]
theorem first_val (l : List Nat) (h : ∀ u ∈ l, u ≤ 65535) : (firstU l).1 ≤ 1114111 ∧ (65536 ≤ (firstU l).1 ∨ (firstU l).1 ≤ 65535) := by
  match l, h with
  | [], _ => simp [firstU]
  | [u], h => have := h u (by simp); simp [firstU]; omega
  | u :: v :: t, h =>
    have := h u (by simp)
    by_cases hp : isPair u v = true
    · have := join_lt u v hp; simp only [firstU, if_pos hp]; omega
    · simp only [firstU, if_neg hp]; omega
theorem spel_len (r : Nat) : (spel r).length ≤ 6 ∧ 1 ≤ (spel r).length := by
  have h1 := enc_le r
  have h2 := enc_pos r
  unfold spel num6
  repeat' split
  all_goals first | (simp; done) | omega
theorem body_len (l : List Nat) : (body l).length ≤ 6 * l.length := by
  induction l using body.induct with
  | case1 => simp [body]
  | case2 u => have := spel_len u; simp only [body, List.length_cons, List.length_nil]; omega
  | case3 u v t hp ih =>
    have := spel_len (joinU u v)
    simp only [body, if_pos hp, List.length_append, List.length_cons]; omega
  | case4 u v t hp ih =>
    have := spel_len u
    simp only [body, if_neg hp, List.length_append, List.length_cons] at *; omega
/-- One behind the other. -/
theorem body_append (a b : List Nat) (h : ∀ u v, a.getLast? = some u → b.head? = some v → isPair u v = false) : body (a ++ b) = body a ++ body b := by
  induction a using body.induct with
  | case1 => simp [body]
  | case2 u =>
    cases b with
    | nil => simp [body]
    | cons v t =>
      have := h u v (by simp) (by simp)
      simp [body, this]
  | case3 u v t hp ih =>
    simp only [List.cons_append, body, if_pos hp, List.append_assoc]
    rw [ih]
    intro x y hx hy
    refine h x y ?_ hy
    cases t with
    | nil => simp at hx
    | cons z t => simpa using hx
  | case4 u v t hp ih =>
    simp only [List.cons_append, body, if_neg hp, List.append_assoc] at *
    rw [ih]
    intro x y hx hy
    exact h x y (by simpa using hx) hy
end Go.Proofs.YtbmnmnfdlajgnaaDoor.M
