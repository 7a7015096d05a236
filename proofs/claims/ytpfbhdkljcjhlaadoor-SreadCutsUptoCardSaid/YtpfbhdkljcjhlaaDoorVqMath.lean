/- Plain numbers and lists: the digits of a number in base 32, and their letters. Nothing of the program is imported. -/
import Derived.Lib.Bytealg
namespace Go.Proofs.YtpfbhdkljcjhlaaDoor.V

/-- The letters of base 64, by their bytes. -/
def alpha : List UInt8 := [65, 66, 67, 68, 69, 70, 71, 72, 73, 74, 75, 76, 77, 78, 79, 80, 81, 82, 83, 84, 85, 86, 87, 88, 89, 90, 97, 98, 99, 100, 101, 102, 103, 104, 105, 106, 107, 108, 109, 110, 111, 112, 113, 114, 115, 116, 117, 118, 119, 120, 121, 122, 48, 49, 50, 51, 52, 53, 54, 55, 56, 57, 43, 47]
def letter (d : Nat) : UInt8 := alpha.getD d 0

/-- The digits of x, the lowest first, each but the last with 32 added. -/
def digs : Nat → Nat → List Nat
  | 0, _ => []
  | f + 1, x => if x < 32 then [x] else (32 + x % 32) :: digs f (x / 32)

theorem digs_small (f x : Nat) (h : x < 32) : digs (f + 1) x = [x] := by simp [digs, h]
theorem digs_big (f x : Nat) (h : 32 ≤ x) : digs (f + 1) x = (32 + x % 32) :: digs f (x / 32) := by
  have : ¬ x < 32 := by omega
  simp [digs, this]
theorem digs_len (f x : Nat) : (digs f x).length ≤ f := by
  induction f generalizing x with
  | zero => simp [digs]
  | succ f ih =>
    unfold digs
    split
    · simp
    · have := ih (x / 32); simp; omega
theorem digs_lt (f x : Nat) : ∀ d ∈ digs f x, d < 64 := by
  induction f generalizing x with
  | zero => simp [digs]
  | succ f ih =>
    unfold digs
    split
    · intro d hd; simp at hd; omega
    · intro d hd
      simp only [List.mem_cons] at hd
      rcases hd with rfl | hd
      · omega
      · exact ih _ d hd
theorem digs_pos (f x : Nat) : 0 < (digs (f + 1) x).length := by
  unfold digs; split <;> simp

/-- What a number is turned into before its digits are taken. -/
def zig (n : Int) : Nat := if n < 0 then (2 * -n + 1).toNat else (2 * n).toNat
/-- The text of a number. -/
def text (n : Int) : List UInt8 := (digs 9 (zig n)).map letter
def bytes (l : List UInt8) : ByteArray := ⟨l.toArray⟩
theorem zig_lt (n : Int) (h1 : -1099511627776 ≤ n) (h2 : n ≤ 1099511627776) : zig n < 32 ^ 9 := by
  unfold zig; split <;> omega
theorem text_len (n : Int) : (text n).length ≤ 9 := by unfold text; simpa using digs_len 9 (zig n)
theorem text_pos (n : Int) : 0 < (text n).length := by unfold text; simpa using digs_pos 8 (zig n)

/-- What holds at the head of each round: x is left, l is there, f rounds more at most. -/
def Left (N f x : Nat) (l : List Nat) : Prop := x < 32 ^ (f + 1) ∧ l.length + f = 8 ∧ l ++ digs (f + 1) x = digs 9 N
theorem left_start (N : Nat) (h : N < 32 ^ 9) : Left N 8 N [] := ⟨h, rfl, rfl⟩
theorem left_step {N f x : Nat} {l : List Nat} (h : Left N f x l) (hx : 32 ≤ x) : ∃ g, Left N g (x / 32) (l ++ [32 + x % 32]) := by
  obtain ⟨h1, h2, h3⟩ := h
  cases f with
  | zero => simp at h1; omega
  | succ g =>
    refine ⟨g, ?_, by simp; omega, ?_⟩
    · rw [Nat.pow_succ] at h1; omega
    · rw [digs_big _ _ hx] at h3; simpa using h3
theorem left_stop {N f x : Nat} {l : List Nat} (h : Left N f x l) (hx : x < 32) : l ++ [x] = digs 9 N := by
  obtain ⟨h1, h2, h3⟩ := h
  rw [digs_small _ _ hx] at h3; exact h3
theorem left_len {N f x : Nat} {l : List Nat} (h : Left N f x l) : l.length ≤ 8 := by have := h.2.1; omega
theorem left_x {N f x : Nat} {l : List Nat} (h : Left N f x l) : x < 35184372088832 := by
  have h1 := h.1
  have h2 : 32 ^ (f + 1) ≤ 32 ^ 9 := Nat.pow_le_pow_right (by omega) (by have := h.2.1; omega)
  omega

end Go.Proofs.YtpfbhdkljcjhlaaDoor.V
