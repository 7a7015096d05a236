/- Plain numbers and lists: UTF-8 as the reference reads it: a class of lead bytes, then one byte after the other. Nothing of the program is imported. -/
import Derived.Test.YtbmnmnfdlajgnaaDoorUMath
namespace Go.Proofs.YtbmnmnfdlajgnaaDoor.M
open Go.Lib

theorem byte_drop (l : List UInt8) (p j : Nat) : byte (l.drop p) j = byte l (p + j) := by
  unfold byte; simp [List.getD]
theorem dec_drop (l : List UInt8) (p : Nat) : dec (l.drop p) = decodeN (l.length - p) (byte l p) (byte l (p + 1)) (byte l (p + 2)) (byte l (p + 3)) := by
  unfold dec
  rw [byte_drop, byte_drop, byte_drop, byte_drop, List.length_drop, Nat.add_zero]
/-- Does a byte that goes on stand there? -/
def tl (l : List UInt8) (p : Nat) : Bool := decide (p < l.length) && decide (byte l p / 64 = 2)
theorem tl_iff (l : List UInt8) (p : Nat) : tl l p = true ↔ (p < l.length ∧ byte l p / 64 = 2) := by simp [tl]
def oks (l : List UInt8) (p : Nat) : Nat → Prop
  | 0 => True
  | k + 1 => oks l p k ∧ tl l (p + (k + 1)) = true
def acc (l : List UInt8) (p r0 : Nat) : Nat → Nat
  | 0 => r0
  | k + 1 => acc l p r0 k * 64 + byte l (p + (k + 1)) % 64
theorem acc_lt (l : List UInt8) (p r0 : Nat) (h : r0 < 32) (k : Nat) (hk : k ≤ 3) : acc l p r0 k < 8388608 := by
  have h1 : acc l p r0 0 < 32 := h
  have h2 : acc l p r0 1 < 2048 := by simp only [acc] at *; omega
  have h3 : acc l p r0 2 < 131072 := by simp only [acc] at *; omega
  have h4 : acc l p r0 3 < 8388608 := by simp only [acc] at *; omega
  have : k = 0 ∨ k = 1 ∨ k = 2 ∨ k = 3 := by omega
  rcases this with rfl | rfl | rfl | rfl <;> omega
def Cls (c n low r0 : Nat) : Prop := (192 ≤ c ∧ c < 224 ∧ n = 2 ∧ low = 128 ∧ r0 = c % 32) ∨ (224 ≤ c ∧ c < 240 ∧ n = 3 ∧ low = 2048 ∧ r0 = c % 16) ∨ (240 ≤ c ∧ c < 248 ∧ n = 4 ∧ low = 65536 ∧ r0 = c % 8)
theorem nx_one (l : List UInt8) (p : Nat) (h : byte l p < 128) : nx (l.drop p) = ((byte l p : Int), 1, true) := by
  unfold nx
  have : dec (l.drop p) = (byte l p, 1) := by rw [dec_drop]; unfold decodeN; rw [if_pos h]
  rw [this, if_neg]
  · rfl
  · simp; omega
theorem nx_none (l : List UInt8) (p : Nat) (h : 128 ≤ byte l p ∧ byte l p < 192 ∨ 248 ≤ byte l p) : nx (l.drop p) = (65533, 1, false) := by
  unfold nx
  have hb := byte_lt l p
  rw [if_pos]
  rw [dec_drop]
  unfold decodeN
  rw [if_neg (by omega), if_neg (by omega), if_neg (by omega), if_neg (by omega)]
theorem nx_stop (l : List UInt8) (p n low r0 k : Nat) (hc : Cls (byte l p) n low r0) (hk : k + 1 < n) (hok : oks l p k) (hno : tl l (p + (k + 1)) = false) : nx (l.drop p) = (65533, 1, false) := by
  have hno' : ¬ (p + (k + 1) < l.length ∧ byte l (p + (k + 1)) / 64 = 2) := by rw [← tl_iff]; simp [hno]
  unfold nx
  rw [if_pos]
  rw [dec_drop]
  unfold decodeN
  unfold Cls at hc
  rcases hc with ⟨h1, h2, rfl, rfl, rfl⟩ | ⟨h1, h2, rfl, rfl, rfl⟩ | ⟨h1, h2, rfl, rfl, rfl⟩
  · obtain rfl : k = 0 := by omega
    simp only [Nat.zero_add] at hno'
    rw [if_neg (by omega), if_neg (by omega), if_neg (by omega), if_neg (by omega)]
  · have : k = 0 ∨ k = 1 := by omega
    rcases this with rfl | rfl
    all_goals
      simp only [Nat.zero_add, Nat.reduceAdd] at hno'
      rw [if_neg (by omega), if_neg (by omega), if_neg (by omega), if_neg (by omega)]
  · have : k = 0 ∨ k = 1 ∨ k = 2 := by omega
    rcases this with rfl | rfl | rfl
    all_goals
      simp only [Nat.zero_add, Nat.reduceAdd] at hno'
      rw [if_neg (by omega), if_neg (by omega), if_neg (by omega), if_neg (by omega)]
theorem nx_of (l : List UInt8) (p a n : Nat) (P : Prop) [Decidable P] (h : dec (l.drop p) = if P then (a, n) else (65533, 1)) (hn : n ≠ 1) (low : Nat)
    (hP : P ↔ ¬ (a < low ∨ 1114111 < a ∨ (55296 ≤ a ∧ a < 57344))) :
    nx (l.drop p) = if a < low ∨ 1114111 < a ∨ (55296 ≤ a ∧ a < 57344) then (65533, 1, false) else ((a : Int), (n : Int), true) := by
  unfold nx
  rw [h]
  by_cases hp : P
  · rw [if_pos hp, if_neg (by simp [hn]), if_neg (hP.1 hp)]
  · rw [if_neg hp, if_pos rfl, if_pos (by
      by_cases hh : a < low ∨ 1114111 < a ∨ (55296 ≤ a ∧ a < 57344)
      · exact hh
      · exact absurd (hP.2 hh) hp)]
theorem nx_full (l : List UInt8) (p n low r0 k : Nat) (hc : Cls (byte l p) n low r0) (hk : k + 1 = n) (hok : oks l p k) :
    ∀ a, acc l p r0 k = a → nx (l.drop p) = if a < low ∨ 1114111 < a ∨ (55296 ≤ a ∧ a < 57344) then (65533, 1, false) else ((a : Int), (n : Int), true) := by
  intro a ha
  have hb0 := byte_lt l p
  have hb1 := byte_lt l (p + 1)
  have hb2 := byte_lt l (p + 2)
  have hb3 := byte_lt l (p + 3)
  have hdec := dec_drop l p
  unfold decodeN at hdec
  unfold Cls at hc
  rcases hc with ⟨h1, h2, rfl, rfl, rfl⟩ | ⟨h1, h2, rfl, rfl, rfl⟩ | ⟨h1, h2, rfl, rfl, rfl⟩
  · obtain rfl : k = 1 := by omega
    simp only [oks, acc, tl_iff, Nat.zero_add, true_and] at hok ha
    subst ha
    rw [if_neg (by omega), if_pos (by omega)] at hdec
    exact nx_of l p _ 2 _ hdec (by omega) 128 (by omega)
  · obtain rfl : k = 2 := by omega
    simp only [oks, acc, tl_iff, Nat.zero_add, true_and, Nat.reduceAdd] at hok ha
    have ha' : byte l p % 16 * 4096 + byte l (p + 1) % 64 * 64 + byte l (p + 2) % 64 = a := by omega
    rw [if_neg (by omega), if_neg (by omega), if_pos (by omega), ha'] at hdec
    exact nx_of l p a 3 _ hdec (by omega) 2048 (by omega)
  · obtain rfl : k = 3 := by omega
    simp only [oks, acc, tl_iff, Nat.zero_add, true_and, Nat.reduceAdd] at hok ha
    have ha' : byte l p % 8 * 262144 + byte l (p + 1) % 64 * 4096 + byte l (p + 2) % 64 * 64 + byte l (p + 3) % 64 = a := by omega
    rw [if_neg (by omega), if_neg (by omega), if_neg (by omega), if_pos (by omega), ha'] at hdec
    exact nx_of l p a 4 _ hdec (by omega) 65536 (by omega)
theorem nextAt_in (l : List UInt8) (p : Nat) (h : p < l.length) : nextAt l p = nx (l.drop p) := by
  unfold nextAt; rw [if_neg (by omega)]; simp
theorem nextAt_out (l : List UInt8) (p : Int) (h : p < 0 ∨ (l.length : Int) ≤ p) : nextAt l p = (0, 0, false) := by
  unfold nextAt; rw [if_pos h]
end Go.Proofs.YtbmnmnfdlajgnaaDoor.M
