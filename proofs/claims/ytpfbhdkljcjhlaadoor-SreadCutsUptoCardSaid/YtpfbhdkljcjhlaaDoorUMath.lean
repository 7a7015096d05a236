/- Plain numbers and lists: UTF-8, read and written. Nothing of the program is imported. -/
import Derived.Lib.DecodeN
import Derived.Lib.RuneBytes
namespace Go.Proofs.YtpfbhdkljcjhlaaDoor.M
open Go.Lib

/-- The byte at a place; nought beyond the end. -/
def byte (l : List UInt8) (i : Nat) : Nat := (l.getD i 0).toNat
theorem byte_lt (l : List UInt8) (i : Nat) : byte l i < 256 := (l.getD i 0).toNat_lt
/-- What is read at the beginning of a text that is not empty: rune and width. -/
def dec (l : List UInt8) : Nat × Nat := decodeN l.length (byte l 0) (byte l 1) (byte l 2) (byte l 3)
/-- The same with the mark: whether an encoding begins there. -/
def nx (l : List UInt8) : Int × Int × Bool := if dec l = (65533, 1) then (65533, 1, false) else ((dec l).1, (dec l).2, true)
/-- At any place. -/
def nextAt (l : List UInt8) (p : Int) : Int × Int × Bool := if p < 0 ∨ (l.length : Int) ≤ p then (0, 0, false) else nx (l.drop p.toNat)

theorem dec_width (l : List UInt8) : 1 ≤ (dec l).2 ∧ (dec l).2 ≤ 4 := by
  unfold dec decodeN
  repeat' split
  all_goals simp
theorem dec_le (l : List UInt8) (h : 0 < l.length) : (dec l).2 ≤ l.length := by
  unfold dec decodeN
  repeat' split
  all_goals (simp only; omega)
theorem dec_rune (l : List UInt8) : (dec l).1 ≤ 1114111 := by
  have h0 := byte_lt l 0
  have h1 := byte_lt l 1
  have h2 := byte_lt l 2
  have h3 := byte_lt l 3
  unfold dec decodeN
  repeat' split
  all_goals (simp only; omega)
/-- May this be a code point? -/
def isCP (r : Int) : Bool := decide (0 ≤ r) && decide (r ≤ 1114111) && (decide (r < 55296) || decide (57343 < r))
theorem isCP_iff (r : Int) : isCP r = true ↔ (0 ≤ r ∧ r ≤ 1114111 ∧ (r < 55296 ∨ 57343 < r)) := by
  simp [isCP, and_assoc]
/-- What is written of a number. -/
def enc (r : Int) : List UInt8 := encodeRune r
theorem toU8 (n : Nat) (h : n < 256) : n.toUInt8.toNat = n := by
  simp [Nat.toUInt8, UInt8.toNat_ofNat']; omega
theorem enc_one (r : Nat) (h : r < 128) : enc r = [r.toUInt8] := by
  unfold enc encodeRune
  rw [encodeRuneZ_one (by omega) (by omega)]
  simp
theorem enc_two (r : Nat) (h0 : 128 ≤ r) (h : r < 2048) : enc r = [(192 + r / 64).toUInt8, (128 + r % 64).toUInt8] := by
  unfold enc encodeRune
  rw [encodeRuneZ_two (by omega) (by omega)]
  simp only [List.map_cons, List.map_nil]
  rw [show ((192 : Int) + r / 64).toNat = 192 + r / 64 by omega, show ((128 : Int) + r % 64).toNat = 128 + r % 64 by omega]
theorem enc_three (r : Nat) (h : (2048 ≤ r ∧ r < 55296) ∨ (57343 < r ∧ r ≤ 65535)) : enc r = [(224 + r / 4096).toUInt8, (128 + r / 64 % 64).toUInt8, (128 + r % 64).toUInt8] := by
  unfold enc encodeRune
  rw [encodeRuneZ_three (by omega)]
  simp only [List.map_cons, List.map_nil]
  rw [show ((224 : Int) + r / 4096).toNat = 224 + r / 4096 by omega, show ((128 : Int) + r / 64 % 64).toNat = 128 + r / 64 % 64 by omega, show ((128 : Int) + r % 64).toNat = 128 + r % 64 by omega]
theorem enc_four (r : Nat) (h0 : 65536 ≤ r) (h : r ≤ 1114111) : enc r = [(240 + r / 262144).toUInt8, (128 + r / 4096 % 64).toUInt8, (128 + r / 64 % 64).toUInt8, (128 + r % 64).toUInt8] := by
  unfold enc encodeRune
  rw [encodeRuneZ_four (by omega) (by omega)]
  simp only [List.map_cons, List.map_nil]
  rw [show ((240 : Int) + r / 262144).toNat = 240 + r / 262144 by omega, show ((128 : Int) + r / 4096 % 64).toNat = 128 + r / 4096 % 64 by omega, show ((128 : Int) + r / 64 % 64).toNat = 128 + r / 64 % 64 by omega, show ((128 : Int) + r % 64).toNat = 128 + r % 64 by omega]
theorem enc_other (r : Int) (h : isCP r = false) : enc r = enc 65533 := by
  have : ¬ (0 ≤ r ∧ r ≤ 1114111 ∧ (r < 55296 ∨ 57343 < r)) := by rw [← isCP_iff]; simp [h]
  unfold enc encodeRune encodeRuneZ
  repeat' split
  all_goals first | rfl | (exfalso; omega)
/-- How many bytes are written of a code point. -/
def wid (r : Nat) : Nat := if r < 128 then 1 else if r < 2048 then 2 else if r < 65536 then 3 else 4
theorem enc_len (r : Nat) (h : isCP r = true) : (enc r).length = wid r := by
  rw [isCP_iff] at h
  unfold wid
  by_cases h1 : r < 128
  · rw [enc_one r h1, if_pos h1]; rfl
  · by_cases h2 : r < 2048
    · rw [enc_two r (by omega) h2, if_neg h1, if_pos h2]; rfl
    · by_cases h3 : r < 65536
      · rw [enc_three r (by omega), if_neg h1, if_neg h2, if_pos h3]; rfl
      · rw [enc_four r (by omega) (by omega), if_neg h1, if_neg h2, if_neg h3]; rfl
theorem enc_le (r : Int) : (enc r).length ≤ 4 := by
  unfold enc encodeRune encodeRuneZ
  repeat' split
  all_goals simp
theorem enc_pos (r : Int) : 1 ≤ (enc r).length := by
  unfold enc encodeRune encodeRuneZ
  repeat' split
  all_goals simp

set_option maxHeartbeats 1000000 in
/-- What was written is read. -/
theorem dec_enc (r : Nat) (h : isCP r = true) (t : List UInt8) : dec (enc r ++ t) = (r, wid r) := by
  rw [isCP_iff] at h
  unfold wid
  by_cases h1 : r < 128
  · rw [enc_one r h1, if_pos h1]
    simp only [dec, byte, List.cons_append, List.nil_append, List.getD_cons_zero, toU8 r (by omega)]
    unfold decodeN
    rw [if_pos h1]
  · by_cases h2 : r < 2048
    · rw [enc_two r (by omega) h2, if_neg h1, if_pos h2]
      simp only [dec, byte, List.cons_append, List.nil_append, List.getD_cons_zero, List.getD_cons_succ, List.length_cons]
      rw [toU8 (192 + r / 64) (by omega), toU8 (128 + r % 64) (by omega)]
      unfold decodeN
      rw [if_neg (by omega), if_pos (by omega), if_pos (by omega)]
      apply Prod.ext <;> simp only <;> omega
    · by_cases h3 : r < 65536
      · rw [enc_three r (by omega), if_neg h1, if_neg h2, if_pos h3]
        simp only [dec, byte, List.cons_append, List.nil_append, List.getD_cons_zero, List.getD_cons_succ, List.length_cons]
        rw [toU8 (224 + r / 4096) (by omega), toU8 (128 + r / 64 % 64) (by omega), toU8 (128 + r % 64) (by omega)]
        unfold decodeN
        rw [if_neg (by omega), if_neg (by omega), if_pos (by omega), if_pos (by omega)]
        apply Prod.ext <;> simp only <;> omega
      · rw [enc_four r (by omega) (by omega), if_neg h1, if_neg h2, if_neg h3]
        simp only [dec, byte, List.cons_append, List.nil_append, List.getD_cons_zero, List.getD_cons_succ, List.length_cons]
        rw [toU8 (240 + r / 262144) (by omega), toU8 (128 + r / 4096 % 64) (by omega), toU8 (128 + r / 64 % 64) (by omega), toU8 (128 + r % 64) (by omega)]
        unfold decodeN
        rw [if_neg (by omega), if_neg (by omega), if_neg (by omega), if_pos (by omega), if_pos (by omega)]
        apply Prod.ext <;> simp only <;> omega
theorem nx_enc (r : Nat) (h : isCP r = true) (t : List UInt8) : nx (enc r ++ t) = ((r : Int), (wid r : Int), true) := by
  unfold nx
  rw [dec_enc r h t, if_neg]
  intro h2
  simp only [Prod.mk.injEq] at h2
  rw [h2.1] at h2
  simp [wid] at h2

/-- How far a text is UTF-8: the place, and whether it is its end. -/
def valid : Nat → List UInt8 → Nat → Nat × Bool
  | 0, _, p => (p, true)
  | f + 1, l, p => if l.length ≤ p then (p, true) else if (nx (l.drop p)).2.2 then valid f l (p + (dec (l.drop p)).2) else (p, false)
theorem valid_end (f : Nat) (l : List UInt8) (p : Nat) (h : l.length ≤ p) : valid f l p = (p, true) := by
  cases f <;> simp [valid, h]
theorem valid_bad (f : Nat) (l : List UInt8) (p : Nat) (h : p < l.length) (hf : 0 < f) (hn : (nx (l.drop p)).2.2 = false) : valid f l p = (p, false) := by
  cases f with
  | zero => omega
  | succ f => simp only [valid, hn]; rw [if_neg (by omega)]; rfl
theorem valid_good (f : Nat) (l : List UInt8) (p : Nat) (h : p < l.length) (hf : 0 < f) (hn : (nx (l.drop p)).2.2 = true) : valid f l p = valid (f - 1) l (p + (dec (l.drop p)).2) := by
  cases f with
  | zero => omega
  | succ f => simp only [valid, hn]; rw [if_neg (by omega)]; rfl
def validAll (l : List UInt8) : Nat × Bool := valid l.length l 0
end Go.Proofs.YtpfbhdkljcjhlaaDoor.M
