/- Plain numbers and lists: the order of what is written, and that no encoding begins another one. Nothing of the program is imported. -/
import Derived.Test.YtpfbhdkljcjhlaaDoorUMath
namespace Go.Proofs.YtpfbhdkljcjhlaaDoor.M
open Go.Lib

theorem u8_lt (a b : Nat) (ha : a < 256) (hb : b < 256) : (a.toUInt8 < b.toUInt8) ↔ a < b := by
  rw [UInt8.lt_iff_toNat_lt, toU8 a ha, toU8 b hb]
theorem u8_eq (a b : Nat) (ha : a < 256) (hb : b < 256) : (a.toUInt8 = b.toUInt8) ↔ a = b := by
  rw [← UInt8.toNat_inj, toU8 a ha, toU8 b hb]

inductive Shape (r : Nat) : List UInt8 → Prop
  | one : r < 128 → Shape r [r.toUInt8]
  | two : 128 ≤ r → r < 2048 → Shape r [(192 + r / 64).toUInt8, (128 + r % 64).toUInt8]
  | three : 2048 ≤ r → r < 65536 → Shape r [(224 + r / 4096).toUInt8, (128 + r / 64 % 64).toUInt8, (128 + r % 64).toUInt8]
  | four : 65536 ≤ r → r ≤ 1114111 → Shape r [(240 + r / 262144).toUInt8, (128 + r / 4096 % 64).toUInt8, (128 + r / 64 % 64).toUInt8, (128 + r % 64).toUInt8]
theorem shape (r : Nat) (h : isCP r = true) : Shape r (enc r) := by
  rw [isCP_iff] at h
  by_cases h1 : r < 128
  · rw [enc_one r h1]; exact .one h1
  · by_cases h2 : r < 2048
    · rw [enc_two r (by omega) h2]; exact .two (by omega) h2
    · by_cases h3 : r < 65536
      · rw [enc_three r (by omega)]; exact .three (by omega) h3
      · rw [enc_four r (by omega) (by omega)]; exact .four (by omega) (by omega)

set_option maxHeartbeats 2000000 in
theorem shape_lt {a b : Nat} {x y : List UInt8} (ha : Shape a x) (hb : Shape b y) (h : a < b) : x < y := by
  cases ha <;> cases hb
  all_goals
    simp only [List.cons_lt_cons_iff, List.nil_lt_cons, List.not_lt_nil]
    repeat rw [u8_lt _ _ (by omega) (by omega)]
    repeat rw [u8_eq _ _ (by omega) (by omega)]
    try simp
    try omega
theorem enc_lt {a b : Nat} (ha : isCP a = true) (hb : isCP b = true) (h : a < b) : enc a < enc b := shape_lt (shape a ha) (shape b hb) h
theorem enc_lt_iff {a b : Nat} (ha : isCP a = true) (hb : isCP b = true) : enc a < enc b ↔ a < b := by
  constructor
  · intro h
    by_cases h1 : a < b
    · exact h1
    · by_cases h2 : a = b
      · subst h2; exact absurd h (List.lt_irrefl _)
      · exact absurd (List.lt_trans h (enc_lt hb ha (by omega))) (List.lt_irrefl _)
  · exact enc_lt ha hb
/-- Nothing that is written begins what is written of another one. -/
theorem enc_begins {a b : Nat} (ha : isCP a = true) (hb : isCP b = true) (t : List UInt8) (h : enc b = enc a ++ t) : a = b := by
  have h1 := dec_enc a ha t
  have h2 := dec_enc b hb []
  rw [List.append_nil, h, h1] at h2
  exact congrArg Prod.fst h2
/-- A true beginning of what is written is no encoding. -/
theorem enc_cut {r : Nat} (h : isCP r = true) (k : Nat) (h0 : 0 < k) (hk : k < wid r) : (nx ((enc r).take k)).2.2 = false := by
  have hs := shape r h
  have hd : dec ((enc r).take k) = (65533, 1) := by
    unfold wid at hk
    revert hs
    generalize enc r = l
    intro hs
    cases hs with
    | one h1 => rw [if_pos h1] at hk; omega
    | two h1 h2 =>
      rw [if_neg (by omega), if_pos h2] at hk
      obtain rfl : k = 1 := by omega
      simp only [List.take_succ_cons, List.take_zero, dec, byte, List.getD_cons_zero, List.length_cons, List.length_nil]
      rw [toU8 _ (by omega)]
      unfold decodeN
      rw [if_neg (by omega), if_neg (by omega), if_neg (by omega), if_neg (by omega)]
    | three h1 h2 =>
      rw [if_neg (by omega), if_neg (by omega), if_pos h2] at hk
      have : k = 1 ∨ k = 2 := by omega
      rcases this with rfl | rfl
      all_goals
        simp only [List.take_succ_cons, List.take_zero, dec, byte, List.getD_cons_zero, List.getD_cons_succ, List.length_cons, List.length_nil]
        rw [toU8 (224 + r / 4096) (by omega)]
        unfold decodeN
        rw [if_neg (by omega), if_neg (by omega), if_neg (by omega), if_neg (by omega)]
    | four h1 h2 =>
      rw [if_neg (by omega), if_neg (by omega), if_neg (by omega)] at hk
      have : k = 1 ∨ k = 2 ∨ k = 3 := by omega
      rcases this with rfl | rfl | rfl
      all_goals
        simp only [List.take_succ_cons, List.take_zero, dec, byte, List.getD_cons_zero, List.getD_cons_succ, List.length_cons, List.length_nil]
        rw [toU8 (240 + r / 262144) (by omega)]
        unfold decodeN
        rw [if_neg (by omega), if_neg (by omega), if_neg (by omega), if_neg (by omega)]
  unfold nx
  rw [if_pos hd]
end Go.Proofs.YtpfbhdkljcjhlaaDoor.M
