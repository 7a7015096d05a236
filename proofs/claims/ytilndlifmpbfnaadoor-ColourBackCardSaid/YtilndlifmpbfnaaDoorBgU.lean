/- Several texts of ours in one: UMath UMath2 UMath3 RMath CMath CMath2 EMath EMath2 EMath3 EMath4 EMath5 EMath6. -/
import Derived.Lib.DecodeN
import Derived.Lib.RuneBytes
/- Plain numbers and lists: UTF-8, read and written. Nothing of the program is imported. -/
namespace Go.Proofs.YtilndlifmpbfnaaDoor.M
open Go.Lib

/-- The byte at a place; nought beyond the end. -/
def byte (l : List UInt8) (i : Nat) : Nat := (l.getD i 0).toNat
theorem byte_lt (l : List UInt8) (i : Nat) : byte l i < 256 := (l.getD i 0).toNat_lt
/-- What is read at the beginning of a text that is not empty: rune and width. -/
def dec (l : List UInt8) : Nat × Nat := decodeN l.length (byte l 0) (byte l 1) (byte l 2) (byte l 3)
/-- The same with the mark: whether an encoding begins there. -/
def nx (l : List UInt8) : Int × Int × Bool := if dec l = (65533, 1) then (65533, 1, false) else ((dec l).1, (dec l).2, true)
/-- At any place. -/
def nextAt (l : List UInt8) (p : Int) : Int × Int × Bool := if p < 0 ∨ (l.length : Int) ≤ p then (0, 0, false) else nx (l.drop p.toNat)

theorem dec_width (l : List UInt8) : 1 ≤ (dec l).2 ∧ (dec l).2 ≤ 4 := by
  unfold dec decodeN
  repeat' split
  all_goals simp
theorem dec_le (l : List UInt8) (h : 0 < l.length) : (dec l).2 ≤ l.length := by
  unfold dec decodeN
  repeat' split
  all_goals (simp only; omega)
theorem dec_rune (l : List UInt8) : (dec l).1 ≤ 1114111 := by
  have h0 := byte_lt l 0
  have h1 := byte_lt l 1
  have h2 := byte_lt l 2
  have h3 := byte_lt l 3
  unfold dec decodeN
  repeat' split
  all_goals (simp only; omega)
/-- May this be a code point? -/
def isCP (r : Int) : Bool := decide (0 ≤ r) && decide (r ≤ 1114111) && (decide (r < 55296) || decide (57343 < r))
theorem isCP_iff (r : Int) : isCP r = true ↔ (0 ≤ r ∧ r ≤ 1114111 ∧ (r < 55296 ∨ 57343 < r)) := by
  simp [isCP, and_assoc]
/-- What is written of a number. -/
def enc (r : Int) : List UInt8 := encodeRune r
theorem toU8 (n : Nat) (h : n < 256) : n.toUInt8.toNat = n := by
  simp [Nat.toUInt8, UInt8.toNat_ofNat']; omega
theorem enc_one (r : Nat) (h : r < 128) : enc r = [r.toUInt8] := by
  unfold enc encodeRune
  rw [encodeRuneZ_one (by omega) (by omega)]
  simp
theorem enc_two (r : Nat) (h0 : 128 ≤ r) (h : r < 2048) : enc r = [(192 + r / 64).toUInt8, (128 + r % 64).toUInt8] := by
  unfold enc encodeRune
  rw [encodeRuneZ_two (by omega) (by omega)]
  simp only [List.map_cons, List.map_nil]
  rw [show ((192 : Int) + r / 64).toNat = 192 + r / 64 by omega, show ((128 : Int) + r % 64).toNat = 128 + r % 64 by omega]
theorem enc_three (r : Nat) (h : (2048 ≤ r ∧ r < 55296) ∨ (57343 < r ∧ r ≤ 65535)) : enc r = [(224 + r / 4096).toUInt8, (128 + r / 64 % 64).toUInt8, (128 + r % 64).toUInt8] := by
  unfold enc encodeRune
  rw [encodeRuneZ_three (by omega)]
  simp only [List.map_cons, List.map_nil]
  rw [show ((224 : Int) + r / 4096).toNat = 224 + r / 4096 by omega, show ((128 : Int) + r / 64 % 64).toNat = 128 + r / 64 % 64 by omega, show ((128 : Int) + r % 64).toNat = 128 + r % 64 by omega]
theorem enc_four (r : Nat) (h0 : 65536 ≤ r) (h : r ≤ 1114111) : enc r = [(240 + r / 262144).toUInt8, (128 + r / 4096 % 64).toUInt8, (128 + r / 64 % 64).toUInt8, (128 + r % 64).toUInt8] := by
  unfold enc encodeRune
  rw [encodeRuneZ_four (by omega) (by omega)]
  simp only [List.map_cons, List.map_nil]
  rw [show ((240 : Int) + r / 262144).toNat = 240 + r / 262144 by omega, show ((128 : Int) + r / 4096 % 64).toNat = 128 + r / 4096 % 64 by omega, show ((128 : Int) + r / 64 % 64).toNat = 128 + r / 64 % 64 by omega, show ((128 : Int) + r % 64).toNat = 128 + r % 64 by omega]
theorem enc_other (r : Int) (h : isCP r = false) : enc r = enc 65533 := by
  have : ¬ (0 ≤ r ∧ r ≤ 1114111 ∧ (r < 55296 ∨ 57343 < r)) := by rw [← isCP_iff]; simp [h]
  unfold enc encodeRune encodeRuneZ
  repeat' split
  all_goals first | rfl | (exfalso; omega)
/-- How many bytes are written of a code point. -/
def wid (r : Nat) : Nat := if r < 128 then 1 else if r < 2048 then 2 else if r < 65536 then 3 else 4
theorem enc_len (r : Nat) (h : isCP r = true) : (enc r).length = wid r := by
  rw [isCP_iff] at h
  unfold wid
  by_cases h1 : r < 128
  · rw [enc_one r h1, if_pos h1]; rfl
  · by_cases h2 : r < 2048
    · rw [enc_two r (by omega) h2, if_neg h1, if_pos h2]; rfl
    · by_cases h3 : r < 65536
      · rw [enc_three r (by omega), if_neg h1, if_neg h2, if_pos h3]; rfl
      · rw [enc_four r (by omega) (by omega), if_neg h1, if_neg h2, if_neg h3]; rfl
theorem enc_le (r : Int) : (enc r).length ≤ 4 := by
  unfold enc encodeRune encodeRuneZ
  repeat' split
  all_goals simp
theorem enc_pos (r : Int) : 1 ≤ (enc r).length := by
  unfold enc encodeRune encodeRuneZ
  repeat' split
  all_goals simp

set_option maxHeartbeats 1000000 in
/-- What was written is read. -/
theorem dec_enc (r : Nat) (h : isCP r = true) (t : List UInt8) : dec (enc r ++ t) = (r, wid r) := by
  rw [isCP_iff] at h
  unfold wid
  by_cases h1 : r < 128
  · rw [enc_one r h1, if_pos h1]
    simp only [dec, byte, List.cons_append, List.nil_append, List.getD_cons_zero, toU8 r (by omega)]
    unfold decodeN
    rw [if_pos h1]
  · by_cases h2 : r < 2048
    · rw [enc_two r (by omega) h2, if_neg h1, if_pos h2]
      simp only [dec, byte, List.cons_append, List.nil_append, List.getD_cons_zero, List.getD_cons_succ, List.length_cons]
      rw [toU8 (192 + r / 64) (by omega), toU8 (128 + r % 64) (by omega)]
      unfold decodeN
      rw [if_neg (by omega), if_pos (by omega), if_pos (by omega)]
      apply Prod.ext <;> simp only <;> omega
    · by_cases h3 : r < 65536
      · rw [enc_three r (by omega), if_neg h1, if_neg h2, if_pos h3]
        simp only [dec, byte, List.cons_append, List.nil_append, List.getD_cons_zero, List.getD_cons_succ, List.length_cons]
        rw [toU8 (224 + r / 4096) (by omega), toU8 (128 + r / 64 % 64) (by omega), toU8 (128 + r % 64) (by omega)]
        unfold decodeN
        rw [if_neg (by omega), if_neg (by omega), if_pos (by omega), if_pos (by omega)]
        apply Prod.ext <;> simp only <;> omega
      · rw [enc_four r (by omega) (by omega), if_neg h1, if_neg h2, if_neg h3]
        simp only [dec, byte, List.cons_append, List.nil_append, List.getD_cons_zero, List.getD_cons_succ, List.length_cons]
        rw [toU8 (240 + r / 262144) (by omega), toU8 (128 + r / 4096 % 64) (by omega), toU8 (128 + r / 64 % 64) (by omega), toU8 (128 + r % 64) (by omega)]
        unfold decodeN
        rw [if_neg (by omega), if_neg (by omega), if_neg (by omega), if_pos (by omega), if_pos (by omega)]
        apply Prod.ext <;> simp only <;> omega
theorem nx_enc (r : Nat) (h : isCP r = true) (t : List UInt8) : nx (enc r ++ t) = ((r : Int), (wid r : Int), true) := by
  unfold nx
  rw [dec_enc r h t, if_neg]
  intro h2
  simp only [Prod.mk.injEq] at h2
  rw [h2.1] at h2
  simp [wid] at h2

/-- How far a text is UTF-8: the place, and whether it is its end. -/
def valid : Nat → List UInt8 → Nat → Nat × Bool
  | 0, _, p => (p, true)
  | f + 1, l, p => if l.length ≤ p then (p, true) else if (nx (l.drop p)).2.2 then valid f l (p + (dec (l.drop p)).2) else (p, false)
theorem valid_end (f : Nat) (l : List UInt8) (p : Nat) (h : l.length ≤ p) : valid f l p = (p, true) := by
  cases f <;> simp [valid, h]
theorem valid_bad (f : Nat) (l : List UInt8) (p : Nat) (h : p < l.length) (hf : 0 < f) (hn : (nx (l.drop p)).2.2 = false) : valid f l p = (p, false) := by
  cases f with
  | zero => omega
  | succ f => simp only [valid, hn]; rw [if_neg (by omega)]; rfl
theorem valid_good (f : Nat) (l : List UInt8) (p : Nat) (h : p < l.length) (hf : 0 < f) (hn : (nx (l.drop p)).2.2 = true) : valid f l p = valid (f - 1) l (p + (dec (l.drop p)).2) := by
  cases f with
  | zero => omega
  | succ f => simp only [valid, hn]; rw [if_neg (by omega)]; rfl
def validAll (l : List UInt8) : Nat × Bool := valid l.length l 0
end Go.Proofs.YtilndlifmpbfnaaDoor.M

/- Plain numbers and lists: the order of what is written, and that no encoding begins another one. Nothing of the program is imported. -/
namespace Go.Proofs.YtilndlifmpbfnaaDoor.M
open Go.Lib

theorem u8_lt (a b : Nat) (ha : a < 256) (hb : b < 256) : (a.toUInt8 < b.toUInt8) ↔ a < b := by
  rw [UInt8.lt_iff_toNat_lt, toU8 a ha, toU8 b hb]
theorem u8_eq (a b : Nat) (ha : a < 256) (hb : b < 256) : (a.toUInt8 = b.toUInt8) ↔ a = b := by
  rw [← UInt8.toNat_inj, toU8 a ha, toU8 b hb]

inductive Shape (r : Nat) : List UInt8 → Prop
  | one : r < 128 → Shape r [r.toUInt8]
  | two : 128 ≤ r → r < 2048 → Shape r [(192 + r / 64).toUInt8, (128 + r % 64).toUInt8]
  | three : 2048 ≤ r → r < 65536 → Shape r [(224 + r / 4096).toUInt8, (128 + r / 64 % 64).toUInt8, (128 + r % 64).toUInt8]
  | four : 65536 ≤ r → r ≤ 1114111 → Shape r [(240 + r / 262144).toUInt8, (128 + r / 4096 % 64).toUInt8, (128 + r / 64 % 64).toUInt8, (128 + r % 64).toUInt8]
theorem shape (r : Nat) (h : isCP r = true) : Shape r (enc r) := by
  rw [isCP_iff] at h
  by_cases h1 : r < 128
  · rw [enc_one r h1]; exact .one h1
  · by_cases h2 : r < 2048
    · rw [enc_two r (by omega) h2]; exact .two (by omega) h2
    · by_cases h3 : r < 65536
      · rw [enc_three r (by omega)]; exact .three (by omega) h3
      · rw [enc_four r (by omega) (by omega)]; exact .four (by omega) (by omega)

set_option maxHeartbeats 2000000 in
theorem shape_lt {a b : Nat} {x y : List UInt8} (ha : Shape a x) (hb : Shape b y) (h : a < b) : x < y := by
  cases ha <;> cases hb
  all_goals
    simp only [List.cons_lt_cons_iff, List.nil_lt_cons, List.not_lt_nil]
    repeat rw [u8_lt _ _ (by omega) (by omega)]
    repeat rw [u8_eq _ _ (by omega) (by omega)]
    try simp
    try omega
theorem enc_lt {a b : Nat} (ha : isCP a = true) (hb : isCP b = true) (h : a < b) : enc a < enc b := shape_lt (shape a ha) (shape b hb) h
theorem enc_lt_iff {a b : Nat} (ha : isCP a = true) (hb : isCP b = true) : enc a < enc b ↔ a < b := by
  constructor
  · intro h
    by_cases h1 : a < b
    · exact h1
    · by_cases h2 : a = b
      · subst h2; exact absurd h (List.lt_irrefl _)
      · exact absurd (List.lt_trans h (enc_lt hb ha (by omega))) (List.lt_irrefl _)
  · exact enc_lt ha hb
/-- Nothing that is written begins what is written of another one. -/
theorem enc_begins {a b : Nat} (ha : isCP a = true) (hb : isCP b = true) (t : List UInt8) (h : enc b = enc a ++ t) : a = b := by
  have h1 := dec_enc a ha t
  have h2 := dec_enc b hb []
  rw [List.append_nil, h, h1] at h2
  exact congrArg Prod.fst h2
/-- A true beginning of what is written is no encoding. -/
theorem enc_cut {r : Nat} (h : isCP r = true) (k : Nat) (h0 : 0 < k) (hk : k < wid r) : (nx ((enc r).take k)).2.2 = false := by
  have hs := shape r h
  have hd : dec ((enc r).take k) = (65533, 1) := by
    unfold wid at hk
    revert hs
    generalize enc r = l
    intro hs
    cases hs with
    | one h1 => rw [if_pos h1] at hk; omega
    | two h1 h2 =>
      rw [if_neg (by omega), if_pos h2] at hk
      obtain rfl : k = 1 := by omega
      simp only [List.take_succ_cons, List.take_zero, dec, byte, List.getD_cons_zero, List.length_cons, List.length_nil]
      rw [toU8 _ (by omega)]
      unfold decodeN
      rw [if_neg (by omega), if_neg (by omega), if_neg (by omega), if_neg (by omega)]
    | three h1 h2 =>
      rw [if_neg (by omega), if_neg (by omega), if_pos h2] at hk
      have : k = 1 ∨ k = 2 := by omega
      rcases this with rfl | rfl
      all_goals
        simp only [List.take_succ_cons, List.take_zero, dec, byte, List.getD_cons_zero, List.getD_cons_succ, List.length_cons, List.length_nil]
        rw [toU8 (224 + r / 4096) (by omega)]
        unfold decodeN
        rw [if_neg (by omega), if_neg (by omega), if_neg (by omega), if_neg (by omega)]
    | four h1 h2 =>
      rw [if_neg (by omega), if_neg (by omega), if_neg (by omega)] at hk
      have : k = 1 ∨ k = 2 ∨ k = 3 := by omega
      rcases this with rfl | rfl | rfl
      all_goals
        simp only [List.take_succ_cons, List.take_zero, dec, byte, List.getD_cons_zero, List.getD_cons_succ, List.length_cons, List.length_nil]
        rw [toU8 (240 + r / 262144) (by omega)]
        unfold decodeN
        rw [if_neg (by omega), if_neg (by omega), if_neg (by omega), if_neg (by omega)]
  unfold nx
  rw [if_pos hd]
end Go.Proofs.YtilndlifmpbfnaaDoor.M

/- Plain numbers and lists: how far texts are UTF-8, one behind the other. Nothing of the program is imported. -/
namespace Go.Proofs.YtilndlifmpbfnaaDoor.M
open Go.Lib

set_option maxHeartbeats 4000000 in
theorem decodeN_more (n m b0 b1 b2 b3 c1 c2 c3 : Nat) (hnm : n ≤ m) (h1 : 1 < n → c1 = b1) (h2 : 2 < n → c2 = b2) (h3 : 3 < n → c3 = b3) (hok : decodeN n b0 b1 b2 b3 ≠ (65533, 1)) :
    decodeN m b0 c1 c2 c3 = decodeN n b0 b1 b2 b3 := by
  by_cases a0 : b0 < 128
  · unfold decodeN; rw [if_pos a0, if_pos a0]
  · by_cases a1 : b0 / 32 = 6 ∧ (1 < n ∧ b1 / 64 = 2)
    · obtain rfl := h1 a1.2.1
      unfold decodeN
      rw [if_neg a0, if_neg a0, if_pos a1, if_pos (by omega)]
    · by_cases a2 : b0 / 16 = 14 ∧ (1 < n ∧ b1 / 64 = 2) ∧ (2 < n ∧ b2 / 64 = 2)
      · obtain rfl := h1 a2.2.1.1
        obtain rfl := h2 a2.2.2.1
        unfold decodeN
        rw [if_neg a0, if_neg a0, if_neg (by omega), if_neg a1, if_pos (by omega), if_pos a2]
      · by_cases a3 : b0 / 8 = 30 ∧ (1 < n ∧ b1 / 64 = 2) ∧ (2 < n ∧ b2 / 64 = 2) ∧ (3 < n ∧ b3 / 64 = 2)
        · obtain rfl := h1 a3.2.1.1
          obtain rfl := h2 a3.2.2.1.1
          obtain rfl := h3 a3.2.2.2.1
          unfold decodeN
          rw [if_neg a0, if_neg a0, if_neg (by omega), if_neg a1, if_neg (by omega), if_neg a2, if_pos (by omega), if_pos a3]
        · exfalso
          apply hok
          unfold decodeN
          rw [if_neg a0, if_neg a1, if_neg a2, if_neg a3]
theorem byte_append (s t : List UInt8) (i : Nat) (h : i < s.length) : byte (s ++ t) i = byte s i := by
  unfold byte
  simp [List.getD, List.getElem?_append_left h]
theorem nx_ok (s : List UInt8) : (nx s).2.2 = true ↔ dec s ≠ (65533, 1) := by
  unfold nx
  split
  · rename_i h; simp [h]
  · rename_i h; simp [h]
theorem dec_append (s t : List UInt8) (h0 : 0 < s.length) (h : (nx s).2.2 = true) : dec (s ++ t) = dec s := by
  rw [nx_ok] at h
  unfold dec at *
  rw [byte_append s t 0 h0]
  exact decodeN_more _ _ _ _ _ _ _ _ _ (by simp) (fun h => byte_append s t 1 h) (fun h => byte_append s t 2 h) (fun h => byte_append s t 3 h) h
theorem nx_append (s t : List UInt8) (h0 : 0 < s.length) (h : (nx s).2.2 = true) : (nx (s ++ t)).2.2 = true := by
  rw [nx_ok] at *
  rw [dec_append s t h0 (by rw [nx_ok]; exact h)]
  exact h
theorem valid_fuel (l : List UInt8) (f g p : Nat) (hf : l.length ≤ p + f) (hg : l.length ≤ p + g) : valid f l p = valid g l p := by
  induction f generalizing g p with
  | zero => rw [valid_end 0 l p (by omega), valid_end g l p (by omega)]
  | succ f ih =>
    by_cases hp : l.length ≤ p
    · rw [valid_end _ l p hp, valid_end g l p hp]
    · have hw := dec_width (l.drop p)
      cases hn : (nx (l.drop p)).2.2 with
      | false => rw [valid_bad _ l p (by omega) (by omega) hn, valid_bad g l p (by omega) (by omega) hn]
      | true =>
        rw [valid_good _ l p (by omega) (by omega) hn, valid_good g l p (by omega) (by omega) hn]
        exact ih _ _ (by omega) (by omega)
theorem valid_shift (a b : List UInt8) (f q : Nat) : valid f (a ++ b) (a.length + q) = (a.length + (valid f b q).1, (valid f b q).2) := by
  induction f generalizing q with
  | zero => simp [valid]
  | succ f ih =>
    by_cases hq : b.length ≤ q
    · rw [valid_end _ b q hq, valid_end _ (a ++ b) _ (by simp; omega)]
    · have hd : (a ++ b).drop (a.length + q) = b.drop q := by simp
      cases hn : (nx (b.drop q)).2.2 with
      | false => rw [valid_bad _ b q (by omega) (by omega) hn, valid_bad _ (a ++ b) _ (by simp; omega) (by omega) (by rw [hd]; exact hn)]
      | true =>
        rw [valid_good _ b q (by omega) (by omega) hn, valid_good _ (a ++ b) _ (by simp; omega) (by omega) (by rw [hd]; exact hn), hd, Nat.add_assoc]
        exact ih _
/-- From any place within the first text: if it is UTF-8 to its end the reading comes to its end; else it comes at least as far. -/
theorem valid_join (a b : List UInt8) (f p g : Nat) (hp : p ≤ a.length) (hf : a.length ≤ p + f) (hg : a.length + b.length ≤ p + g) :
    ((valid f a p).2 = true → valid g (a ++ b) p = (a.length + (validAll b).1, (validAll b).2)) ∧ ((valid f a p).2 = false → (valid f a p).1 ≤ (valid g (a ++ b) p).1) := by
  induction f generalizing p g with
  | zero =>
    obtain rfl : p = a.length := by omega
    rw [valid_end 0 a _ (Nat.le_refl _)]
    refine ⟨fun _ => ?_, fun h => by simp at h⟩
    have := valid_shift a b g 0
    rw [Nat.add_zero] at this
    rw [this, valid_fuel b g b.length 0 (by omega) (by omega)]
    rfl
  | succ f ih =>
    by_cases he : a.length ≤ p
    · obtain rfl : p = a.length := by omega
      rw [valid_end _ a _ (Nat.le_refl _)]
      refine ⟨fun _ => ?_, fun h => by simp at h⟩
      have := valid_shift a b g 0
      rw [Nat.add_zero] at this
      rw [this, valid_fuel b g b.length 0 (by omega) (by omega)]
      rfl
    · have hw := dec_width (a.drop p)
      have hle := dec_le (a.drop p) (by simp; omega)
      rw [List.length_drop] at hle
      have hd : (a ++ b).drop p = a.drop p ++ b := by rw [List.drop_append_of_le_length (by omega)]
      cases hn : (nx (a.drop p)).2.2 with
      | false =>
        rw [valid_bad _ a p (by omega) (by omega) hn]
        refine ⟨fun h => by simp at h, fun _ => ?_⟩
        have hge : ∀ g p, p ≤ (valid g (a ++ b) p).1 := by
          intro g
          induction g with
          | zero => intro p; simp [valid]
          | succ g ihg =>
            intro p
            unfold valid
            split
            · exact Nat.le_refl _
            · split
              · exact Nat.le_trans (Nat.le_add_right _ _) (ihg _)
              · exact Nat.le_refl _
        exact hge g p
      | true =>
        rw [valid_good _ a p (by omega) (by omega) hn, valid_good g (a ++ b) p (by simp; omega) (by omega) (by rw [hd]; exact nx_append _ _ (by simp; omega) hn), hd, dec_append _ _ (by simp; omega) hn]
        exact ih _ _ (by omega) (by omega) (by omega)
theorem valid_len (l : List UInt8) (f p : Nat) (hp : p ≤ l.length) (hf : l.length ≤ p + f) (h : (valid f l p).2 = true) : (valid f l p).1 = l.length := by
  induction f generalizing p with
  | zero => simp [valid]; omega
  | succ f ih =>
    by_cases he : l.length ≤ p
    · rw [valid_end _ l _ he]; simp only; omega
    · have hw := dec_width (l.drop p)
      have hle := dec_le (l.drop p) (by simp; omega)
      rw [List.length_drop] at hle
      cases hn : (nx (l.drop p)).2.2 with
      | false => rw [valid_bad _ l p (by omega) (by omega) hn] at h; simp at h
      | true =>
        rw [valid_good _ l p (by omega) (by omega) hn] at h ⊢
        exact ih _ (by omega) (by omega) h
theorem join_good (a b : List UInt8) (h : (validAll a).2 = true) : validAll (a ++ b) = (a.length + (validAll b).1, (validAll b).2) := by
  unfold validAll at *
  rw [(valid_join a b a.length 0 (a ++ b).length (by omega) (by omega) (by simp)).1 h]
  rfl
theorem join_bad (a b : List UInt8) (h : (validAll a).2 = false) : (validAll a).1 ≤ (validAll (a ++ b)).1 := by
  unfold validAll at *
  exact (valid_join a b a.length 0 (a ++ b).length (by omega) (by omega) (by simp)).2 h
theorem all_len (l : List UInt8) (h : (validAll l).2 = true) : (validAll l).1 = l.length := valid_len l l.length 0 (by omega) (by omega) h
theorem valid_le (l : List UInt8) (f p : Nat) (hp : p ≤ l.length) : (valid f l p).1 ≤ l.length := by
  induction f generalizing p with
  | zero => simpa [valid] using hp
  | succ f ih =>
    unfold valid
    split
    · exact hp
    · have hle := dec_le (l.drop p) (by simp; omega)
      rw [List.length_drop] at hle
      split
      · exact ih _ (by omega)
      · exact hp
theorem all_le (l : List UInt8) : (validAll l).1 ≤ l.length := valid_le l _ 0 (by omega)
end Go.Proofs.YtilndlifmpbfnaaDoor.M

/- Plain numbers and lists: UTF-8 as the reference reads it: a class of lead bytes, then one byte after the other. Nothing of the program is imported. -/
namespace Go.Proofs.YtilndlifmpbfnaaDoor.M
open Go.Lib

theorem byte_drop (l : List UInt8) (p j : Nat) : byte (l.drop p) j = byte l (p + j) := by
  unfold byte; simp [List.getD]
theorem dec_drop (l : List UInt8) (p : Nat) : dec (l.drop p) = decodeN (l.length - p) (byte l p) (byte l (p + 1)) (byte l (p + 2)) (byte l (p + 3)) := by
  unfold dec
  rw [byte_drop, byte_drop, byte_drop, byte_drop, List.length_drop, Nat.add_zero]
/-- Does a byte that goes on stand there? -/
def tl (l : List UInt8) (p : Nat) : Bool := decide (p < l.length) && decide (byte l p / 64 = 2)
theorem tl_iff (l : List UInt8) (p : Nat) : tl l p = true ↔ (p < l.length ∧ byte l p / 64 = 2) := by simp [tl]
def oks (l : List UInt8) (p : Nat) : Nat → Prop
  | 0 => True
  | k + 1 => oks l p k ∧ tl l (p + (k + 1)) = true
def acc (l : List UInt8) (p r0 : Nat) : Nat → Nat
  | 0 => r0
  | k + 1 => acc l p r0 k * 64 + byte l (p + (k + 1)) % 64
theorem acc_lt (l : List UInt8) (p r0 : Nat) (h : r0 < 32) (k : Nat) (hk : k ≤ 3) : acc l p r0 k < 8388608 := by
  have h1 : acc l p r0 0 < 32 := h
  have h2 : acc l p r0 1 < 2048 := by simp only [acc] at *; omega
  have h3 : acc l p r0 2 < 131072 := by simp only [acc] at *; omega
  have h4 : acc l p r0 3 < 8388608 := by simp only [acc] at *; omega
  have : k = 0 ∨ k = 1 ∨ k = 2 ∨ k = 3 := by omega
  rcases this with rfl | rfl | rfl | rfl <;> omega
def Cls (c n low r0 : Nat) : Prop := (192 ≤ c ∧ c < 224 ∧ n = 2 ∧ low = 128 ∧ r0 = c % 32) ∨ (224 ≤ c ∧ c < 240 ∧ n = 3 ∧ low = 2048 ∧ r0 = c % 16) ∨ (240 ≤ c ∧ c < 248 ∧ n = 4 ∧ low = 65536 ∧ r0 = c % 8)
theorem nx_one (l : List UInt8) (p : Nat) (h : byte l p < 128) : nx (l.drop p) = ((byte l p : Int), 1, true) := by
  unfold nx
  have : dec (l.drop p) = (byte l p, 1) := by rw [dec_drop]; unfold decodeN; rw [if_pos h]
  rw [this, if_neg]
  · rfl
  · simp; omega
theorem nx_none (l : List UInt8) (p : Nat) (h : 128 ≤ byte l p ∧ byte l p < 192 ∨ 248 ≤ byte l p) : nx (l.drop p) = (65533, 1, false) := by
  unfold nx
  have hb := byte_lt l p
  rw [if_pos]
  rw [dec_drop]
  unfold decodeN
  rw [if_neg (by omega), if_neg (by omega), if_neg (by omega), if_neg (by omega)]
theorem nx_stop (l : List UInt8) (p n low r0 k : Nat) (hc : Cls (byte l p) n low r0) (hk : k + 1 < n) (hok : oks l p k) (hno : tl l (p + (k + 1)) = false) : nx (l.drop p) = (65533, 1, false) := by
  have hno' : ¬ (p + (k + 1) < l.length ∧ byte l (p + (k + 1)) / 64 = 2) := by rw [← tl_iff]; simp [hno]
  unfold nx
  rw [if_pos]
  rw [dec_drop]
  unfold decodeN
  unfold Cls at hc
  rcases hc with ⟨h1, h2, rfl, rfl, rfl⟩ | ⟨h1, h2, rfl, rfl, rfl⟩ | ⟨h1, h2, rfl, rfl, rfl⟩
  · obtain rfl : k = 0 := by omega
    simp only [Nat.zero_add] at hno'
    rw [if_neg (by omega), if_neg (by omega), if_neg (by omega), if_neg (by omega)]
  · have : k = 0 ∨ k = 1 := by omega
    rcases this with rfl | rfl
    all_goals
      simp only [Nat.zero_add, Nat.reduceAdd] at hno'
      rw [if_neg (by omega), if_neg (by omega), if_neg (by omega), if_neg (by omega)]
  · have : k = 0 ∨ k = 1 ∨ k = 2 := by omega
    rcases this with rfl | rfl | rfl
    all_goals
      simp only [Nat.zero_add, Nat.reduceAdd] at hno'
      rw [if_neg (by omega), if_neg (by omega), if_neg (by omega), if_neg (by omega)]
theorem nx_of (l : List UInt8) (p a n : Nat) (P : Prop) [Decidable P] (h : dec (l.drop p) = if P then (a, n) else (65533, 1)) (hn : n ≠ 1) (low : Nat)
    (hP : P ↔ ¬ (a < low ∨ 1114111 < a ∨ (55296 ≤ a ∧ a < 57344))) :
    nx (l.drop p) = if a < low ∨ 1114111 < a ∨ (55296 ≤ a ∧ a < 57344) then (65533, 1, false) else ((a : Int), (n : Int), true) := by
  unfold nx
  rw [h]
  by_cases hp : P
  · rw [if_pos hp, if_neg (by simp [hn]), if_neg (hP.1 hp)]
  · rw [if_neg hp, if_pos rfl, if_pos (by
      by_cases hh : a < low ∨ 1114111 < a ∨ (55296 ≤ a ∧ a < 57344)
      · exact hh
      · exact absurd (hP.2 hh) hp)]
theorem nx_full (l : List UInt8) (p n low r0 k : Nat) (hc : Cls (byte l p) n low r0) (hk : k + 1 = n) (hok : oks l p k) :
    ∀ a, acc l p r0 k = a → nx (l.drop p) = if a < low ∨ 1114111 < a ∨ (55296 ≤ a ∧ a < 57344) then (65533, 1, false) else ((a : Int), (n : Int), true) := by
  intro a ha
  have hb0 := byte_lt l p
  have hb1 := byte_lt l (p + 1)
  have hb2 := byte_lt l (p + 2)
  have hb3 := byte_lt l (p + 3)
  have hdec := dec_drop l p
  unfold decodeN at hdec
  unfold Cls at hc
  rcases hc with ⟨h1, h2, rfl, rfl, rfl⟩ | ⟨h1, h2, rfl, rfl, rfl⟩ | ⟨h1, h2, rfl, rfl, rfl⟩
  · obtain rfl : k = 1 := by omega
    simp only [oks, acc, tl_iff, Nat.zero_add, true_and] at hok ha
    subst ha
    rw [if_neg (by omega), if_pos (by omega)] at hdec
    exact nx_of l p _ 2 _ hdec (by omega) 128 (by omega)
  · obtain rfl : k = 2 := by omega
    simp only [oks, acc, tl_iff, Nat.zero_add, true_and, Nat.reduceAdd] at hok ha
    have ha' : byte l p % 16 * 4096 + byte l (p + 1) % 64 * 64 + byte l (p + 2) % 64 = a := by omega
    rw [if_neg (by omega), if_neg (by omega), if_pos (by omega), ha'] at hdec
    exact nx_of l p a 3 _ hdec (by omega) 2048 (by omega)
  · obtain rfl : k = 3 := by omega
    simp only [oks, acc, tl_iff, Nat.zero_add, true_and, Nat.reduceAdd] at hok ha
    have ha' : byte l p % 8 * 262144 + byte l (p + 1) % 64 * 4096 + byte l (p + 2) % 64 * 64 + byte l (p + 3) % 64 = a := by omega
    rw [if_neg (by omega), if_neg (by omega), if_neg (by omega), if_pos (by omega), ha'] at hdec
    exact nx_of l p a 4 _ hdec (by omega) 65536 (by omega)
theorem nextAt_in (l : List UInt8) (p : Nat) (h : p < l.length) : nextAt l p = nx (l.drop p) := by
  unfold nextAt; rw [if_neg (by omega)]; simp
theorem nextAt_out (l : List UInt8) (p : Int) (h : p < 0 ∨ (l.length : Int) ≤ p) : nextAt l p = (0, 0, false) := by
  unfold nextAt; rw [if_pos h]
end Go.Proofs.YtilndlifmpbfnaaDoor.M

/- Plain numbers and lists: the code points of an input, each from where. Nothing of the program is imported. -/
namespace Go.Proofs.YtilndlifmpbfnaaDoor.M
open Go.Lib
set_option linter.unusedVariables false
set_option linter.unusedSimpArgs false

theorem dec_low (s : List UInt8) (h : (dec s).1 < 128) : (dec s).2 = 1 ∧ (dec s).1 = byte s 0 := by
  unfold dec decodeN at h ⊢
  have h0 := byte_lt s 0
  have h1 := byte_lt s 1
  have h2 := byte_lt s 2
  have h3 := byte_lt s 3
  repeat' split at h
  all_goals (simp only at h ⊢; try omega)
  all_goals first | (simp_all; done) | (repeat' split) <;> simp_all <;> omega
/-- What stands at a place, and how many bytes it takes. -/
def stepR (l : List UInt8) (i : Nat) : Int × Nat :=
  if (dec (l.drop i)).1 = 0 then (65533, (dec (l.drop i)).2) else if (dec (l.drop i)).1 = 12 then (10, (dec (l.drop i)).2)
  else if (dec (l.drop i)).1 = 13 then (10, if l.getD (i + 1) 0 = 10 then 2 else 1) else ((dec (l.drop i)).1, (dec (l.drop i)).2)
theorem step_le (l : List UInt8) (i : Nat) (h : i < l.length) : 1 ≤ (stepR l i).2 ∧ i + (stepR l i).2 ≤ l.length := by
  have hw := dec_width (l.drop i)
  have hl := dec_le (l.drop i) (by simp; omega)
  rw [List.length_drop] at hl
  unfold stepR
  repeat' split
  all_goals simp only
  all_goals try omega
  rename_i h3
  have : i + 1 < l.length := by
    by_cases hk : i + 1 < l.length
    · exact hk
    · exfalso
      simp [List.getD, List.getElem?_eq_none (Nat.le_of_not_lt hk)] at h3
  omega
def rn (l : List UInt8) (i : Nat) : List (Int × Int) := if h : i < l.length then ((stepR l i).1, (i : Int)) :: rn l (i + (stepR l i).2) else []
termination_by l.length - i
decreasing_by have := step_le l i h; omega
theorem rn_in (l : List UInt8) (i : Nat) (h : i < l.length) : rn l i = ((stepR l i).1, (i : Int)) :: rn l (i + (stepR l i).2) := by rw [rn, dif_pos h]
theorem rn_out (l : List UInt8) (i : Nat) (h : l.length ≤ i) : rn l i = [] := by rw [rn, dif_neg (by omega)]
theorem rn_len (l : List UInt8) (n i : Nat) (hn : l.length - i ≤ n) : (rn l i).length ≤ l.length - i := by
  induction n generalizing i with
  | zero => rw [rn_out l i (by omega)]; simp
  | succ n ih =>
    by_cases h : i < l.length
    · have hs := step_le l i h
      rw [rn_in l i h, List.length_cons]
      have := ih (i + (stepR l i).2) (by omega)
      omega
    · rw [rn_out l i (by omega)]; simp
theorem next_dec (l : List UInt8) (i : Nat) (h : i < l.length) : ∃ ok, nextAt l i = (((dec (l.drop i)).1 : Int), ((dec (l.drop i)).2 : Int), ok) := by
  rw [nextAt_in l i h]
  unfold nx
  by_cases hb : dec (l.drop i) = (65533, 1)
  · rw [if_pos hb, hb]; exact ⟨false, rfl⟩
  · rw [if_neg hb]; exact ⟨true, rfl⟩
/-- A list of code points as a text. -/
def encR (l : List (Int × Int)) : List UInt8 := l.flatMap fun r => enc r.1
theorem encR_snoc (l : List (Int × Int)) (k : Nat) (h : k < l.length) : encR (l.take (k + 1)) = encR (l.take k) ++ enc (l[k]).1 := by
  rw [List.take_succ_eq_append_getElem h]
  simp only [encR, List.flatMap_append, List.flatMap_cons, List.flatMap_nil, List.append_nil]
theorem encR_len (l : List (Int × Int)) : (encR l).length ≤ 4 * l.length := by
  induction l with
  | nil => simp [encR]
  | cons a l ih =>
    have := enc_le a.1
    simp only [encR, List.flatMap_cons, List.length_append, List.length_cons] at *
    omega
end Go.Proofs.YtilndlifmpbfnaaDoor.M

/- Plain numbers and lists: an input as a text is that input again. -/
namespace Go.Proofs.YtilndlifmpbfnaaDoor.M
open Go.Lib
set_option linter.unusedVariables false
set_option linter.unusedSimpArgs false

/-- A code point that an input may have. -/
def Okr (r : Int) : Prop := isCP r = true ∧ r ≠ 0 ∧ r ≠ 12 ∧ r ≠ 13
theorem dec_cp (s : List UInt8) : isCP ((dec s).1 : Int) = true := by
  rw [isCP_iff]
  have h0 := byte_lt s 0
  have h1 := byte_lt s 1
  have h2 := byte_lt s 2
  have h3 := byte_lt s 3
  unfold dec decodeN
  repeat' split
  all_goals (simp only; omega)
theorem step_ok (l : List UInt8) (i : Nat) : Okr (stepR l i).1 := by
  have hc := dec_cp (l.drop i)
  unfold stepR Okr
  repeat' split
  all_goals simp only
  · exact ⟨by decide, by decide, by decide, by decide⟩
  · exact ⟨by decide, by decide, by decide, by decide⟩
  · exact ⟨by decide, by decide, by decide, by decide⟩
  · exact ⟨by decide, by decide, by decide, by decide⟩
  · exact ⟨hc, by omega, by omega, by omega⟩
theorem rn_ok (l : List UInt8) (n i : Nat) (hn : l.length - i ≤ n) : ∀ r ∈ rn l i, Okr r.1 := by
  induction n generalizing i with
  | zero => rw [rn_out l i (by omega)]; simp
  | succ n ih =>
    by_cases h : i < l.length
    · have hs := step_le l i h
      rw [rn_in l i h]
      intro r hr
      rcases List.mem_cons.1 hr with rfl | hr
      · exact step_ok l i
      · exact ih _ (by omega) r hr
    · rw [rn_out l i (by omega)]; simp
/-- The places rise, from i on, below the end. -/
theorem rn_at (l : List UInt8) (n i : Nat) (hn : l.length - i ≤ n) : ∀ k (h : k < (rn l i).length), (i : Int) + k ≤ ((rn l i)[k]).2 ∧ ((rn l i)[k]).2 < l.length ∧ (∀ h2 : k + 1 < (rn l i).length, ((rn l i)[k]).2 < ((rn l i)[k + 1]).2) := by
  induction n generalizing i with
  | zero => intro k h; rw [rn_out l i (by omega)] at h; simp at h
  | succ n ih =>
    by_cases hi : i < l.length
    · have hs := step_le l i hi
      have e := rn_in l i hi
      have ih' := ih (i + (stepR l i).2) (by omega)
      rw [e]
      intro k h
      cases k with
      | zero =>
        refine ⟨by simp, by simp; omega, fun h2 => ?_⟩
        have := (ih' 0 (by simpa using h2)).1
        simp at this ⊢
        omega
      | succ k =>
        have := ih' k (by simpa using h)
        refine ⟨?_, ?_, fun h2 => ?_⟩
        · have := this.1; simp; omega
        · simpa using this.2.1
        · simpa using this.2.2 (by simpa using h2)
    · intro k h; rw [rn_out l i (by omega)] at h; simp at h
theorem enc_step (pre t : List UInt8) (z : Int) (h : Okr z) : stepR (pre ++ (enc z ++ t)) pre.length = (z, (enc z).length) := by
  obtain ⟨h1, h2, h3, h4⟩ := h
  have h5 := (isCP_iff z).1 h1
  obtain ⟨n, rfl⟩ : ∃ n : Nat, z = n := ⟨z.toNat, by omega⟩
  have hd := dec_enc n h1 t
  have hl := enc_len n h1
  unfold stepR
  have e : (pre ++ (enc (n : Int) ++ t)).drop pre.length = enc (n : Int) ++ t := by simp
  rw [e, hd]
  simp only
  rw [if_neg (by omega), if_neg (by omega), if_neg (by omega), hl]
/-- What is read of a text of code points. -/
theorem rn_enc (zs : List (Int × Int)) (h : ∀ r ∈ zs, Okr r.1) (pre : List UInt8) : (rn (pre ++ encR zs) pre.length).map Prod.fst = zs.map Prod.fst := by
  induction zs generalizing pre with
  | nil => rw [show encR [] = [] from rfl, List.append_nil, rn_out _ _ (Nat.le_refl _)]
  | cons a zs ih =>
    have e : encR (a :: zs) = enc a.1 ++ encR zs := by simp [encR]
    have hp := enc_pos a.1
    have hs := enc_step pre (encR zs) a.1 (h a (by simp))
    rw [e, rn_in _ _ (by rw [List.length_append, List.length_append]; omega), hs]
    simp only [List.map_cons, List.cons.injEq, true_and]
    have := ih (fun r hr => h r (by simp [hr])) (pre ++ enc a.1)
    rw [List.append_assoc, List.length_append] at this
    exact this
theorem enc_clean (z : Int) (h : Okr z) : ∀ c ∈ enc z, c ≠ 0 ∧ c ≠ 12 ∧ c ≠ 13 := by
  obtain ⟨h1, h2, h3, h4⟩ := h
  have h5 := (isCP_iff z).1 h1
  obtain ⟨n, rfl⟩ : ∃ n : Nat, z = n := ⟨z.toNat, by omega⟩
  intro c hc
  have hb : c.toNat ≠ 0 ∧ c.toNat ≠ 12 ∧ c.toNat ≠ 13 := by
    by_cases a1 : n < 128
    · rw [enc_one n a1] at hc
      simp only [List.mem_singleton] at hc
      subst hc
      rw [toU8 n (by omega)]; omega
    · by_cases a2 : n < 2048
      · rw [enc_two n (by omega) a2] at hc
        simp only [List.mem_cons, List.mem_nil_iff, or_false] at hc
        rcases hc with rfl | rfl <;> (rw [toU8 _ (by omega)]; omega)
      · by_cases a3 : n ≤ 65535
        · rw [enc_three n (by omega)] at hc
          simp only [List.mem_cons, List.mem_nil_iff, or_false] at hc
          rcases hc with rfl | rfl | rfl <;> (rw [toU8 _ (by omega)]; omega)
        · rw [enc_four n (by omega) (by omega)] at hc
          simp only [List.mem_cons, List.mem_nil_iff, or_false] at hc
          rcases hc with rfl | rfl | rfl | rfl <;> (rw [toU8 _ (by omega)]; omega)
  refine ⟨fun e => ?_, fun e => ?_, fun e => ?_⟩ <;> (subst e; simp at hb)
theorem encR_clean (zs : List (Int × Int)) (h : ∀ r ∈ zs, Okr r.1) : ∀ c ∈ encR zs, c ≠ 0 ∧ c ≠ 12 ∧ c ≠ 13 := by
  intro c hc
  simp only [encR, List.mem_flatMap] at hc
  obtain ⟨r, hr, hc⟩ := hc
  exact enc_clean r.1 (h r hr) c hc
theorem enc_valid (z : Int) (h : isCP z = true) : (validAll (enc z)).2 = true := by
  have h5 := (isCP_iff z).1 h
  obtain ⟨n, rfl⟩ : ∃ n : Nat, z = n := ⟨z.toNat, by omega⟩
  have hp := enc_pos (n : Int)
  have hn := nx_enc n h []
  have hd := dec_enc n h []
  rw [List.append_nil] at hn hd
  unfold validAll
  rw [valid_good _ _ _ (by omega) (by omega) (by simp [hn]), valid_end _ _ _ (by simp [hd, enc_len n h])]
theorem encR_valid (zs : List (Int × Int)) (h : ∀ r ∈ zs, Okr r.1) : validAll (encR zs) = ((encR zs).length, true) := by
  have h2 : (validAll (encR zs)).2 = true := by
    induction zs with
    | nil => rfl
    | cons a zs ih =>
      have e : encR (a :: zs) = enc a.1 ++ encR zs := by simp [encR]
      rw [e, join_good _ _ (enc_valid a.1 (h a (by simp)).1)]
      exact ih (fun r hr => h r (by simp [hr]))
  exact Prod.ext (all_len _ h2) h2
end Go.Proofs.YtilndlifmpbfnaaDoor.M

/- Plain numbers and lists: names of CSS, read and written, as code points. Nothing of the program is imported. -/
namespace Go.Proofs.YtilndlifmpbfnaaDoor.M
open Go.Lib
set_option linter.unusedVariables false
set_option linter.unusedSimpArgs false

/-- May a name begin with it? -/
def nSt (r : Int) : Bool := (decide (97 ≤ r) && decide (r ≤ 122)) || (decide (65 ≤ r) && decide (r ≤ 90)) || decide (r = 95) || decide (128 ≤ r)
def nDg (r : Int) : Bool := decide (48 ≤ r) && decide (r ≤ 57)
def nIn (r : Int) : Bool := nSt r || nDg r || decide (r = 45)
def isX (r : Int) : Bool := nDg r || (decide (97 ≤ r) && decide (r ≤ 102)) || (decide (65 ≤ r) && decide (r ≤ 70))
def xv (r : Int) : Int := if r ≤ 57 then r - 48 else if r ≤ 70 then r - 55 else r - 87
def isBl (r : Int) : Bool := decide (r = 32) || decide (r = 9) || decide (r = 10)
theorem nSt_iff (r : Int) : nSt r = true ↔ (97 ≤ r ∧ r ≤ 122) ∨ (65 ≤ r ∧ r ≤ 90) ∨ r = 95 ∨ 128 ≤ r := by simp [nSt]; omega
theorem nDg_iff (r : Int) : nDg r = true ↔ (48 ≤ r ∧ r ≤ 57) := by simp [nDg]
theorem nIn_iff (r : Int) : nIn r = true ↔ (97 ≤ r ∧ r ≤ 122) ∨ (65 ≤ r ∧ r ≤ 90) ∨ r = 95 ∨ 128 ≤ r ∨ (48 ≤ r ∧ r ≤ 57) ∨ r = 45 := by simp [nIn, nSt, nDg]; omega
theorem isX_iff (r : Int) : isX r = true ↔ (48 ≤ r ∧ r ≤ 57) ∨ (97 ≤ r ∧ r ≤ 102) ∨ (65 ≤ r ∧ r ≤ 70) := by simp [isX, nDg]; omega
theorem isBl_iff (r : Int) : isBl r = true ↔ r = 32 ∨ r = 9 ∨ r = 10 := by simp [isBl]; omega
theorem nSt_not (r : Int) : nSt r = false ↔ ¬ ((97 ≤ r ∧ r ≤ 122) ∨ (65 ≤ r ∧ r ≤ 90) ∨ r = 95 ∨ 128 ≤ r) := by rw [← nSt_iff]; simp
theorem nDg_not (r : Int) : nDg r = false ↔ ¬ (48 ≤ r ∧ r ≤ 57) := by rw [← nDg_iff]; simp
theorem nIn_not (r : Int) : nIn r = false ↔ ¬ ((97 ≤ r ∧ r ≤ 122) ∨ (65 ≤ r ∧ r ≤ 90) ∨ r = 95 ∨ 128 ≤ r ∨ (48 ≤ r ∧ r ≤ 57) ∨ r = 45) := by rw [← nIn_iff]; simp
theorem isX_not (r : Int) : isX r = false ↔ ¬ ((48 ≤ r ∧ r ≤ 57) ∨ (97 ≤ r ∧ r ≤ 102) ∨ (65 ≤ r ∧ r ≤ 70)) := by rw [← isX_iff]; simp
theorem isBl_not (r : Int) : isBl r = false ↔ ¬ (r = 32 ∨ r = 9 ∨ r = 10) := by rw [← isBl_iff]; simp
theorem xv_range (r : Int) (h : isX r = true) : 0 ≤ xv r ∧ xv r ≤ 15 := by
  rw [isX_iff] at h
  unfold xv
  repeat' split
  all_goals omega

/-- Does an escape begin here? -/
def esB : List Int → Bool
  | [] => false
  | r :: t => decide (r = 92) && decide (t.getD 0 (-1) ≠ 10)
/-- At most so many digits of base 16. -/
def hexRun : Nat → List Int → List Int
  | 0, _ => []
  | _, [] => []
  | n + 1, r :: t => if isX r then r :: hexRun n t else []
def hexVal (l : List Int) : Int := l.foldl (fun a r => 16 * a + xv r) 0
/-- A number that may be, or U+FFFD. -/
def okX (x : Int) : Int := if x = 0 ∨ (55296 ≤ x ∧ x ≤ 57343) ∨ 1114111 < x then 65533 else x
/-- What an escape stands for, and how long it is, behind its backslash. -/
def escV (t : List Int) : Int × Nat :=
  match t with
  | [] => (65533, 0)
  | r :: u => if isX r then (okX (hexVal (hexRun 6 (r :: u))), (hexRun 6 (r :: u)).length + if isBl ((r :: u).getD (hexRun 6 (r :: u)).length (-1)) then 1 else 0) else (r, 1)
theorem hexRun_len (n : Nat) (l : List Int) : (hexRun n l).length ≤ n ∧ (hexRun n l).length ≤ l.length := by
  induction n generalizing l with
  | zero => simp [hexRun]
  | succ n ih =>
    cases l with
    | nil => simp [hexRun]
    | cons r t =>
      unfold hexRun
      split
      · have := ih t; simp; omega
      · simp
theorem escV_le (t : List Int) : (escV t).2 ≤ t.length := by
  unfold escV
  split
  · simp
  · rename_i r u
    have := hexRun_len 6 (r :: u)
    split
    · simp only
      split
      · rename_i hb
        by_cases h : (hexRun 6 (r :: u)).length < (r :: u).length
        · omega
        · simp [List.getD, List.getElem?_eq_none (Nat.le_of_not_lt h)] at hb
          simp [isBl] at hb
      · omega
    · simp
/-- The name that begins here, and how long it is. -/
def takeN (c : List Int) : List Int × Nat :=
  match c with
  | [] => ([], 0)
  | r :: t =>
    if esB (r :: t) then ((escV t).1 :: (takeN (t.drop (escV t).2)).1, 1 + (escV t).2 + (takeN (t.drop (escV t).2)).2)
    else if nIn r then (r :: (takeN t).1, 1 + (takeN t).2) else ([], 0)
termination_by c.length
decreasing_by all_goals (simp; try omega)
theorem takeN_nil : takeN [] = ([], 0) := by rw [takeN]
theorem takeN_esc (r : Int) (t : List Int) (h : esB (r :: t) = true) : takeN (r :: t) = ((escV t).1 :: (takeN (t.drop (escV t).2)).1, 1 + (escV t).2 + (takeN (t.drop (escV t).2)).2) := by rw [takeN, if_pos h]
theorem takeN_in (r : Int) (t : List Int) (h : nIn r = true) : takeN (r :: t) = (r :: (takeN t).1, 1 + (takeN t).2) := by
  have : esB (r :: t) = false := by rw [nIn_iff] at h; simp [esB]; omega
  rw [takeN, if_neg (by simp [this]), if_pos h]
theorem takeN_out (r : Int) (t : List Int) (h : esB (r :: t) = false) (h2 : nIn r = false) : takeN (r :: t) = ([], 0) := by
  rw [takeN, if_neg (by simp [h]), if_neg (by simp [h2])]
theorem takeN_le (n : Nat) (c : List Int) (hn : c.length ≤ n) : (takeN c).2 ≤ c.length ∧ (takeN c).1.length ≤ (takeN c).2 := by
  induction n generalizing c with
  | zero => obtain rfl := List.length_eq_zero_iff.1 (Nat.le_zero.1 hn); simp [takeN_nil]
  | succ n ih =>
    cases c with
    | nil => simp [takeN_nil]
    | cons r t =>
      simp at hn
      by_cases he : esB (r :: t) = true
      · rw [takeN_esc r t he]
        have h1 := escV_le t
        have := ih (t.drop (escV t).2) (by simp; omega)
        simp at this ⊢; omega
      · by_cases hi : nIn r = true
        · rw [takeN_in r t hi]; have := ih t hn; simp; omega
        · rw [takeN_out r t (by simpa using he) (by simpa using hi)]; simp
/-- Does a name begin here? -/
def begN (c : List Int) : Bool :=
  match c with
  | [] => false
  | r :: t => if r = 45 then nSt (t.getD 0 (-1)) || decide (t.getD 0 (-1) = 45) || esB t else nSt r || esB (r :: t)

/-- A digit of base 16, small. -/
def dgx (n : Nat) : Int := if n < 10 then 48 + n else 87 + n
/-- A number below 256 in base 16. -/
def hexd (r : Int) : List Int := if r < 16 then [dgx r.toNat] else [dgx (r / 16).toNat, dgx (r % 16).toNat]
/-- A code point as a number. -/
def numN (r : Int) : List Int := 92 :: hexd r ++ [32]
/-- How a code point is written within a name. -/
def sp (r : Int) : List Int := if r < 32 ∨ r = 127 then numN r else if nIn r then [r] else [92, r]
/-- The rest of a name. -/
def spR (l : List Int) : List Int := l.flatMap sp
/-- A name. -/
def spF (l : List Int) : List Int :=
  match l with
  | [] => []
  | a :: t => if nDg a then numN a ++ spR t else if a = 45 then (match t with
    | [] => [92, 45]
    | b :: u => if nDg b then 45 :: numN b ++ spR u else 45 :: spR (b :: u)) else spR (a :: t)
/-- Does it join a number ahead? -/
def jn (r : Int) : Bool := isX r || isBl r || decide (r = 12) || decide (r = 13)
/-- A code point between marks; n: the one behind. -/
def qt (q r n : Int) : List Int := if r = q ∨ r = 92 then [92, r] else if r = 10 ∨ r = 12 ∨ r = 13 then 92 :: hexd r ++ (if jn n then [32] else []) else [r]
def qB (q : Int) : List Int → List Int
  | [] => []
  | r :: t => qt q r (t.getD 0 0) ++ qB q t
def qF (q : Int) (l : List Int) : List Int := q :: qB q l ++ [q]
def encZs (l : List Int) : List UInt8 := l.flatMap enc
/-- What is written between the shorter marks. -/
def qText (l : List Int) : List UInt8 := if (encZs (qF 39 l)).length < (encZs (qF 34 l)).length then encZs (qF 39 l) else encZs (qF 34 l)

/-- A code point of a text, byte 0 as U+FFFD. -/
def ptv (s : List UInt8) : Int := if (dec s).1 = 0 then 65533 else (dec s).1
/-- The code points of a text. -/
def pn (l : List UInt8) (i : Nat) : List Int := if h : i < l.length then ptv (l.drop i) :: pn l (i + (dec (l.drop i)).2) else []
termination_by l.length - i
decreasing_by have := dec_width (l.drop i); omega
theorem pn_in (l : List UInt8) (i : Nat) (h : i < l.length) : pn l i = ptv (l.drop i) :: pn l (i + (dec (l.drop i)).2) := by rw [pn, dif_pos h]
theorem pn_out (l : List UInt8) (i : Nat) (h : l.length ≤ i) : pn l i = [] := by rw [pn, dif_neg (by omega)]
theorem pn_len (l : List UInt8) (n i : Nat) (hn : l.length - i ≤ n) : (pn l i).length ≤ l.length - i := by
  induction n generalizing i with
  | zero => rw [pn_out l i (by omega)]; simp
  | succ n ih =>
    by_cases h : i < l.length
    · have hs := dec_width (l.drop i)
      have hl := dec_le (l.drop i) (by simp; omega)
      rw [List.length_drop] at hl
      rw [pn_in l i h, List.length_cons]
      have := ih (i + (dec (l.drop i)).2) (by omega)
      omega
    · rw [pn_out l i (by omega)]; simp
theorem pn_drop (l : List UInt8) (n i k : Nat) (hn : l.length - (k + i) ≤ n) : pn (l.drop k) i = pn l (k + i) := by
  induction n generalizing i with
  | zero => rw [pn_out l (k + i) (by omega), pn_out _ _ (by simp; omega)]
  | succ n ih =>
    by_cases h : k + i < l.length
    · have hs := dec_width (l.drop (k + i))
      rw [pn_in l _ h, pn_in (l.drop k) i (by simp; omega), List.drop_drop, ih _ (by omega), Nat.add_assoc]
    · rw [pn_out l (k + i) (by omega), pn_out _ _ (by simp; omega)]
def okP (r : Int) : Prop := isCP r = true ∧ 1 ≤ r
theorem ptv_ok (s : List UInt8) : okP (ptv s) := by
  have h := dec_cp s
  unfold ptv okP
  split
  · decide
  · refine ⟨h, ?_⟩; omega
theorem pn_ok (l : List UInt8) (n i : Nat) (hn : l.length - i ≤ n) : ∀ r ∈ pn l i, okP r := by
  induction n generalizing i with
  | zero => rw [pn_out l i (by omega)]; simp
  | succ n ih =>
    by_cases h : i < l.length
    · have hs := dec_width (l.drop i)
      rw [pn_in l i h]
      intro r hr
      rcases List.mem_cons.1 hr with rfl | hr
      · exact ptv_ok _
      · exact ih _ (by omega) r hr
    · rw [pn_out l i (by omega)]; simp
theorem encZs_append (a b : List Int) : encZs (a ++ b) = encZs a ++ encZs b := by simp [encZs]
theorem encZs_cons (a : Int) (b : List Int) : encZs (a :: b) = enc a ++ encZs b := by simp [encZs]
theorem encZs_nil : encZs [] = [] := rfl
end Go.Proofs.YtilndlifmpbfnaaDoor.M

/- Plain numbers and lists: a name is read as it was written. Nothing of the program is imported. -/
namespace Go.Proofs.YtilndlifmpbfnaaDoor.M
open Go.Lib
set_option linter.unusedVariables false
set_option linter.unusedSimpArgs false

theorem dgx_fin : ∀ n : Fin 16, isX (dgx n.val) = true ∧ xv (dgx n.val) = (n.val : Int) ∧ isCP (dgx n.val) = true ∧ 48 ≤ dgx n.val ∧ dgx n.val ≤ 102 ∧ (dgx n.val ≤ 57 ∨ 97 ≤ dgx n.val) := by decide +kernel
theorem dgx_ok (n : Nat) (h : n < 16) : isX (dgx n) = true ∧ xv (dgx n) = (n : Int) ∧ isCP (dgx n) = true ∧ 48 ≤ dgx n ∧ dgx n ≤ 102 ∧ (dgx n ≤ 57 ∨ 97 ≤ dgx n) := dgx_fin ⟨n, h⟩
theorem okX_self (x : Int) (h : isCP x = true) (h0 : x ≠ 0) : okX x = x := by
  rw [isCP_iff] at h
  unfold okX
  rw [if_neg]; omega
theorem hexRun_stop (n : Nat) (r : Int) (t : List Int) (h : isX r = false) : hexRun n (r :: t) = [] := by
  cases n with
  | zero => rfl
  | succ n => simp [hexRun, h]
theorem hexRun_go (n : Nat) (r : Int) (t : List Int) (h : isX r = true) : hexRun (n + 1) (r :: t) = r :: hexRun n t := by simp [hexRun, h]
theorem escV_num (r : Int) (h1 : 1 ≤ r) (h2 : r < 128) (t : List Int) : escV (hexd r ++ 32 :: t) = (r, (hexd r).length + 1) := by
  have hcp : isCP r = true := by rw [isCP_iff]; omega
  by_cases h : r < 16
  · obtain ⟨a, b, _⟩ := dgx_ok r.toNat (by omega)
    have e : hexd r = [dgx r.toNat] := by unfold hexd; rw [if_pos h]
    rw [e]
    simp only [List.singleton_append, escV, a, if_true, hexRun_go 5 _ _ a, hexRun_stop 5 32 t (by decide)]
    have : hexVal [dgx r.toNat] = r := by simp only [hexVal, List.foldl_cons, List.foldl_nil, b]; omega
    rw [this, okX_self r hcp (by omega)]
    simp [isBl]
  · obtain ⟨a, b, _⟩ := dgx_ok (r / 16).toNat (by omega)
    obtain ⟨a2, b2, _⟩ := dgx_ok (r % 16).toNat (by omega)
    have e : hexd r = [dgx (r / 16).toNat, dgx (r % 16).toNat] := by unfold hexd; rw [if_neg h]
    rw [e]
    simp only [List.cons_append, List.nil_append, escV, a, if_true, hexRun_go 5 _ _ a, hexRun_go 4 _ _ a2, hexRun_stop 4 32 t (by decide)]
    have : hexVal [dgx (r / 16).toNat, dgx (r % 16).toNat] = r := by simp only [hexVal, List.foldl_cons, List.foldl_nil, b, b2]; omega
    rw [this, okX_self r hcp (by omega)]
    simp [isBl]
theorem hexd_ok (r : Int) (h1 : 0 ≤ r) (h2 : r < 256) : (∀ c ∈ hexd r, isCP c = true ∧ 48 ≤ c ∧ c ≤ 102 ∧ (c ≤ 57 ∨ 97 ≤ c) ∧ isX c = true) ∧ 1 ≤ (hexd r).length ∧ (hexd r).length ≤ 2 := by
  by_cases h : r < 16
  · obtain ⟨a, b, c, d, e, f⟩ := dgx_ok r.toNat (by omega)
    have e' : hexd r = [dgx r.toNat] := by unfold hexd; rw [if_pos h]
    rw [e']; exact ⟨fun x hx => by obtain rfl := List.mem_singleton.1 hx; exact ⟨c, d, e, f, a⟩, by simp, by simp⟩
  · obtain ⟨a, b, c, d, e, f⟩ := dgx_ok (r / 16).toNat (by omega)
    obtain ⟨a2, b2, c2, d2, e2, f2⟩ := dgx_ok (r % 16).toNat (by omega)
    have e' : hexd r = [dgx (r / 16).toNat, dgx (r % 16).toNat] := by unfold hexd; rw [if_neg h]
    rw [e']
    refine ⟨fun x hx => ?_, by simp, by simp⟩
    simp only [List.mem_cons, List.mem_nil_iff, or_false] at hx
    rcases hx with rfl | rfl
    · exact ⟨c, d, e, f, a⟩
    · exact ⟨c2, d2, e2, f2, a2⟩
theorem hexd_head (r : Int) (h1 : 0 ≤ r) (h2 : r < 256) : ∃ a u, hexd r = a :: u ∧ isX a = true ∧ a ≠ 10 := by
  have ⟨h, hl, _⟩ := hexd_ok r h1 h2
  cases e : hexd r with
  | nil => rw [e] at hl; simp at hl
  | cons a u =>
    have := h a (by rw [e]; simp)
    exact ⟨a, u, rfl, this.2.2.2.2, by omega⟩
theorem takeN_num (r : Int) (h1 : 1 ≤ r) (h2 : r < 128) (t : List Int) : takeN (numN r ++ t) = (r :: (takeN t).1, (numN r).length + (takeN t).2) := by
  have e : numN r ++ t = 92 :: (hexd r ++ 32 :: t) := by simp [numN]
  obtain ⟨a, u, ea, hx, hn⟩ := hexd_head r (by omega) (by omega)
  have he : esB (92 :: (hexd r ++ 32 :: t)) = true := by rw [ea]; simp [esB, hn]
  rw [e, takeN_esc _ _ he, escV_num r h1 h2]
  have ed : (hexd r ++ 32 :: t).drop ((hexd r).length + 1) = t := by rw [show hexd r ++ 32 :: t = (hexd r ++ [32]) ++ t by simp]; exact List.drop_left' (by simp)
  simp only [ed, numN]
  simp; omega
theorem takeN_sp (r : Int) (h : okP r) (t : List Int) : takeN (sp r ++ t) = (r :: (takeN t).1, (sp r).length + (takeN t).2) := by
  obtain ⟨hc, h1⟩ := h
  unfold sp
  by_cases hn : r < 32 ∨ r = 127
  · rw [if_pos hn]; exact takeN_num r h1 (by omega) t
  · rw [if_neg hn]
    by_cases hi : nIn r = true
    · rw [if_pos hi]; exact takeN_in r t hi
    · rw [if_neg hi]
      have hi' : nIn r = false := by simpa using hi
      rw [nIn_not] at hi'
      have hx : isX r = false := by rw [isX_not]; omega
      have he : esB (92 :: r :: t) = true := by simp [esB]; omega
      show takeN (92 :: r :: t) = _
      rw [takeN_esc _ _ he]
      simp [escV, hx]
theorem takeN_spR (l : List Int) (h : ∀ r ∈ l, okP r) (t : List Int) : takeN (spR l ++ t) = (l ++ (takeN t).1, (spR l).length + (takeN t).2) := by
  induction l with
  | nil => simp [spR]
  | cons a l ih =>
    have e : spR (a :: l) ++ t = sp a ++ (spR l ++ t) := by simp [spR]
    rw [e, takeN_sp a (h a (by simp)), ih (fun r hr => h r (by simp [hr]))]
    simp [spR]; omega
theorem dg_num (a : Int) (h : nDg a = true) : 1 ≤ a ∧ a < 128 := by rw [nDg_iff] at h; omega
theorem takeN_spF (l : List Int) (h : ∀ r ∈ l, okP r) (t : List Int) : takeN (spF l ++ t) = (l ++ (takeN t).1, (spF l).length + (takeN t).2) := by
  unfold spF
  split
  · simp
  · rename_i a l
    split
    · rename_i hd
      have hd2 := dg_num a hd
      rw [List.append_assoc, takeN_num a hd2.1 hd2.2, takeN_spR l (fun r hr => h r (by simp [hr]))]
      simp; omega
    · split
      · rename_i h45
        subst h45
        split
        · have he : esB (92 :: 45 :: t) = true := by simp [esB]
          show takeN (92 :: 45 :: t) = _
          rw [takeN_esc _ _ he]
          simp [escV, isX, nDg]
        · rename_i b u
          split
          · rename_i hd
            have hd2 := dg_num b hd
            rw [List.cons_append, List.cons_append, takeN_in 45 _ (by decide), List.append_assoc, takeN_num b hd2.1 hd2.2, takeN_spR u (fun r hr => h r (by simp [hr]))]
            simp; omega
          · rw [List.cons_append, takeN_in 45 _ (by decide), takeN_spR (b :: u) (fun r hr => h r (by simp at hr ⊢; exact .inr hr))]
            simp; omega
      · exact takeN_spR (a :: l) h t
theorem esB_num (r : Int) (h1 : 0 ≤ r) (h2 : r < 256) (t : List Int) : esB (numN r ++ t) = true := by
  obtain ⟨a, u, ea, hx, hn⟩ := hexd_head r h1 h2
  simp [numN, ea, esB, hn]
theorem begN_num (r : Int) (h1 : 0 ≤ r) (h2 : r < 256) (t : List Int) : begN (numN r ++ t) = true := by
  have := esB_num r h1 h2 t
  have e : numN r ++ t = 92 :: (hexd r ++ [32] ++ t) := by simp [numN]
  rw [e] at this ⊢
  simp only [begN, this, Bool.or_true, ite_self]
  simp
theorem sp_head (b : Int) (h : okP b) (t : List Int) : ∃ c u, sp b ++ t = c :: u ∧ ((c = b ∧ nIn b = true) ∨ (c = 92 ∧ esB (c :: u) = true)) := by
  obtain ⟨hc, h1⟩ := h
  unfold sp
  by_cases hn : b < 32 ∨ b = 127
  · rw [if_pos hn]
    have := esB_num b (by omega) (by omega) t
    exact ⟨92, hexd b ++ [32] ++ t, by simp [numN], .inr ⟨rfl, by simpa [numN] using this⟩⟩
  · rw [if_neg hn]
    by_cases hi : nIn b = true
    · rw [if_pos hi]; exact ⟨b, t, rfl, .inl ⟨rfl, hi⟩⟩
    · rw [if_neg hi]; exact ⟨92, b :: t, rfl, .inr ⟨rfl, by simp [esB]; omega⟩⟩
theorem begN_spF (l : List Int) (h : ∀ r ∈ l, okP r) (h0 : l ≠ []) (t : List Int) : begN (spF l ++ t) = true := by
  unfold spF
  split
  · exact absurd rfl h0
  · rename_i a l
    split
    · rename_i hd
      have hd2 := dg_num a hd
      rw [List.append_assoc]; exact begN_num a (by omega) (by omega) _
    · rename_i hnd
      split
      · rename_i h45
        subst h45
        split
        · simp [begN, esB]
        · rename_i b u
          split
          · rename_i hd
            have hd2 := dg_num b hd
            have e : (45 :: numN b ++ spR u) ++ t = 45 :: (numN b ++ (spR u ++ t)) := by simp
            rw [e]
            have := esB_num b (by omega) (by omega) (spR u ++ t)
            simp [begN, this]
          · rename_i hnb
            obtain ⟨c, v, e, hcc⟩ := sp_head b (h b (by simp)) (spR u ++ t)
            have e2 : (45 :: spR (b :: u)) ++ t = 45 :: (c :: v) := by rw [← e]; simp [spR]
            rw [e2]
            rcases hcc with ⟨rfl, hi⟩ | ⟨rfl, he⟩
            · have hnd : nDg c = false := by simpa using hnb
              unfold nIn at hi
              rw [hnd] at hi
              simp at hi
              simp only [begN, if_true, List.getD_cons_zero]
              rcases hi with hi | hi
              · simp [hi]
              · simp [hi]
            · simp only [begN, if_true, he, Bool.or_true]
      · rename_i hn45
        obtain ⟨c, v, e, hcc⟩ := sp_head a (h a (by simp)) (spR l ++ t)
        have e2 : spR (a :: l) ++ t = c :: v := by rw [← e]; simp [spR]
        rw [e2]
        rcases hcc with ⟨rfl, hi⟩ | ⟨rfl, he⟩
        · have hnd2 : nDg c = false := by simpa using hnd
          unfold nIn at hi
          rw [hnd2] at hi
          simp [hn45] at hi
          simp [begN, hn45, hi]
        · simp [begN, he]

instance (r : Int) : Decidable (Okr r) := by unfold Okr; infer_instance
/-- What is written has no byte 0, 12, 13 of its own. -/
theorem numN_okr (r : Int) (h1 : 0 ≤ r) (h2 : r < 256) : ∀ c ∈ numN r, Okr c := by
  intro c hc
  unfold numN at hc
  simp only [List.cons_append, List.mem_cons, List.mem_append, List.mem_nil_iff, or_false] at hc
  rcases hc with rfl | hc | rfl
  · decide
  · have := (hexd_ok r h1 h2).1 c hc
    exact ⟨this.1, by omega, by omega, by omega⟩
  · decide
theorem sp_okr (r : Int) (h : okP r) : ∀ c ∈ sp r, Okr c := by
  obtain ⟨hc, h1⟩ := h
  intro c hm
  unfold sp at hm
  split at hm
  · rename_i hn; exact numN_okr r (by omega) (by omega) c hm
  · split at hm
    · obtain rfl := List.mem_singleton.1 hm; exact ⟨hc, by omega, by omega, by omega⟩
    · simp only [List.mem_cons, List.mem_nil_iff, or_false] at hm
      rcases hm with rfl | rfl
      · decide
      · exact ⟨hc, by omega, by omega, by omega⟩
theorem spR_okr (l : List Int) (h : ∀ r ∈ l, okP r) : ∀ c ∈ spR l, Okr c := by
  intro c hc
  obtain ⟨r, hr, hc⟩ := List.mem_flatMap.1 hc
  exact sp_okr r (h r hr) c hc
theorem spF_okr (l : List Int) (h : ∀ r ∈ l, okP r) : ∀ c ∈ spF l, Okr c := by
  intro c hc
  unfold spF at hc
  split at hc
  · simp at hc
  · rename_i a l
    split at hc
    · rename_i hd
      have hd2 := dg_num a hd
      rcases List.mem_append.1 hc with hc | hc
      · exact numN_okr a (by omega) (by omega) c hc
      · exact spR_okr l (fun r hr => h r (by simp [hr])) c hc
    · split at hc
      · split at hc
        · simp at hc; rcases hc with rfl | rfl <;> decide
        · rename_i b u
          split at hc
          · rename_i hd
            have hd2 := dg_num b hd
            simp only [List.cons_append, List.mem_cons, List.mem_append] at hc
            rcases hc with rfl | hc | hc
            · decide
            · exact numN_okr b (by omega) (by omega) c hc
            · exact spR_okr u (fun r hr => h r (by simp [hr])) c hc
          · rcases List.mem_cons.1 hc with rfl | hc
            · decide
            · exact spR_okr (b :: u) (fun r hr => h r (by simp at hr ⊢; exact .inr hr)) c hc
      · exact spR_okr (a :: l) h c hc
/-- The code points of what is written. -/
theorem rn_encZs (l : List Int) (h : ∀ r ∈ l, Okr r) : (rn (encZs l) 0).map Prod.fst = l := by
  have := rn_enc (l.map fun r => (r, (0 : Int))) (by intro r hr; obtain ⟨x, hx, rfl⟩ := List.mem_map.1 hr; exact h x hx) []
  simp only [List.nil_append, List.length_nil, List.map_map] at this
  have e : encR (l.map fun r => (r, (0 : Int))) = encZs l := by simp [encR, encZs, List.flatMap_map]
  rw [e] at this
  rw [this]
  show l.map (fun r => r) = l
  simp
/-- What may stand behind a name. -/
def endB (k : Nat) : List Int := if k = 0 then [] else if k = 1 then [40] else if k = 2 then [41] else if k = 3 then [123] else if k = 4 then [59] else if k = 5 then [58] else if k = 6 then [44] else if k = 7 then [34] else if k = 8 then [62] else [32]
theorem endB_fin : ∀ k : Fin 10, (∀ c ∈ endB k.val, Okr c) := by decide +kernel
theorem takeN_end (k : Nat) (h : k < 10) : takeN (endB k) = ([], 0) := by
  have : ∀ c ∈ endB k, nIn c = false ∧ c ≠ 92 := by
    have : ∀ k : Fin 10, ∀ c ∈ endB k.val, nIn c = false ∧ c ≠ 92 := by decide +kernel
    exact this ⟨k, h⟩
  cases e : endB k with
  | nil => exact takeN_nil
  | cons c t =>
    have := this c (by rw [e]; simp)
    exact takeN_out c t (by simp [esB, this.2]) this.1
end Go.Proofs.YtilndlifmpbfnaaDoor.M

/- Plain numbers and lists: a text is the encodings of its code points; how a name begins. Nothing of the program is imported. -/
namespace Go.Proofs.YtilndlifmpbfnaaDoor.M
open Go.Lib
set_option linter.unusedVariables false
set_option linter.unusedSimpArgs false

theorem u8_of (b : UInt8) (n : Nat) (h : b.toNat = n) : n.toUInt8 = b := by
  have := b.toNat_lt
  exact UInt8.toNat_inj.1 (by rw [toU8 n (by omega)]; exact h.symm)
theorem byte0 (b : UInt8) (t : List UInt8) : byte (b :: t) 0 = b.toNat := by simp [byte]
theorem byte_s (b : UInt8) (t : List UInt8) (i : Nat) : byte (b :: t) (i + 1) = byte t i := by simp [byte]
theorem two_of (s : List UInt8) (h : 1 < s.length) : ∃ a b t, s = a :: b :: t := by
  match s, h with
  | a :: b :: t, _ => exact ⟨a, b, t, rfl⟩
theorem three_of (s : List UInt8) (h : 2 < s.length) : ∃ a b c t, s = a :: b :: c :: t := by
  match s, h with
  | a :: b :: c :: t, _ => exact ⟨a, b, c, t, rfl⟩
theorem four_of (s : List UInt8) (h : 3 < s.length) : ∃ a b c d t, s = a :: b :: c :: d :: t := by
  match s, h with
  | a :: b :: c :: d :: t, _ => exact ⟨a, b, c, d, t, rfl⟩
theorem inv_one (s : List UInt8) (h0 : 0 < s.length) (h : byte s 0 < 128) : s = enc ((byte s 0 : Nat) : Int) ++ s.drop 1 := by
  cases s with
  | nil => simp at h0
  | cons a t =>
    rw [byte0] at *
    rw [enc_one _ h, u8_of a _ rfl]; rfl
theorem inv_two (s : List UInt8) (h : byte s 0 / 32 = 6 ∧ (1 < s.length ∧ byte s 1 / 64 = 2)) (r : Nat) (hr : byte s 0 % 32 * 64 + byte s 1 % 64 = r) (h3 : 128 ≤ r) : s = enc (r : Int) ++ s.drop 2 := by
  obtain ⟨a, b, t, rfl⟩ := two_of s h.2.1
  simp only [byte_s, byte0] at *
  have := a.toNat_lt
  have := b.toNat_lt
  rw [enc_two _ h3 (by omega), u8_of a _ (by omega), u8_of b _ (by omega)]; rfl
theorem inv_three (s : List UInt8) (h : byte s 0 / 16 = 14 ∧ (1 < s.length ∧ byte s 1 / 64 = 2) ∧ (2 < s.length ∧ byte s 2 / 64 = 2)) (r : Nat) (hr : byte s 0 % 16 * 4096 + byte s 1 % 64 * 64 + byte s 2 % 64 = r)
    (h3 : (2048 ≤ r ∧ r < 55296) ∨ (57343 < r ∧ r ≤ 65535)) : s = enc (r : Int) ++ s.drop 3 := by
  obtain ⟨a, b, c, t, rfl⟩ := three_of s h.2.2.1
  simp only [byte_s, byte0] at *
  have := a.toNat_lt
  have := b.toNat_lt
  have := c.toNat_lt
  rw [enc_three _ h3, u8_of a _ (by omega), u8_of b _ (by omega), u8_of c _ (by omega)]; rfl
theorem inv_four (s : List UInt8) (h : byte s 0 / 8 = 30 ∧ (1 < s.length ∧ byte s 1 / 64 = 2) ∧ (2 < s.length ∧ byte s 2 / 64 = 2) ∧ (3 < s.length ∧ byte s 3 / 64 = 2)) (r : Nat)
    (hr : byte s 0 % 8 * 262144 + byte s 1 % 64 * 4096 + byte s 2 % 64 * 64 + byte s 3 % 64 = r) (h3 : 65536 ≤ r) (h4 : r ≤ 1114111) : s = enc (r : Int) ++ s.drop 4 := by
  obtain ⟨a, b, c, d, t, rfl⟩ := four_of s h.2.2.2.1
  simp only [byte_s, byte0] at *
  have := a.toNat_lt
  have := b.toNat_lt
  have := c.toNat_lt
  have := d.toNat_lt
  rw [enc_four _ h3 h4, u8_of a _ (by omega), u8_of b _ (by omega), u8_of c _ (by omega), u8_of d _ (by omega)]; rfl
set_option maxRecDepth 100000 in
/-- What is read is what was written. -/
theorem dec_inv (s : List UInt8) (h0 : 0 < s.length) (h : dec s ≠ (65533, 1)) : s = enc ((dec s).1 : Int) ++ s.drop (dec s).2 := by
  have hb0 := byte_lt s 0
  have hb1 := byte_lt s 1
  have hb2 := byte_lt s 2
  have hb3 := byte_lt s 3
  unfold dec decodeN at h ⊢
  split
  · rename_i h1; exact inv_one s h0 h1
  · split
    · rename_i h1 h2
      rw [if_neg h1, if_pos h2] at h
      split
      · rename_i h3; exact inv_two s h2 _ rfl h3
      · rename_i h3; rw [if_neg h3] at h; exact absurd rfl h
    · split
      · rename_i h1 h2 h4
        rw [if_neg h1, if_neg h2, if_pos h4] at h
        split
        · rename_i h3; exact inv_three s h4 _ rfl (by omega)
        · rename_i h3; rw [if_neg h3] at h; exact absurd rfl h
      · split
        · rename_i h1 h2 h4 h5
          rw [if_neg h1, if_neg h2, if_neg h4, if_pos h5] at h
          split
          · rename_i h3; exact inv_four s h5 _ rfl (by omega) (by omega)
          · rename_i h3; rw [if_neg h3] at h; exact absurd rfl h
        · rename_i h1 h2 h4 h5
          rw [if_neg h1, if_neg h2, if_neg h4, if_neg h5] at h
          exact absurd rfl h
/-- No code point of it is U+FFFD, or byte 0. -/
def cleanL (l : List Int) : Bool := l.all fun r => decide (r ≠ 65533)
theorem clean_enc (s : List UInt8) (n i : Nat) (hn : s.length - i ≤ n) (h : cleanL (pn s i) = true) : encZs (pn s i) = s.drop i := by
  induction n generalizing i with
  | zero => rw [pn_out s i (by omega), List.drop_eq_nil_of_le (by omega)]; rfl
  | succ n ih =>
    by_cases hi : i < s.length
    · have hw := dec_width (s.drop i)
      rw [pn_in s i hi] at h ⊢
      simp only [cleanL, List.all_cons, Bool.and_eq_true, decide_eq_true_eq] at h
      obtain ⟨h1, h2⟩ := h
      have hp : ptv (s.drop i) = ((dec (s.drop i)).1 : Int) ∧ (dec (s.drop i)).1 ≠ 65533 := by
        unfold ptv at h1 ⊢
        split at h1
        · exact absurd rfl h1
        · rename_i hh; rw [if_neg hh]; exact ⟨rfl, by omega⟩
      have hd := dec_inv (s.drop i) (by simp; omega) (by intro hh; rw [hh] at hp; exact hp.2 rfl)
      rw [encZs_cons, ih _ (by omega) h2, hp.1, ← List.drop_drop]
      exact hd.symm
    · rw [pn_out s i (by omega), List.drop_eq_nil_of_le (by omega)]; rfl
theorem pn_enc (l : List Int) (h : ∀ r ∈ l, okP r) (pre : List UInt8) : pn (pre ++ encZs l) pre.length = l := by
  induction l generalizing pre with
  | nil => rw [encZs_nil, pn_out _ _ (by simp)]
  | cons a l ih =>
    have ha := h a (by simp)
    obtain ⟨n, rfl⟩ : ∃ n : Nat, a = (n : Int) := ⟨a.toNat, by have := ha.2; omega⟩
    have hp := enc_pos (n : Int)
    have hd : dec (enc (n : Int) ++ encZs l) = (n, wid n) := dec_enc n ha.1 _
    have hl : (enc (n : Int)).length = wid n := enc_len n ha.1
    rw [encZs_cons, pn_in _ _ (by simp; omega)]
    simp only [List.drop_left, ptv, hd]
    rw [if_neg (by have := ha.2; omega), ← List.append_assoc, ← hl, ← List.length_append, ih (fun r hr => h r (by simp [hr]))]
theorem pn_enc0 (l : List Int) (h : ∀ r ∈ l, okP r) : pn (encZs l) 0 = l := by
  have := pn_enc l h []
  simpa using this
theorem enc_ascii (r : Int) (h0 : 0 ≤ r) (h : r < 128) : enc r = [r.toNat.toUInt8] := by
  obtain ⟨n, rfl⟩ : ∃ n : Nat, r = (n : Int) := ⟨r.toNat, by omega⟩
  rw [enc_one n (by omega)]; rfl
theorem enc_byte (c : UInt8) (h : c.toNat < 128) : enc (c.toNat : Int) = [c] := by rw [enc_one _ h, u8_of c _ rfl]
/-- A first byte below 128 is a code point of its own. -/
theorem pn_ascii (c : UInt8) (t : List UInt8) (h : c.toNat < 128) (h0 : c.toNat ≠ 0) : pn (c :: t) 0 = (c.toNat : Int) :: pn t 0 := by
  have hd : dec (c :: t) = (c.toNat, 1) := by unfold dec decodeN; rw [byte0, if_pos h]
  rw [pn_in _ _ (by simp)]
  simp only [List.drop_zero, ptv, hd]
  rw [if_neg h0]
  have := pn_drop (c :: t) (c :: t).length 0 1 (by simp)
  simp only [List.drop_succ_cons, List.drop_zero, Nat.add_zero] at this
  rw [Nat.zero_add, this]
theorem pn_head (c : UInt8) (t : List UInt8) (a : Int) (u : List Int) (h : pn (c :: t) 0 = a :: u) (ha : a < 128) : a = (c.toNat : Int) ∧ u = pn t 0 := by
  rw [pn_in _ _ (by simp)] at h
  simp only [List.drop_zero, ptv] at h
  have hlow : (dec (c :: t)).1 < 128 := by
    split at h
    · simp at h; omega
    · simp at h; omega
  have := dec_low (c :: t) hlow
  rw [byte0] at this
  by_cases h0 : c.toNat = 0
  · rw [if_pos (by omega)] at h; simp at h; omega
  · have e := pn_ascii c t (by omega) h0
    rw [pn_in _ _ (by simp)] at e
    simp only [List.drop_zero, ptv] at e
    rw [e] at h
    simp at h
    exact ⟨h.1.symm, h.2.symm⟩
/-- How many bytes a name has that are written otherwise, being first. -/
def headN (s : List UInt8) : Nat :=
  match s with
  | [] => 0
  | c :: t => if nDg c.toNat then 1 else match t with
    | [] => 0
    | d :: _ => if c.toNat = 45 ∧ nDg d.toNat = true then 2 else 0
theorem spF_cons (a : Int) (t : List Int) : spF (a :: t) = if nDg a = true then numN a ++ spR t else if a = 45 then (match t with
    | [] => [92, 45]
    | b :: u => if nDg b then 45 :: numN b ++ spR u else 45 :: spR (b :: u)) else spR (a :: t) := rfl
theorem spF_zero (s : List UInt8) (h : headN s = 0) (h45 : s ≠ [45]) : spF (pn s 0) = spR (pn s 0) := by
  cases hp : pn s 0 with
  | nil => rfl
  | cons a u =>
    cases s with
    | nil => rw [pn_out [] 0 (by simp)] at hp; simp at hp
    | cons c t =>
      unfold headN at h
      simp only at h
      split at h
      · simp at h
      · rename_i hnd
        have hna : nDg a = false := by
          by_cases hd : nDg a = true
          · have := dg_num a hd
            have e := pn_head c t a u hp (by omega)
            rw [e.1] at hd; exact absurd hd hnd
          · simpa using hd
        rw [spF_cons, if_neg (by simp [hna])]
        by_cases ha : a = 45
        · subst ha
          have e := pn_head c t 45 u hp (by omega)
          rw [if_pos rfl]
          obtain ⟨e1, e2⟩ := e
          cases t with
          | nil => exfalso; apply h45; rw [show c = 45 from UInt8.toNat_inj.1 (by show c.toNat = 45; omega)]
          | cons d t =>
            simp only at h
            have hd2 : ¬ nDg d.toNat = true := by
              intro hd
              rw [if_pos ⟨by omega, hd⟩] at h
              simp at h
            cases u with
            | nil => rw [pn_in _ _ (by simp)] at e2; simp at e2
            | cons b u =>
              simp only
              rw [if_neg]
              · simp [spR, sp, nIn, nSt, nDg]
              · intro hb
                have := dg_num b hb
                have e3 := pn_head d t b u e2.symm (by omega)
                rw [e3.1] at hb; exact hd2 hb
        · rw [if_neg ha]
theorem spF_one (c : UInt8) (t : List UInt8) (h : nDg c.toNat = true) : spF (pn (c :: t) 0) = numN c.toNat ++ spR (pn t 0) := by
  have := dg_num _ h
  rw [pn_ascii c t (by omega) (by omega)]
  rw [spF_cons, if_pos h]
theorem spF_two (d : UInt8) (t : List UInt8) (h : nDg d.toNat = true) : spF (pn (45 :: d :: t) 0) = 45 :: numN d.toNat ++ spR (pn t 0) := by
  have := dg_num _ h
  rw [pn_ascii 45 _ (by decide) (by decide), pn_ascii d t (by omega) (by omega)]
  show spF (45 :: _) = _
  rw [spF_cons, if_neg (by decide), if_pos rfl]
  show (if nDg d.toNat = true then _ else _) = _
  rw [if_pos h]
theorem spF_dash : spF (pn [45] 0) = [92, 45] := by
  rw [pn_ascii 45 [] (by decide) (by decide), pn_out [] 0 (by simp)]
  decide
theorem encZs_len (l : List Int) : l.length ≤ (encZs l).length ∧ (encZs l).length ≤ 4 * l.length := by
  induction l with
  | nil => simp [encZs]
  | cons a l ih =>
    have := enc_le a
    have := enc_pos a
    rw [encZs_cons, List.length_append]
    simp; omega
theorem sp_len (r : Int) : (sp r).length ≤ 4 := by
  unfold sp numN hexd
  repeat' split
  all_goals simp
theorem spR_len (l : List Int) : (spR l).length ≤ 4 * l.length := by
  induction l with
  | nil => simp [spR]
  | cons a l ih =>
    have := sp_len a
    simp [spR] at ih ⊢; omega
end Go.Proofs.YtilndlifmpbfnaaDoor.M

/- Plain numbers and lists: a code point by its number; texts between marks. Nothing of the program is imported. -/
namespace Go.Proofs.YtilndlifmpbfnaaDoor.M
open Go.Lib
set_option linter.unusedVariables false
set_option linter.unusedSimpArgs false

/-- The digits of a number in base 16. -/
def hx16 (n : Nat) : List Nat := if h : n = 0 then [] else hx16 (n / 16) ++ [n % 16]
termination_by n
decreasing_by omega
theorem hx16_zero : hx16 0 = [] := by rw [hx16, dif_pos rfl]
theorem hx16_pos (n : Nat) (h : 0 < n) : hx16 n = hx16 (n / 16) ++ [n % 16] := by rw [hx16, dif_neg (by omega)]
theorem hx16_lt (m n : Nat) (hm : n ≤ m) : ∀ d ∈ hx16 n, d < 16 := by
  induction m generalizing n with
  | zero => obtain rfl : n = 0 := by omega
            rw [hx16_zero]; simp
  | succ m ih =>
    by_cases h : n = 0
    · subst h; rw [hx16_zero]; simp
    · rw [hx16_pos n (by omega)]
      intro d hd
      rcases List.mem_append.1 hd with hd | hd
      · exact ih (n / 16) (by omega) d hd
      · obtain rfl := List.mem_singleton.1 hd; omega
theorem hx16_len (k n : Nat) (h : n < 16 ^ k) : (hx16 n).length ≤ k := by
  induction k generalizing n with
  | zero => obtain rfl : n = 0 := by simp at h; omega
            rw [hx16_zero]; simp
  | succ k ih =>
    by_cases h0 : n = 0
    · subst h0; rw [hx16_zero]; simp
    · rw [hx16_pos n (by omega)]
      have := ih (n / 16) (by rw [Nat.pow_succ] at h; omega)
      simp; omega
theorem hx16_ne (n : Nat) (h : 0 < n) : hx16 n ≠ [] := by rw [hx16_pos n h]; simp
/-- A digit of base 16, great or small. -/
def dgG (g : Bool) (n : Nat) : Int := if n < 10 then 48 + n else if g then 55 + n else 87 + n
theorem dgG_fin : ∀ g : Bool, ∀ n : Fin 16, isX (dgG g n.val) = true ∧ xv (dgG g n.val) = (n.val : Int) ∧ Okr (dgG g n.val) ∧ 48 ≤ dgG g n.val ∧ dgG g n.val ≤ 102 := by decide +kernel
theorem dgG_ok (g : Bool) (n : Nat) (h : n < 16) : isX (dgG g n) = true ∧ xv (dgG g n) = (n : Int) ∧ Okr (dgG g n) ∧ 48 ≤ dgG g n ∧ dgG g n ≤ 102 := dgG_fin g ⟨n, h⟩
def escS (g : Bool) (r z : Nat) : List Int := List.replicate z 48 ++ (hx16 r).map (dgG g)
theorem hexVal_snoc (l : List Int) (c : Int) : hexVal (l ++ [c]) = 16 * hexVal l + xv c := by simp [hexVal, List.foldl_append]
theorem hexVal_zeros (z : Nat) (l : List Int) : hexVal (List.replicate z 48 ++ l) = hexVal l := by
  induction z with
  | zero => simp
  | succ z ih =>
    rw [List.replicate_succ, List.cons_append, ← ih]
    show List.foldl _ (16 * 0 + xv 48) _ = _
    rfl
theorem hexVal_hx (g : Bool) (m n : Nat) (hm : n ≤ m) : hexVal ((hx16 n).map (dgG g)) = (n : Int) := by
  induction m generalizing n with
  | zero => obtain rfl : n = 0 := by omega
            rw [hx16_zero]; rfl
  | succ m ih =>
    by_cases h : n = 0
    · subst h; rw [hx16_zero]; rfl
    · rw [hx16_pos n (by omega), List.map_append, List.map_cons, List.map_nil, hexVal_snoc, ih (n / 16) (by omega), (dgG_ok g (n % 16) (by omega)).2.1]
      omega
theorem escS_ok (g : Bool) (r z : Nat) : ∀ c ∈ escS g r z, isX c = true ∧ Okr c ∧ c ≠ 10 := by
  intro c hc
  rcases List.mem_append.1 hc with hc | hc
  · obtain ⟨_, rfl⟩ := List.mem_replicate.1 hc; exact ⟨by decide, by decide, by decide⟩
  · obtain ⟨d, hd, rfl⟩ := List.mem_map.1 hc
    have := dgG_ok g d (hx16_lt r r (Nat.le_refl _) d hd)
    exact ⟨this.1, this.2.2.1, by omega⟩
theorem hexRun_all (n : Nat) (L t : List Int) (hL : ∀ c ∈ L, isX c = true) (hn : L.length ≤ n) (ht : ∀ c u, t = c :: u → isX c = false) : hexRun n (L ++ t) = L := by
  induction L generalizing n with
  | nil =>
    cases t with
    | nil => cases n <;> rfl
    | cons c u => exact hexRun_stop n c u (ht c u rfl)
  | cons a L ih =>
    cases n with
    | zero => simp at hn
    | succ n => rw [List.cons_append, hexRun_go n a _ (hL a (by simp)), ih n (fun c hc => hL c (by simp [hc])) (by simpa using hn)]
/-- What may stand behind the number. -/
def eB (k : Nat) : List Int := if k = 0 then [32] else if k = 1 then [9] else if k = 2 then [10] else []
theorem eB_fin : ∀ k : Fin 4, (∀ c ∈ eB k.val, Okr c) ∧ (eB k.val).length ≤ 1 ∧ ∃ c u, eB k.val ++ [40] = c :: u ∧ isX c = false ∧ ((isBl c = true ∧ eB k.val = [c] ∧ u = [40]) ∨ (isBl c = false ∧ eB k.val = [])) := by
  intro k
  refine ⟨?_, ?_, ?_⟩
  · revert k; decide +kernel
  · revert k; decide +kernel
  · match k with
    | 0 => exact ⟨32, [40], rfl, by decide, .inl ⟨by decide, rfl, rfl⟩⟩
    | 1 => exact ⟨9, [40], rfl, by decide, .inl ⟨by decide, rfl, rfl⟩⟩
    | 2 => exact ⟨10, [40], rfl, by decide, .inl ⟨by decide, rfl, rfl⟩⟩
    | 3 => exact ⟨40, [], rfl, by decide, .inr ⟨by decide, rfl⟩⟩
def escT (g : Bool) (r z k : Nat) : List Int := 92 :: (escS g r z ++ (eB k ++ [40]))
theorem escT_take (g : Bool) (r z k : Nat) (h0 : 0 < r) (hcp : isCP r = true) (hz : (escS g r z).length ≤ 6) (hk : k < 4) :
    takeN (escT g r z k) = ([(r : Int)], (escT g r z k).length - 1) ∧ begN (escT g r z k) = true := by
  obtain ⟨_, _, c, u, e, hx, hb⟩ := eB_fin ⟨k, hk⟩
  simp only at e hx hb
  have hall := escS_ok g r z
  have hval : hexVal (escS g r z) = r := by unfold escS; rw [hexVal_zeros, hexVal_hx g r r (Nat.le_refl _)]
  have hne : escS g r z ≠ [] := by unfold escS; have := hx16_ne r h0; simp [this]
  have hrun := hexRun_all 6 (escS g r z) (eB k ++ [40]) (fun c hc => (hall c hc).1) hz (fun c' u' h' => by rw [e] at h'; simp at h'; rw [← h'.1]; exact hx)
  obtain ⟨a, v, ea⟩ : ∃ a v, escS g r z = a :: v := by
    cases hs : escS g r z with
    | nil => exact absurd hs hne
    | cons a v => exact ⟨a, v, rfl⟩
  have ha := hall a (by rw [ea]; simp)
  have hes : esB (escT g r z k) = true := by unfold escT; rw [ea]; simp [esB, ha.2.2]
  refine ⟨?_, ?_⟩
  · have hev : escV (escS g r z ++ (eB k ++ [40])) = ((r : Int), (escS g r z).length + (eB k).length) := by
      unfold escV
      rw [ea] at hrun hval ⊢
      simp only [List.cons_append] at hrun ⊢
      rw [if_pos ha.1, hrun, hval, okX_self r hcp (by omega)]
      have hg : (a :: (v ++ (eB k ++ [40]))).getD (a :: v).length (-1) = c := by
        rw [← List.cons_append, e]
        simp only [List.getD]
        rw [List.getElem?_append_right (by omega)]; simp
      rw [hg]
      rcases hb with ⟨hb, he, _⟩ | ⟨hb, he⟩
      · rw [if_pos hb, he]; rfl
      · rw [if_neg (by simp [hb]), he]; rfl
    unfold escT at hes ⊢
    rw [takeN_esc _ _ hes, hev]
    simp only
    have hdr : (escS g r z ++ (eB k ++ [40])).drop ((escS g r z).length + (eB k).length) = [40] := by
      rw [← List.append_assoc]; exact List.drop_left' (by simp)
    rw [hdr, takeN_out 40 [] (by decide) (by decide)]
    simp; omega
  · unfold escT at hes ⊢
    simp only [begN]
    rw [if_neg (by decide), hes]; simp
theorem escT_okr (g : Bool) (r z k : Nat) (hk : k < 4) : ∀ c ∈ escT g r z k, Okr c := by
  intro c hc
  unfold escT at hc
  simp only [List.mem_cons, List.mem_append, List.mem_nil_iff, or_false] at hc
  rcases hc with rfl | hc | hc | rfl
  · decide
  · exact (escS_ok g r z c hc).2.1
  · exact (eB_fin ⟨k, hk⟩).1 c hc
  · decide

/-! Texts between marks -/
/-- The scan of what is between the marks; b: is a backslash ahead? -/
def okQ (q : UInt8) : Bool → List UInt8 → Bool
  | b, [] => !b
  | b, c :: t => c ≠ 10 && c ≠ 12 && c ≠ 13 && (c ≠ q || b) && okQ q (c = 92 && !b) t
theorem enc_big (r : Int) (h : isCP r = true) (h2 : 128 ≤ r) : ∀ c ∈ enc r, 128 ≤ c.toNat := by
  rw [isCP_iff] at h
  obtain ⟨n, rfl⟩ : ∃ n : Nat, r = (n : Int) := ⟨r.toNat, by omega⟩
  by_cases h3 : n < 2048
  · rw [enc_two n (by omega) h3]
    intro c hc
    simp only [List.mem_cons, List.mem_nil_iff, or_false] at hc
    rcases hc with rfl | rfl <;> rw [toU8 _ (by omega)] <;> omega
  · by_cases h4 : n < 65536
    · rw [enc_three n (by omega)]
      intro c hc
      simp only [List.mem_cons, List.mem_nil_iff, or_false] at hc
      rcases hc with rfl | rfl | rfl <;> rw [toU8 _ (by omega)] <;> omega
    · rw [enc_four n (by omega) (by omega)]
      intro c hc
      simp only [List.mem_cons, List.mem_nil_iff, or_false] at hc
      rcases hc with rfl | rfl | rfl | rfl <;> rw [toU8 _ (by omega)] <;> omega
theorem u8_ne (c : UInt8) (n : Nat) (hn : n < 256) (h : c.toNat ≠ n) : c ≠ n.toUInt8 := by
  intro e; apply h; rw [e, toU8 n hn]
theorem okQ_big (q : UInt8) (hq : q.toNat < 128) (l t : List UInt8) (h : ∀ c ∈ l, 128 ≤ c.toNat) : okQ q false (l ++ t) = okQ q false t := by
  induction l with
  | nil => rfl
  | cons c l ih =>
    have hc := h c (by simp)
    have h1 : c ≠ 10 := by intro e; rw [e] at hc; revert hc; decide
    have h2 : c ≠ 12 := by intro e; rw [e] at hc; revert hc; decide
    have h3 : c ≠ 13 := by intro e; rw [e] at hc; revert hc; decide
    have h4 : c ≠ q := by intro e; rw [e] at hc; omega
    have h5 : c ≠ 92 := by intro e; rw [e] at hc; revert hc; decide
    rw [List.cons_append, okQ]
    simp [h1, h2, h3, h4, h5]
    exact ih (fun c hc => h c (by simp [hc]))
theorem okQ_one (q c : UInt8) (t : List UInt8) (h1 : c ≠ 10) (h2 : c ≠ 12) (h3 : c ≠ 13) (h4 : c ≠ q) (h5 : c ≠ 92) : okQ q false (c :: t) = okQ q false t := by
  rw [okQ]; simp [h1, h2, h3, h4, h5]
theorem okQ_back (q c : UInt8) (t : List UInt8) (hq : q ≠ 92) (h1 : c ≠ 10) (h2 : c ≠ 12) (h3 : c ≠ 13) : okQ q false (92 :: c :: t) = okQ q false t := by
  rw [okQ, okQ]; simp [h1, h2, h3, Ne.symm hq]
theorem u8_lit (c : UInt8) (k : UInt8) (h : c.toNat ≠ k.toNat) : c ≠ k := fun e => h (by rw [e])
theorem okQ_asc (q : UInt8) (r : Int) (h0 : 0 ≤ r) (h : r < 128) (t : List UInt8) (h1 : r ≠ 10) (h2 : r ≠ 12) (h3 : r ≠ 13) (h4 : r ≠ q.toNat) (h5 : r ≠ 92) : okQ q false (enc r ++ t) = okQ q false t := by
  have e := toU8 r.toNat (by omega)
  rw [enc_ascii r h0 h]
  refine okQ_one q _ t (u8_lit _ _ ?_) (u8_lit _ _ ?_) (u8_lit _ _ ?_) (u8_lit _ _ ?_) (u8_lit _ _ ?_) <;> rw [e]
  · show r.toNat ≠ 10; omega
  · show r.toNat ≠ 12; omega
  · show r.toNat ≠ 13; omega
  · omega
  · show r.toNat ≠ 92; omega
theorem okQ_esc (q : UInt8) (hq : q ≠ 92) (r : Int) (h0 : 0 ≤ r) (h : r < 128) (t : List UInt8) (h1 : r ≠ 10) (h2 : r ≠ 12) (h3 : r ≠ 13) : okQ q false (enc 92 ++ (enc r ++ t)) = okQ q false t := by
  have e := toU8 r.toNat (by omega)
  rw [enc_ascii r h0 h, show enc 92 = [92] from by rw [enc_ascii 92 (by decide) (by decide)]; rfl]
  refine okQ_back q _ t hq (u8_lit _ _ ?_) (u8_lit _ _ ?_) (u8_lit _ _ ?_) <;> rw [e]
  · show r.toNat ≠ 10; omega
  · show r.toNat ≠ 12; omega
  · show r.toNat ≠ 13; omega
theorem okQ_hex (q : UInt8) (hq : q = 34 ∨ q = 39) (L : List Int) (hL : ∀ c ∈ L, 48 ≤ c ∧ c ≤ 102 ∧ (c ≤ 57 ∨ 97 ≤ c)) (t : List UInt8) : okQ q false (encZs L ++ t) = okQ q false t := by
  induction L with
  | nil => rfl
  | cons a L ih =>
    have ha := hL a (by simp)
    have hqn : q.toNat = 34 ∨ q.toNat = 39 := by rcases hq with rfl | rfl; exact .inl rfl; exact .inr rfl
    rw [encZs_cons, List.append_assoc, okQ_asc q a (by omega) (by omega) _ (by omega) (by omega) (by omega) (by omega) (by omega)]
    exact ih (fun c hc => hL c (by simp [hc]))
theorem okQ_qt (q : UInt8) (hq : q = 34 ∨ q = 39) (r n : Int) (h : okP r) (t : List UInt8) : okQ q false (encZs (qt q.toNat r n) ++ t) = okQ q false t := by
  have hqn : q.toNat = 34 ∨ q.toNat = 39 := by rcases hq with rfl | rfl; exact .inl rfl; exact .inr rfl
  have hq92 : q ≠ 92 := by rcases hq with rfl | rfl <;> decide
  unfold qt
  split
  · rename_i hr
    rw [encZs_cons, encZs_cons, encZs_nil, List.append_nil, List.append_assoc]
    exact okQ_esc q hq92 r (by omega) (by omega) t (by omega) (by omega) (by omega)
  · split
    · rename_i hr
      obtain ⟨hd, _, _⟩ := hexd_ok r (by omega) (by omega)
      obtain ⟨a, u, ea, _, _⟩ := hexd_head r (by omega) (by omega)
      have ha := hd a (by rw [ea]; simp)
      have hu : ∀ c ∈ u, 48 ≤ c ∧ c ≤ 102 ∧ (c ≤ 57 ∨ 97 ≤ c) := fun c hc => by
        have := hd c (by rw [ea]; simp [hc]); exact ⟨this.2.1, this.2.2.1, this.2.2.2.1⟩
      rw [ea]
      simp only [List.cons_append]
      rw [encZs_cons, encZs_cons, List.append_assoc, List.append_assoc, okQ_esc q hq92 a (by omega) (by omega) _ (by omega) (by omega) (by omega), encZs_append, List.append_assoc, okQ_hex q hq u hu]
      split
      · rw [encZs_cons, encZs_nil, List.append_nil]
        exact okQ_asc q 32 (by decide) (by decide) t (by decide) (by decide) (by decide) (by omega) (by decide)
      · rfl
    · rename_i hn1 hn2
      rw [encZs_cons, encZs_nil, List.append_nil]
      by_cases hb : r < 128
      · exact okQ_asc q r (by have := h.2; omega) hb t (by omega) (by omega) (by omega) (by omega) (by omega)
      · exact okQ_big q (by omega) _ t (enc_big r h.1 (by omega))
theorem okQ_qB (q : UInt8) (hq : q = 34 ∨ q = 39) (l : List Int) (h : ∀ r ∈ l, okP r) : okQ q false (encZs (qB q.toNat l)) = true := by
  induction l with
  | nil => rfl
  | cons a l ih =>
    rw [qB, encZs_append, okQ_qt q hq a _ (h a (by simp))]
    exact ih (fun r hr => h r (by simp [hr]))
/-- How many bytes of it are this one. -/
def cntB (q : UInt8) (s : List UInt8) : Nat := (s.filter fun c => c = q).length
theorem cntB_append (q : UInt8) (a b : List UInt8) : cntB q (a ++ b) = cntB q a + cntB q b := by simp [cntB]
theorem cnt_enc (q : UInt8) (hq : q.toNat < 128) (r : Int) (h : isCP r = true) : cntB q (enc r) = if r = q.toNat then 1 else 0 := by
  have hh := (isCP_iff r).1 h
  by_cases hb : r < 128
  · rw [enc_ascii r (by omega) hb]
    by_cases he : r = q.toNat
    · rw [if_pos he]
      have : r.toNat.toUInt8 = q := u8_of q _ (by omega)
      simp [cntB, this]
    · rw [if_neg he]
      have : r.toNat.toUInt8 ≠ q := u8_lit _ _ (by rw [toU8 _ (by omega)]; omega)
      simp [cntB, this]
  · rw [if_neg (by omega)]
    have := enc_big r h (by omega)
    unfold cntB
    rw [List.length_eq_zero_iff, List.filter_eq_nil_iff]
    intro c hc
    have := this c hc
    simp; intro e; rw [e] at this; omega
theorem len_qt (r n : Int) (h : okP r) : (encZs (qt 34 r n)).length + cntB 39 (enc r) = (encZs (qt 39 r n)).length + cntB 34 (enc r) := by
  rw [cnt_enc 39 (by decide) r h.1, cnt_enc 34 (by decide) r h.1]
  show _ + (if r = 39 then 1 else 0) = _ + if r = 34 then 1 else 0
  have e92 : (enc 92).length = 1 := by rw [enc_ascii 92 (by decide) (by decide)]; rfl
  unfold qt
  by_cases h1 : r = 34
  · subst h1
    simp [encZs, e92]
    omega
  · by_cases h2 : r = 39
    · subst h2
      simp [encZs, e92]
      omega
    · by_cases h3 : r = 92
      · subst h3; simp
      · simp [h1, h2, h3]
theorem len_qB (l : List Int) (h : ∀ r ∈ l, okP r) : (encZs (qB 34 l)).length + cntB 39 (encZs l) = (encZs (qB 39 l)).length + cntB 34 (encZs l) := by
  induction l with
  | nil => rfl
  | cons a l ih =>
    have h1 := len_qt a (l.getD 0 0) (h a (by simp))
    have h2 := ih (fun r hr => h r (by simp [hr]))
    rw [qB, qB, encZs_append, encZs_append, encZs_cons, cntB_append, cntB_append, List.length_append, List.length_append]
    omega
theorem encq : enc 34 = [34] ∧ enc 39 = [39] := by
  constructor
  · rw [enc_ascii 34 (by decide) (by decide)]; rfl
  · rw [enc_ascii 39 (by decide) (by decide)]; rfl
theorem qF_bytes (q : UInt8) (hq : q = 34 ∨ q = 39) (l : List Int) : encZs (qF q.toNat l) = q :: (encZs (qB q.toNat l) ++ [q]) := by
  rcases hq with rfl | rfl
  · show encZs (34 :: qB 34 l ++ [34]) = _
    rw [List.cons_append, encZs_cons, encZs_append, encZs_cons, encZs_nil, encq.1]; rfl
  · show encZs (39 :: qB 39 l ++ [39]) = _
    rw [List.cons_append, encZs_cons, encZs_append, encZs_cons, encZs_nil, encq.2]; rfl
/-- What is written between marks. -/
theorem qText_form (l : List Int) (h : ∀ r ∈ l, okP r) : ∃ q B, (q = (34 : UInt8) ∨ q = 39) ∧ qText l = q :: (B ++ [q]) ∧ okQ q false B = true ∧ (q = 34 ↔ cntB 34 (encZs l) ≤ cntB 39 (encZs l)) := by
  have hl := len_qB l h
  have e1 := qF_bytes 34 (.inl rfl) l
  have e2 := qF_bytes 39 (.inr rfl) l
  change encZs (qF 34 l) = 34 :: (encZs (qB 34 l) ++ [34]) at e1
  change encZs (qF 39 l) = 39 :: (encZs (qB 39 l) ++ [39]) at e2
  unfold qText
  rw [e1, e2]
  simp only [List.length_cons, List.length_append, List.length_nil]
  split
  · exact ⟨39, encZs (qB 39 l), .inr rfl, rfl, okQ_qB 39 (.inr rfl) l h, by constructor; intro hh; exact absurd hh (by decide); intro hh; omega⟩
  · exact ⟨34, encZs (qB 34 l), .inl rfl, rfl, okQ_qB 34 (.inl rfl) l h, by constructor; intro _; omega; intro _; rfl⟩
end Go.Proofs.YtilndlifmpbfnaaDoor.M

/- Plain numbers and lists: the digits of an escape, one by one; names by their places. Nothing of the program is imported. -/
namespace Go.Proofs.YtilndlifmpbfnaaDoor.M
open Go.Lib
set_option linter.unusedVariables false
set_option linter.unusedSimpArgs false

theorem hexRun_get (n : Nat) (t : List Int) (j : Nat) (h : j < (hexRun n t).length) : t.getD j (-1) = (hexRun n t)[j] ∧ isX (t.getD j (-1)) = true := by
  induction n generalizing t j with
  | zero => simp [hexRun] at h
  | succ n ih =>
    cases t with
    | nil => simp [hexRun] at h
    | cons r t =>
      by_cases hx : isX r = true
      · have e := hexRun_go n r t hx
        simp only [e] at h ⊢
        cases j with
        | zero => simp [hx]
        | succ j => simpa using ih t j (by simpa using h)
      · rw [hexRun_stop (n + 1) r t (by simpa using hx)] at h; simp at h
theorem hexRun_end (n : Nat) (t : List Int) : (hexRun n t).length = n ∨ (hexRun n t).length = t.length ∨ ((hexRun n t).length < t.length ∧ isX (t.getD (hexRun n t).length (-1)) = false) := by
  induction n generalizing t with
  | zero => left; simp [hexRun]
  | succ n ih =>
    cases t with
    | nil => right; left; simp [hexRun]
    | cons r t =>
      by_cases hx : isX r = true
      · rw [hexRun_go n r t hx]
        rcases ih t with h | h | ⟨h, h2⟩
        · left; simp [h]
        · right; left; simp [h]
        · right; right; refine ⟨by simp; exact h, by simpa using h2⟩
      · rw [hexRun_stop (n + 1) r t (by simpa using hx)]
        right; right; exact ⟨by simp, by simpa using hx⟩
theorem hexVal_step (l : List Int) (j : Nat) (h : j < l.length) : hexVal (l.take (j + 1)) = 16 * hexVal (l.take j) + xv l[j] := by
  rw [List.take_succ_eq_append_getElem h, hexVal_snoc]
theorem hexVal_range (l : List Int) (h : ∀ c ∈ l, isX c = true) : 0 ≤ hexVal l ∧ hexVal l < 16 ^ l.length := by
  suffices ∀ (r : List Int), (∀ c ∈ r, isX c = true) → 0 ≤ hexVal r.reverse ∧ hexVal r.reverse < 16 ^ r.length by
    have := this l.reverse (by simpa using h)
    simpa using this
  intro r
  induction r with
  | nil => intro _; simp [hexVal]
  | cons a r ih =>
    intro h
    have h1 := ih (fun c hc => h c (by simp [hc]))
    have h2 := xv_range a (h a (by simp))
    rw [List.reverse_cons, hexVal_snoc, List.length_cons, Int.pow_succ]
    omega
theorem hexVal_small (n : Nat) (t : List Int) (j : Nat) (hn : n ≤ 6) : 0 ≤ hexVal ((hexRun n t).take j) ∧ hexVal ((hexRun n t).take j) < 16777216 := by
  have hl := (hexRun_len n t).1
  have h1 := hexVal_range ((hexRun n t).take j) (fun c hc => by
    obtain ⟨i, hi, rfl⟩ := List.getElem_of_mem (List.mem_of_mem_take hc)
    have := hexRun_get n t i hi
    rw [← this.1]; exact this.2)
  refine ⟨h1.1, Int.lt_of_lt_of_le h1.2 ?_⟩
  have hk : ((hexRun n t).take j).length ≤ 6 := by rw [List.length_take]; omega
  generalize ((hexRun n t).take j).length = k at hk
  have : ∀ k : Fin 7, (16 : Int) ^ k.val ≤ 16777216 := by decide +kernel
  exact this ⟨k, by omega⟩
/-- A name from a place on: what each way adds. -/
theorem takeN_at_esc (c : List Int) (i : Nat) (hi : i < c.length) (h : esB (c.drop i) = true) :
    takeN (c.drop i) = ((escV (c.drop (i + 1))).1 :: (takeN (c.drop (i + 1 + (escV (c.drop (i + 1))).2))).1, 1 + (escV (c.drop (i + 1))).2 + (takeN (c.drop (i + 1 + (escV (c.drop (i + 1))).2))).2) := by
  rw [List.drop_eq_getElem_cons hi] at h ⊢
  rw [takeN_esc _ _ h, List.drop_drop]
theorem takeN_at_in (c : List Int) (i : Nat) (hi : i < c.length) (h : nIn (c.getD i (-1)) = true) : takeN (c.drop i) = (c.getD i (-1) :: (takeN (c.drop (i + 1))).1, 1 + (takeN (c.drop (i + 1))).2) := by
  have e : c.getD i (-1) = c[i] := by simp [List.getD, hi]
  rw [e] at h ⊢
  rw [List.drop_eq_getElem_cons hi, takeN_in _ _ h]
theorem takeN_at_out (c : List Int) (i : Nat) (hi : i < c.length) (h : esB (c.drop i) = false) (h2 : nIn (c.getD i (-1)) = false) : takeN (c.drop i) = ([], 0) := by
  have e : c.getD i (-1) = c[i] := by simp [List.getD, hi]
  rw [e] at h2
  rw [List.drop_eq_getElem_cons hi] at h ⊢
  exact takeN_out _ _ h h2
theorem takeN_at_end (c : List Int) (i : Nat) (hi : c.length ≤ i) : takeN (c.drop i) = ([], 0) := by rw [List.drop_eq_nil_of_le hi]; exact takeN_nil
theorem escV_le_at (c : List Int) (i : Nat) (hi : i < c.length) : i + 1 + (escV (c.drop (i + 1))).2 ≤ c.length := by
  have := escV_le (c.drop (i + 1))
  rw [List.length_drop] at this; omega
end Go.Proofs.YtilndlifmpbfnaaDoor.M

/- Plain numbers and lists: names and texts between marks, written one code point after the other, as the reference does. Nothing of the program is imported. -/
namespace Go.Proofs.YtilndlifmpbfnaaDoor.M
open Go.Lib
set_option linter.unusedVariables false
set_option linter.unusedSimpArgs false

theorem dgG_dgx (n : Nat) : dgG false n = dgx n := by unfold dgG dgx; split <;> simp
theorem hexd_hx (r : Nat) (h1 : 1 ≤ r) (h2 : r < 256) : hexd r = (hx16 r).map (dgG false) := by
  by_cases h : r < 16
  · have e : hx16 r = [r] := by rw [hx16_pos r h1, show r / 16 = 0 by omega, hx16_zero, show r % 16 = r by omega]; rfl
    rw [e]; unfold hexd; rw [if_pos (by omega)]; simp [dgG_dgx]
  · have e : hx16 r = [r / 16, r % 16] := by
      rw [hx16_pos r h1, hx16_pos (r / 16) (by omega), show r / 16 / 16 = 0 by omega, hx16_zero, show r / 16 % 16 = r / 16 by omega]; rfl
    rw [e]; unfold hexd; rw [if_neg (by omega)]
    simp only [List.map_cons, List.map_nil, dgG_dgx]
    rw [show ((r : Int) / 16).toNat = r / 16 by omega, show ((r : Int) % 16).toNat = r % 16 by omega]
/-- What one code point of a name adds. -/
def ctr (f : Bool) (ps : List Int) (i : Nat) : List Int :=
  if ps.getD i 0 < 32 ∨ ps.getD i 0 = 127 ∨ (f = true ∧ nDg (ps.getD i 0) = true ∧ (i = 0 ∨ (i = 1 ∧ ps.getD 0 0 = 45))) then numN (ps.getD i 0)
  else if f = true ∧ ps.getD i 0 = 45 ∧ ps.length = 1 then [92, 45] else if nIn (ps.getD i 0) = true then [ps.getD i 0] else [92, ps.getD i 0]
def accN (f : Bool) (ps : List Int) (n : Nat) : List Int := (List.range n).flatMap (ctr f ps)
theorem accN_zero (f : Bool) (ps : List Int) : accN f ps 0 = [] := rfl
theorem accN_succ (f : Bool) (ps : List Int) (n : Nat) : accN f ps (n + 1) = accN f ps n ++ ctr f ps n := by
  unfold accN; rw [List.range_succ, List.flatMap_append]; simp
theorem numN_len (r : Int) : (numN r).length ≤ 4 := by unfold numN hexd; split <;> simp
theorem ctr_len (f : Bool) (ps : List Int) (i : Nat) : (ctr f ps i).length ≤ 4 := by
  unfold ctr
  repeat' split
  all_goals first | exact numN_len _ | simp
theorem accN_len (f : Bool) (ps : List Int) (n : Nat) : (accN f ps n).length ≤ 4 * n := by
  induction n with
  | zero => simp [accN_zero]
  | succ n ih => have := ctr_len f ps n; rw [accN_succ, List.length_append]; omega
theorem ctr_sp (f : Bool) (ps : List Int) (i : Nat) (h : ¬ (f = true ∧ nDg (ps.getD i 0) = true ∧ (i = 0 ∨ (i = 1 ∧ ps.getD 0 0 = 45)))) (h2 : ¬ (f = true ∧ ps.getD i 0 = 45 ∧ ps.length = 1)) : ctr f ps i = sp (ps.getD i 0) := by
  unfold ctr sp
  by_cases h3 : ps.getD i 0 < 32 ∨ ps.getD i 0 = 127
  · rw [if_pos h3, if_pos (by rcases h3 with h3 | h3; exact .inl h3; exact .inr (.inl h3))]
  · rw [if_neg h3, if_neg (by intro hh; rcases hh with hh | hh | hh; exact h3 (.inl hh); exact h3 (.inr hh); exact h hh), if_neg h2]
theorem accN_false (ps : List Int) : accN false ps ps.length = spR ps := by
  suffices ∀ k, k ≤ ps.length → accN false ps k = spR (ps.take k) by
    have := this ps.length (Nat.le_refl _)
    rwa [List.take_length] at this
  intro k
  induction k with
  | zero => intro _; rfl
  | succ k ih =>
    intro hk
    have hlt : k < ps.length := by omega
    have hg : ps.getD k 0 = ps[k] := by simp [List.getD, hlt]
    rw [accN_succ, ih (by omega), List.take_succ_eq_append_getElem hlt, ctr_sp false ps k (by simp) (by simp), hg]
    unfold spR
    rw [List.flatMap_append]
    simp
theorem accN_more (ps : List Int) (j : Nat) : ∀ k, j + k ≤ ps.length → 2 ≤ j → accN true ps (j + k) = accN true ps j ++ spR ((ps.drop j).take k) := by
  intro k
  induction k with
  | zero => intro _ _; simp [spR]
  | succ k ih =>
    intro hk hj
    have hlt : k < (ps.drop j).length := by rw [List.length_drop]; omega
    have hg : ps.getD (j + k) 0 = (ps.drop j)[k] := by simp [List.getD, show j + k < ps.length by omega]
    rw [← Nat.add_assoc, accN_succ, ih (by omega) hj, List.take_succ_eq_append_getElem hlt, ctr_sp true ps (j + k) (by intro hh; obtain ⟨_, _, hh⟩ := hh; omega) (by intro hh; obtain ⟨_, _, hh⟩ := hh; omega), hg]
    simp [spR]
theorem accN_true (ps : List Int) (hok : ∀ r ∈ ps, okP r) : accN true ps ps.length = spF ps := by
  match ps, hok with
  | [], _ => rfl
  | [a], hok =>
    have ha := (hok a (by simp)).2
    show accN true [a] (0 + 1) = _
    rw [accN_succ, accN_zero, List.nil_append, spF_cons]
    unfold ctr
    simp only [List.getD_cons_zero, List.length_cons, List.length_nil]
    by_cases hd : nDg a = true
    · rw [if_pos (.inr (.inr ⟨trivial, hd, .inl trivial⟩)), if_pos hd]; simp [spR]
    · rw [if_neg hd]
      by_cases h45 : a = 45
      · subst h45; decide
      · rw [if_neg h45]
        have : spR [a] = sp a := by simp [spR]
        rw [this]
        unfold sp
        by_cases h3 : a < 32 ∨ a = 127
        · rw [if_pos h3, if_pos (by rcases h3 with h3 | h3; exact .inl h3; exact .inr (.inl h3))]
        · rw [if_neg h3, if_neg (by intro hh; rcases hh with hh | hh | hh; exact h3 (.inl hh); exact h3 (.inr hh); exact hd hh.2.1), if_neg (by intro hh; exact h45 hh.2.1)]
  | a :: b :: t, hok =>
    have e : (a :: b :: t).length = 2 + t.length := by simp; omega
    have h := accN_more (a :: b :: t) 2 t.length (by rw [e]; exact Nat.le_refl _) (Nat.le_refl _)
    rw [e, h]
    have h2 : accN true (a :: b :: t) 2 = ctr true (a :: b :: t) 0 ++ ctr true (a :: b :: t) 1 := by
      show accN true _ (1 + 1) = _
      rw [accN_succ]
      show accN true _ (0 + 1) ++ _ = _
      rw [accN_succ, accN_zero, List.nil_append]
    have h3 : ((a :: b :: t).drop 2).take t.length = t := by simp
    rw [h2, h3, spF_cons]
    have c0 : ctr true (a :: b :: t) 0 = if nDg a = true then numN a else sp a := by
      by_cases hd : nDg a = true
      · rw [if_pos hd]
        unfold ctr
        rw [if_pos (.inr (.inr ⟨rfl, hd, .inl rfl⟩))]; rfl
      · rw [if_neg hd, ctr_sp true _ 0 (by intro hh; exact hd hh.2.1) (by intro hh; have := hh.2.2; simp at this)]; rfl
    have c1 : ctr true (a :: b :: t) 1 = if nDg b = true ∧ a = 45 then numN b else sp b := by
      by_cases hd : nDg b = true ∧ a = 45
      · rw [if_pos hd]
        unfold ctr
        rw [if_pos (.inr (.inr ⟨rfl, hd.1, .inr ⟨rfl, hd.2⟩⟩))]; rfl
      · rw [if_neg hd, ctr_sp true _ 1 (by intro hh; obtain ⟨_, h1, h2⟩ := hh; rcases h2 with h2 | h2; exact absurd h2 (by decide); exact hd ⟨h1, h2.2⟩) (by intro hh; have := hh.2.2; simp at this)]; rfl
    rw [c0, c1]
    by_cases hd : nDg a = true
    · have : a ≠ 45 := by intro h; subst h; exact absurd hd (by decide)
      rw [if_pos hd, if_pos hd, if_neg (by intro hh; exact this hh.2)]
      simp [spR]
    · rw [if_neg hd, if_neg hd]
      by_cases h45 : a = 45
      · subst h45
        rw [if_pos rfl]
        simp only
        by_cases hb : nDg b = true
        · rw [if_pos ⟨hb, by first | trivial | rfl⟩, if_pos hb]
          simp [sp, nIn, nSt, nDg]
        · rw [if_neg (by intro hh; exact hb hh.1), if_neg hb]
          simp [spR, sp, nIn, nSt, nDg]
      · rw [if_neg h45, if_neg (by intro hh; exact h45 hh.2)]
        simp [spR]
/-- Between marks. -/
def qacc (q : Int) (ps : List Int) (n : Nat) : List Int := (List.range n).flatMap fun i => qt q (ps.getD i 0) (ps.getD (i + 1) 0)
theorem qacc_zero (q : Int) (ps : List Int) : qacc q ps 0 = [] := rfl
theorem qacc_succ (q : Int) (ps : List Int) (n : Nat) : qacc q ps (n + 1) = qacc q ps n ++ qt q (ps.getD n 0) (ps.getD (n + 1) 0) := by
  unfold qacc; rw [List.range_succ, List.flatMap_append]; simp
theorem qt_len4 (q r n : Int) : (qt q r n).length ≤ 4 := by
  unfold qt hexd
  repeat' split
  all_goals simp
theorem qacc_len (q : Int) (ps : List Int) (n : Nat) : (qacc q ps n).length ≤ 4 * n := by
  induction n with
  | zero => simp [qacc_zero]
  | succ n ih => have := qt_len4 q (ps.getD n 0) (ps.getD (n + 1) 0); rw [qacc_succ, List.length_append]; omega
theorem qacc_full (q : Int) (ps : List Int) : qacc q ps ps.length = qB q ps := by
  suffices ∀ k, k ≤ ps.length → qacc q ps k ++ qB q (ps.drop k) = qB q ps by
    have := this ps.length (Nat.le_refl _)
    rwa [List.drop_length, qB, List.append_nil] at this
  intro k
  induction k with
  | zero => intro _; simp [qacc_zero]
  | succ k ih =>
    intro hk
    have hlt : k < ps.length := by omega
    have hg : ps.getD k 0 = ps[k] := by simp [List.getD, hlt]
    have h := ih (by omega)
    rw [List.drop_eq_getElem_cons hlt, qB] at h
    have hn : (ps.drop (k + 1)).getD 0 0 = ps.getD (k + 1) 0 := by simp [List.getD]
    rw [hn] at h
    rw [qacc_succ, hg, List.append_assoc]; exact h
end Go.Proofs.YtilndlifmpbfnaaDoor.M
