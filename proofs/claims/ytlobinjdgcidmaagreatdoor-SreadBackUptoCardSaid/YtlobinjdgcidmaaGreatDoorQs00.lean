/- Texts of ours in one: JgA. -/
import Derived.Lib.DecodeN
import Derived.Lib.RuneBytes
import Derived.Below
/- Several texts of ours in one: UMath UMath2 UMath3 DMath DMath2 DMath3 DMath4 DMath6 JMath KMath KMath2 QMath QMath2 QMath3 QMath5 QMath7 RMath NMath. -/
/- Plain numbers and lists: UTF-8, read and written. Nothing of the program is imported. -/
namespace Go.Proofs.YtlobinjdgcidmaaGreatDoor.M
open Go.Lib

def byte (l : List UInt8) (i : Nat) : Nat := (l.getD i 0).toNat
theorem byte_lt (l : List UInt8) (i : Nat) : byte l i < 256 := (l.getD i 0).toNat_lt
def dec (l : List UInt8) : Nat × Nat := decodeN l.length (byte l 0) (byte l 1) (byte l 2) (byte l 3)
def nx (l : List UInt8) : Int × Int × Bool := if dec l = (65533, 1) then (65533, 1, false) else ((dec l).1, (dec l).2, true)
def nextAt (l : List UInt8) (p : Int) : Int × Int × Bool := if p < 0 ∨ (l.length : Int) ≤ p then (0, 0, false) else nx (l.drop p.toNat)

theorem dec_width (l : List UInt8) : 1 ≤ (dec l).2 ∧ (dec l).2 ≤ 4 := by
  unfold dec decodeN
  repeat' split
  all_goals simp
theorem dec_le (l : List UInt8) (h : 0 < l.length) : (dec l).2 ≤ l.length := by
  unfold dec decodeN
  repeat' split
  all_goals (simp only; omega)
theorem dec_rune (l : List UInt8) : (dec l).1 ≤ 1114111 := by
  have h0 := byte_lt l 0
  have h1 := byte_lt l 1
  have h2 := byte_lt l 2
  have h3 := byte_lt l 3
  unfold dec decodeN
  repeat' split
  all_goals (simp only; omega)
def isCP (r : Int) : Bool := decide (0 ≤ r) && decide (r ≤ 1114111) && (decide (r < 55296) || decide (57343 < r))
theorem isCP_iff (r : Int) : isCP r = true ↔ (0 ≤ r ∧ r ≤ 1114111 ∧ (r < 55296 ∨ 57343 < r)) := by
  simp [isCP, and_assoc]
def enc (r : Int) : List UInt8 := encodeRune r
theorem toU8 (n : Nat) (h : n < 256) : n.toUInt8.toNat = n := by
  simp [Nat.toUInt8, UInt8.toNat_ofNat']; omega
theorem enc_one (r : Nat) (h : r < 128) : enc r = [r.toUInt8] := by
  unfold enc encodeRune
  rw [encodeRuneZ_one (by omega) (by omega)]
  simp
theorem enc_two (r : Nat) (h0 : 128 ≤ r) (h : r < 2048) : enc r = [(192 + r / 64).toUInt8, (128 + r % 64).toUInt8] := by
  unfold enc encodeRune
  rw [encodeRuneZ_two (by omega) (by omega)]
  simp only [List.map_cons, List.map_nil]
  rw [show ((192 : Int) + r / 64).toNat = 192 + r / 64 by omega, show ((128 : Int) + r % 64).toNat = 128 + r % 64 by omega]
theorem enc_three (r : Nat) (h : (2048 ≤ r ∧ r < 55296) ∨ (57343 < r ∧ r ≤ 65535)) : enc r = [(224 + r / 4096).toUInt8, (128 + r / 64 % 64).toUInt8, (128 + r % 64).toUInt8] := by
  unfold enc encodeRune
  rw [encodeRuneZ_three (by omega)]
  simp only [List.map_cons, List.map_nil]
  rw [show ((224 : Int) + r / 4096).toNat = 224 + r / 4096 by omega, show ((128 : Int) + r / 64 % 64).toNat = 128 + r / 64 % 64 by omega, show ((128 : Int) + r % 64).toNat = 128 + r % 64 by omega]
theorem enc_four (r : Nat) (h0 : 65536 ≤ r) (h : r ≤ 1114111) : enc r = [(240 + r / 262144).toUInt8, (128 + r / 4096 % 64).toUInt8, (128 + r / 64 % 64).toUInt8, (128 + r % 64).toUInt8] := by
  unfold enc encodeRune
  rw [encodeRuneZ_four (by omega) (by omega)]
  simp only [List.map_cons, List.map_nil]
  rw [show ((240 : Int) + r / 262144).toNat = 240 + r / 262144 by omega, show ((128 : Int) + r / 4096 % 64).toNat = 128 + r / 4096 % 64 by omega, show ((128 : Int) + r / 64 % 64).toNat = 128 + r / 64 % 64 by omega, show ((128 : Int) + r % 64).toNat = 128 + r % 64 by omega]
theorem enc_other (r : Int) (h : isCP r = false) : enc r = enc 65533 := by
  have : ¬ (0 ≤ r ∧ r ≤ 1114111 ∧ (r < 55296 ∨ 57343 < r)) := by rw [← isCP_iff]; simp [h]
  unfold enc encodeRune encodeRuneZ
  repeat' split
  all_goals first | rfl | (exfalso; omega)
def wid (r : Nat) : Nat := if r < 128 then 1 else if r < 2048 then 2 else if r < 65536 then 3 else 4
theorem enc_len (r : Nat) (h : isCP r = true) : (enc r).length = wid r := by
  rw [isCP_iff] at h
  unfold wid
  by_cases h1 : r < 128
  · rw [enc_one r h1, if_pos h1]; rfl
  · by_cases h2 : r < 2048
    · rw [enc_two r (by omega) h2, if_neg h1, if_pos h2]; rfl
    · by_cases h3 : r < 65536
      · rw [enc_three r (by omega), if_neg h1, if_neg h2, if_pos h3]; rfl
      · rw [enc_four r (by omega) (by omega), if_neg h1, if_neg h2, if_neg h3]; rfl
theorem enc_le (r : Int) : (enc r).length ≤ 4 := by
  unfold enc encodeRune encodeRuneZ
  repeat' split
  all_goals simp
theorem enc_pos (r : Int) : 1 ≤ (enc r).length := by
  unfold enc encodeRune encodeRuneZ
  repeat' split
  all_goals simp

set_option maxHeartbeats 1000000 in
/-- What was written is read. -/
theorem dec_enc (r : Nat) (h : isCP r = true) (t : List UInt8) : dec (enc r ++ t) = (r, wid r) := by
  rw [isCP_iff] at h
  unfold wid
  by_cases h1 : r < 128
  · rw [enc_one r h1, if_pos h1]
    simp only [dec, byte, List.cons_append, List.nil_append, List.getD_cons_zero, toU8 r (by omega)]
    unfold decodeN
    rw [if_pos h1]
  · by_cases h2 : r < 2048
    · rw [enc_two r (by omega) h2, if_neg h1, if_pos h2]
      simp only [dec, byte, List.cons_append, List.nil_append, List.getD_cons_zero, List.getD_cons_succ, List.length_cons]
      rw [toU8 (192 + r / 64) (by omega), toU8 (128 + r % 64) (by omega)]
      unfold decodeN
      rw [if_neg (by omega), if_pos (by omega), if_pos (by omega)]
      apply Prod.ext <;> simp only <;> omega
    · by_cases h3 : r < 65536
      · rw [enc_three r (by omega), if_neg h1, if_neg h2, if_pos h3]
        simp only [dec, byte, List.cons_append, List.nil_append, List.getD_cons_zero, List.getD_cons_succ, List.length_cons]
        rw [toU8 (224 + r / 4096) (by omega), toU8 (128 + r / 64 % 64) (by omega), toU8 (128 + r % 64) (by omega)]
        unfold decodeN
        rw [if_neg (by omega), if_neg (by omega), if_pos (by omega), if_pos (by omega)]
        apply Prod.ext <;> simp only <;> omega
      · rw [enc_four r (by omega) (by omega), if_neg h1, if_neg h2, if_neg h3]
        simp only [dec, byte, List.cons_append, List.nil_append, List.getD_cons_zero, List.getD_cons_succ, List.length_cons]
        rw [toU8 (240 + r / 262144) (by omega), toU8 (128 + r / 4096 % 64) (by omega), toU8 (128 + r / 64 % 64) (by omega), toU8 (128 + r % 64) (by omega)]
        unfold decodeN
        rw [if_neg (by omega), if_neg (by omega), if_neg (by omega), if_pos (by omega), if_pos (by omega)]
        apply Prod.ext <;> simp only <;> omega
theorem nx_enc (r : Nat) (h : isCP r = true) (t : List UInt8) : nx (enc r ++ t) = ((r : Int), (wid r : Int), true) := by
  unfold nx
  rw [dec_enc r h t, if_neg]
  intro h2
  simp only [Prod.mk.injEq] at h2
  rw [h2.1] at h2
  simp [wid] at h2

def valid : Nat → List UInt8 → Nat → Nat × Bool
  | 0, _, p => (p, true)
  | f + 1, l, p => if l.length ≤ p then (p, true) else if (nx (l.drop p)).2.2 then valid f l (p + (dec (l.drop p)).2) else (p, false)
theorem valid_end (f : Nat) (l : List UInt8) (p : Nat) (h : l.length ≤ p) : valid f l p = (p, true) := by
  cases f <;> simp [valid, h]
theorem valid_bad (f : Nat) (l : List UInt8) (p : Nat) (h : p < l.length) (hf : 0 < f) (hn : (nx (l.drop p)).2.2 = false) : valid f l p = (p, false) := by
  cases f with
  | zero => omega
  | succ f => simp only [valid, hn]; rw [if_neg (by omega)]; rfl
theorem valid_good (f : Nat) (l : List UInt8) (p : Nat) (h : p < l.length) (hf : 0 < f) (hn : (nx (l.drop p)).2.2 = true) : valid f l p = valid (f - 1) l (p + (dec (l.drop p)).2) := by
  cases f with
  | zero => omega
  | succ f => simp only [valid, hn]; rw [if_neg (by omega)]; rfl
def validAll (l : List UInt8) : Nat × Bool := valid l.length l 0
end Go.Proofs.YtlobinjdgcidmaaGreatDoor.M

/- Plain numbers and lists: the order of what is written, and that no encoding begins another one. Nothing of the program is imported. -/
namespace Go.Proofs.YtlobinjdgcidmaaGreatDoor.M
open Go.Lib

end Go.Proofs.YtlobinjdgcidmaaGreatDoor.M

/- Plain numbers and lists: how far texts are UTF-8, one behind the other. Nothing of the program is imported. -/
namespace Go.Proofs.YtlobinjdgcidmaaGreatDoor.M
open Go.Lib

set_option maxHeartbeats 4000000 in
theorem decodeN_more (n m b0 b1 b2 b3 c1 c2 c3 : Nat) (hnm : n ≤ m) (h1 : 1 < n → c1 = b1) (h2 : 2 < n → c2 = b2) (h3 : 3 < n → c3 = b3) (hok : decodeN n b0 b1 b2 b3 ≠ (65533, 1)) :
    decodeN m b0 c1 c2 c3 = decodeN n b0 b1 b2 b3 := by
  by_cases a0 : b0 < 128
  · unfold decodeN; rw [if_pos a0, if_pos a0]
  · by_cases a1 : b0 / 32 = 6 ∧ (1 < n ∧ b1 / 64 = 2)
    · obtain rfl := h1 a1.2.1
      unfold decodeN
      rw [if_neg a0, if_neg a0, if_pos a1, if_pos (by omega)]
    · by_cases a2 : b0 / 16 = 14 ∧ (1 < n ∧ b1 / 64 = 2) ∧ (2 < n ∧ b2 / 64 = 2)
      · obtain rfl := h1 a2.2.1.1
        obtain rfl := h2 a2.2.2.1
        unfold decodeN
        rw [if_neg a0, if_neg a0, if_neg (by omega), if_neg a1, if_pos (by omega), if_pos a2]
      · by_cases a3 : b0 / 8 = 30 ∧ (1 < n ∧ b1 / 64 = 2) ∧ (2 < n ∧ b2 / 64 = 2) ∧ (3 < n ∧ b3 / 64 = 2)
        · obtain rfl := h1 a3.2.1.1
          obtain rfl := h2 a3.2.2.1.1
          obtain rfl := h3 a3.2.2.2.1
          unfold decodeN
          rw [if_neg a0, if_neg a0, if_neg (by omega), if_neg a1, if_neg (by omega), if_neg a2, if_pos (by omega), if_pos a3]
        · exfalso
          apply hok
          unfold decodeN
          rw [if_neg a0, if_neg a1, if_neg a2, if_neg a3]
theorem byte_append (s t : List UInt8) (i : Nat) (h : i < s.length) : byte (s ++ t) i = byte s i := by
  unfold byte
  simp [List.getD, List.getElem?_append_left h]
theorem nx_ok (s : List UInt8) : (nx s).2.2 = true ↔ dec s ≠ (65533, 1) := by
  unfold nx
  split
  · rename_i h; simp [h]
  · rename_i h; simp [h]
theorem dec_append (s t : List UInt8) (h0 : 0 < s.length) (h : (nx s).2.2 = true) : dec (s ++ t) = dec s := by
  rw [nx_ok] at h
  unfold dec at *
  rw [byte_append s t 0 h0]
  exact decodeN_more _ _ _ _ _ _ _ _ _ (by simp) (fun h => byte_append s t 1 h) (fun h => byte_append s t 2 h) (fun h => byte_append s t 3 h) h
theorem nx_append (s t : List UInt8) (h0 : 0 < s.length) (h : (nx s).2.2 = true) : (nx (s ++ t)).2.2 = true := by
  rw [nx_ok] at *
  rw [dec_append s t h0 (by rw [nx_ok]; exact h)]
  exact h
theorem valid_fuel (l : List UInt8) (f g p : Nat) (hf : l.length ≤ p + f) (hg : l.length ≤ p + g) : valid f l p = valid g l p := by
  induction f generalizing g p with
  | zero => rw [valid_end 0 l p (by omega), valid_end g l p (by omega)]
  | succ f ih =>
    by_cases hp : l.length ≤ p
    · rw [valid_end _ l p hp, valid_end g l p hp]
    · have hw := dec_width (l.drop p)
      cases hn : (nx (l.drop p)).2.2 with
      | false => rw [valid_bad _ l p (by omega) (by omega) hn, valid_bad g l p (by omega) (by omega) hn]
      | true =>
        rw [valid_good _ l p (by omega) (by omega) hn, valid_good g l p (by omega) (by omega) hn]
        exact ih _ _ (by omega) (by omega)
theorem valid_shift (a b : List UInt8) (f q : Nat) : valid f (a ++ b) (a.length + q) = (a.length + (valid f b q).1, (valid f b q).2) := by
  induction f generalizing q with
  | zero => simp [valid]
  | succ f ih =>
    by_cases hq : b.length ≤ q
    · rw [valid_end _ b q hq, valid_end _ (a ++ b) _ (by simp; omega)]
    · have hd : (a ++ b).drop (a.length + q) = b.drop q := by simp
      cases hn : (nx (b.drop q)).2.2 with
      | false => rw [valid_bad _ b q (by omega) (by omega) hn, valid_bad _ (a ++ b) _ (by simp; omega) (by omega) (by rw [hd]; exact hn)]
      | true =>
        rw [valid_good _ b q (by omega) (by omega) hn, valid_good _ (a ++ b) _ (by simp; omega) (by omega) (by rw [hd]; exact hn), hd, Nat.add_assoc]
        exact ih _
theorem valid_join (a b : List UInt8) (f p g : Nat) (hp : p ≤ a.length) (hf : a.length ≤ p + f) (hg : a.length + b.length ≤ p + g) :
    ((valid f a p).2 = true → valid g (a ++ b) p = (a.length + (validAll b).1, (validAll b).2)) ∧ ((valid f a p).2 = false → (valid f a p).1 ≤ (valid g (a ++ b) p).1) := by
  induction f generalizing p g with
  | zero =>
    obtain rfl : p = a.length := by omega
    rw [valid_end 0 a _ (Nat.le_refl _)]
    refine ⟨fun _ => ?_, fun h => by simp at h⟩
    have := valid_shift a b g 0
    rw [Nat.add_zero] at this
    rw [this, valid_fuel b g b.length 0 (by omega) (by omega)]
    rfl
  | succ f ih =>
    by_cases he : a.length ≤ p
    · obtain rfl : p = a.length := by omega
      rw [valid_end _ a _ (Nat.le_refl _)]
      refine ⟨fun _ => ?_, fun h => by simp at h⟩
      have := valid_shift a b g 0
      rw [Nat.add_zero] at this
      rw [this, valid_fuel b g b.length 0 (by omega) (by omega)]
      rfl
    · have hw := dec_width (a.drop p)
      have hle := dec_le (a.drop p) (by simp; omega)
      rw [List.length_drop] at hle
      have hd : (a ++ b).drop p = a.drop p ++ b := by rw [List.drop_append_of_le_length (by omega)]
      cases hn : (nx (a.drop p)).2.2 with
      | false =>
        rw [valid_bad _ a p (by omega) (by omega) hn]
        refine ⟨fun h => by simp at h, fun _ => ?_⟩
        have hge : ∀ g p, p ≤ (valid g (a ++ b) p).1 := by
          intro g
          induction g with
          | zero => intro p; simp [valid]
          | succ g ihg =>
            intro p
            unfold valid
            split
            · exact Nat.le_refl _
            · split
              · exact Nat.le_trans (Nat.le_add_right _ _) (ihg _)
              · exact Nat.le_refl _
        exact hge g p
      | true =>
        rw [valid_good _ a p (by omega) (by omega) hn, valid_good g (a ++ b) p (by simp; omega) (by omega) (by rw [hd]; exact nx_append _ _ (by simp; omega) hn), hd, dec_append _ _ (by simp; omega) hn]
        exact ih _ _ (by omega) (by omega) (by omega)
theorem valid_len (l : List UInt8) (f p : Nat) (hp : p ≤ l.length) (hf : l.length ≤ p + f) (h : (valid f l p).2 = true) : (valid f l p).1 = l.length := by
  induction f generalizing p with
  | zero => simp [valid]; omega
  | succ f ih =>
    by_cases he : l.length ≤ p
    · rw [valid_end _ l _ he]; simp only; omega
    · have hw := dec_width (l.drop p)
      have hle := dec_le (l.drop p) (by simp; omega)
      rw [List.length_drop] at hle
      cases hn : (nx (l.drop p)).2.2 with
      | false => rw [valid_bad _ l p (by omega) (by omega) hn] at h; simp at h
      | true =>
        rw [valid_good _ l p (by omega) (by omega) hn] at h ⊢
        exact ih _ (by omega) (by omega) h
theorem join_good (a b : List UInt8) (h : (validAll a).2 = true) : validAll (a ++ b) = (a.length + (validAll b).1, (validAll b).2) := by
  unfold validAll at *
  rw [(valid_join a b a.length 0 (a ++ b).length (by omega) (by omega) (by simp)).1 h]
  rfl
theorem all_len (l : List UInt8) (h : (validAll l).2 = true) : (validAll l).1 = l.length := valid_len l l.length 0 (by omega) (by omega) h
theorem valid_le (l : List UInt8) (f p : Nat) (hp : p ≤ l.length) : (valid f l p).1 ≤ l.length := by
  induction f generalizing p with
  | zero => simpa [valid] using hp
  | succ f ih =>
    unfold valid
    split
    · exact hp
    · have hle := dec_le (l.drop p) (by simp; omega)
      rw [List.length_drop] at hle
      split
      · exact ih _ (by omega)
      · exact hp
theorem all_le (l : List UInt8) : (validAll l).1 ≤ l.length := valid_le l _ 0 (by omega)
end Go.Proofs.YtlobinjdgcidmaaGreatDoor.M

/- Plain numbers and lists: decimals of any length. Nothing of the program is imported. -/
namespace Go.Proofs.YtlobinjdgcidmaaGreatDoor.M

theorem u8n (n : Nat) (h : n < 256) : n.toUInt8.toNat = n := by
  simp [Nat.toUInt8, UInt8.toNat_ofNat']; omega
def dig (c : UInt8) : Bool := decide (48 ≤ c.toNat) && decide (c.toNat ≤ 57)
theorem dig_iff (c : UInt8) : dig c = true ↔ (48 ≤ c.toNat ∧ c.toNat ≤ 57) := by simp [dig]
def ofD (n : Nat) : UInt8 := (48 + n % 10).toUInt8
theorem ofD_nat (n : Nat) : (ofD n).toNat = 48 + n % 10 := u8n _ (by omega)
theorem ofD_dig (n : Nat) : dig (ofD n) = true := by rw [dig_iff, ofD_nat]; omega
def dval (l : List UInt8) : Nat := l.foldl (fun a c => 10 * a + (c.toNat - 48)) 0
theorem dval_snoc (l : List UInt8) (c : UInt8) : dval (l ++ [c]) = 10 * dval l + (c.toNat - 48) := by simp [dval]
def canon (n : Nat) : List UInt8 := if _h : n = 0 then [] else canon (n / 10) ++ [ofD n]
  termination_by n
  decreasing_by omega
theorem canon_zero : canon 0 = [] := by unfold canon; simp
theorem canon_pos (n : Nat) (h : n ≠ 0) : canon n = canon (n / 10) ++ [ofD n] := by rw [canon, dif_neg h]
theorem canon_ne (n : Nat) (h : n ≠ 0) : canon n ≠ [] := by rw [canon_pos n h]; simp
theorem canon_dig (n : Nat) : ∀ c ∈ canon n, dig c = true := by
  induction n using Nat.strongRecOn with
  | _ n ih =>
    by_cases h : n = 0
    · subst h; rw [canon_zero]; simp
    · rw [canon_pos n h]
      intro c hc
      rcases List.mem_append.1 hc with hc | hc
      · exact ih (n / 10) (by omega) c hc
      · simp at hc; subst hc; exact ofD_dig n
theorem dval_canon (n : Nat) : dval (canon n) = n := by
  induction n using Nat.strongRecOn with
  | _ n ih =>
    by_cases h : n = 0
    · subst h; rw [canon_zero]; rfl
    · rw [canon_pos n h, dval_snoc, ih (n / 10) (by omega), ofD_nat]; omega
theorem canon_head (n : Nat) (h : n ≠ 0) : ∃ c t, canon n = c :: t ∧ c ≠ 48 := by
  induction n using Nat.strongRecOn with
  | _ n ih =>
    rw [canon_pos n h]
    by_cases h1 : n / 10 = 0
    · rw [h1, canon_zero]
      refine ⟨ofD n, [], rfl, fun hh => ?_⟩
      have := ofD_nat n
      rw [hh] at this
      simp at this
      omega
    · obtain ⟨c, t, h2, h3⟩ := ih (n / 10) (by omega) h1
      exact ⟨c, t ++ [ofD n], by rw [h2]; rfl, h3⟩
theorem rev_ind {α : Type} {P : List α → Prop} (h0 : P []) (h1 : ∀ l c, P l → P (l ++ [c])) (l : List α) : P l := by
  rw [← List.reverse_reverse l]
  induction l.reverse with
  | nil => exact h0
  | cons c t ih => rw [List.reverse_cons]; exact h1 _ _ ih
def strip (l : List UInt8) : List UInt8 := l.dropWhile (· == 48)
theorem strip_canon (l : List UInt8) (h : ∀ c ∈ l, dig c = true) : strip l = canon (dval l) := by
  revert h
  induction l using rev_ind with
  | h0 => intro _; rw [show dval [] = 0 from rfl, canon_zero]; rfl
  | h1 l c ih =>
    intro h
    have h1 := ih (fun x hx => h x (by simp [hx]))
    have hc := (dig_iff c).1 (h c (by simp))
    rw [dval_snoc]
    unfold strip at *
    rw [List.dropWhile_append, h1]
    by_cases h0 : dval l = 0
    · rw [h0, canon_zero]
      by_cases hcz : c = 48
      · subst hcz; simp [canon_zero]
      · have : c.toNat ≠ 48 := fun hh => hcz (UInt8.toNat_inj.1 hh)
        have e : ofD (c.toNat - 48) = c := UInt8.toNat_inj.1 (by rw [ofD_nat]; omega)
        rw [canon_pos _ (by omega), Nat.mul_zero, Nat.zero_add, show (c.toNat - 48) / 10 = 0 by omega, canon_zero, e]
        simp [hcz]
    · have hne := canon_ne _ h0
      have e : ofD (10 * dval l + (c.toNat - 48)) = c := UInt8.toNat_inj.1 (by rw [ofD_nat]; omega)
      rw [canon_pos (10 * dval l + (c.toNat - 48)) (by omega), e, show (10 * dval l + (c.toNat - 48)) / 10 = dval l by omega]
      simp [hne]
theorem canon_self (l : List UInt8) (h : ∀ c ∈ l, dig c = true) (h0 : l.head? ≠ some 48) : canon (dval l) = l := by
  rw [← strip_canon l h]
  unfold strip
  cases l with
  | nil => rfl
  | cons c t =>
    have : c ≠ 48 := fun hh => h0 (by rw [hh]; rfl)
    simp [this]
def txt (z : Int) : List UInt8 := if z = 0 then [48] else if z < 0 then 45 :: canon z.natAbs else canon z.natAbs
def unsign (l : List UInt8) : List UInt8 := if l.head? = some 45 then l.tail else l
def isNeg (l : List UInt8) : Bool := l.head? == some 45
def rightD (l : List UInt8) : Bool := l == [48] || (!(unsign l).isEmpty && (unsign l).head? != some 48 && (unsign l).all dig)
def valD (l : List UInt8) : Int := if isNeg l then -(dval (unsign l) : Int) else dval (unsign l)
theorem val_txt (z : Int) : valD (txt z) = z ∧ rightD (txt z) = true := by
  unfold txt
  by_cases h0 : z = 0
  · rw [if_pos h0, h0]; decide
  · rw [if_neg h0]
    obtain ⟨c, t, h1, h2⟩ := canon_head z.natAbs (by omega)
    have hd := canon_dig z.natAbs
    have hv := dval_canon z.natAbs
    by_cases hn : z < 0
    · rw [if_pos hn]
      refine ⟨?_, ?_⟩
      · simp [valD, isNeg, unsign, hv]; omega
      · rw [h1] at hd ⊢
        simp only [rightD, unsign, List.head?_cons, if_true, List.tail_cons]
        simp only [Bool.or_eq_true, Bool.and_eq_true]
        right
        refine ⟨⟨rfl, by simp [h2]⟩, by rw [List.all_eq_true]; exact hd⟩
    · rw [if_neg hn]
      have hc : c ≠ 45 := by
        intro hh
        have := (dig_iff c).1 (hd c (by rw [h1]; simp))
        rw [hh] at this
        simp at this
      refine ⟨?_, ?_⟩
      · rw [h1] at hv ⊢; simp [valD, isNeg, unsign, hc, hv]; omega
      · rw [h1] at hd ⊢
        have : (c :: t).head? ≠ some 45 := by simp [hc]
        simp only [rightD, unsign, if_neg this]
        simp only [Bool.or_eq_true, Bool.and_eq_true]
        right
        refine ⟨⟨rfl, by simp [h2]⟩, by rw [List.all_eq_true]; exact hd⟩
theorem right_parts (l : List UInt8) (h : rightD l = true) : (∀ c ∈ unsign l, dig c = true) ∧ unsign l ≠ [] ∧ (l = [48] ∨ (unsign l).head? ≠ some 48) := by
  unfold rightD at h
  simp only [Bool.or_eq_true, Bool.and_eq_true] at h
  rcases h with h | ⟨⟨h1, h2⟩, h3⟩
  · have : l = [48] := by simpa using h
    subst this; decide
  · refine ⟨by rw [List.all_eq_true] at h3; exact h3, by simpa using h1, .inr (by simpa using h2)⟩
theorem dval_pos (l : List UInt8) (h : ∀ c ∈ l, dig c = true) (h0 : l.head? ≠ some 48) (h1 : l ≠ []) : dval l ≠ 0 := by
  intro hh
  have := canon_self l h h0
  rw [hh, canon_zero] at this
  exact h1 this.symm
theorem txt_val (l : List UInt8) (h : rightD l = true) : txt (valD l) = l := by
  obtain ⟨h1, h2, h3⟩ := right_parts l h
  rcases h3 with rfl | h3
  · decide
  · have hp := dval_pos _ h1 h3 h2
    have hc := canon_self _ h1 h3
    unfold txt valD
    by_cases hn : isNeg l = true
    · rw [if_pos hn, if_neg (by omega), if_pos (by omega)]
      have hh : l.head? = some 45 := by simpa [isNeg] using hn
      cases l with
      | nil => simp at hh
      | cons c t =>
        simp only [List.head?_cons, Option.some.injEq] at hh
        subst hh
        simp only [unsign, List.head?_cons, if_true, List.tail_cons] at hc ⊢
        rw [show (-(dval t : Int)).natAbs = dval t by omega, hc]
    · rw [if_neg hn, if_neg (by omega), if_neg (by omega)]
      have hh : ¬ l.head? = some 45 := by simpa [isNeg] using hn
      simp only [unsign, if_neg hh] at hc ⊢
      rw [show ((dval l : Int)).natAbs = dval l by omega, hc]
end Go.Proofs.YtlobinjdgcidmaaGreatDoor.M

/- Plain numbers and lists: adding and taking off, digit by digit, and which of two rows of digits is less. Nothing of the program is imported. -/
namespace Go.Proofs.YtlobinjdgcidmaaGreatDoor.M

def dat (x : List UInt8) (i : Nat) : Nat := if i < x.length then (x.getD (x.length - 1 - i) 48).toNat - 48 else 0
def lowv (x : List UInt8) : Nat → Nat
  | 0 => 0
  | k + 1 => lowv x k + dat x k * 10 ^ k
def lev : List UInt8 → Nat
  | [] => 0
  | c :: t => (c.toNat - 48) + 10 * lev t
theorem lev_snoc (l : List UInt8) (c : UInt8) : lev (l ++ [c]) = lev l + (c.toNat - 48) * 10 ^ l.length := by
  induction l with
  | nil => simp [lev]
  | cons a t ih =>
    simp only [List.cons_append, lev, ih, List.length_cons, Nat.pow_succ]
    rw [Nat.mul_add, Nat.add_assoc, ← Nat.mul_assoc, Nat.mul_comm 10 (c.toNat - 48), Nat.mul_assoc, Nat.mul_comm 10 (10 ^ t.length)]
theorem dval_reverse (l : List UInt8) : dval l.reverse = lev l := by
  induction l with
  | nil => rfl
  | cons c t ih => rw [List.reverse_cons, dval_snoc, ih]; simp only [lev]; omega
theorem lev_lt (l : List UInt8) (h : ∀ c ∈ l, dig c = true) : lev l < 10 ^ l.length := by
  induction l with
  | nil => simp [lev]
  | cons c t ih =>
    have h1 := ih (fun x hx => h x (by simp [hx]))
    have h2 := (dig_iff c).1 (h c (by simp))
    simp only [lev, List.length_cons, Nat.pow_succ]; omega
theorem dval_lt (l : List UInt8) (h : ∀ c ∈ l, dig c = true) : dval l < 10 ^ l.length := by
  have := lev_lt l.reverse (fun c hc => h c (by simpa using hc))
  rw [← dval_reverse, List.reverse_reverse, List.length_reverse] at this
  exact this
theorem dat_zero (x : List UInt8) (c : UInt8) : dat (x ++ [c]) 0 = c.toNat - 48 := by
  simp [dat]
theorem dat_succ (x : List UInt8) (c : UInt8) (i : Nat) : dat (x ++ [c]) (i + 1) = dat x i := by
  unfold dat
  simp only [List.length_append, List.length_cons, List.length_nil]
  by_cases h : i < x.length
  · rw [if_pos (by omega), if_pos h]
    rw [show x.length + (0 + 1) - 1 - (i + 1) = x.length - 1 - i by omega]
    congr 2
    simp only [List.getD]
    rw [List.getElem?_append_left (by omega)]
  · rw [if_neg (by omega), if_neg h]
theorem dat_le (x : List UInt8) (h : ∀ c ∈ x, dig c = true) (i : Nat) : dat x i ≤ 9 := by
  unfold dat
  split
  · rename_i hi
    have hl : x.length - 1 - i < x.length := by omega
    have := (dig_iff _).1 (h _ (List.getElem_mem hl))
    simp only [List.getD, List.getElem?_eq_getElem hl, Option.getD_some]
    omega
  · omega
theorem dat_out (x : List UInt8) (i : Nat) (h : x.length ≤ i) : dat x i = 0 := by unfold dat; rw [if_neg (by omega)]
theorem lowv_snoc (x : List UInt8) (c : UInt8) (k : Nat) : lowv (x ++ [c]) (k + 1) = (c.toNat - 48) + 10 * lowv x k := by
  induction k with
  | zero => simp [lowv, dat_zero]
  | succ k ih =>
    rw [lowv, ih, lowv, dat_succ, Nat.pow_succ, Nat.mul_add, Nat.add_assoc]
    congr 2
    rw [← Nat.mul_assoc, Nat.mul_comm 10]
theorem lowv_len (x : List UInt8) : lowv x x.length = dval x := by
  induction x using rev_ind with
  | h0 => rfl
  | h1 l c ih => rw [List.length_append, List.length_singleton, lowv_snoc, ih, dval_snoc]; omega
theorem lowv_all (x : List UInt8) (k : Nat) (h : x.length ≤ k) : lowv x k = dval x := by
  induction k with
  | zero => rw [← lowv_len x, show x.length = 0 by omega]
  | succ k ih =>
    by_cases hk : x.length = k + 1
    · rw [← lowv_len x, hk]
    · rw [lowv, ih (by omega), dat_out x k (by omega)]; simp
def Sum (x y : List UInt8) (k : Nat) (out : List UInt8) (carry : Nat) : Prop :=
  out.length = k ∧ (∀ c ∈ out, dig c = true) ∧ carry ≤ 1 ∧ lev out + carry * 10 ^ k = lowv x k + lowv y k
theorem sum_start (x y : List UInt8) : Sum x y 0 [] 0 := ⟨rfl, by simp, by omega, rfl⟩
theorem sum_step {x y : List UInt8} {k : Nat} {out : List UInt8} {carry : Nat} (hx : ∀ c ∈ x, dig c = true) (hy : ∀ c ∈ y, dig c = true) (h : Sum x y k out carry) :
    Sum x y (k + 1) (out ++ [ofD (dat x k + dat y k + carry)]) ((dat x k + dat y k + carry) / 10) := by
  obtain ⟨h1, h2, h3, h4⟩ := h
  have a := dat_le x hx k
  have b := dat_le y hy k
  refine ⟨by simp [h1], ?_, by omega, ?_⟩
  · intro c hc
    rcases List.mem_append.1 hc with hc | hc
    · exact h2 c hc
    · simp at hc; subst hc; exact ofD_dig _
  · rw [lev_snoc, ofD_nat, h1, lowv, lowv, Nat.pow_succ]
    generalize dat x k = p at *
    generalize dat y k = q at *
    have e : p + q + carry = (p + q + carry) % 10 + (p + q + carry) / 10 * 10 := by omega
    have e2 : (p + q + carry) * 10 ^ k = ((p + q + carry) % 10 + (p + q + carry) / 10 * 10) * 10 ^ k := by rw [← e]
    rw [Nat.add_mul, Nat.add_mul, Nat.add_mul] at e2
    rw [show 48 + (p + q + carry) % 10 - 48 = (p + q + carry) % 10 by omega]
    rw [← Nat.mul_assoc, Nat.mul_comm ((p + q + carry) / 10) (10 ^ k), Nat.mul_assoc, Nat.mul_comm (10 ^ k)]
    omega
theorem sum_end {x y : List UInt8} {k : Nat} {out : List UInt8} {carry : Nat} (hx : ∀ c ∈ x, dig c = true) (hy : ∀ c ∈ y, dig c = true) (h : Sum x y k out carry)
    (hk : x.length < k) (hk2 : y.length < k) : lev out = dval x + dval y := by
  obtain ⟨h1, h2, h3, h4⟩ := h
  rw [lowv_all x k (by omega), lowv_all y k (by omega)] at h4
  have a := dval_lt x hx
  have b := dval_lt y hy
  obtain ⟨m, rfl⟩ : ∃ m, k = m + 1 := ⟨k - 1, by omega⟩
  have c1 : 10 ^ x.length ≤ 10 ^ m := Nat.pow_le_pow_right (by omega) (by omega)
  have c2 : 10 ^ y.length ≤ 10 ^ m := Nat.pow_le_pow_right (by omega) (by omega)
  rw [Nat.pow_succ] at h4
  have : carry = 0 ∨ carry = 1 := by omega
  rcases this with rfl | rfl
  · omega
  · omega
def Dif (x y : List UInt8) (k : Nat) (out : List UInt8) (borrow : Nat) : Prop :=
  out.length = k ∧ (∀ c ∈ out, dig c = true) ∧ borrow ≤ 1 ∧ lev out + lowv y k = lowv x k + borrow * 10 ^ k
theorem dif_start (x y : List UInt8) : Dif x y 0 [] 0 := ⟨rfl, by simp, by omega, rfl⟩
theorem dif_step {x y : List UInt8} {k : Nat} {out : List UInt8} {borrow : Nat} (hx : ∀ c ∈ x, dig c = true) (hy : ∀ c ∈ y, dig c = true) (h : Dif x y k out borrow) :
    Dif x y (k + 1) (out ++ [ofD (dat x k + 10 - dat y k - borrow)]) (1 - (dat x k + 10 - dat y k - borrow) / 10) := by
  obtain ⟨h1, h2, h3, h4⟩ := h
  have a := dat_le x hx k
  have b := dat_le y hy k
  refine ⟨by simp [h1], ?_, by omega, ?_⟩
  · intro c hc
    rcases List.mem_append.1 hc with hc | hc
    · exact h2 c hc
    · simp at hc; subst hc; exact ofD_dig _
  · rw [lev_snoc, ofD_nat, h1, lowv, lowv, Nat.pow_succ]
    generalize dat x k = p at *
    generalize dat y k = q at *
    obtain ⟨n, hn⟩ : ∃ n, p + 10 - q - borrow = n := ⟨_, rfl⟩
    rw [hn]
    have e : n % 10 + q + borrow = p + (1 - n / 10) * 10 := by
      have : n / 10 = 0 ∨ n / 10 = 1 := by omega
      rcases this with h | h <;> rw [h] <;> omega
    have e2 : (n % 10 + q + borrow) * 10 ^ k = (p + (1 - n / 10) * 10) * 10 ^ k := by rw [e]
    rw [Nat.add_mul, Nat.add_mul, Nat.add_mul] at e2
    rw [show 48 + n % 10 - 48 = n % 10 by omega]
    rw [← Nat.mul_assoc, Nat.mul_comm (1 - n / 10) (10 ^ k), Nat.mul_assoc, Nat.mul_comm (10 ^ k)]
    omega
theorem dif_end {x y : List UInt8} {k : Nat} {out : List UInt8} {borrow : Nat} (h : Dif x y k out borrow)
    (hk : x.length ≤ k) (hk2 : y.length ≤ k) (hle : dval y ≤ dval x) : lev out = dval x - dval y := by
  obtain ⟨h1, h2, h3, h4⟩ := h
  rw [lowv_all x k hk, lowv_all y k hk2] at h4
  have := lev_lt out h2
  rw [h1] at this
  have hb : borrow = 0 ∨ borrow = 1 := by omega
  rcases hb with rfl | rfl <;> omega
def Row (x : List UInt8) : Prop := (∀ c ∈ x, dig c = true) ∧ x ≠ [] ∧ (x = [48] ∨ x.head? ≠ some 48)
theorem row_unsign (l : List UInt8) (h : rightD l = true) : Row (unsign l) := by
  obtain ⟨h1, h2, h3⟩ := right_parts l h
  refine ⟨h1, h2, ?_⟩
  rcases h3 with rfl | h3
  · left; rfl
  · exact .inr h3
theorem row_ge (x : List UInt8) (h : Row x) (h1 : 2 ≤ x.length) : 10 ^ (x.length - 1) ≤ dval x := by
  obtain ⟨hd, hn, h0⟩ := h
  rcases h0 with rfl | h0
  · simp at h1
  · cases x with
    | nil => simp at h1
    | cons c t =>
      clear h1 hn
      have hc : c ≠ 48 := fun hh => h0 (by rw [hh]; rfl)
      have hc2 := (dig_iff c).1 (hd c (by simp))
      have hc3 : c.toNat ≠ 48 := fun hh => hc (UInt8.toNat_inj.1 hh)
      clear h0 hc
      simp only [List.length_cons, Nat.add_sub_cancel]
      clear hd
      induction t using rev_ind with
      | h0 => simp [dval]; omega
      | h1 l d ih => rw [← List.cons_append, dval_snoc, List.length_append, List.length_singleton, Nat.pow_succ]; omega
theorem dval_cons (c : UInt8) (t : List UInt8) : dval (c :: t) = (c.toNat - 48) * 10 ^ t.length + dval t := by
  induction t using rev_ind with
  | h0 => simp [dval]
  | h1 l d ih => rw [← List.cons_append, dval_snoc, dval_snoc, ih, List.length_append, List.length_singleton, Nat.pow_succ]; rw [Nat.mul_add, Nat.mul_left_comm 10, Nat.mul_comm 10 (10 ^ l.length)]; omega
theorem lex_dval (x y : List UInt8) (hx : ∀ c ∈ x, dig c = true) (hy : ∀ c ∈ y, dig c = true) (h : x.length = y.length) : x < y ↔ dval x < dval y := by
  induction x generalizing y with
  | nil =>
    cases y with
    | nil => simp [dval]
    | cons _ _ => simp at h
  | cons a s ih =>
    cases y with
    | nil => simp at h
    | cons b t =>
      have ha := (dig_iff a).1 (hx a (by simp))
      have hb := (dig_iff b).1 (hy b (by simp))
      have hl : s.length = t.length := by simpa using h
      have h1 := dval_lt s (fun c hc => hx c (by simp [hc]))
      have h2 := dval_lt t (fun c hc => hy c (by simp [hc]))
      rw [List.cons_lt_cons_iff, ih t (fun c hc => hx c (by simp [hc])) (fun c hc => hy c (by simp [hc])) hl, dval_cons, dval_cons, hl, UInt8.lt_iff_toNat_lt]
      rw [hl] at h1
      have hab : a = b ↔ a.toNat = b.toNat := UInt8.toNat_inj.symm
      rw [hab]
      generalize 10 ^ t.length = P at *
      obtain ⟨p, hp⟩ : ∃ p, a.toNat - 48 = p := ⟨_, rfl⟩
      obtain ⟨q, hq⟩ : ∃ q, b.toNat - 48 = q := ⟨_, rfl⟩
      rw [hp, hq]
      have e1 : a.toNat < b.toNat ↔ p < q := by omega
      have e2 : a.toNat = b.toNat ↔ p = q := by omega
      rw [e1, e2]
      constructor
      · rintro (h | ⟨h, h'⟩)
        · have : (p + 1) * P ≤ q * P := Nat.mul_le_mul_right _ h
          rw [Nat.add_mul] at this
          omega
        · subst h; omega
      · intro h
        by_cases c1 : p < q
        · exact .inl c1
        · by_cases c2 : p = q
          · subst c2; right; omega
          · have : (q + 1) * P ≤ p * P := Nat.mul_le_mul_right _ (by omega)
            rw [Nat.add_mul] at this
            omega
def lessB (x y : List UInt8) : Bool := if x.length ≠ y.length then decide (x.length < y.length) else decide (x < y)
theorem less_dval (x y : List UInt8) (hx : Row x) (hy : Row y) : lessB x y = decide (dval x < dval y) := by
  unfold lessB
  have key : ∀ a b : List UInt8, Row a → Row b → a.length < b.length → dval a < dval b := by
    intro a b ha hb h
    have h1 := dval_lt a ha.1
    have h0 : 1 ≤ a.length := by
      have := ha.2.1
      cases a with
      | nil => exact absurd rfl this
      | cons _ _ => simp
    have h2 := row_ge b hb (by omega)
    have h3 : 10 ^ a.length ≤ 10 ^ (b.length - 1) := Nat.pow_le_pow_right (by omega) (by omega)
    omega
  by_cases h : x.length = y.length
  · rw [if_neg (by simp [h])]
    have := lex_dval x y hx.1 hy.1 h
    simp only [this]
  · rw [if_pos h]
    by_cases h1 : x.length < y.length
    · have := key x y hx hy h1
      simp [h1, this]
    · have := key y x hy hx (by omega)
      have h2 : ¬ dval x < dval y := by omega
      simp [h1, h2]
end Go.Proofs.YtlobinjdgcidmaaGreatDoor.M

/- Plain numbers and lists: what adding and comparing decimals comes to. Nothing of the program is imported. -/
namespace Go.Proofs.YtlobinjdgcidmaaGreatDoor.M

def sgn (neg : Bool) (l : List UInt8) : List UInt8 := if strip l = [] then [48] else if neg then 45 :: strip l else strip l
theorem sgn_txt (neg : Bool) (l : List UInt8) (h : ∀ c ∈ l, dig c = true) : sgn neg l = txt (if neg then -(dval l : Int) else dval l) := by
  unfold sgn txt
  rw [strip_canon l h]
  by_cases h0 : dval l = 0
  · rw [h0, canon_zero, if_pos rfl]
    cases neg <;> simp
  · have hne := canon_ne _ h0
    rw [if_neg hne]
    cases neg with
    | true =>
      simp only [if_true]
      rw [if_neg (by omega), if_pos (by omega), show (-(dval l : Int)).natAbs = dval l by omega]
    | false =>
      simp only [Bool.false_eq_true, if_false]
      rw [if_neg (by omega), if_neg (by omega), show ((dval l : Int)).natAbs = dval l by omega]
theorem row_len (x y : List UInt8) (hx : Row x) (hy : Row y) (h : dval y ≤ dval x) : y.length ≤ x.length := by
  by_cases hl : y.length ≤ x.length
  · exact hl
  · have h1 : lessB x y = true := by unfold lessB; rw [if_pos (by omega)]; simp; omega
    rw [less_dval x y hx hy] at h1
    simp at h1; omega
def addD (a b : List UInt8) : List UInt8 × Bool := if rightD a && rightD b then (txt (valD a + valD b), true) else ([], false)
theorem add_same (a b l : List UInt8) (hn : isNeg a = isNeg b) (hl : ∀ c ∈ l, dig c = true) (hv : dval l = dval (unsign a) + dval (unsign b)) : sgn (isNeg a) l = txt (valD a + valD b) := by
  rw [sgn_txt _ l hl]
  unfold valD
  rw [← hn, hv]
  cases isNeg a with
  | true => simp only [if_true]; congr 1; omega
  | false => simp only [Bool.false_eq_true, if_false]; congr 1
theorem add_less (a b l : List UInt8) (hn : isNeg a ≠ isNeg b) (hl : ∀ c ∈ l, dig c = true) (hlt : dval (unsign a) < dval (unsign b)) (hv : dval l = dval (unsign b) - dval (unsign a)) : sgn (isNeg b) l = txt (valD a + valD b) := by
  rw [sgn_txt _ l hl]
  unfold valD
  revert hn
  cases isNeg a <;> cases isNeg b <;> intro hn
  · exact absurd rfl hn
  · congr 1; simp; omega
  · congr 1; simp; omega
  · exact absurd rfl hn
theorem add_more (a b l : List UInt8) (hn : isNeg a ≠ isNeg b) (hl : ∀ c ∈ l, dig c = true) (hlt : ¬ dval (unsign a) < dval (unsign b)) (hv : dval l = dval (unsign a) - dval (unsign b)) : sgn (isNeg a) l = txt (valD a + valD b) := by
  rw [sgn_txt _ l hl]
  unfold valD
  revert hn
  cases isNeg a <;> cases isNeg b <;> intro hn
  · exact absurd rfl hn
  · congr 1; simp; omega
  · congr 1; simp; omega
  · exact absurd rfl hn
end Go.Proofs.YtlobinjdgcidmaaGreatDoor.M

/- Decimals, plain mathematics: how long the text of a number is; the laws of order and of sums. -/
namespace Go.Proofs.YtlobinjdgcidmaaGreatDoor.M
set_option linter.unusedVariables false

theorem dval_abs (t : List UInt8) : dval (unsign t) = (valD t).natAbs := by
  unfold valD
  split <;> omega
theorem txt_len (z : Int) (n : Nat) (h1 : 1 ≤ n) (h : z.natAbs < 10 ^ n) : (txt z).length ≤ n + 1 := by
  have ⟨hv, hr⟩ := val_txt z
  have hrow := row_unsign _ hr
  have hd := dval_abs (txt z)
  rw [hv] at hd
  have hl : (txt z).length ≤ (unsign (txt z)).length + 1 := by
    unfold unsign; split
    · rw [List.length_tail]; omega
    · omega
  by_cases h2 : 2 ≤ (unsign (txt z)).length
  · have h3 := row_ge _ hrow h2
    rw [hd] at h3
    have h4 := (Nat.pow_lt_pow_iff_right (by omega : 1 < 10)).1 (Nat.lt_of_le_of_lt h3 h)
    omega
  · omega
theorem add_right (a b : List UInt8) (ha : rightD a = true) (hb : rightD b = true) : addD a b = (txt (valD a + valD b), true) := by
  unfold addD; rw [ha, hb]; simp
end Go.Proofs.YtlobinjdgcidmaaGreatDoor.M

/- Decimals, plain mathematics: rows of digits that begin with the last one, cut of the noughts at their end; the decimal text of a number. -/
namespace Go.Proofs.YtlobinjdgcidmaaGreatDoor.M
open Go.RowKit
set_option linter.unusedVariables false
set_option linter.unusedSimpArgs false

def decS (n : Nat) : List UInt8 := if n = 0 then [48] else canon n
theorem decS_small (n : Nat) (h : n ≤ 9) : decS n = [ofD n] := by
  unfold decS
  split
  · rename_i h0; subst h0; decide
  · rename_i h0
    rw [canon_pos n h0, show n / 10 = 0 by omega, canon_zero, List.nil_append]
theorem decS_step (n : Nat) (h : 9 < n) : decS n = decS (n / 10) ++ [ofD n] := by
  unfold decS
  rw [if_neg (by omega), if_neg (by omega), canon_pos n (by omega)]
theorem txt_nat (n : Nat) : txt (n : Int) = decS n := by
  unfold txt decS
  by_cases h : n = 0
  · subst h; simp
  · rw [if_neg (by omega), if_neg (by omega), if_neg h]; simp
theorem txt_minus (n : Nat) (h : n ≠ 0) : txt (-(n : Int)) = 45 :: decS n := by
  unfold txt decS
  rw [if_neg (by omega), if_pos (by omega), if_neg h]; simp
theorem decS_ne (n : Nat) : decS n ≠ [] := by
  unfold decS; split
  · simp
  · exact canon_ne n (by assumption)
end Go.Proofs.YtlobinjdgcidmaaGreatDoor.M

/- Plain numbers and lists: how units of UTF-16 are written as a text of JSON. Nothing of the program is imported. -/
namespace Go.Proofs.YtlobinjdgcidmaaGreatDoor.M

def hexd (n : Nat) : UInt8 := if n < 10 then (48 + n).toUInt8 else (87 + n).toUInt8
def Sur (r : Nat) : Prop := 55296 ≤ r ∧ r < 57344
instance (r : Nat) : Decidable (Sur r) := by unfold Sur; infer_instance
def num6 (r : Nat) : List UInt8 := [92, 117, hexd (r / 4096), hexd (r / 256 % 16), hexd (r / 16 % 16), hexd (r % 16)]
def spel (r : Nat) : List UInt8 :=
  if r = 34 then [92, 34] else if r = 92 then [92, 92] else if r = 8 then [92, 98] else if r = 12 then [92, 102] else if r = 10 then [92, 110] else if r = 13 then [92, 114] else if r = 9 then [92, 116]
  else if r < 32 ∨ Sur r then num6 r else enc r
def isPair (u v : Nat) : Bool := decide (55296 ≤ u) && decide (u < 56320) && decide (56320 ≤ v) && decide (v < 57344)
theorem isPair_iff (u v : Nat) : isPair u v = true ↔ (55296 ≤ u ∧ u < 56320 ∧ 56320 ≤ v ∧ v < 57344) := by simp [isPair, and_assoc]
def joinU (u v : Nat) : Nat := 65536 + (u - 55296) * 1024 + (v - 56320)
def firstU : List Nat → Nat × Nat
  | [] => (0, 0)
  | [u] => (u, 1)
  | u :: v :: _ => if isPair u v then (joinU u v, 2) else (u, 1)
def body : List Nat → List UInt8
  | [] => []
  | [u] => spel u
  | u :: v :: t => if isPair u v then spel (joinU u v) ++ body t else spel u ++ body (v :: t)
def spell (l : List Nat) : List UInt8 := 34 :: (body l ++ [34])
def rightU (l : List Int) : Bool := l.all fun u => decide (0 ≤ u) && decide (u ≤ 65535)
theorem rightU_iff (l : List Int) : rightU l = true ↔ ∀ u ∈ l, 0 ≤ u ∧ u ≤ 65535 := by simp [rightU]

theorem join_lt (u v : Nat) (h : isPair u v = true) : 65536 ≤ joinU u v ∧ joinU u v ≤ 1114111 := by
  rw [isPair_iff] at h; unfold joinU; omega
theorem spel_join (u v : Nat) (h : isPair u v = true) : spel (joinU u v) = enc (joinU u v) := by
  have := join_lt u v h
  unfold spel Sur
  repeat rw [if_neg (by omega)]
theorem body_step (l : List Nat) (h : l ≠ []) : body l = spel (firstU l).1 ++ body (l.drop (firstU l).2) := by
  match l, h with
  | [u], _ => simp [body, firstU]
  | u :: v :: t, _ =>
    by_cases hp : isPair u v = true
    · simp [body, firstU, hp]
    · simp [body, firstU, hp]
theorem first_len (l : List Nat) (h : l ≠ []) : 1 ≤ (firstU l).2 ∧ (firstU l).2 ≤ l.length ∧ (firstU l).2 ≤ 2 := by
  match l, h with
  | [u], _ => simp [firstU]
  | u :: v :: t, _ =>
    by_cases hp : isPair u v = true
    · simp [firstU, hp]
    · simp [firstU, hp]
theorem first_val (l : List Nat) (h : ∀ u ∈ l, u ≤ 65535) : (firstU l).1 ≤ 1114111 ∧ (65536 ≤ (firstU l).1 ∨ (firstU l).1 ≤ 65535) := by
  match l, h with
  | [], _ => simp [firstU]
  | [u], h => have := h u (by simp); simp [firstU]; omega
  | u :: v :: t, h =>
    have := h u (by simp)
    by_cases hp : isPair u v = true
    · have := join_lt u v hp; simp only [firstU, if_pos hp]; omega
    · simp only [firstU, if_neg hp]; omega
theorem spel_len (r : Nat) : (spel r).length ≤ 6 ∧ 1 ≤ (spel r).length := by
  have h1 := enc_le r
  have h2 := enc_pos r
  unfold spel num6
  repeat' split
  all_goals first | (simp; done) | omega
theorem body_len (l : List Nat) : (body l).length ≤ 6 * l.length := by
  induction l using body.induct with
  | case1 => simp [body]
  | case2 u => have := spel_len u; simp only [body, List.length_cons, List.length_nil]; omega
  | case3 u v t hp ih =>
    have := spel_len (joinU u v)
    simp only [body, if_pos hp, List.length_append, List.length_cons]; omega
  | case4 u v t hp ih =>
    have := spel_len u
    simp only [body, if_neg hp, List.length_append, List.length_cons] at *; omega
end Go.Proofs.YtlobinjdgcidmaaGreatDoor.M

/- Plain numbers and lists: a text of JSON as the reference reads it: where it ends, which units it stands for. Nothing of the program is imported. -/
namespace Go.Proofs.YtlobinjdgcidmaaGreatDoor.M
set_option linter.unusedVariables false
set_option linter.unusedSimpArgs false

def hexV (c : UInt8) : Int := if 48 ≤ c.toNat ∧ c.toNat ≤ 57 then (c.toNat : Int) - 48 else if 97 ≤ c.toNat ∧ c.toNat ≤ 102 then (c.toNat : Int) - 87 else if 65 ≤ c.toNat ∧ c.toNat ≤ 70 then (c.toNat : Int) - 55 else -1
theorem hexV_lt (c : UInt8) : -1 ≤ hexV c ∧ hexV c ≤ 15 := by
  unfold hexV; repeat' split
  all_goals omega
def escL : List UInt8 := [34, 92, 47, 98, 102, 110, 114, 116]
def hexOk (t : List UInt8) (k : Nat) : Bool := decide (0 ≤ hexV (t.getD k 0))
def hex4ok (t : List UInt8) : Bool := hexOk t 0 && hexOk t 1 && hexOk t 2 && hexOk t 3
def jtS (l : List UInt8) : Option Nat :=
  match l with
  | [] => none
  | c :: t =>
    if c = 34 then some 1 else if c.toNat < 32 then none else if c ≠ 92 then (jtS t).map (· + 1)
    else if t.getD 0 0 = 117 then (if hex4ok (t.drop 1) then (jtS (t.drop 5)).map (· + 6) else none)
    else if t.getD 0 0 ∈ escL then (jtS (t.drop 1)).map (· + 2) else none
termination_by l.length
decreasing_by all_goals (simp; try omega)
theorem jtS_nil : jtS [] = none := by rw [jtS]
theorem jtS_cons (c : UInt8) (t : List UInt8) : jtS (c :: t) = if c = 34 then some 1 else if c.toNat < 32 then none else if c ≠ 92 then (jtS t).map (· + 1)
    else if t.getD 0 0 = 117 then (if hex4ok (t.drop 1) then (jtS (t.drop 5)).map (· + 6) else none)
    else if t.getD 0 0 ∈ escL then (jtS (t.drop 1)).map (· + 2) else none := by rw [jtS]
def hexN (t : List UInt8) (k : Nat) : Nat := (hexV (t.getD k 0)).toNat
def hex4 (t : List UInt8) : Nat := hexN t 0 * 4096 + hexN t 1 * 256 + hexN t 2 * 16 + hexN t 3
def escV (d : UInt8) : Nat := if d = 98 then 8 else if d = 102 then 12 else if d = 110 then 10 else if d = 114 then 13 else if d = 116 then 9 else d.toNat
def pairU (r : Nat) : List Nat := if r < 65536 then [r] else [55296 + (r - 65536) / 1024, 56320 + (r - 65536) % 1024]
def ulS (l : List UInt8) : List Nat :=
  match l with
  | [] => []
  | [_] => []
  | c :: d :: t =>
    if c ≠ 92 then pairU (dec (c :: d :: t)).1 ++ ulS ((c :: d :: t).drop (dec (c :: d :: t)).2)
    else if d = 117 then hex4 t :: ulS (t.drop 4)
    else escV d :: ulS t
termination_by l.length
decreasing_by
  · have := dec_width (c :: d :: t); simp only [List.length_drop, List.length_cons]; omega
  · simp; omega
  · simp; omega
theorem ulS_end (l : List UInt8) (h : l.length ≤ 1) : ulS l = [] := by
  match l with
  | [] => rw [ulS]
  | [_] => rw [ulS]
  | c :: d :: t => simp at h
theorem ulS_cp (c : UInt8) (t : List UInt8) (h : 0 < t.length) (hc : c ≠ 92) : ulS (c :: t) = pairU (dec (c :: t)).1 ++ ulS ((c :: t).drop (dec (c :: t)).2) := by
  match t, h with
  | d :: u, _ => rw [ulS, if_pos hc]
theorem ulS_hex (t : List UInt8) (h : t.getD 0 0 = 117) : ulS (92 :: t) = hex4 (t.drop 1) :: ulS (t.drop 5) := by
  match t with
  | [] => simp at h
  | d :: u =>
    simp at h; subst h
    rw [ulS, if_neg (by simp), if_pos rfl]; rfl
theorem ulS_esc (t : List UInt8) (h0 : 0 < t.length) (h : t.getD 0 0 ≠ 117) : ulS (92 :: t) = escV (t.getD 0 0) :: ulS (t.drop 1) := by
  match t, h0 with
  | d :: u, _ =>
    simp at h
    rw [ulS, if_neg (by simp), if_neg h]; rfl
theorem jtS_le (l : List UInt8) : ∀ n, jtS l = some n → 1 ≤ n ∧ n ≤ l.length := by
  induction l using jtS.induct with
  | case1 => intro n h; rw [jtS_nil] at h; exact absurd h (by simp)
  | case2 t => intro n h; rw [jtS_cons, if_pos rfl] at h; simp at h; subst h; simp
  | case3 c t h1 h2 => intro n h; rw [jtS_cons, if_neg h1, if_pos h2] at h; exact absurd h (by simp)
  | case4 c t h1 h2 h3 ih =>
    intro n h; rw [jtS_cons, if_neg h1, if_neg h2, if_pos h3] at h
    cases hh : jtS t with
    | none => rw [hh] at h; exact absurd h (by simp)
    | some m => rw [hh] at h; simp at h; have := ih m hh; simp; omega
  | case5 c t h1 h2 h3 h4 h5 ih =>
    intro n h; rw [jtS_cons, if_neg h1, if_neg h2, if_neg h3, if_pos h4, if_pos h5] at h
    cases hh : jtS (t.drop 5) with
    | none => rw [hh] at h; exact absurd h (by simp)
    | some m => rw [hh] at h; simp at h; have := ih m hh; simp at this ⊢; omega
  | case6 c t h1 h2 h3 h4 h5 => intro n h; rw [jtS_cons, if_neg h1, if_neg h2, if_neg h3, if_pos h4, if_neg h5] at h; exact absurd h (by simp)
  | case7 c t h1 h2 h3 h4 h5 ih =>
    intro n h; rw [jtS_cons, if_neg h1, if_neg h2, if_neg h3, if_neg h4, if_pos h5] at h
    cases hh : jtS (t.drop 1) with
    | none => rw [hh] at h; exact absurd h (by simp)
    | some m => rw [hh] at h; simp at h; have := ih m hh; simp at this ⊢; omega
  | case8 c t h1 h2 h3 h4 h5 => intro n h; rw [jtS_cons, if_neg h1, if_neg h2, if_neg h3, if_neg h4, if_neg h5] at h; exact absurd h (by simp)
end Go.Proofs.YtlobinjdgcidmaaGreatDoor.M

/- Plain numbers and lists: what is written of units is read as those units, and no text that stands for the same units is shorter. -/
namespace Go.Proofs.YtlobinjdgcidmaaGreatDoor.M
open Go.Lib
set_option linter.unusedVariables false
set_option linter.unusedSimpArgs false

theorem dec_cont (s : List UInt8) (h : (nx s).2.2 = true) : ∀ j, 1 ≤ j → j < (dec s).2 → 128 ≤ byte s j := by
  rw [nx_ok] at h
  intro j h1 h2
  unfold dec decodeN at h h2
  have h3 := byte_lt s 1
  repeat' split at h2
  all_goals
    simp only at h2
    first
      | omega
      | (have : j = 1 := by omega
         subst this; omega)
      | (have : j = 1 ∨ j = 2 := by omega
         rcases this with rfl | rfl <;> omega)
      | (have : j = 1 ∨ j = 2 ∨ j = 3 := by omega
         rcases this with rfl | rfl | rfl <;> omega)
theorem validAll_step (s : List UInt8) (h : 0 < s.length) : (validAll s).2 = ((nx s).2.2 && (validAll (s.drop (dec s).2)).2) := by
  unfold validAll
  cases hn : (nx s).2.2 with
  | false => rw [valid_bad _ _ _ h h (by simpa using hn)]; simp
  | true =>
    rw [valid_good _ _ _ h h (by simpa using hn)]
    simp only [List.drop_zero, Nat.zero_add, Bool.true_and]
    have hw := dec_width s
    have hl := dec_le s h
    obtain ⟨a, b, hab, ha⟩ : ∃ a b, s = a ++ b ∧ a.length = (dec s).2 := ⟨s.take (dec s).2, s.drop (dec s).2, by simp, by simp; omega⟩
    have hb : s.drop (dec s).2 = b := by rw [← ha, hab]; simp
    have := valid_shift a b (s.length - 1) 0
    rw [hb, ← ha]
    conv => lhs; rw [show valid (s.length - 1) s a.length = valid (s.length - 1) (a ++ b) (a.length + 0) by rw [← hab, Nat.add_zero]]
    rw [this]
    simp only
    rw [valid_fuel b (s.length - 1) b.length 0 (by have := congrArg List.length hab; simp at this; omega) (by omega)]
theorem jtS_high (h s : List UInt8) (hh : ∀ c ∈ h, 128 ≤ c.toNat) : jtS (h ++ s) = (jtS s).map (· + h.length) := by
  induction h with
  | nil => simp
  | cons c t ih =>
    have hc := hh c (by simp)
    rw [List.cons_append, jtS_cons, if_neg (by intro e; subst e; simp at hc), if_neg (by omega), if_pos (by intro e; subst e; simp at hc), ih (fun d hd => hh d (by simp [hd]))]
    rw [Option.map_map]
    congr 1
theorem byte_get (s : List UInt8) (j : Nat) (h : j < s.length) : byte s j = s[j].toNat := by unfold byte; simp [h]
theorem jt_cp (s : List UInt8) (h : jtS s = some s.length) (hl : 1 < s.length) (hv : (validAll s).2 = true) (hc : s.getD 0 0 ≠ 92) :
    s.getD 0 0 ≠ 34 ∧ 32 ≤ (s.getD 0 0).toNat ∧ (nx s).2.2 = true ∧ (dec s).2 < s.length ∧ jtS (s.drop (dec s).2) = some (s.drop (dec s).2).length ∧ (validAll (s.drop (dec s).2)).2 = true := by
  rw [validAll_step s (by omega), Bool.and_eq_true] at hv
  have hw := dec_width s
  have hdl := dec_le s (by omega)
  have hcont := dec_cont s hv.1
  match s, hl with
  | c :: t, hl =>
    simp only [List.getD_cons_zero] at hc ⊢
    rw [jtS_cons] at h
    by_cases h34 : c = 34
    · rw [if_pos h34] at h; simp at h; subst h; simp at hl
    · rw [if_neg h34] at h
      by_cases h32 : c.toNat < 32
      · rw [if_pos h32] at h; exact absurd h (by simp)
      · rw [if_neg h32, if_pos hc] at h
        obtain ⟨n, hn⟩ : ∃ n, (dec (c :: t)).2 = n + 1 := ⟨(dec (c :: t)).2 - 1, by omega⟩
        rw [hn] at hv hdl hcont ⊢
        simp only [List.drop_succ_cons] at hv ⊢
        have hsp : t = t.take n ++ t.drop n := by simp
        have hhi := jtS_high (t.take n) (t.drop n) (fun d hd => by
          obtain ⟨j, hj, rfl⟩ := List.getElem_of_mem hd
          simp only [List.length_take] at hj
          have := hcont (j + 1) (by omega) (by omega)
          rw [byte_get _ _ (by simp; omega)] at this
          simpa using this)
        rw [← hsp] at hhi
        rw [hhi] at h
        have hn2 : n ≤ t.length := by simp at hdl; omega
        cases hj : jtS (t.drop n) with
        | none => rw [hj] at h; exact absurd h (by simp)
        | some m =>
          rw [hj] at h
          simp at h
          have hm := jtS_le _ m hj
          refine ⟨h34, by omega, hv.1, ?_, ?_, hv.2⟩
          · simp at hm ⊢; omega
          · rw [List.length_drop]; congr 1; omega
theorem getD_in (t : List UInt8) (k : Nat) (h : t.getD k 0 ≠ 0) : k < t.length := by
  by_cases hk : k < t.length
  · exact hk
  · exact absurd (by simp [List.getD, List.getElem?_eq_none (Nat.le_of_not_lt hk)]) h
theorem hexOk_in (t : List UInt8) (k : Nat) (h : hexOk t k = true) : k < t.length ∧ 48 ≤ (t.getD k 0).toNat ∧ (t.getD k 0).toNat < 128 := by
  unfold hexOk at h
  have h2 := of_decide_eq_true h
  unfold hexV at h2
  have : 48 ≤ (t.getD k 0).toNat ∧ (t.getD k 0).toNat < 128 := by
    repeat' split at h2
    all_goals omega
  exact ⟨getD_in t k (by intro e; rw [e] at this; simp at this), this⟩
theorem nx_ascii (s : List UInt8) (h : 0 < s.length) (hb : (s.getD 0 0).toNat < 128) : (nx s).2.2 = true ∧ (dec s).2 = 1 ∧ (dec s).1 = (s.getD 0 0).toNat := by
  have hd : dec s = ((s.getD 0 0).toNat, 1) := by unfold dec decodeN byte; rw [if_pos hb]
  rw [nx_ok, hd]
  refine ⟨?_, rfl, rfl⟩
  intro e
  have := congrArg Prod.fst e
  simp only at this
  omega
theorem valid_ascii (s : List UInt8) (h : 0 < s.length) (hb : (s.getD 0 0).toNat < 128) : (validAll s).2 = (validAll (s.drop 1)).2 := by
  have := nx_ascii s h hb
  rw [validAll_step s h, this.1, this.2.1]; simp
theorem valid_asciis (k : Nat) (s : List UInt8) (h : k ≤ s.length) (hb : ∀ j, j < k → (s.getD j 0).toNat < 128) : (validAll s).2 = (validAll (s.drop k)).2 := by
  induction k generalizing s with
  | zero => simp
  | succ k ih =>
    rw [valid_ascii s (by omega) (hb 0 (by omega)), ih (s.drop 1) (by simp; omega) (fun j hj => by have := hb (j + 1) (by omega); simpa [List.getD, Nat.add_comm] using this)]
    rw [List.drop_drop, Nat.add_comm]
theorem jt_hex (t : List UInt8) (h : jtS (92 :: t) = some (t.length + 1)) (hv : (validAll (92 :: t)).2 = true) (h1 : t.getD 0 0 = 117) :
    5 < t.length ∧ hex4ok (t.drop 1) = true ∧ jtS (t.drop 5) = some (t.drop 5).length ∧ (validAll (t.drop 5)).2 = true := by
  rw [jtS_cons, if_neg (by decide), if_neg (by decide), if_neg (by simp), if_pos h1] at h
  cases h4 : hex4ok (t.drop 1) with
  | false => rw [h4] at h; exact absurd h (by simp)
  | true =>
    rw [h4, if_pos rfl] at h
    cases hj : jtS (t.drop 5) with
    | none => rw [hj] at h; exact absurd h (by simp)
    | some m =>
      rw [hj] at h
      simp at h
      have hm := jtS_le _ m hj
      rw [List.length_drop] at hm
      refine ⟨by omega, rfl, by rw [List.length_drop]; congr 1; omega, ?_⟩
      unfold hex4ok at h4
      simp only [Bool.and_eq_true] at h4
      have e : ∀ j, (t.drop 1).getD j 0 = t.getD (j + 1) 0 := fun j => by simp [List.getD, Nat.add_comm]
      have q0 := hexOk_in _ _ h4.1.1.1
      have q1 := hexOk_in _ _ h4.1.1.2
      have q2 := hexOk_in _ _ h4.1.2
      have q3 := hexOk_in _ _ h4.2
      rw [e] at q0 q1 q2 q3
      simp only [Nat.zero_add, Nat.reduceAdd] at q0 q1 q2 q3
      rw [valid_asciis 6 (92 :: t) (by simp; omega) (fun j hj => by
        have : j = 0 ∨ j = 1 ∨ j = 2 ∨ j = 3 ∨ j = 4 ∨ j = 5 := by omega
        rcases this with rfl | rfl | rfl | rfl | rfl | rfl
        · simp
        · simp only [List.getD_cons_succ]; rw [h1]; decide
        · simp only [List.getD_cons_succ]; omega
        · simp only [List.getD_cons_succ]; omega
        · simp only [List.getD_cons_succ]; omega
        · simp only [List.getD_cons_succ]; omega)] at hv
      simpa using hv
theorem jt_esc (t : List UInt8) (h : jtS (92 :: t) = some (t.length + 1)) (hv : (validAll (92 :: t)).2 = true) (h1 : t.getD 0 0 ≠ 117) :
    1 < t.length ∧ t.getD 0 0 ∈ escL ∧ jtS (t.drop 1) = some (t.drop 1).length ∧ (validAll (t.drop 1)).2 = true := by
  rw [jtS_cons, if_neg (by decide), if_neg (by decide), if_neg (by simp), if_neg h1] at h
  by_cases h2 : t.getD 0 0 ∈ escL
  · rw [if_pos h2] at h
    cases hj : jtS (t.drop 1) with
    | none => rw [hj] at h; exact absurd h (by simp)
    | some m =>
      rw [hj] at h
      simp at h
      have hm := jtS_le _ m hj
      rw [List.length_drop] at hm
      refine ⟨by omega, h2, by rw [List.length_drop]; congr 1; omega, ?_⟩
      have hlow : (t.getD 0 0).toNat < 128 := by
        revert h2; generalize t.getD 0 0 = d
        unfold escL; intro h2
        simp only [List.mem_cons, List.mem_nil_iff, or_false] at h2
        rcases h2 with rfl | rfl | rfl | rfl | rfl | rfl | rfl | rfl <;> decide
      rw [valid_asciis 2 (92 :: t) (by simp; omega) (fun j hj => by
        have : j = 0 ∨ j = 1 := by omega
        rcases this with rfl | rfl
        · simp
        · simpa using hlow)] at hv
      simpa using hv
  · rw [if_neg h2] at h; exact absurd h (by simp)
end Go.Proofs.YtlobinjdgcidmaaGreatDoor.M

/- Plain numbers and lists: tokens of JSON, as they stand in a list of bytes. Nothing of the program is imported. -/
namespace Go.Proofs.YtlobinjdgcidmaaGreatDoor.M
open Go.Lib
set_option linter.unusedVariables false
set_option linter.unusedSimpArgs false

def blB (c : UInt8) : Bool := c == 32 || c == 9 || c == 10 || c == 13
def dgB (c : UInt8) : Bool := decide (48 ≤ c.toNat) && decide (c.toNat ≤ 57)
def goB (c : UInt8) : Bool := dgB c || (decide (97 ≤ c.toNat) && decide (c.toNat ≤ 122)) || (decide (65 ≤ c.toNat) && decide (c.toNat ≤ 90)) || c == 46 || c == 43 || c == 45 || c == 95
def lead : List UInt8 → Nat
  | [] => 0
  | c :: t => if blB c then lead t + 1 else 0
def run : List UInt8 → Nat
  | [] => 0
  | c :: t => if dgB c then run t + 1 else 0
def frac (s : List UInt8) : Nat := if s.getD 0 0 = 46 ∧ dgB (s.getD 1 0) = true then 1 + run (s.drop 1) else 0
def sgnQ (s : List UInt8) : Nat := if s.getD 1 0 = 43 ∨ s.getD 1 0 = 45 then 2 else 1
def expo (s : List UInt8) : Nat := if s.getD 0 0 = 101 ∨ s.getD 0 0 = 69 then (if dgB (s.getD (sgnQ s) 0) = true then sgnQ s + run (s.drop (sgnQ s)) else 0) else 0
def neg (s : List UInt8) : Nat := if s.getD 0 0 = 45 then 1 else 0
def whole (s : List UInt8) : Nat := if s.getD 0 0 = 48 then 1 else run s
def numL (s : List UInt8) : Option Nat :=
  if dgB (s.getD (neg s) 0) = true then
    (let a := neg s + whole (s.drop (neg s))
     let b := a + frac (s.drop a)
     let c := b + expo (s.drop b)
     if goB (s.getD c 0) = true then none else some c)
  else none
def tru : List UInt8 := [116, 114, 117, 101]
def fls : List UInt8 := [102, 97, 108, 115, 101]
def nul : List UInt8 := [110, 117, 108, 108]
def wordL (nm s : List UInt8) (k : Nat) : Option (Nat × Nat) := if s.take nm.length = nm ∧ goB (s.getD nm.length 0) = false then some (k, nm.length) else none
def tokL (s : List UInt8) : Option (Nat × Nat) :=
  if s.getD 0 0 = 123 then some (1, 1) else if s.getD 0 0 = 125 then some (2, 1) else if s.getD 0 0 = 91 then some (3, 1) else if s.getD 0 0 = 93 then some (4, 1)
  else if s.getD 0 0 = 58 then some (5, 1) else if s.getD 0 0 = 44 then some (6, 1)
  else if s.getD 0 0 = 34 then (jtS (s.drop 1)).map fun n => (7, n + 1)
  else if s.getD 0 0 = 116 then wordL tru s 9 else if s.getD 0 0 = 102 then wordL fls s 10 else if s.getD 0 0 = 110 then wordL nul s 11
  else (numL s).map fun n => (8, n)
abbrev Toks := List (Nat × Nat × Nat)
def lexF : Nat → List UInt8 → Nat → Except Nat Toks
  | 0, _, _ => .ok []
  | f + 1, s, p =>
    if s.length ≤ lead s then .ok [] else
    match tokL (s.drop (lead s)) with
    | none => .error (p + lead s)
    | some (k, m) => match lexF f (s.drop (lead s + m)) (p + (lead s + m)) with
      | .error e => .error e
      | .ok r => .ok ((k, p + lead s, p + (lead s + m)) :: r)
def lexS (s : List UInt8) (p : Nat) : Except Nat Toks := lexF (s.length + 1) s p

theorem drop_getD (s : List UInt8) (a j : Nat) : (s.drop a).getD j 0 = s.getD (a + j) 0 := by simp [List.getD]
theorem lead_le (s : List UInt8) : lead s ≤ s.length := by
  induction s with
  | nil => simp [lead]
  | cons c t ih => unfold lead; split <;> simp <;> omega
theorem lead_bl (s : List UInt8) : ∀ j, j < lead s → blB (s.getD j 0) = true := by
  induction s with
  | nil => intro j h; simp [lead] at h
  | cons c t ih =>
    intro j h
    unfold lead at h
    split at h
    · cases j with
      | zero => simpa using by assumption
      | succ j => simpa using ih j (by omega)
    · omega
theorem lead_of (s : List UInt8) (n : Nat) (h : ∀ j, j < n → blB (s.getD j 0) = true) (hn : blB (s.getD n 0) = false) : lead s = n := by
  induction s generalizing n with
  | nil =>
    cases n with
    | zero => rfl
    | succ n => exact absurd (h 0 (by omega)) (by decide)
  | cons c t ih =>
    cases n with
    | zero => simp at hn; simp [lead, hn]
    | succ n =>
      have h0 := h 0 (by omega)
      simp at h0
      unfold lead
      rw [if_pos h0, ih n (fun j hj => by simpa using h (j + 1) (by omega)) (by simpa using hn)]
theorem lead_drop (s : List UInt8) (m : Nat) (h : m ≤ lead s) : lead (s.drop m) = lead s - m := by
  induction m generalizing s with
  | zero => simp
  | succ m ih =>
    match s with
    | [] => simp [lead] at h
    | c :: t =>
      by_cases hc : blB c = true
      · have e : lead (c :: t) = lead t + 1 := by simp [lead, hc]
        rw [e] at h ⊢
        rw [List.drop_succ_cons, ih t (by omega)]; omega
      · have e : lead (c :: t) = 0 := by simp [lead, hc]
        omega
theorem run_iff (s : List UInt8) (r : Nat) : run s = r ↔ (∀ j, j < r → dgB (s.getD j 0) = true) ∧ dgB (s.getD r 0) = false := by
  induction s generalizing r with
  | nil =>
    constructor
    · intro h; simp [run] at h; subst h; exact ⟨fun j h => by omega, by decide⟩
    · intro h
      cases r with
      | zero => rfl
      | succ r => exact absurd (h.1 0 (by omega)) (by decide)
  | cons c t ih =>
    by_cases hc : dgB c = true
    · have e : run (c :: t) = run t + 1 := by simp [run, hc]
      rw [e]
      cases r with
      | zero => simp [hc]
      | succ r =>
        rw [Nat.add_right_cancel_iff, ih]
        constructor
        · rintro ⟨h1, h2⟩
          refine ⟨fun j hj => ?_, by simpa using h2⟩
          cases j with
          | zero => simpa using hc
          | succ j => simpa using h1 j (by omega)
        · rintro ⟨h1, h2⟩
          exact ⟨fun j hj => by simpa using h1 (j + 1) (by omega), by simpa using h2⟩
    · have e : run (c :: t) = 0 := by simp [run, hc]
      rw [e]
      constructor
      · intro h; subst h; exact ⟨fun j h => by omega, by simpa using hc⟩
      · rintro ⟨h1, h2⟩
        cases r with
        | zero => rfl
        | succ r => exact absurd (by simpa using h1 0 (by omega)) hc
theorem run_le (s : List UInt8) : run s ≤ s.length := by
  induction s with
  | nil => simp [run]
  | cons c t ih => unfold run; split <;> simp <;> omega
theorem dg_in (s : List UInt8) (k : Nat) (h : dgB (s.getD k 0) = true) : k < s.length := getD_in s k (by intro e; rw [e] at h; exact absurd h (by decide))
theorem dg_go (c : UInt8) (h : goB c = false) : dgB c = false := by
  unfold goB at h
  simp only [Bool.or_eq_false_iff] at h
  exact h.1.1.1.1.1.1
theorem run_pos (s : List UInt8) (h : dgB (s.getD 0 0) = true) : 1 ≤ run s := by
  cases hr : run s with
  | zero => exact absurd ((run_iff s 0).1 hr).2 (by rw [h]; simp)
  | succ n => omega
theorem frac_le (s : List UInt8) : frac s ≤ s.length := by
  unfold frac
  split
  · have h := run_le (s.drop 1)
    rename_i hh
    have := dg_in s 1 hh.2
    rw [List.length_drop] at h; omega
  · omega
theorem sgn_two (s : List UInt8) : sgnQ s = 1 ∨ sgnQ s = 2 := by unfold sgnQ; split <;> simp
theorem expo_le (s : List UInt8) : expo s ≤ s.length := by
  unfold expo
  split
  · split
    · have h := run_le (s.drop (sgnQ s))
      rename_i hh
      have := dg_in s _ hh
      rw [List.length_drop] at h; omega
    · omega
  · omega
theorem neg_two (s : List UInt8) : neg s = 0 ∨ neg s = 1 := by unfold neg; split <;> simp
theorem whole_le (s : List UInt8) (h : dgB (s.getD 0 0) = true) : 1 ≤ whole s ∧ whole s ≤ s.length := by
  have := dg_in s 0 h
  unfold whole
  split
  · omega
  · exact ⟨run_pos s h, run_le s⟩
theorem numL_le (s : List UInt8) (n : Nat) (h : numL s = some n) : 1 ≤ n ∧ n ≤ s.length := by
  unfold numL at h
  split at h
  · rename_i hd
    have h0 : dgB ((s.drop (neg s)).getD 0 0) = true := by rw [drop_getD]; exact hd
    have h1 := whole_le _ h0
    have hin := dg_in s _ hd
    rw [List.length_drop] at h1
    have h2 := frac_le (s.drop (neg s + whole (s.drop (neg s))))
    rw [List.length_drop] at h2
    have h3 := expo_le (s.drop (neg s + whole (s.drop (neg s)) + frac (s.drop (neg s + whole (s.drop (neg s))))))
    rw [List.length_drop] at h3
    simp only at h
    split at h
    · exact absurd h (by simp)
    · simp only [Option.some.injEq] at h
      omega
  · exact absurd h (by simp)
theorem wordL_le (nm s : List UInt8) (k : Nat) (hn : 1 ≤ nm.length) (k' n : Nat) (h : wordL nm s k = some (k', n)) : k' = k ∧ n = nm.length ∧ s.take n = nm ∧ goB (s.getD n 0) = false ∧ n ≤ s.length := by
  unfold wordL at h
  split at h
  · rename_i hh
    simp only [Option.some.injEq, Prod.mk.injEq] at h
    obtain ⟨rfl, rfl⟩ := h
    refine ⟨rfl, rfl, hh.1, hh.2, ?_⟩
    have := congrArg List.length hh.1
    rw [List.length_take] at this; omega
  · exact absurd h (by simp)
theorem tok_cases (s : List UInt8) (k n : Nat) (h : tokL s = some (k, n)) :
    (k ≤ 6 ∧ 1 ≤ k ∧ n = 1 ∧ ∀ t, t.getD 0 0 = s.getD 0 0 → tokL t = some (k, 1)) ∨
    (k = 7 ∧ s.getD 0 0 = 34 ∧ ∃ m, jtS (s.drop 1) = some m ∧ n = m + 1) ∨
    (∃ nm, (nm = tru ∧ k = 9 ∨ nm = fls ∧ k = 10 ∨ nm = nul ∧ k = 11) ∧ wordL nm s k = some (k, n) ∧ (∀ t, t.getD 0 0 = s.getD 0 0 → tokL t = wordL nm t k)) ∨
    (k = 8 ∧ numL s = some n ∧ ∀ t, t.getD 0 0 = s.getD 0 0 → tokL t = (numL t).map fun n => (8, n)) := by
  have h' := h
  unfold tokL at h
  by_cases c1 : s.getD 0 0 = 123
  · rw [if_pos c1] at h; simp only [Option.some.injEq, Prod.mk.injEq] at h; obtain ⟨rfl, rfl⟩ := h
    exact .inl ⟨by omega, by omega, rfl, fun t ht => by unfold tokL; rw [ht, if_pos c1]⟩
  rw [if_neg c1] at h
  by_cases c2 : s.getD 0 0 = 125
  · rw [if_pos c2] at h; simp only [Option.some.injEq, Prod.mk.injEq] at h; obtain ⟨rfl, rfl⟩ := h
    exact .inl ⟨by omega, by omega, rfl, fun t ht => by unfold tokL; rw [ht, if_neg c1, if_pos c2]⟩
  rw [if_neg c2] at h
  by_cases c3 : s.getD 0 0 = 91
  · rw [if_pos c3] at h; simp only [Option.some.injEq, Prod.mk.injEq] at h; obtain ⟨rfl, rfl⟩ := h
    exact .inl ⟨by omega, by omega, rfl, fun t ht => by unfold tokL; rw [ht, if_neg c1, if_neg c2, if_pos c3]⟩
  rw [if_neg c3] at h
  by_cases c4 : s.getD 0 0 = 93
  · rw [if_pos c4] at h; simp only [Option.some.injEq, Prod.mk.injEq] at h; obtain ⟨rfl, rfl⟩ := h
    exact .inl ⟨by omega, by omega, rfl, fun t ht => by unfold tokL; rw [ht, if_neg c1, if_neg c2, if_neg c3, if_pos c4]⟩
  rw [if_neg c4] at h
  by_cases c5 : s.getD 0 0 = 58
  · rw [if_pos c5] at h; simp only [Option.some.injEq, Prod.mk.injEq] at h; obtain ⟨rfl, rfl⟩ := h
    exact .inl ⟨by omega, by omega, rfl, fun t ht => by unfold tokL; rw [ht, if_neg c1, if_neg c2, if_neg c3, if_neg c4, if_pos c5]⟩
  rw [if_neg c5] at h
  by_cases c6 : s.getD 0 0 = 44
  · rw [if_pos c6] at h; simp only [Option.some.injEq, Prod.mk.injEq] at h; obtain ⟨rfl, rfl⟩ := h
    exact .inl ⟨by omega, by omega, rfl, fun t ht => by unfold tokL; rw [ht, if_neg c1, if_neg c2, if_neg c3, if_neg c4, if_neg c5, if_pos c6]⟩
  rw [if_neg c6] at h
  by_cases c7 : s.getD 0 0 = 34
  · rw [if_pos c7] at h
    right; left
    cases hj : jtS (s.drop 1) with
    | none => rw [hj] at h; exact absurd h (by simp)
    | some m => rw [hj] at h; simp at h; exact ⟨h.1.symm, c7, m, rfl, h.2.symm⟩
  rw [if_neg c7] at h
  by_cases c8 : s.getD 0 0 = 116
  · rw [if_pos c8] at h
    obtain ⟨rfl, _⟩ := wordL_le tru s 9 (by decide) k n h
    exact .inr (.inr (.inl ⟨tru, .inl ⟨rfl, rfl⟩, h, fun t ht => by unfold tokL; rw [ht, if_neg c1, if_neg c2, if_neg c3, if_neg c4, if_neg c5, if_neg c6, if_neg c7, if_pos c8]⟩))
  rw [if_neg c8] at h
  by_cases c9 : s.getD 0 0 = 102
  · rw [if_pos c9] at h
    obtain ⟨rfl, _⟩ := wordL_le fls s 10 (by decide) k n h
    exact .inr (.inr (.inl ⟨fls, .inr (.inl ⟨rfl, rfl⟩), h, fun t ht => by unfold tokL; rw [ht, if_neg c1, if_neg c2, if_neg c3, if_neg c4, if_neg c5, if_neg c6, if_neg c7, if_neg c8, if_pos c9]⟩))
  rw [if_neg c9] at h
  by_cases c10 : s.getD 0 0 = 110
  · rw [if_pos c10] at h
    obtain ⟨rfl, _⟩ := wordL_le nul s 11 (by decide) k n h
    exact .inr (.inr (.inl ⟨nul, .inr (.inr ⟨rfl, rfl⟩), h, fun t ht => by unfold tokL; rw [ht, if_neg c1, if_neg c2, if_neg c3, if_neg c4, if_neg c5, if_neg c6, if_neg c7, if_neg c8, if_neg c9, if_pos c10]⟩))
  rw [if_neg c10] at h
  right; right; right
  cases hj : numL s with
  | none => rw [hj] at h; exact absurd h (by simp)
  | some m =>
    rw [hj] at h; simp at h
    exact ⟨h.1.symm, by rw [h.2], fun t ht => by unfold tokL; rw [ht, if_neg c1, if_neg c2, if_neg c3, if_neg c4, if_neg c5, if_neg c6, if_neg c7, if_neg c8, if_neg c9, if_neg c10]⟩
theorem tok_le (s : List UInt8) (h0 : 0 < s.length) (k n : Nat) (h : tokL s = some (k, n)) : 1 ≤ n ∧ n ≤ s.length ∧ 1 ≤ k ∧ k ≤ 11 := by
  rcases tok_cases s k n h with ⟨h1, h2, rfl, _⟩ | ⟨rfl, _, m, hm, rfl⟩ | ⟨nm, hnm, hw, _⟩ | ⟨rfl, hn, _⟩
  · omega
  · have := jtS_le _ m hm
    rw [List.length_drop] at this; omega
  · rcases hnm with ⟨rfl, rfl⟩ | ⟨rfl, rfl⟩ | ⟨rfl, rfl⟩
    · obtain ⟨_, rfl, _, _, hl⟩ := wordL_le tru s 9 (by decide) _ n hw
      exact ⟨by decide, hl, by omega, by omega⟩
    · obtain ⟨_, rfl, _, _, hl⟩ := wordL_le fls s 10 (by decide) _ n hw
      exact ⟨by decide, hl, by omega, by omega⟩
    · obtain ⟨_, rfl, _, _, hl⟩ := wordL_le nul s 11 (by decide) _ n hw
      exact ⟨by decide, hl, by omega, by omega⟩
  · have := numL_le s n hn
    omega
theorem numL_goes (s : List UInt8) (n : Nat) (h : numL s = some n) : goB (s.getD n 0) = false := by
  unfold numL at h
  split at h
  · simp only at h
    split at h
    · exact absurd h (by simp)
    · rename_i hg
      simp only [Option.some.injEq] at h
      rw [← h]
      simpa using hg
  · exact absurd h (by simp)
theorem tok_goes (s : List UInt8) (k n : Nat) (h : tokL s = some (k, n)) (hk : 7 < k) : goB (s.getD n 0) = false := by
  rcases tok_cases s k n h with ⟨h1, h2, rfl, _⟩ | ⟨rfl, _⟩ | ⟨nm, hnm, hw, _⟩ | ⟨rfl, hn, _⟩
  · omega
  · omega
  · have hp : 1 ≤ nm.length := by rcases hnm with ⟨rfl, _⟩ | ⟨rfl, _⟩ | ⟨rfl, _⟩ <;> decide
    exact (wordL_le nm s k hp k n hw).2.2.2.1
  · exact numL_goes s n hn

theorem lexF_fuel (f g : Nat) (s : List UInt8) (p : Nat) (hf : s.length < f) (hg : s.length < g) : lexF f s p = lexF g s p := by
  induction f generalizing g s p with
  | zero => omega
  | succ f ih =>
    cases g with
    | zero => omega
    | succ g =>
      unfold lexF
      by_cases hle : s.length ≤ lead s
      · rw [if_pos hle, if_pos hle]
      · rw [if_neg hle, if_neg hle]
        cases ht : tokL (s.drop (lead s)) with
        | none => rfl
        | some km =>
          obtain ⟨k, m⟩ := km
          have hm := tok_le (s.drop (lead s)) (by simp; omega) k m ht
          rw [List.length_drop] at hm
          simp only
          rw [ih g (s.drop (lead s + m)) (p + (lead s + m)) (by simp; omega) (by simp; omega)]
theorem lexS_end (s : List UInt8) (p : Nat) (h : s.length ≤ lead s) : lexS s p = .ok [] := by unfold lexS lexF; rw [if_pos h]
theorem lexS_bad (s : List UInt8) (p : Nat) (h : lead s < s.length) (ht : tokL (s.drop (lead s)) = none) : lexS s p = .error (p + lead s) := by
  unfold lexS lexF; rw [if_neg (by omega), ht]
theorem lexS_in (s : List UInt8) (p k m : Nat) (h : lead s < s.length) (ht : tokL (s.drop (lead s)) = some (k, m)) :
    lexS s p = match lexS (s.drop (lead s + m)) (p + (lead s + m)) with
      | .error e => .error e
      | .ok r => .ok ((k, p + lead s, p + (lead s + m)) :: r) := by
  have hm := tok_le (s.drop (lead s)) (by simp; omega) k m ht
  rw [List.length_drop] at hm
  conv => lhs; unfold lexS lexF
  rw [if_neg (by omega), ht]
  simp only
  rw [lexF_fuel s.length ((s.drop (lead s + m)).length + 1) (s.drop (lead s + m)) (p + (lead s + m)) (by simp; omega) (by omega)]
  rfl
theorem lexS_skip (s : List UInt8) (p m : Nat) (h : m ≤ lead s) : lexS s p = lexS (s.drop m) (p + m) := by
  have hl := lead_le s
  have hd := lead_drop s m h
  by_cases hle : s.length ≤ lead s
  · rw [lexS_end s p hle, lexS_end (s.drop m) (p + m) (by rw [hd, List.length_drop]; omega)]
  · have e : (s.drop m).drop (lead (s.drop m)) = s.drop (lead s) := by rw [hd, List.drop_drop]; congr 1; omega
    cases ht : tokL (s.drop (lead s)) with
    | none => rw [lexS_bad s p (by omega) ht, lexS_bad (s.drop m) (p + m) (by rw [hd, List.length_drop]; omega) (by rw [e]; exact ht)]; congr 1; omega
    | some km =>
      obtain ⟨k, n⟩ := km
      rw [lexS_in s p k n (by omega) ht, lexS_in (s.drop m) (p + m) k n (by rw [hd, List.length_drop]; omega) (by rw [e]; exact ht)]
      rw [hd, List.drop_drop, show m + (lead s - m + n) = lead s + n by omega, show p + m + (lead s - m + n) = p + (lead s + n) by omega, show p + m + (lead s - m) = p + lead s by omega]
end Go.Proofs.YtlobinjdgcidmaaGreatDoor.M

/- Plain numbers and lists: a token is the same whatever stands behind it, but what goes on with it; texts with a blank between. -/
namespace Go.Proofs.YtlobinjdgcidmaaGreatDoor.M
open Go.Lib
set_option linter.unusedVariables false
set_option linter.unusedSimpArgs false

theorem take_getD (s t : List UInt8) (n j : Nat) (hj : j < n) (hn : n ≤ s.length) : (s.take n ++ t).getD j 0 = s.getD j 0 := by
  have h1 : j < s.length := by omega
  have h2 : j < (s.take n).length := by rw [List.length_take]; omega
  simp only [List.getD, List.getElem?_append_left h2]
  rw [List.getElem?_take_of_lt hj]
theorem take_getD_n (s t : List UInt8) (n : Nat) (hn : n ≤ s.length) : (s.take n ++ t).getD n 0 = t.getD 0 0 := by
  have h2 : (s.take n).length = n := by rw [List.length_take]; omega
  simp only [List.getD]
  rw [List.getElem?_append_right (by omega), h2, Nat.sub_self]
theorem take_drop (s t : List UInt8) (n m : Nat) (hm : m ≤ n) (hn : n ≤ s.length) : (s.take n ++ t).drop m = (s.drop m).take (n - m) ++ t := by
  rw [List.drop_append_of_le_length (by rw [List.length_take]; omega), List.drop_take]
theorem jtS_local (N : Nat) : ∀ s : List UInt8, s.length ≤ N → ∀ n t, jtS s = some n → jtS (s.take n ++ t) = some n := by
  induction N with
  | zero => intro s hs n t h; have : s = [] := List.length_eq_zero_iff.1 (by omega); subst this; rw [jtS_nil] at h; exact absurd h (by simp)
  | succ N ih =>
    intro s hs n t h
    match s with
    | [] => rw [jtS_nil] at h; exact absurd h (by simp)
    | c :: u =>
      have hle := jtS_le _ n h
      obtain ⟨k, rfl⟩ : ∃ k, n = k + 1 := ⟨n - 1, by omega⟩
      simp only [List.length_cons] at hle hs
      rw [List.take_succ_cons, List.cons_append, jtS_cons]
      rw [jtS_cons] at h
      by_cases h34 : c = 34
      · rw [if_pos h34] at h ⊢; exact h
      rw [if_neg h34] at h ⊢
      by_cases h32 : c.toNat < 32
      · rw [if_pos h32] at h; exact absurd h (by simp)
      rw [if_neg h32] at h ⊢
      by_cases h92 : c ≠ 92
      · rw [if_pos h92] at h ⊢
        cases hj : jtS u with
        | none => rw [hj] at h; exact absurd h (by simp)
        | some m =>
          rw [hj] at h; simp at h; subst h
          rw [ih u (by omega) m t hj]; rfl
      rw [if_neg h92] at h ⊢
      by_cases h117 : u.getD 0 0 = 117
      · rw [if_pos h117] at h
        cases h4 : hex4ok (u.drop 1) with
        | false => rw [h4] at h; exact absurd h (by simp)
        | true =>
          rw [h4, if_pos rfl] at h
          cases hj : jtS (u.drop 5) with
          | none => rw [hj] at h; exact absurd h (by simp)
          | some m =>
            rw [hj] at h; simp at h
            have hm := jtS_le _ m hj
            rw [List.length_drop] at hm
            have hk : k = m + 5 := by omega
            subst hk
            rw [if_pos (by rw [take_getD u t _ 0 (by omega) (by omega)]; exact h117)]
            have e4 : hex4ok ((u.take (m + 5) ++ t).drop 1) = true := by
              rw [← h4]
              unfold hex4ok hexOk
              simp only [drop_getD]
              rw [take_getD u t _ _ (by omega) (by omega), take_getD u t _ _ (by omega) (by omega), take_getD u t _ _ (by omega) (by omega), take_getD u t _ _ (by omega) (by omega)]
            rw [if_pos e4, take_drop u t (m + 5) 5 (by omega) (by omega), Nat.add_sub_cancel, ih (u.drop 5) (by rw [List.length_drop]; omega) m t hj]
            rfl
      · rw [if_neg h117] at h
        by_cases he : u.getD 0 0 ∈ escL
        · rw [if_pos he] at h
          cases hj : jtS (u.drop 1) with
          | none => rw [hj] at h; exact absurd h (by simp)
          | some m =>
            rw [hj] at h; simp at h
            have hm := jtS_le _ m hj
            rw [List.length_drop] at hm
            have hk : k = m + 1 := by omega
            subst hk
            rw [if_neg (by rw [take_getD u t _ 0 (by omega) (by omega)]; exact h117), if_pos (by rw [take_getD u t _ 0 (by omega) (by omega)]; exact he)]
            rw [take_drop u t (m + 1) 1 (by omega) (by omega), Nat.add_sub_cancel, ih (u.drop 1) (by rw [List.length_drop]; omega) m t hj]
            rfl
        · rw [if_neg he] at h; exact absurd h (by simp)

def Ag (n : Nat) (s t : List UInt8) : Prop := (∀ j, j < n → t.getD j 0 = s.getD j 0) ∧ goB (s.getD n 0) = false ∧ goB (t.getD n 0) = false
theorem ag_dg {n : Nat} {s t : List UInt8} (h : Ag n s t) (j : Nat) (hj : j ≤ n) : dgB (t.getD j 0) = dgB (s.getD j 0) := by
  by_cases hlt : j < n
  · rw [h.1 j hlt]
  · obtain rfl : j = n := by omega
    rw [dg_go _ h.2.1, dg_go _ h.2.2]
theorem ag_eq {n : Nat} {s t : List UInt8} (h : Ag n s t) (c : UInt8) (hc : goB c = true) (j : Nat) (hj : j ≤ n) : t.getD j 0 = c ↔ s.getD j 0 = c := by
  by_cases hlt : j < n
  · rw [h.1 j hlt]
  · obtain rfl : j = n := by omega
    constructor
    · intro e; have := h.2.2; rw [e, hc] at this; exact absurd this (by simp)
    · intro e; have := h.2.1; rw [e, hc] at this; exact absurd this (by simp)
theorem ag_lt {n : Nat} {s t : List UInt8} (h : Ag n s t) (c : UInt8) (hc : goB c = true) (j : Nat) (hj : j ≤ n) (e : s.getD j 0 = c) : j < n := by
  rcases Nat.lt_or_ge j n with hlt | hge
  · exact hlt
  · obtain rfl : j = n := by omega
    have := h.2.1; rw [e, hc] at this; exact absurd this (by simp)
theorem ag_run {n : Nat} {s t : List UInt8} (h : Ag n s t) (a : Nat) (ha : a + run (s.drop a) ≤ n) : run (t.drop a) = run (s.drop a) := by
  rw [run_iff]
  obtain ⟨h1, h2⟩ := (run_iff (s.drop a) _).1 rfl
  refine ⟨fun j hj => ?_, ?_⟩
  · rw [drop_getD, ag_dg h _ (by omega), ← drop_getD]; exact h1 j hj
  · rw [drop_getD, ag_dg h _ ha, ← drop_getD]; exact h2
theorem ag_frac {n : Nat} {s t : List UInt8} (h : Ag n s t) (a : Nat) (ha : a + frac (s.drop a) ≤ n) : frac (t.drop a) = frac (s.drop a) := by
  have ha0 : a ≤ n := by omega
  unfold frac at ha ⊢
  simp only [drop_getD, Nat.add_zero, List.drop_drop] at ha ⊢
  by_cases h46 : s.getD a 0 = 46
  · have hlt := ag_lt h 46 (by decide) a ha0 h46
    have e1 := (ag_eq h 46 (by decide) a ha0).2 h46
    have e2 := ag_dg h (a + 1) (by omega)
    by_cases hd : dgB (s.getD (a + 1) 0) = true
    · rw [if_pos ⟨h46, hd⟩] at ha
      rw [if_pos ⟨e1, by rw [e2]; exact hd⟩, if_pos ⟨h46, hd⟩, ag_run h (a + 1) (by omega)]
    · rw [if_neg (fun hh => hd (by rw [← e2]; exact hh.2)), if_neg (fun hh => hd hh.2)]
  · rw [if_neg (fun hh => h46 ((ag_eq h 46 (by decide) a ha0).1 hh.1)), if_neg (fun hh => h46 hh.1)]
theorem ag_sgn {n : Nat} {s t : List UInt8} (h : Ag n s t) (a : Nat) (ha : a + 1 ≤ n) : sgnQ (t.drop a) = sgnQ (s.drop a) := by
  unfold sgnQ
  simp only [drop_getD]
  by_cases hh : s.getD (a + 1) 0 = 43 ∨ s.getD (a + 1) 0 = 45
  · rw [if_pos (by rwa [ag_eq h 43 (by decide) _ ha, ag_eq h 45 (by decide) _ ha]), if_pos hh]
  · rw [if_neg (by rwa [ag_eq h 43 (by decide) _ ha, ag_eq h 45 (by decide) _ ha]), if_neg hh]
theorem ag_expo {n : Nat} {s t : List UInt8} (h : Ag n s t) (a : Nat) (ha : a + expo (s.drop a) ≤ n) : expo (t.drop a) = expo (s.drop a) := by
  have ha0 : a ≤ n := by omega
  unfold expo at ha ⊢
  simp only [drop_getD, Nat.add_zero, List.drop_drop] at ha ⊢
  by_cases he : s.getD a 0 = 101 ∨ s.getD a 0 = 69
  · have hlt : a < n := by
      rcases he with he | he
      · exact ag_lt h 101 (by decide) a ha0 he
      · exact ag_lt h 69 (by decide) a ha0 he
    have e1 : t.getD a 0 = 101 ∨ t.getD a 0 = 69 := by rwa [ag_eq h 101 (by decide) a ha0, ag_eq h 69 (by decide) a ha0]
    have e2 := ag_sgn h a (by omega)
    have hs : a + sgnQ (s.drop a) ≤ n := by
      rcases sgn_two (s.drop a) with e | e
      · omega
      · unfold sgnQ at e
        simp only [drop_getD] at e
        split at e
        · rename_i hh
          rcases hh with hh | hh
          · have := ag_lt h 43 (by decide) (a + 1) (by omega) hh; unfold sgnQ; simp only [drop_getD]; rw [if_pos (.inl hh)]; omega
          · have := ag_lt h 45 (by decide) (a + 1) (by omega) hh; unfold sgnQ; simp only [drop_getD]; rw [if_pos (.inr hh)]; omega
        · omega
    rw [if_pos he] at ha
    rw [if_pos e1, if_pos he, e2]
    have e3 := ag_dg h _ hs
    by_cases hd : dgB (s.getD (a + sgnQ (s.drop a)) 0) = true
    · rw [if_pos hd] at ha
      rw [if_pos (by rw [e3]; exact hd), if_pos hd, ag_run h _ (by omega)]
    · rw [if_neg (by rw [e3]; exact hd), if_neg hd]
  · rw [if_neg (by rwa [ag_eq h 101 (by decide) a ha0, ag_eq h 69 (by decide) a ha0]), if_neg he]
theorem ag_num {n : Nat} {s t : List UInt8} (h : Ag n s t) (hn : numL s = some n) : numL t = some n := by
  have h1 := numL_le s n hn
  have hneg : neg t = neg s := by
    unfold neg
    by_cases hh : s.getD 0 0 = 45
    · rw [if_pos ((ag_eq h 45 (by decide) 0 (by omega)).2 hh), if_pos hh]
    · rw [if_neg (fun k => hh ((ag_eq h 45 (by decide) 0 (by omega)).1 k)), if_neg hh]
  unfold numL at hn ⊢
  rw [hneg]
  split at hn
  · rename_i hd
    simp only at hn
    split at hn
    · exact absurd hn (by simp)
    · rename_i hg
      simp only [Option.some.injEq] at hn
      have hnl : neg s < n := by
        rcases neg_two s with e | e
        · rw [e]; omega
        · have := whole_le (s.drop (neg s)) (by rw [drop_getD]; exact hd)
          omega
      have hw : whole (t.drop (neg s)) = whole (s.drop (neg s)) := by
        unfold whole
        simp only [drop_getD, Nat.add_zero]
        by_cases hz : s.getD (neg s) 0 = 48
        · rw [if_pos (by rw [h.1 _ hnl]; exact hz), if_pos hz]
        · rw [if_neg (by rw [h.1 _ hnl]; exact hz), if_neg hz]
          apply ag_run h
          have e : whole (s.drop (neg s)) = run (s.drop (neg s)) := by unfold whole; rw [drop_getD, Nat.add_zero, if_neg hz]
          rw [← e]; omega
      rw [if_pos (by rw [h.1 _ hnl]; exact hd), hw]
      simp only
      rw [ag_frac h _ (by omega), ag_expo h _ (by omega), hn, if_neg (by rw [h.2.2]; simp)]
  · exact absurd hn (by simp)
theorem tok_local (s t : List UInt8) (k n : Nat) (h0 : 0 < s.length) (h : tokL s = some (k, n)) (hg : k ≤ 7 ∨ goB (t.getD 0 0) = false) : tokL (s.take n ++ t) = some (k, n) := by
  have hl := tok_le s h0 k n h
  have hhd : (s.take n ++ t).getD 0 0 = s.getD 0 0 := take_getD s t n 0 (by omega) hl.2.1
  have hgo := tok_goes s k n h
  rcases tok_cases s k n h with ⟨h1, h2, rfl, hc⟩ | ⟨rfl, h34, m, hm, rfl⟩ | ⟨nm, hnm, hw, hc⟩ | ⟨rfl, hn, hc⟩
  · exact hc _ hhd
  · unfold tokL
    rw [hhd, h34]
    rw [if_neg (by decide), if_neg (by decide), if_neg (by decide), if_neg (by decide), if_neg (by decide), if_neg (by decide), if_pos rfl]
    rw [take_drop s t (m + 1) 1 (by omega) hl.2.1, Nat.add_sub_cancel, jtS_local _ (s.drop 1) (Nat.le_refl _) m t hm]
    rfl
  · rw [hc _ hhd]
    have hp : 1 ≤ nm.length ∧ 7 < k := by rcases hnm with ⟨rfl, rfl⟩ | ⟨rfl, rfl⟩ | ⟨rfl, rfl⟩ <;> decide
    obtain ⟨_, rfl, h3, h4, h5⟩ := wordL_le nm s k hp.1 k n hw
    unfold wordL
    rw [if_pos]
    refine ⟨?_, ?_⟩
    · rw [List.take_append_of_le_length (by rw [List.length_take]; omega), List.take_take, Nat.min_self]; exact h3
    · rw [take_getD_n s t _ h5]
      rcases hg with hg | hg
      · omega
      · exact hg
  · rw [hc _ hhd]
    have ha : Ag n s (s.take n ++ t) := ⟨fun j hj => take_getD s t n j hj hl.2.1, hgo (by omega), by
      rw [take_getD_n s t n hl.2.1]
      rcases hg with hg | hg
      · omega
      · exact hg⟩
    rw [ag_num ha hn]; rfl

def Cov (l : List UInt8) : Nat → Toks → Prop
  | p, [] => p ≤ l.length ∧ ∀ j, p ≤ j → j < l.length → blB (l.getD j 0) = true
  | p, x :: r => p ≤ x.2.1 ∧ x.2.1 < x.2.2 ∧ x.2.2 ≤ l.length ∧ (∀ j, p ≤ j → j < x.2.1 → blB (l.getD j 0) = true) ∧ Cov l x.2.2 r
theorem lex_cov (N : Nat) (l : List UInt8) : ∀ (p : Nat) (r : Toks), p ≤ l.length → l.length ≤ p + N → lexS (l.drop p) p = .ok r → Cov l p r := by
  induction N with
  | zero =>
    intro p r h1 h2 h
    rw [lexS_end _ _ (by simp; omega)] at h
    simp only [Except.ok.injEq] at h
    subst h
    exact ⟨h1, fun j h3 h4 => by omega⟩
  | succ N ih =>
    intro p r h1 h2 h
    have hbl : ∀ j, p ≤ j → j < p + lead (l.drop p) → blB (l.getD j 0) = true := by
      intro j h3 h4
      have := lead_bl (l.drop p) (j - p) (by omega)
      rwa [drop_getD, show p + (j - p) = j by omega] at this
    by_cases hle : (l.drop p).length ≤ lead (l.drop p)
    · rw [lexS_end _ _ hle] at h
      simp only [Except.ok.injEq] at h
      subst h
      rw [List.length_drop] at hle
      exact ⟨h1, fun j h3 h4 => hbl j h3 (by omega)⟩
    · have hlt : lead (l.drop p) < (l.drop p).length := by omega
      cases ht : tokL ((l.drop p).drop (lead (l.drop p))) with
      | none => rw [lexS_bad _ p hlt ht] at h; exact absurd h (by simp)
      | some km =>
        obtain ⟨k, m⟩ := km
        have hm := tok_le ((l.drop p).drop (lead (l.drop p))) (by rw [List.length_drop]; omega) k m ht
        have hm1 := hm.1
        have hm2 : p + (lead (l.drop p) + m) ≤ l.length := by
          have h3 := hm.2.1
          have h4 := hlt
          rw [List.length_drop] at h3 h4
          rw [List.length_drop] at h3
          omega
        rw [lexS_in _ p k m hlt ht, List.drop_drop] at h
        clear hm hlt hle
        cases hx : lexS (l.drop (p + (lead (l.drop p) + m))) (p + (lead (l.drop p) + m)) with
        | error e => rw [hx] at h; exact absurd h (by simp)
        | ok q =>
          rw [hx] at h
          simp only [Except.ok.injEq] at h
          subst h
          exact ⟨Nat.le_add_right _ _, Nat.add_lt_add_left (by omega) _, hm2, fun j h3 h4 => hbl j h3 h4, ih (p + (lead (l.drop p) + m)) q hm2 (by omega) hx⟩
theorem run_go (s : List UInt8) (j : Nat) (h : j < run s) : goB (s.getD j 0) = true := by
  have := ((run_iff s _).1 rfl).1 j h
  unfold goB; rw [this]; rfl
theorem frac_go (s : List UInt8) (j : Nat) (h : j < frac s) : goB (s.getD j 0) = true := by
  unfold frac at h
  split at h
  · rename_i hh
    cases j with
    | zero => rw [hh.1]; decide
    | succ j =>
      have := run_go (s.drop 1) j (by omega)
      rwa [drop_getD, Nat.add_comm] at this
  · omega
theorem expo_go (s : List UInt8) (j : Nat) (h : j < expo s) : goB (s.getD j 0) = true := by
  unfold expo at h
  split at h
  · rename_i hh
    split at h
    · by_cases hj : j < sgnQ s
      · cases j with
        | zero => rcases hh with e | e <;> (rw [e]; decide)
        | succ j =>
          unfold sgnQ at hj
          split at hj
          · rename_i h2
            have : j = 0 := by omega
            subst this
            rcases h2 with e | e <;> (rw [e]; decide)
          · omega
      · have := run_go (s.drop (sgnQ s)) (j - sgnQ s) (by omega)
        rwa [drop_getD, show sgnQ s + (j - sgnQ s) = j by omega] at this
    · omega
  · omega
theorem whole_go (s : List UInt8) (hd : dgB (s.getD 0 0) = true) (j : Nat) (h : j < whole s) : goB (s.getD j 0) = true := by
  unfold whole at h
  split at h
  · have : j = 0 := by omega
    subst this
    unfold goB; rw [hd]; rfl
  · exact run_go s j h
theorem num_go (s : List UInt8) (n : Nat) (h : numL s = some n) : ∀ j, j < n → goB (s.getD j 0) = true := by
  unfold numL at h
  split at h
  · rename_i hd
    simp only at h
    split at h
    · exact absurd h (by simp)
    · simp only [Option.some.injEq] at h
      intro j hj
      by_cases h1 : j < neg s
      · unfold neg at h1
        split at h1
        · rename_i e
          have : j = 0 := by omega
          subst this
          rw [e]; decide
        · omega
      by_cases h2 : j < neg s + whole (s.drop (neg s))
      · have := whole_go (s.drop (neg s)) (by rw [drop_getD]; exact hd) (j - neg s) (by omega)
        rwa [drop_getD, show neg s + (j - neg s) = j by omega] at this
      generalize neg s + whole (s.drop (neg s)) = a at h h2
      by_cases h3 : j < a + frac (s.drop a)
      · have := frac_go (s.drop a) (j - a) (by omega)
        rwa [drop_getD, show a + (j - a) = j by omega] at this
      generalize a + frac (s.drop a) = b at h h3
      have := expo_go (s.drop b) (j - b) (by omega)
      rwa [drop_getD, show b + (j - b) = j by omega] at this
  · exact absurd h (by simp)
theorem go_ascii (c : UInt8) (h : goB c = true) : c.toNat < 128 := by
  have h0 : ∀ d : Fin 256, goB d.val.toUInt8 = true → d.val < 128 := by decide +kernel
  have := h0 ⟨c.toNat, c.toNat_lt⟩
  simp only at this
  rw [show c.toNat.toUInt8 = c from by apply UInt8.toNat_inj.1; rw [toU8 c.toNat c.toNat_lt]] at this
  exact this h
theorem tok_ascii (s : List UInt8) (k n : Nat) (h : tokL s = some (k, n)) (hk : k ≠ 7) : ∀ j, j < n → (s.getD j 0).toNat < 128 := by
  intro j hj
  have hkeep := h
  rcases tok_cases s k n h with ⟨h1, h2, rfl, _⟩ | ⟨rfl, _⟩ | ⟨nm, hnm, hw, _⟩ | ⟨rfl, hn, _⟩
  · have : j = 0 := by omega
    subst this
    unfold tokL at h
    by_cases c1 : s.getD 0 0 = 123
    · rw [c1]; decide
    rw [if_neg c1] at h
    by_cases c2 : s.getD 0 0 = 125
    · rw [c2]; decide
    rw [if_neg c2] at h
    by_cases c3 : s.getD 0 0 = 91
    · rw [c3]; decide
    rw [if_neg c3] at h
    by_cases c4 : s.getD 0 0 = 93
    · rw [c4]; decide
    rw [if_neg c4] at h
    by_cases c5 : s.getD 0 0 = 58
    · rw [c5]; decide
    rw [if_neg c5] at h
    by_cases c6 : s.getD 0 0 = 44
    · rw [c6]; decide
    rw [if_neg c6] at h
    exfalso
    split at h
    · cases hj : jtS (s.drop 1) with
      | none => rw [hj] at h; simp at h
      | some m => rw [hj] at h; simp at h; omega
    · split at h
      · have := (wordL_le tru s 9 (by decide) k 1 h).1; omega
      · split at h
        · have := (wordL_le fls s 10 (by decide) k 1 h).1; omega
        · split at h
          · have := (wordL_le nul s 11 (by decide) k 1 h).1; omega
          · cases hj : numL s with
            | none => rw [hj] at h; simp at h
            | some m => rw [hj] at h; simp at h; omega
  · omega
  · have hp : 1 ≤ nm.length ∧ ∀ j, j < nm.length → (nm.getD j 0).toNat < 128 := by rcases hnm with ⟨rfl, rfl⟩ | ⟨rfl, rfl⟩ | ⟨rfl, rfl⟩ <;> decide
    obtain ⟨_, rfl, h3, h4, h5⟩ := wordL_le nm s k hp.1 k n hw
    have h6 := hp.2 j hj
    rw [← h3] at h6
    have e : (s.take nm.length).getD j 0 = s.getD j 0 := by simp only [List.getD]; rw [List.getElem?_take_of_lt hj]
    rwa [e] at h6
  · exact go_ascii _ (num_go s n hn j hj)
end Go.Proofs.YtlobinjdgcidmaaGreatDoor.M

/- Plain numbers and lists: what jlex.Split says of any bytes; the texts of the law on wrong ones. -/
namespace Go.Proofs.YtlobinjdgcidmaaGreatDoor.M
open Go.Lib
set_option linter.unusedVariables false
set_option linter.unusedSimpArgs false

def splitV (l : List UInt8) : Toks × Int × Int :=
  if 20000 < l.length then ([], 5, 20000) else if (validAll l).2 = false then ([], 2, ((validAll l).1 : Int)) else
  match lexS l 0 with
  | .error e => ([], 3, (e : Int))
  | .ok r => (r, 0, 0)
end Go.Proofs.YtlobinjdgcidmaaGreatDoor.M

/- Plain numbers and lists: the two ways in which splitting ends. -/
namespace Go.Proofs.YtlobinjdgcidmaaGreatDoor.M
open Go.Lib
set_option linter.unusedVariables false
set_option linter.unusedSimpArgs false

theorem lex_err (N : Nat) : ∀ (s : List UInt8) (p e : Nat), s.length ≤ N → lexS s p = .error e → e ≤ p + s.length := by
  induction N with
  | zero => intro s p e h h2; rw [lexS_end s p (by omega)] at h2; exact absurd h2 (by simp)
  | succ N ih =>
    intro s p e h h2
    by_cases hle : s.length ≤ lead s
    · rw [lexS_end s p hle] at h2; exact absurd h2 (by simp)
    · cases ht : tokL (s.drop (lead s)) with
      | none =>
        rw [lexS_bad s p (by omega) ht] at h2
        simp only [Except.error.injEq] at h2
        omega
      | some km =>
        obtain ⟨k, m⟩ := km
        have hm := tok_le (s.drop (lead s)) (by rw [List.length_drop]; omega) k m ht
        rw [List.length_drop] at hm
        rw [lexS_in s p k m (by omega) ht] at h2
        cases hx : lexS (s.drop (lead s + m)) (p + (lead s + m)) with
        | error e' =>
          rw [hx] at h2
          simp only [Except.error.injEq] at h2
          subst h2
          have := ih _ _ _ (by rw [List.length_drop]; omega) hx
          rw [List.length_drop] at this
          omega
        | ok r => rw [hx] at h2; exact absurd h2 (by simp)
theorem cov_len (l : List UInt8) (r : Toks) : ∀ p, Cov l p r → p + r.length ≤ l.length := by
  induction r with
  | nil => intro p h; exact h.1
  | cons x r ih =>
    intro p h
    obtain ⟨h1, h2, h3, h4, h5⟩ := h
    have := ih _ h5
    simp only [List.length_cons]
    omega
theorem lex_len (l : List UInt8) (r : Toks) (h : lexS l 0 = .ok r) : r.length ≤ l.length := by
  have := cov_len l r 0 (lex_cov l.length l 0 r (by omega) (by omega) (by simpa using h))
  omega
theorem split_cases (l : List UInt8) (h : l.length ≤ 20000) : (∃ e a : Int, splitV l = ([], e, a) ∧ e ≠ 0 ∧ 0 ≤ a ∧ a ≤ l.length) ∨ (∃ r, splitV l = (r, 0, 0) ∧ lexS l 0 = .ok r ∧ (validAll l).2 = true) := by
  unfold splitV
  rw [if_neg (by omega)]
  cases hv : (validAll l).2 with
  | false =>
    left
    have := all_le l
    exact ⟨2, (validAll l).1, by rw [if_pos rfl], by decide, by omega, by omega⟩
  | true =>
    rw [if_neg (by simp)]
    cases hx : lexS l 0 with
    | error e =>
      left
      have := lex_err l.length l 0 e (Nat.le_refl _) hx
      exact ⟨3, e, rfl, by decide, by omega, by omega⟩
    | ok r => right; exact ⟨r, rfl, rfl, rfl⟩
theorem split_ok (l : List UInt8) (h : l.length ≤ 20000) (r : Toks) (h1 : lexS l 0 = .ok r) (h2 : (validAll l).2 = true) : splitV l = (r, 0, 0) := by
  unfold splitV
  rw [if_neg (by omega), if_neg (by rw [h2]; simp), h1]
end Go.Proofs.YtlobinjdgcidmaaGreatDoor.M

/- Plain numbers and lists: the token with which bytes begin, as the reference finds it: signs one by one, words one by one. -/
namespace Go.Proofs.YtlobinjdgcidmaaGreatDoor.M
open Go.Lib
set_option linter.unusedVariables false
set_option linter.unusedSimpArgs false

end Go.Proofs.YtlobinjdgcidmaaGreatDoor.M

/- Plain numbers and lists: UTF-8 as the reference reads it: a class of lead bytes, then one byte after the other. Nothing of the program is imported. -/
namespace Go.Proofs.YtlobinjdgcidmaaGreatDoor.M
open Go.Lib

theorem byte_drop (l : List UInt8) (p j : Nat) : byte (l.drop p) j = byte l (p + j) := by
  unfold byte; simp [List.getD]
theorem dec_drop (l : List UInt8) (p : Nat) : dec (l.drop p) = decodeN (l.length - p) (byte l p) (byte l (p + 1)) (byte l (p + 2)) (byte l (p + 3)) := by
  unfold dec
  rw [byte_drop, byte_drop, byte_drop, byte_drop, List.length_drop, Nat.add_zero]
def tl (l : List UInt8) (p : Nat) : Bool := decide (p < l.length) && decide (byte l p / 64 = 2)
theorem tl_iff (l : List UInt8) (p : Nat) : tl l p = true ↔ (p < l.length ∧ byte l p / 64 = 2) := by simp [tl]
def oks (l : List UInt8) (p : Nat) : Nat → Prop
  | 0 => True
  | k + 1 => oks l p k ∧ tl l (p + (k + 1)) = true
def acc (l : List UInt8) (p r0 : Nat) : Nat → Nat
  | 0 => r0
  | k + 1 => acc l p r0 k * 64 + byte l (p + (k + 1)) % 64
theorem acc_lt (l : List UInt8) (p r0 : Nat) (h : r0 < 32) (k : Nat) (hk : k ≤ 3) : acc l p r0 k < 8388608 := by
  have h1 : acc l p r0 0 < 32 := h
  have h2 : acc l p r0 1 < 2048 := by simp only [acc] at *; omega
  have h3 : acc l p r0 2 < 131072 := by simp only [acc] at *; omega
  have h4 : acc l p r0 3 < 8388608 := by simp only [acc] at *; omega
  have : k = 0 ∨ k = 1 ∨ k = 2 ∨ k = 3 := by omega
  rcases this with rfl | rfl | rfl | rfl <;> omega
def Cls (c n low r0 : Nat) : Prop := (192 ≤ c ∧ c < 224 ∧ n = 2 ∧ low = 128 ∧ r0 = c % 32) ∨ (224 ≤ c ∧ c < 240 ∧ n = 3 ∧ low = 2048 ∧ r0 = c % 16) ∨ (240 ≤ c ∧ c < 248 ∧ n = 4 ∧ low = 65536 ∧ r0 = c % 8)
theorem nx_one (l : List UInt8) (p : Nat) (h : byte l p < 128) : nx (l.drop p) = ((byte l p : Int), 1, true) := by
  unfold nx
  have : dec (l.drop p) = (byte l p, 1) := by rw [dec_drop]; unfold decodeN; rw [if_pos h]
  rw [this, if_neg]
  · rfl
  · simp; omega
theorem nx_none (l : List UInt8) (p : Nat) (h : 128 ≤ byte l p ∧ byte l p < 192 ∨ 248 ≤ byte l p) : nx (l.drop p) = (65533, 1, false) := by
  unfold nx
  have hb := byte_lt l p
  rw [if_pos]
  rw [dec_drop]
  unfold decodeN
  rw [if_neg (by omega), if_neg (by omega), if_neg (by omega), if_neg (by omega)]
theorem nx_stop (l : List UInt8) (p n low r0 k : Nat) (hc : Cls (byte l p) n low r0) (hk : k + 1 < n) (hok : oks l p k) (hno : tl l (p + (k + 1)) = false) : nx (l.drop p) = (65533, 1, false) := by
  have hno' : ¬ (p + (k + 1) < l.length ∧ byte l (p + (k + 1)) / 64 = 2) := by rw [← tl_iff]; simp [hno]
  unfold nx
  rw [if_pos]
  rw [dec_drop]
  unfold decodeN
  unfold Cls at hc
  rcases hc with ⟨h1, h2, rfl, rfl, rfl⟩ | ⟨h1, h2, rfl, rfl, rfl⟩ | ⟨h1, h2, rfl, rfl, rfl⟩
  · obtain rfl : k = 0 := by omega
    simp only [Nat.zero_add] at hno'
    rw [if_neg (by omega), if_neg (by omega), if_neg (by omega), if_neg (by omega)]
  · have : k = 0 ∨ k = 1 := by omega
    rcases this with rfl | rfl
    all_goals
      simp only [Nat.zero_add, Nat.reduceAdd] at hno'
      rw [if_neg (by omega), if_neg (by omega), if_neg (by omega), if_neg (by omega)]
  · have : k = 0 ∨ k = 1 ∨ k = 2 := by omega
    rcases this with rfl | rfl | rfl
    all_goals
      simp only [Nat.zero_add, Nat.reduceAdd] at hno'
      rw [if_neg (by omega), if_neg (by omega), if_neg (by omega), if_neg (by omega)]
theorem nx_of (l : List UInt8) (p a n : Nat) (P : Prop) [Decidable P] (h : dec (l.drop p) = if P then (a, n) else (65533, 1)) (hn : n ≠ 1) (low : Nat)
    (hP : P ↔ ¬ (a < low ∨ 1114111 < a ∨ (55296 ≤ a ∧ a < 57344))) :
    nx (l.drop p) = if a < low ∨ 1114111 < a ∨ (55296 ≤ a ∧ a < 57344) then (65533, 1, false) else ((a : Int), (n : Int), true) := by
  unfold nx
  rw [h]
  by_cases hp : P
  · rw [if_pos hp, if_neg (by simp [hn]), if_neg (hP.1 hp)]
  · rw [if_neg hp, if_pos rfl, if_pos (by
      by_cases hh : a < low ∨ 1114111 < a ∨ (55296 ≤ a ∧ a < 57344)
      · exact hh
      · exact absurd (hP.2 hh) hp)]
theorem nx_full (l : List UInt8) (p n low r0 k : Nat) (hc : Cls (byte l p) n low r0) (hk : k + 1 = n) (hok : oks l p k) :
    ∀ a, acc l p r0 k = a → nx (l.drop p) = if a < low ∨ 1114111 < a ∨ (55296 ≤ a ∧ a < 57344) then (65533, 1, false) else ((a : Int), (n : Int), true) := by
  intro a ha
  have hb0 := byte_lt l p
  have hb1 := byte_lt l (p + 1)
  have hb2 := byte_lt l (p + 2)
  have hb3 := byte_lt l (p + 3)
  have hdec := dec_drop l p
  unfold decodeN at hdec
  unfold Cls at hc
  rcases hc with ⟨h1, h2, rfl, rfl, rfl⟩ | ⟨h1, h2, rfl, rfl, rfl⟩ | ⟨h1, h2, rfl, rfl, rfl⟩
  · obtain rfl : k = 1 := by omega
    simp only [oks, acc, tl_iff, Nat.zero_add, true_and] at hok ha
    subst ha
    rw [if_neg (by omega), if_pos (by omega)] at hdec
    exact nx_of l p _ 2 _ hdec (by omega) 128 (by omega)
  · obtain rfl : k = 2 := by omega
    simp only [oks, acc, tl_iff, Nat.zero_add, true_and, Nat.reduceAdd] at hok ha
    have ha' : byte l p % 16 * 4096 + byte l (p + 1) % 64 * 64 + byte l (p + 2) % 64 = a := by omega
    rw [if_neg (by omega), if_neg (by omega), if_pos (by omega), ha'] at hdec
    exact nx_of l p a 3 _ hdec (by omega) 2048 (by omega)
  · obtain rfl : k = 3 := by omega
    simp only [oks, acc, tl_iff, Nat.zero_add, true_and, Nat.reduceAdd] at hok ha
    have ha' : byte l p % 8 * 262144 + byte l (p + 1) % 64 * 4096 + byte l (p + 2) % 64 * 64 + byte l (p + 3) % 64 = a := by omega
    rw [if_neg (by omega), if_neg (by omega), if_neg (by omega), if_pos (by omega), ha'] at hdec
    exact nx_of l p a 4 _ hdec (by omega) 65536 (by omega)
theorem nextAt_in (l : List UInt8) (p : Nat) (h : p < l.length) : nextAt l p = nx (l.drop p) := by
  unfold nextAt; rw [if_neg (by omega)]; simp
theorem nextAt_out (l : List UInt8) (p : Int) (h : p < 0 ∨ (l.length : Int) ≤ p) : nextAt l p = (0, 0, false) := by
  unfold nextAt; rw [if_pos h]
end Go.Proofs.YtlobinjdgcidmaaGreatDoor.M

/- Plain numbers and lists: the numbers of chapter 5, read. -/
namespace Go.Proofs.YtlobinjdgcidmaaGreatDoor.M
set_option linter.unusedVariables false
set_option linter.unusedSimpArgs false

def csign (s : List UInt8) : Bool × List UInt8 := if s.head? = some 43 then (false, s.tail) else (isNeg s, unsign s)
def dg (s : List UInt8) : List UInt8 := s.takeWhile dig
def rs (s : List UInt8) : List UInt8 := s.dropWhile dig
abbrev Parts := Bool × List UInt8 × List UInt8 × Bool × Bool × List UInt8
def zeroP : Parts := (false, [], [], false, false, [])
def divE (n : Bool) (w f s : List UInt8) : Parts × Bool :=
  if s.head? = some 101 ∨ s.head? = some 69 then
    ((n, w, f, true, (csign s.tail).1, dg (csign s.tail).2), (rs (csign s.tail).2).isEmpty && !(dg (csign s.tail).2).isEmpty)
  else ((n, w, f, false, false, []), s.isEmpty)
def divW (s : List UInt8) : Parts × Bool :=
  if (rs (csign s).2).head? = some 46 then
    if dg (rs (csign s).2).tail = [] then (zeroP, false) else divE (csign s).1 (dg (csign s).2) (dg (rs (csign s).2).tail) (rs (rs (csign s).2).tail)
  else if dg (csign s).2 = [] then (zeroP, false) else divE (csign s).1 (dg (csign s).2) [] (rs (csign s).2)
def rstrip (l : List UInt8) : List UInt8 := (l.reverse.dropWhile (· == 48)).reverse
def expV (p : Parts) : Int := if p.2.2.2.2.1 then -(dval p.2.2.2.2.2 : Int) else dval p.2.2.2.2.2
def norm (L : List UInt8) (e : Int) : List UInt8 × List UInt8 :=
  if rstrip (strip L) = [] then ([], []) else (rstrip (strip L), txt (e + ((strip L).length - (rstrip (strip L)).length - (0 : Int))))
abbrev NumV := Bool × List UInt8 × List UInt8
def readN (s : List UInt8) : NumV × Bool :=
  if (divW s).2 then (((divW s).1.1, norm ((divW s).1.2.1 ++ (divW s).1.2.2.1) (expV (divW s).1 - (divW s).1.2.2.1.length)), true) else ((false, [], []), false)
def nz (v : Nat) (e : Int) : List UInt8 × List UInt8 := if h0 : v = 0 then ([], []) else if v % 10 = 0 then nz (v / 10) (e + 1) else (canon v, txt e)
theorem nz_zero (e : Int) : nz 0 e = ([], []) := by rw [nz, dif_pos rfl]
theorem nz_ten (v : Nat) (e : Int) : nz (10 * v) e = nz v (e + 1) := by
  by_cases h : v = 0
  · subst h; rw [Nat.mul_zero, nz_zero, nz_zero]
  · rw [nz, dif_neg (by omega), if_pos (by omega), show 10 * v / 10 = v by omega]
theorem nz_pow (k : Nat) : ∀ (v : Nat) (e : Int), nz (v * 10 ^ k) e = nz v (e + k) := by
  induction k with
  | zero => intro v e; simp
  | succ k ih =>
    intro v e
    rw [show v * 10 ^ (k + 1) = 10 * (v * 10 ^ k) by rw [Nat.pow_succ]; rw [← Nat.mul_assoc, Nat.mul_comm]]
    rw [nz_ten, ih]
    congr 1; omega
theorem nz_core (m : Nat) (e : Int) (h : m % 10 ≠ 0) : nz m e = (canon m, txt e) := by
  rw [nz, dif_neg (by intro h0; subst h0; exact h rfl), if_neg h]
theorem core_ex (v : Nat) (h : v ≠ 0) : ∃ m k, m % 10 ≠ 0 ∧ v = m * 10 ^ k := by
  induction v using Nat.strongRecOn with
  | ind v ih =>
    by_cases h1 : v % 10 = 0
    · obtain ⟨m, k, hm, hv⟩ := ih (v / 10) (by omega) (by omega)
      refine ⟨m, k + 1, hm, ?_⟩
      rw [Nat.pow_succ, ← Nat.mul_assoc, ← hv]; omega
    · exact ⟨v, 0, h1, by simp⟩
theorem rstrip_snoc (l : List UInt8) (c : UInt8) : rstrip (l ++ [c]) = if c = 48 then rstrip l else l ++ [c] := by
  unfold rstrip
  rw [List.reverse_append]
  by_cases h : c = 48
  · subst h; simp
  · rw [if_neg h]; simp [List.dropWhile_cons, h]
theorem canon_zeros (v : Nat) (k : Nat) : v ≠ 0 → canon (v * 10 ^ k) = canon v ++ List.replicate k 48 := by
  intro h
  induction k with
  | zero => simp
  | succ k ih =>
    rw [canon_pos _ (Nat.mul_ne_zero h (Nat.pos_iff_ne_zero.1 (Nat.pow_pos (by omega)))), show v * 10 ^ (k + 1) = 10 * (v * 10 ^ k) by rw [Nat.pow_succ, ← Nat.mul_assoc, Nat.mul_comm],
      show 10 * (v * 10 ^ k) / 10 = v * 10 ^ k by omega, ih, List.replicate_succ', List.append_assoc]
    congr 2
    simp [ofD, show (10 * (v * 10 ^ k)) % 10 = 0 by omega]
theorem rstrip_zeros (l : List UInt8) (k : Nat) : rstrip (l ++ List.replicate k 48) = rstrip l := by
  induction k with
  | zero => simp
  | succ k ih => rw [List.replicate_succ', ← List.append_assoc, rstrip_snoc, if_pos rfl, ih]
theorem rstrip_core (m : Nat) (h : m % 10 ≠ 0) : rstrip (canon m) = canon m := by
  rw [canon_pos m (by intro h0; subst h0; exact h rfl), rstrip_snoc, if_neg]
  intro e
  have := congrArg UInt8.toNat e
  rw [ofD_nat] at this
  simp at this; omega
theorem norm_nz (L : List UInt8) (e : Int) (h : ∀ c ∈ L, dig c = true) : norm L e = nz (dval L) e := by
  unfold norm
  rw [strip_canon L h]
  by_cases h0 : dval L = 0
  · rw [h0, canon_zero, nz_zero, if_pos (by rfl)]
  · obtain ⟨m, k, hm, hv⟩ := core_ex _ h0
    have hm0 : m ≠ 0 := by intro h0; subst h0; exact hm rfl
    rw [hv, nz_pow, nz_core _ _ hm, canon_zeros m k hm0, rstrip_zeros, rstrip_core m hm, if_neg (canon_ne m hm0)]
    simp only [List.length_append, List.length_replicate]
    congr 2
    omega
theorem dg_app (W R : List UInt8) (hW : ∀ c ∈ W, dig c = true) (hR : ∀ c, R.head? = some c → dig c = false) : dg (W ++ R) = W ∧ rs (W ++ R) = R := by
  unfold dg rs
  induction W with
  | nil =>
    cases R with
    | nil => exact ⟨rfl, rfl⟩
    | cons c t => have := hR c rfl; simp [List.takeWhile_cons, List.dropWhile_cons, this]
  | cons c W ih =>
    have h1 := hW c (by simp)
    have h2 := ih (fun x hx => hW x (by simp [hx]))
    simp [List.takeWhile_cons, List.dropWhile_cons, h1, h2]
theorem dg_dig (s : List UInt8) : ∀ c ∈ dg s, dig c = true := by
  intro c hc
  unfold dg at hc
  induction s with
  | nil => simp at hc
  | cons a s ih =>
    rw [List.takeWhile_cons] at hc
    split at hc
    · rename_i h; rcases List.mem_cons.1 hc with rfl | hc
      · exact h
      · exact ih hc
    · simp at hc
theorem dg_rs (s : List UInt8) : dg s ++ rs s = s := List.takeWhile_append_dropWhile
theorem rs_head (s : List UInt8) : ∀ c, (rs s).head? = some c → dig c = false := by
  intro c hc
  unfold rs at hc
  induction s with
  | nil => simp at hc
  | cons a s ih =>
    rw [List.dropWhile_cons] at hc
    split at hc
    · exact ih hc
    · rename_i h; simp at hc; subst hc; simpa using h
theorem txt_cases (z : Int) : (0 ≤ z ∧ txt z = decS z.natAbs) ∨ (z < 0 ∧ txt z = 45 :: decS z.natAbs) := by
  rcases Int.lt_or_le z 0 with h | h
  · right; refine ⟨h, ?_⟩
    have := txt_minus z.natAbs (by omega)
    rwa [show -(z.natAbs : Int) = z by omega] at this
  · left; refine ⟨h, ?_⟩
    have := txt_nat z.natAbs
    rwa [show ((z.natAbs : Nat) : Int) = z by omega] at this
theorem decS_dig (n : Nat) : ∀ c ∈ decS n, dig c = true := by
  unfold decS; split
  · intro c hc; simp at hc; subst hc; decide
  · exact canon_dig n
theorem dval_decS (n : Nat) : dval (decS n) = n := by
  unfold decS; split
  · rename_i h; subst h; decide
  · exact dval_canon n
theorem csign_dig (s : List UInt8) (h : ∀ c, s.head? = some c → dig c = true ∨ c = 46) : csign s = (false, s) := by
  unfold csign
  have n43 : s.head? ≠ some 43 := fun e => by rcases h _ e with h | h <;> exact absurd h (by decide)
  have n45 : s.head? ≠ some 45 := fun e => by rcases h _ e with h | h <;> exact absurd h (by decide)
  rw [if_neg n43]
  unfold isNeg unsign
  rw [if_neg n45]
  simp [n45]
theorem csign_minus (s : List UInt8) : csign (45 :: s) = (true, s) := by
  unfold csign
  rw [if_neg (by simp)]
  unfold isNeg unsign
  simp
theorem csign_plus (s : List UInt8) : csign (43 :: s) = (false, s) := by
  unfold csign; simp
theorem csign_txt (z : Int) : csign (txt z) = (decide (z < 0), decS z.natAbs) := by
  rcases txt_cases z with ⟨h, e⟩ | ⟨h, e⟩
  · rw [e, csign_dig _ (fun c hc => .inl (decS_dig _ c (by cases hd : decS z.natAbs with | nil => rw [hd] at hc; simp at hc | cons a t => rw [hd] at hc; simp at hc; subst hc; simp)))]
    simp; omega
  · rw [e, csign_minus]; simp [h]
theorem expV_txt (n : Bool) (w f : List UInt8) (b : Bool) (z : Int) : expV (n, w, f, b, decide (z < 0), decS z.natAbs) = z := by
  unfold expV
  simp only [dval_decS]
  by_cases h : z < 0
  · simp [h]; omega
  · simp [h]; omega
def ExpAt (E : List UInt8) (X : Int) : Prop := (E = [] ∧ X = 0) ∨ ∃ c, (c = 101 ∨ c = 69) ∧ E = c :: txt X
theorem divE_at (n : Bool) (w f E : List UInt8) (X : Int) (h : ExpAt E X) : ∃ p, divE n w f E = ((n, w, f, p), true) ∧ expV (n, w, f, p) = X := by
  rcases h with ⟨rfl, rfl⟩ | ⟨c, hc, rfl⟩
  · refine ⟨(false, false, []), by unfold divE; simp, by unfold expV; rfl⟩
  · have h1 : (c :: txt X).head? = some 101 ∨ (c :: txt X).head? = some 69 := by rcases hc with rfl | rfl <;> simp
    have h2 := csign_txt X
    obtain ⟨h3, h4⟩ := dg_app (decS X.natAbs) [] (decS_dig _) (by simp)
    rw [List.append_nil] at h3 h4
    refine ⟨(true, decide (X < 0), decS X.natAbs), ?_, expV_txt _ _ _ _ _⟩
    unfold divE
    rw [if_pos h1]
    simp only [List.tail_cons, h2, h3, h4]
    simp [decS_ne]
theorem expAt_head (E : List UInt8) (X : Int) (h : ExpAt E X) : ∀ c, E.head? = some c → dig c = false ∧ c ≠ 46 := by
  rcases h with ⟨rfl, rfl⟩ | ⟨d, hd, rfl⟩
  · simp
  · intro c hc; simp at hc; subst hc; rcases hd with rfl | rfl <;> decide
theorem read_form (sg : List UInt8) (ng : Bool) (hs : (sg = [] ∧ ng = false) ∨ (sg = [45] ∧ ng = true) ∨ (sg = [43] ∧ ng = false)) (W F P E : List UInt8) (X : Int) (hW : ∀ c ∈ W, dig c = true) (hF : ∀ c ∈ F, dig c = true)
    (hP : (P = [] ∧ F = [] ∧ W ≠ []) ∨ (P = 46 :: F ∧ F ≠ [])) (hE : ExpAt E X) :
    readN (sg ++ (W ++ (P ++ E))) = ((ng, nz (dval (W ++ F)) (X - F.length)), true) := by
  have hc : csign (sg ++ (W ++ (P ++ E))) = (ng, W ++ (P ++ E)) := by
    rcases hs with ⟨rfl, rfl⟩ | ⟨rfl, rfl⟩ | ⟨rfl, rfl⟩
    · rw [List.nil_append]
      apply csign_dig
      intro c hc
      cases W with
      | cons a t => simp at hc; subst hc; exact .inl (hW _ (by simp))
      | nil =>
        rcases hP with ⟨_, _, h⟩ | ⟨rfl, _⟩
        · exact absurd rfl h
        · simp at hc; exact .inr hc.symm
    · exact csign_minus _
    · exact csign_plus _
  have hd : dg (W ++ (P ++ E)) = W ∧ rs (W ++ (P ++ E)) = P ++ E := by
    apply dg_app _ _ hW
    intro c hc
    rcases hP with ⟨rfl, _⟩ | ⟨rfl, _⟩
    · rw [List.nil_append] at hc; exact (expAt_head E X hE c hc).1
    · simp at hc; subst hc; decide
  have hfin : ∃ p, divW (sg ++ (W ++ (P ++ E))) = ((ng, W, F, p), true) ∧ expV (ng, W, F, p) = X := by
    unfold divW
    rw [hc]
    simp only [hd.1, hd.2]
    rcases hP with ⟨rfl, rfl, hne⟩ | ⟨rfl, hne⟩
    · rw [List.nil_append, if_neg (fun e => (expAt_head E X hE _ e).2 rfl), if_neg hne]
      exact divE_at _ _ _ _ _ hE
    · have h2 := dg_app F E hF (fun c hc => (expAt_head E X hE c hc).1)
      rw [if_pos (by simp)]
      simp only [List.cons_append, List.tail_cons, h2.1, h2.2]
      rw [if_neg hne]
      exact divE_at _ _ _ _ _ hE
  obtain ⟨p, h1, h2⟩ := hfin
  unfold readN
  rw [h1]
  simp only [h2, if_true]
  rw [norm_nz _ _ (by intro c hc; exact (List.mem_append.1 hc).elim (hW c) (hF c))]
end Go.Proofs.YtlobinjdgcidmaaGreatDoor.M
