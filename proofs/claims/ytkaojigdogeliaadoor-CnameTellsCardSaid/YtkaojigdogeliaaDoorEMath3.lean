/- Plain numbers and lists: a text is the encodings of its code points; how a name begins. Nothing of the program is imported. -/
import Derived.Test.YtkaojigdogeliaaDoorEMath2
namespace Go.Proofs.YtkaojigdogeliaaDoor.M
open Go.Lib
set_option linter.unusedVariables false
set_option linter.unusedSimpArgs false

theorem u8_of (b : UInt8) (n : Nat) (h : b.toNat = n) : n.toUInt8 = b := by
  have := b.toNat_lt
  exact UInt8.toNat_inj.1 (by rw [toU8 n (by omega)]; exact h.symm)
theorem byte0 (b : UInt8) (t : List UInt8) : byte (b :: t) 0 = b.toNat := by simp [byte]
theorem byte_s (b : UInt8) (t : List UInt8) (i : Nat) : byte (b :: t) (i + 1) = byte t i := by simp [byte]
theorem two_of (s : List UInt8) (h : 1 < s.length) : ∃ a b t, s = a :: b :: t := by
  match s, h with
  | a :: b :: t, _ => exact ⟨a, b, t, rfl⟩
theorem three_of (s : List UInt8) (h : 2 < s.length) : ∃ a b c t, s = a :: b :: c :: t := by
  match s, h with
  | a :: b :: c :: t, _ => exact ⟨a, b, c, t, rfl⟩
theorem four_of (s : List UInt8) (h : 3 < s.length) : ∃ a b c d t, s = a :: b :: c :: d :: t := by
  match s, h with
  | a :: b :: c :: d :: t, _ => exact ⟨a, b, c, d, t, rfl⟩
theorem inv_one (s : List UInt8) (h0 : 0 < s.length) (h : byte s 0 < 128) : s = enc ((byte s 0 : Nat) : Int) ++ s.drop 1 := by
  cases s with
  | nil => simp at h0
  | cons a t =>
    rw [byte0] at *
    rw [enc_one _ h, u8_of a _ rfl]; rfl
theorem inv_two (s : List UInt8) (h : byte s 0 / 32 = 6 ∧ (1 < s.length ∧ byte s 1 / 64 = 2)) (r : Nat) (hr : byte s 0 % 32 * 64 + byte s 1 % 64 = r) (h3 : 128 ≤ r) : s = enc (r : Int) ++ s.drop 2 := by
  obtain ⟨a, b, t, rfl⟩ := two_of s h.2.1
  simp only [byte_s, byte0] at *
  have := a.toNat_lt
  have := b.toNat_lt
  rw [enc_two _ h3 (by omega), u8_of a _ (by omega), u8_of b _ (by omega)]; rfl
theorem inv_three (s : List UInt8) (h : byte s 0 / 16 = 14 ∧ (1 < s.length ∧ byte s 1 / 64 = 2) ∧ (2 < s.length ∧ byte s 2 / 64 = 2)) (r : Nat) (hr : byte s 0 % 16 * 4096 + byte s 1 % 64 * 64 + byte s 2 % 64 = r)
    (h3 : (2048 ≤ r ∧ r < 55296) ∨ (57343 < r ∧ r ≤ 65535)) : s = enc (r : Int) ++ s.drop 3 := by
  obtain ⟨a, b, c, t, rfl⟩ := three_of s h.2.2.1
  simp only [byte_s, byte0] at *
  have := a.toNat_lt
  have := b.toNat_lt
  have := c.toNat_lt
  rw [enc_three _ h3, u8_of a _ (by omega), u8_of b _ (by omega), u8_of c _ (by omega)]; rfl
theorem inv_four (s : List UInt8) (h : byte s 0 / 8 = 30 ∧ (1 < s.length ∧ byte s 1 / 64 = 2) ∧ (2 < s.length ∧ byte s 2 / 64 = 2) ∧ (3 < s.length ∧ byte s 3 / 64 = 2)) (r : Nat)
    (hr : byte s 0 % 8 * 262144 + byte s 1 % 64 * 4096 + byte s 2 % 64 * 64 + byte s 3 % 64 = r) (h3 : 65536 ≤ r) (h4 : r ≤ 1114111) : s = enc (r : Int) ++ s.drop 4 := by
  obtain ⟨a, b, c, d, t, rfl⟩ := four_of s h.2.2.2.1
  simp only [byte_s, byte0] at *
  have := a.toNat_lt
  have := b.toNat_lt
  have := c.toNat_lt
  have := d.toNat_lt
  rw [enc_four _ h3 h4, u8_of a _ (by omega), u8_of b _ (by omega), u8_of c _ (by omega), u8_of d _ (by omega)]; rfl
set_option maxRecDepth 100000 in
/-- What is read is what was written. -/
theorem dec_inv (s : List UInt8) (h0 : 0 < s.length) (h : dec s ≠ (65533, 1)) : s = enc ((dec s).1 : Int) ++ s.drop (dec s).2 := by
  have hb0 := byte_lt s 0
  have hb1 := byte_lt s 1
  have hb2 := byte_lt s 2
  have hb3 := byte_lt s 3
  unfold dec decodeN at h ⊢
  split
  · rename_i h1; exact inv_one s h0 h1
  · split
    · rename_i h1 h2
      rw [if_neg h1, if_pos h2] at h
      split
      · rename_i h3; exact inv_two s h2 _ rfl h3
      · rename_i h3; rw [if_neg h3] at h; exact absurd rfl h
    · split
      · rename_i h1 h2 h4
        rw [if_neg h1, if_neg h2, if_pos h4] at h
        split
        · rename_i h3; exact inv_three s h4 _ rfl (by omega)
        · rename_i h3; rw [if_neg h3] at h; exact absurd rfl h
      · split
        · rename_i h1 h2 h4 h5
          rw [if_neg h1, if_neg h2, if_neg h4, if_pos h5] at h
          split
          · rename_i h3; exact inv_four s h5 _ rfl (by omega) (by omega)
          · rename_i h3; rw [if_neg h3] at h; exact absurd rfl h
        · rename_i h1 h2 h4 h5
          rw [if_neg h1, if_neg h2, if_neg h4, if_neg h5] at h
          exact absurd rfl h
/-- No code point of it is U+FFFD, or byte 0. -/
def cleanL (l : List Int) : Bool := l.all fun r => decide (r ≠ 65533)
theorem clean_enc (s : List UInt8) (n i : Nat) (hn : s.length - i ≤ n) (h : cleanL (pn s i) = true) : encZs (pn s i) = s.drop i := by
  induction n generalizing i with
  | zero => rw [pn_out s i (by omega), List.drop_eq_nil_of_le (by omega)]; rfl
  | succ n ih =>
    by_cases hi : i < s.length
    · have hw := dec_width (s.drop i)
      rw [pn_in s i hi] at h ⊢
      simp only [cleanL, List.all_cons, Bool.and_eq_true, decide_eq_true_eq] at h
      obtain ⟨h1, h2⟩ := h
      have hp : ptv (s.drop i) = ((dec (s.drop i)).1 : Int) ∧ (dec (s.drop i)).1 ≠ 65533 := by
        unfold ptv at h1 ⊢
        split at h1
        · exact absurd rfl h1
        · rename_i hh; rw [if_neg hh]; exact ⟨rfl, by omega⟩
      have hd := dec_inv (s.drop i) (by simp; omega) (by intro hh; rw [hh] at hp; exact hp.2 rfl)
      rw [encZs_cons, ih _ (by omega) h2, hp.1, ← List.drop_drop]
      exact hd.symm
    · rw [pn_out s i (by omega), List.drop_eq_nil_of_le (by omega)]; rfl
theorem pn_enc (l : List Int) (h : ∀ r ∈ l, okP r) (pre : List UInt8) : pn (pre ++ encZs l) pre.length = l := by
  induction l generalizing pre with
  | nil => rw [encZs_nil, pn_out _ _ (by simp)]
  | cons a l ih =>
    have ha := h a (by simp)
    obtain ⟨n, rfl⟩ : ∃ n : Nat, a = (n : Int) := ⟨a.toNat, by have := ha.2; omega⟩
    have hp := enc_pos (n : Int)
    have hd : dec (enc (n : Int) ++ encZs l) = (n, wid n) := dec_enc n ha.1 _
    have hl : (enc (n : Int)).length = wid n := enc_len n ha.1
    rw [encZs_cons, pn_in _ _ (by simp; omega)]
    simp only [List.drop_left, ptv, hd]
    rw [if_neg (by have := ha.2; omega), ← List.append_assoc, ← hl, ← List.length_append, ih (fun r hr => h r (by simp [hr]))]
theorem pn_enc0 (l : List Int) (h : ∀ r ∈ l, okP r) : pn (encZs l) 0 = l := by
  have := pn_enc l h []
  simpa using this
theorem enc_ascii (r : Int) (h0 : 0 ≤ r) (h : r < 128) : enc r = [r.toNat.toUInt8] := by
  obtain ⟨n, rfl⟩ : ∃ n : Nat, r = (n : Int) := ⟨r.toNat, by omega⟩
  rw [enc_one n (by omega)]; rfl
theorem enc_byte (c : UInt8) (h : c.toNat < 128) : enc (c.toNat : Int) = [c] := by rw [enc_one _ h, u8_of c _ rfl]
/-- A first byte below 128 is a code point of its own. -/
theorem pn_ascii (c : UInt8) (t : List UInt8) (h : c.toNat < 128) (h0 : c.toNat ≠ 0) : pn (c :: t) 0 = (c.toNat : Int) :: pn t 0 := by
  have hd : dec (c :: t) = (c.toNat, 1) := by unfold dec decodeN; rw [byte0, if_pos h]
  rw [pn_in _ _ (by simp)]
  simp only [List.drop_zero, ptv, hd]
  rw [if_neg h0]
  have := pn_drop (c :: t) (c :: t).length 0 1 (by simp)
  simp only [List.drop_succ_cons, List.drop_zero, Nat.add_zero] at this
  rw [Nat.zero_add, this]
theorem pn_head (c : UInt8) (t : List UInt8) (a : Int) (u : List Int) (h : pn (c :: t) 0 = a :: u) (ha : a < 128) : a = (c.toNat : Int) ∧ u = pn t 0 := by
  rw [pn_in _ _ (by simp)] at h
  simp only [List.drop_zero, ptv] at h
  have hlow : (dec (c :: t)).1 < 128 := by
    split at h
    · simp at h; omega
    · simp at h; omega
  have := dec_low (c :: t) hlow
  rw [byte0] at this
  by_cases h0 : c.toNat = 0
  · rw [if_pos (by omega)] at h; simp at h; omega
  · have e := pn_ascii c t (by omega) h0
    rw [pn_in _ _ (by simp)] at e
    simp only [List.drop_zero, ptv] at e
    rw [e] at h
    simp at h
    exact ⟨h.1.symm, h.2.symm⟩
/-- How many bytes a name has that are written otherwise, being first. -/
def headN (s : List UInt8) : Nat :=
  match s with
  | [] => 0
  | c :: t => if nDg c.toNat then 1 else match t with
    | [] => 0
    | d :: _ => if c.toNat = 45 ∧ nDg d.toNat = true then 2 else 0
theorem spF_cons (a : Int) (t : List Int) : spF (a :: t) = if nDg a = true then numN a ++ spR t else if a = 45 then (match t with
    | [] => [92, 45]
    | b :: u => if nDg b then 45 :: numN b ++ spR u else 45 :: spR (b :: u)) else spR (a :: t) := rfl
theorem spF_zero (s : List UInt8) (h : headN s = 0) (h45 : s ≠ [45]) : spF (pn s 0) = spR (pn s 0) := by
  cases hp : pn s 0 with
  | nil => rfl
  | cons a u =>
    cases s with
    | nil => rw [pn_out [] 0 (by simp)] at hp; simp at hp
    | cons c t =>
      unfold headN at h
      simp only at h
      split at h
      · simp at h
      · rename_i hnd
        have hna : nDg a = false := by
          by_cases hd : nDg a = true
          · have := dg_num a hd
            have e := pn_head c t a u hp (by omega)
            rw [e.1] at hd; exact absurd hd hnd
          · simpa using hd
        rw [spF_cons, if_neg (by simp [hna])]
        by_cases ha : a = 45
        · subst ha
          have e := pn_head c t 45 u hp (by omega)
          rw [if_pos rfl]
          obtain ⟨e1, e2⟩ := e
          cases t with
          | nil => exfalso; apply h45; rw [show c = 45 from UInt8.toNat_inj.1 (by show c.toNat = 45; omega)]
          | cons d t =>
            simp only at h
            have hd2 : ¬ nDg d.toNat = true := by
              intro hd
              rw [if_pos ⟨by omega, hd⟩] at h
              simp at h
            cases u with
            | nil => rw [pn_in _ _ (by simp)] at e2; simp at e2
            | cons b u =>
              simp only
              rw [if_neg]
              · simp [spR, sp, nIn, nSt, nDg]
              · intro hb
                have := dg_num b hb
                have e3 := pn_head d t b u e2.symm (by omega)
                rw [e3.1] at hb; exact hd2 hb
        · rw [if_neg ha]
theorem spF_one (c : UInt8) (t : List UInt8) (h : nDg c.toNat = true) : spF (pn (c :: t) 0) = numN c.toNat ++ spR (pn t 0) := by
  have := dg_num _ h
  rw [pn_ascii c t (by omega) (by omega)]
  rw [spF_cons, if_pos h]
theorem spF_two (d : UInt8) (t : List UInt8) (h : nDg d.toNat = true) : spF (pn (45 :: d :: t) 0) = 45 :: numN d.toNat ++ spR (pn t 0) := by
  have := dg_num _ h
  rw [pn_ascii 45 _ (by decide) (by decide), pn_ascii d t (by omega) (by omega)]
  show spF (45 :: _) = _
  rw [spF_cons, if_neg (by decide), if_pos rfl]
  show (if nDg d.toNat = true then _ else _) = _
  rw [if_pos h]
theorem spF_dash : spF (pn [45] 0) = [92, 45] := by
  rw [pn_ascii 45 [] (by decide) (by decide), pn_out [] 0 (by simp)]
  decide
theorem encZs_len (l : List Int) : l.length ≤ (encZs l).length ∧ (encZs l).length ≤ 4 * l.length := by
  induction l with
  | nil => simp [encZs]
  | cons a l ih =>
    have := enc_le a
    have := enc_pos a
    rw [encZs_cons, List.length_append]
    simp; omega
theorem sp_len (r : Int) : (sp r).length ≤ 4 := by
  unfold sp numN hexd
  repeat' split
  all_goals simp
theorem spR_len (l : List Int) : (spR l).length ≤ 4 * l.length := by
  induction l with
  | nil => simp [spR]
  | cons a l ih =>
    have := sp_len a
    simp [spR] at ih ⊢; omega
end Go.Proofs.YtkaojigdogeliaaDoor.M
