/- Plain numbers and lists: how far texts are UTF-8, one behind the other. Nothing of the program is imported. -/
import Derived.Test.YtkaojigdogeliaaDoorUMath2
namespace Go.Proofs.YtkaojigdogeliaaDoor.M
open Go.Lib

set_option maxHeartbeats 4000000 in
theorem decodeN_more (n m b0 b1 b2 b3 c1 c2 c3 : Nat) (hnm : n ≤ m) (h1 : 1 < n → c1 = b1) (h2 : 2 < n → c2 = b2) (h3 : 3 < n → c3 = b3) (hok : decodeN n b0 b1 b2 b3 ≠ (65533, 1)) :
    decodeN m b0 c1 c2 c3 = decodeN n b0 b1 b2 b3 := by
  by_cases a0 : b0 < 128
  · unfold decodeN; rw [if_pos a0, if_pos a0]
  · by_cases a1 : b0 / 32 = 6 ∧ (1 < n ∧ b1 / 64 = 2)
    · obtain rfl := h1 a1.2.1
      unfold decodeN
      rw [if_neg a0, if_neg a0, if_pos a1, if_pos (by omega)]
    · by_cases a2 : b0 / 16 = 14 ∧ (1 < n ∧ b1 / 64 = 2) ∧ (2 < n ∧ b2 / 64 = 2)
      · obtain rfl := h1 a2.2.1.1
        obtain rfl := h2 a2.2.2.1
        unfold decodeN
        rw [if_neg a0, if_neg a0, if_neg (by omega), if_neg a1, if_pos (by omega), if_pos a2]
      · by_cases a3 : b0 / 8 = 30 ∧ (1 < n ∧ b1 / 64 = 2) ∧ (2 < n ∧ b2 / 64 = 2) ∧ (3 < n ∧ b3 / 64 = 2)
        · obtain rfl := h1 a3.2.1.1
          obtain rfl := h2 a3.2.2.1.1
          obtain rfl := h3 a3.2.2.2.1
          unfold decodeN
          rw [if_neg a0, if_neg a0, if_neg (by omega), if_neg a1, if_neg (by omega), if_neg a2, if_pos (by omega), if_pos a3]
        · exfalso
          apply hok
          unfold decodeN
          rw [if_neg a0, if_neg a1, if_neg a2, if_neg a3]
theorem byte_append (s t : List UInt8) (i : Nat) (h : i < s.length) : byte (s ++ t) i = byte s i := by
  unfold byte
  simp [List.getD, List.getElem?_append_left h]
theorem nx_ok (s : List UInt8) : (nx s).2.2 = true ↔ dec s ≠ (65533, 1) := by
  unfold nx
  split
  · rename_i h; simp [h]
  · rename_i h; simp [h]
theorem dec_append (s t : List UInt8) (h0 : 0 < s.length) (h : (nx s).2.2 = true) : dec (s ++ t) = dec s := by
  rw [nx_ok] at h
  unfold dec at *
  rw [byte_append s t 0 h0]
  exact decodeN_more _ _ _ _ _ _ _ _ _ (by simp) (fun h => byte_append s t 1 h) (fun h => byte_append s t 2 h) (fun h => byte_append s t 3 h) h
theorem nx_append (s t : List UInt8) (h0 : 0 < s.length) (h : (nx s).2.2 = true) : (nx (s ++ t)).2.2 = true := by
  rw [nx_ok] at *
  rw [dec_append s t h0 (by rw [nx_ok]; exact h)]
  exact h
theorem valid_fuel (l : List UInt8) (f g p : Nat) (hf : l.length ≤ p + f) (hg : l.length ≤ p + g) : valid f l p = valid g l p := by
  induction f generalizing g p with
  | zero => rw [valid_end 0 l p (by omega), valid_end g l p (by omega)]
  | succ f ih =>
    by_cases hp : l.length ≤ p
    · rw [valid_end _ l p hp, valid_end g l p hp]
    · have hw := dec_width (l.drop p)
      cases hn : (nx (l.drop p)).2.2 with
      | false => rw [valid_bad _ l p (by omega) (by omega) hn, valid_bad g l p (by omega) (by omega) hn]
      | true =>
        rw [valid_good _ l p (by omega) (by omega) hn, valid_good g l p (by omega) (by omega) hn]
        exact ih _ _ (by omega) (by omega)
theorem valid_shift (a b : List UInt8) (f q : Nat) : valid f (a ++ b) (a.length + q) = (a.length + (valid f b q).1, (valid f b q).2) := by
  induction f generalizing q with
  | zero => simp [valid]
  | succ f ih =>
    by_cases hq : b.length ≤ q
    · rw [valid_end _ b q hq, valid_end _ (a ++ b) _ (by simp; omega)]
    · have hd : (a ++ b).drop (a.length + q) = b.drop q := by simp
      cases hn : (nx (b.drop q)).2.2 with
      | false => rw [valid_bad _ b q (by omega) (by omega) hn, valid_bad _ (a ++ b) _ (by simp; omega) (by omega) (by rw [hd]; exact hn)]
      | true =>
        rw [valid_good _ b q (by omega) (by omega) hn, valid_good _ (a ++ b) _ (by simp; omega) (by omega) (by rw [hd]; exact hn), hd, Nat.add_assoc]
        exact ih _
/-- From any place within the first text: if it is UTF-8 to its end the reading comes to its end; else it comes at least as far. -/
theorem valid_join (a b : List UInt8) (f p g : Nat) (hp : p ≤ a.length) (hf : a.length ≤ p + f) (hg : a.length + b.length ≤ p + g) :
    ((valid f a p).2 = true → valid g (a ++ b) p = (a.length + (validAll b).1, (validAll b).2)) ∧ ((valid f a p).2 = false → (valid f a p).1 ≤ (valid g (a ++ b) p).1) := by
  induction f generalizing p g with
  | zero =>
    obtain rfl : p = a.length := by omega
    rw [valid_end 0 a _ (Nat.le_refl _)]
    refine ⟨fun _ => ?_, fun h => by simp at h⟩
    have := valid_shift a b g 0
    rw [Nat.add_zero] at this
    rw [this, valid_fuel b g b.length 0 (by omega) (by omega)]
    rfl
  | succ f ih =>
    by_cases he : a.length ≤ p
    · obtain rfl : p = a.length := by omega
      rw [valid_end _ a _ (Nat.le_refl _)]
      refine ⟨fun _ => ?_, fun h => by simp at h⟩
      have := valid_shift a b g 0
      rw [Nat.add_zero] at this
      rw [this, valid_fuel b g b.length 0 (by omega) (by omega)]
      rfl
    · have hw := dec_width (a.drop p)
      have hle := dec_le (a.drop p) (by simp; omega)
      rw [List.length_drop] at hle
      have hd : (a ++ b).drop p = a.drop p ++ b := by rw [List.drop_append_of_le_length (by omega)]
      cases hn : (nx (a.drop p)).2.2 with
      | false =>
        rw [valid_bad _ a p (by omega) (by omega) hn]
        refine ⟨fun h => by simp at h, fun _ => ?_⟩
        have hge : ∀ g p, p ≤ (valid g (a ++ b) p).1 := by
          intro g
          induction g with
          | zero => intro p; simp [valid]
          | succ g ihg =>
            intro p
            unfold valid
            split
            · exact Nat.le_refl _
            · split
              · exact Nat.le_trans (Nat.le_add_right _ _) (ihg _)
              · exact Nat.le_refl _
        exact hge g p
      | true =>
        rw [valid_good _ a p (by omega) (by omega) hn, valid_good g (a ++ b) p (by simp; omega) (by omega) (by rw [hd]; exact nx_append _ _ (by simp; omega) hn), hd, dec_append _ _ (by simp; omega) hn]
        exact ih _ _ (by omega) (by omega) (by omega)
theorem valid_len (l : List UInt8) (f p : Nat) (hp : p ≤ l.length) (hf : l.length ≤ p + f) (h : (valid f l p).2 = true) : (valid f l p).1 = l.length := by
  induction f generalizing p with
  | zero => simp [valid]; omega
  | succ f ih =>
    by_cases he : l.length ≤ p
    · rw [valid_end _ l _ he]; simp only; omega
    · have hw := dec_width (l.drop p)
      have hle := dec_le (l.drop p) (by simp; omega)
      rw [List.length_drop] at hle
      cases hn : (nx (l.drop p)).2.2 with
      | false => rw [valid_bad _ l p (by omega) (by omega) hn] at h; simp at h
      | true =>
        rw [valid_good _ l p (by omega) (by omega) hn] at h ⊢
        exact ih _ (by omega) (by omega) h
theorem join_good (a b : List UInt8) (h : (validAll a).2 = true) : validAll (a ++ b) = (a.length + (validAll b).1, (validAll b).2) := by
  unfold validAll at *
  rw [(valid_join a b a.length 0 (a ++ b).length (by omega) (by omega) (by simp)).1 h]
  rfl
theorem join_bad (a b : List UInt8) (h : (validAll a).2 = false) : (validAll a).1 ≤ (validAll (a ++ b)).1 := by
  unfold validAll at *
  exact (valid_join a b a.length 0 (a ++ b).length (by omega) (by omega) (by simp)).2 h
theorem all_len (l : List UInt8) (h : (validAll l).2 = true) : (validAll l).1 = l.length := valid_len l l.length 0 (by omega) (by omega) h
theorem valid_le (l : List UInt8) (f p : Nat) (hp : p ≤ l.length) : (valid f l p).1 ≤ l.length := by
  induction f generalizing p with
  | zero => simpa [valid] using hp
  | succ f ih =>
    unfold valid
    split
    · exact hp
    · have hle := dec_le (l.drop p) (by simp; omega)
      rw [List.length_drop] at hle
      split
      · exact ih _ (by omega)
      · exact hp
theorem all_le (l : List UInt8) : (validAll l).1 ≤ l.length := valid_le l _ 0 (by omega)
end Go.Proofs.YtkaojigdogeliaaDoor.M
