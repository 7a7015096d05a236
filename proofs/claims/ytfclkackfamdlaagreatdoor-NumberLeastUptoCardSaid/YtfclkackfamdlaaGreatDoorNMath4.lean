/- Plain numbers and lists: numbers written in several ways; which digits and powers may be. -/
import Derived.Test.YtfclkackfamdlaaGreatDoorNMath2
namespace Go.Proofs.YtfclkackfamdlaaGreatDoor.M
set_option linter.unusedVariables false
set_option linter.unusedSimpArgs false

theorem shift_a (ng : Bool) (S : List UInt8) (x : Int) (hd : ∀ c ∈ S, dig c = true) (h : S ≠ []) : readN (sgl ng ++ (S ++ 101 :: txt x)) = ((ng, nz (dval S) x), true) := by
  have := read_form (sgl ng) ng (sgl_at ng) S [] [] (101 :: txt x) x hd (by simp) (.inl ⟨rfl, rfl, h⟩) (expAt_txt x)
  rw [List.nil_append, List.append_nil, show x - ([] : List UInt8).length = x by simp] at this
  exact this
theorem shift_a' (ng : Bool) (S : List UInt8) (x : Int) (hd : ∀ c ∈ S, dig c = true) (h : S ≠ []) : readN (sgl ng ++ (S ++ 69 :: txt x)) = ((ng, nz (dval S) x), true) := by
  have := read_form (sgl ng) ng (sgl_at ng) S [] [] (69 :: txt x) x hd (by simp) (.inl ⟨rfl, rfl, h⟩) (.inr ⟨69, .inr rfl, rfl⟩)
  rw [List.nil_append, List.append_nil, show x - ([] : List UInt8).length = x by simp] at this
  exact this
theorem shift_b (ng : Bool) (S : List UInt8) (x : Int) (k : Nat) (hd : ∀ c ∈ S, dig c = true) (h : S ≠ []) : readN (sgl ng ++ ((S ++ List.replicate k 48) ++ 69 :: txt (x - k))) = ((ng, nz (dval S) x), true) := by
  rw [shift_a' ng (S ++ List.replicate k 48) (x - k) (fun c hc => (List.mem_append.1 hc).elim (hd c) (dig_rep _ c)) (by simp [h]), dval_zeros, nz_pow, show x - (k : Int) + k = x by omega]
theorem shift_c (ng : Bool) (S : List UInt8) (x : Int) (k : Nat) (hd : ∀ c ∈ S, dig c = true) : readN (sgl ng ++ ((48 :: 48 :: S) ++ (46 :: (List.replicate k 48 ++ [48]) ++ 101 :: txt x))) = ((ng, nz (dval S) x), true) := by
  have hr : List.replicate k (48 : UInt8) ++ [48] = List.replicate (k + 1) 48 := by rw [List.replicate_succ']
  rw [hr]
  have := read_form (sgl ng) ng (sgl_at ng) (48 :: 48 :: S) (List.replicate (k + 1) 48) (46 :: List.replicate (k + 1) 48) (101 :: txt x) x (by
    intro c hc
    rcases List.mem_cons.1 hc with rfl | hc
    · decide
    · rcases List.mem_cons.1 hc with rfl | hc
      · decide
      · exact hd c hc) (dig_rep _) (.inr ⟨rfl, by simp⟩) (expAt_txt x)
  rw [this, dval_zeros, nz_pow, List.length_replicate, show x - ((k + 1 : Nat) : Int) + ((k + 1 : Nat) : Int) = x by omega]
  rw [show (48 : UInt8) :: 48 :: S = List.replicate 2 48 ++ S from rfl, dval_lead]
theorem shift_d (ng : Bool) (S : List UInt8) (x : Int) (k : Nat) (hd : ∀ c ∈ S, dig c = true) (h : S ≠ []) : readN (sgl ng ++ (46 :: (List.replicate k 48 ++ S) ++ 101 :: txt (x + k + S.length))) = ((ng, nz (dval S) x), true) := by
  have := read_form (sgl ng) ng (sgl_at ng) [] (List.replicate k 48 ++ S) (46 :: (List.replicate k 48 ++ S)) (101 :: txt (x + k + S.length)) (x + k + S.length) (by simp)
    (fun c hc => (List.mem_append.1 hc).elim (dig_rep _ c) (hd c)) (.inr ⟨rfl, by simp [h]⟩) (expAt_txt _)
  rw [List.nil_append, List.nil_append] at this
  rw [this, dval_lead, List.length_append, List.length_replicate, show x + (k : Int) + (S.length : Int) - ((k + S.length : Nat) : Int) = x by omega]
/-- A number with noughts ahead, and a point three digits from its end. -/
theorem value_p (a j k : Nat) (x : Int) (S : List UInt8) (hS : S = List.replicate j 48 ++ decS a) (hk : k + 3 = S.length) : readN (S.take k ++ (46 :: S.drop k ++ 101 :: txt (x + 3))) = ((false, nz a x), true) := by
  have hd : ∀ c ∈ S, dig c = true := by
    rw [hS]; exact fun c hc => (List.mem_append.1 hc).elim (dig_rep _ c) (decS_dig _ c)
  have hv : dval S = a := by rw [hS, dval_lead, dval_decS]
  have := read_form [] false (.inl ⟨rfl, rfl⟩) (S.take k) (S.drop k) (46 :: S.drop k) (101 :: txt (x + 3)) (x + 3) (fun c hc => hd c (List.mem_of_mem_take hc)) (fun c hc => hd c (List.mem_of_mem_drop hc))
    (.inr ⟨rfl, by intro e; have := congrArg List.length e; simp at this; omega⟩) (expAt_txt _)
  rw [List.nil_append] at this
  rw [this, List.take_append_drop, hv, List.length_drop, show x + 3 - ((S.length - k : Nat) : Int) = x by omega]
theorem value_n (a : Nat) (x : Int) : readN (decS a ++ 69 :: txt x) = ((false, nz a x), true) := by
  have := shift_a' false (decS a) x (decS_dig a) (decS_ne a)
  rw [dval_decS] at this
  exact this
theorem value_eq (a b : Nat) (i k : Int) (hi : -5 ≤ i) (hk : -5 ≤ k) : nz a i = nz b k ↔ a * 10 ^ (i + 5).toNat = b * 10 ^ (k + 5).toNat := by
  have := nz_eq a b 5 (i + 5).toNat (k + 5).toNat
  rw [show (((i + 5).toNat : Nat) : Int) - (5 : Nat) = i by omega, show (((k + 5).toNat : Nat) : Int) - (5 : Nat) = k by omega] at this
  exact this
theorem rs_all (D : List UInt8) : (rs D).isEmpty = D.all dig := by
  unfold rs
  induction D with
  | nil => rfl
  | cons c t ih =>
    rw [List.dropWhile_cons, List.all_cons]
    split
    · rename_i h; rw [ih, h]; simp
    · rename_i h; simp [h]
theorem strip_head (l : List UInt8) : (strip l).head? ≠ some 48 := by
  unfold strip
  induction l with
  | nil => simp
  | cons c t ih =>
    rw [List.dropWhile_cons]
    split
    · exact ih
    · rename_i h; simpa using h
theorem rstrip_last (l : List UInt8) : (rstrip l).getLast? ≠ some 48 := by
  unfold rstrip
  rw [List.getLast?_reverse]
  exact strip_head l.reverse
theorem strip_self (l : List UInt8) (h : l.head? ≠ some 48) : strip l = l := by
  unfold strip
  cases l with
  | nil => rfl
  | cons c t => rw [List.dropWhile_cons, if_neg]; simpa using h
theorem rstrip_self (l : List UInt8) (h : l.getLast? ≠ some 48) : rstrip l = l := by
  have h2 := strip_self l.reverse (by rw [List.head?_reverse]; exact h)
  unfold strip at h2
  unfold rstrip
  rw [h2, List.reverse_reverse]
theorem rstrip_pre (l : List UInt8) : ∃ k, l = rstrip l ++ List.replicate k 48 := by
  induction l using rev_ind with
  | h0 => exact ⟨0, rfl⟩
  | h1 l c ih =>
    rw [rstrip_snoc]
    split
    · rename_i h
      obtain ⟨k, hk⟩ := ih
      exact ⟨k + 1, by rw [List.replicate_succ', ← List.append_assoc, ← hk, h]⟩
    · exact ⟨0, by simp⟩
theorem strip_len2 (l : List UInt8) : (strip l).length ≤ l.length := by
  unfold strip
  exact (List.dropWhile_sublist _).length_le
theorem rstrip_len (l : List UInt8) : (rstrip l).length ≤ l.length := by
  unfold rstrip
  rw [List.length_reverse]
  exact Nat.le_trans (List.dropWhile_sublist _).length_le (by rw [List.length_reverse]; exact Nat.le_refl _)
/-- As the program asks it. -/
theorem right_prog (D E : List UInt8) (h : D ≠ []) : rightN D E = ((rs D).isEmpty && strip (rstrip D) == D && rightD E) := by
  unfold rightN
  rw [if_neg h, rs_all]
  have e : (strip (rstrip D) == D) = (D.head? != some 48 && D.getLast? != some 48) := by
    rw [Bool.eq_iff_iff]
    simp only [beq_iff_eq, Bool.and_eq_true, bne_iff_ne]
    constructor
    · intro h1
      have h2 := strip_head (rstrip D)
      rw [h1] at h2
      refine ⟨h2, fun h3 => ?_⟩
      have l1 := strip_len2 (rstrip D)
      have l2 := rstrip_len D
      rw [h1] at l1
      obtain ⟨k, hk⟩ := rstrip_pre D
      have l3 := congrArg List.length hk
      rw [List.length_append, List.length_replicate] at l3
      have hk0 : k = 0 := by omega
      rw [hk0, List.replicate_zero, List.append_nil] at hk
      rw [hk] at h3
      exact rstrip_last D h3
    · rintro ⟨h1, h2⟩
      rw [rstrip_self D h2, strip_self D h1]
  rw [e]
  cases D.all dig <;> simp [Bool.and_assoc]
end Go.Proofs.YtfclkackfamdlaaGreatDoor.M
