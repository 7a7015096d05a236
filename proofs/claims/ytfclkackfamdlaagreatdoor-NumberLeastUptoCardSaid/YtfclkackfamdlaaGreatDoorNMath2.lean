/- Plain numbers and lists: the numbers of chapter 5, spelled, and read again. -/
import Derived.Test.YtfclkackfamdlaaGreatDoorNMath
import Derived.Test.YtfclkackfamdlaaGreatDoorDInt
namespace Go.Proofs.YtfclkackfamdlaaGreatDoor.M
set_option linter.unusedVariables false
set_option linter.unusedSimpArgs false

/-- May digits and a power be a number's? -/
def rightN (D E : List UInt8) : Bool := if D = [] then E.isEmpty else D.all dig && D.head? != some 48 && D.getLast? != some 48 && rightD E
/-- Without a power. -/
def unsc (d : List UInt8) (x : Int) : List UInt8 :=
  if 0 ≤ x ∧ x ≤ 20 then d ++ List.replicate x.toNat 48
  else if x < 0 ∧ 0 < (d.length : Int) + x then d.take ((d.length : Int) + x).toNat ++ 46 :: d.drop ((d.length : Int) + x).toNat
  else if (d.length : Int) + x ≤ 0 ∧ -20 ≤ (d.length : Int) + x then 48 :: 46 :: (List.replicate (-((d.length : Int) + x)).toNat 48 ++ d)
  else []
def sgl (ng : Bool) : List UInt8 := if ng then [45] else []
def upE (D E : List UInt8) : List UInt8 := (addD E (txt ((D.length : Int) - 1))).1
def plain1 (ng : Bool) (D E : List UInt8) : List (List UInt8) := if (intD E).2 = true ∧ unsc D (intD E).1 ≠ [] then [sgl ng ++ unsc D (intD E).1] else []
def plain3 (ng : Bool) (D E : List UInt8) : List (List UInt8) := if 1 < D.length ∧ upE D E ≠ [48] then [sgl ng ++ (D.take 1 ++ 46 :: (D.drop 1 ++ 101 :: upE D E))] else []
/-- The texts of a number. -/
def plainN (ng : Bool) (D E : List UInt8) : List (List UInt8) :=
  if rightN D E = true then (if D = [] then [sgl ng ++ [48]] else plain1 ng D E ++ ([sgl ng ++ (D ++ 101 :: E)] ++ plain3 ng D E)) else []
def less2 (b s : List UInt8) : List UInt8 := if s.length < b.length then s else b
/-- The first of those with the fewest bytes. -/
def shortN : List (List UInt8) → List UInt8
  | [] => []
  | a :: t => t.foldl less2 a
theorem fold_short (t : List (List UInt8)) : ∀ a, (t.foldl less2 a ∈ a :: t) ∧ ∀ x ∈ a :: t, (t.foldl less2 a).length ≤ x.length := by
  induction t with
  | nil => intro a; simp
  | cons b t ih =>
    intro a
    rw [List.foldl_cons]
    obtain ⟨h1, h2⟩ := ih (less2 a b)
    have h3 := h2 (less2 a b) (by simp)
    have h4 : (less2 a b).length ≤ a.length ∧ (less2 a b).length ≤ b.length ∧ (less2 a b = a ∨ less2 a b = b) := by
      unfold less2; split <;> simp <;> omega
    refine ⟨?_, fun x hx => ?_⟩
    · rcases List.mem_cons.1 h1 with h | h
      · rw [h]; rcases h4.2.2 with e | e <;> (rw [e]; simp)
      · simp [h]
    · rcases List.mem_cons.1 hx with rfl | hx
      · omega
      · rcases List.mem_cons.1 hx with rfl | hx
        · omega
        · exact h2 x (by simp [hx])
theorem short_mem (l : List (List UInt8)) (h : l ≠ []) : shortN l ∈ l := by
  cases l with
  | nil => exact absurd rfl h
  | cons a t => exact (fold_short t a).1
theorem short_le (l : List (List UInt8)) : ∀ x ∈ l, (shortN l).length ≤ x.length := by
  cases l with
  | nil => intro x hx; simp at hx
  | cons a t => exact (fold_short t a).2
theorem canon_last (m : Nat) (h : m % 10 ≠ 0) : (canon m).getLast? ≠ some 48 := by
  rw [canon_pos m (by intro h0; subst h0; exact h rfl)]
  simp
  intro e
  have := congrArg UInt8.toNat e
  rw [ofD_nat] at this
  simp at this; omega
theorem right_core (m : Nat) (X : Int) (h : m % 10 ≠ 0) : rightN (canon m) (txt X) = true := by
  have h0 : m ≠ 0 := by intro h0; subst h0; exact h rfl
  unfold rightN
  rw [if_neg (canon_ne m h0), (val_txt X).2]
  obtain ⟨c, t, e, hc⟩ := canon_head m h0
  have h1 : (canon m).all dig = true := List.all_eq_true.2 (canon_dig m)
  have h2 : ((canon m).head? != some 48) = true := by rw [e]; simpa using hc
  have h3 : ((canon m).getLast? != some 48) = true := by rw [bne_iff_ne]; exact canon_last m h
  rw [h1, h2, h3]; rfl
theorem canon_core (D : List UInt8) (hd : ∀ c ∈ D, dig c = true) (h1 : D.head? ≠ some 48) (h2 : D.getLast? ≠ some 48) (hne : D ≠ []) : dval D % 10 ≠ 0 ∧ D = canon (dval D) := by
  have e := canon_self D hd h1
  refine ⟨fun h => ?_, e.symm⟩
  have h0 : dval D ≠ 0 := dval_pos D hd h1 hne
  rw [canon_pos _ h0] at e
  apply h2
  rw [← e]
  simp [ofD, h]
theorem right_ex (D E : List UInt8) (h : rightN D E = true) : (D = [] ∧ E = []) ∨ ∃ m X, m % 10 ≠ 0 ∧ D = canon m ∧ E = txt X := by
  unfold rightN at h
  split at h
  · rename_i h0; left; exact ⟨h0, by simpa using h⟩
  · rename_i h0
    right
    simp only [Bool.and_eq_true, List.all_eq_true, bne_iff_ne] at h
    obtain ⟨⟨⟨h1, h2⟩, h3⟩, h4⟩ := h
    obtain ⟨h5, h6⟩ := canon_core D h1 h2 h3 h0
    exact ⟨_, _, h5, h6, (txt_val E h4).symm⟩
theorem nz_right (v : Nat) (e : Int) : rightN (nz v e).1 (nz v e).2 = true := by
  by_cases h0 : v = 0
  · subst h0; rw [nz_zero]; rfl
  · obtain ⟨m, k, hm, rfl⟩ := core_ex v h0
    rw [nz_pow, nz_core _ _ hm]
    exact right_core m _ hm
theorem txt_ne (X : Int) : txt X ≠ [] := by
  rcases txt_cases X with ⟨_, e⟩ | ⟨_, e⟩
  · rw [e]; exact decS_ne _
  · rw [e]; simp
theorem expAt_txt (X : Int) : ExpAt (101 :: txt X) X := .inr ⟨101, .inl rfl, rfl⟩
theorem sgl_at (ng : Bool) : (sgl ng = [] ∧ ng = false) ∨ (sgl ng = [45] ∧ ng = true) ∨ (sgl ng = [43] ∧ ng = false) := by cases ng <;> simp [sgl]
theorem dig_rep (k : Nat) : ∀ c ∈ List.replicate k (48 : UInt8), dig c = true := by
  intro c hc
  rw [List.mem_replicate] at hc
  rw [hc.2]; decide
theorem dval_zeros (D : List UInt8) (k : Nat) : dval (D ++ List.replicate k 48) = dval D * 10 ^ k := by
  induction k with
  | zero => simp
  | succ k ih => rw [List.replicate_succ', ← List.append_assoc, dval_snoc, ih, Nat.pow_succ]; show 10 * (dval D * 10 ^ k) + 0 = dval D * (10 ^ k * 10); rw [Nat.mul_comm (10 ^ k) 10, Nat.mul_left_comm (dval D), Nat.add_zero]
theorem dval_lead (k : Nat) (D : List UInt8) : dval (List.replicate k 48 ++ D) = dval D := by
  induction k with
  | zero => simp
  | succ k ih => rw [List.replicate_succ, List.cons_append, dval_cons, ih]; simp
theorem upE_txt (D : List UInt8) (X : Int) : upE D (txt X) = txt (X + ((D.length : Int) - 1)) := by
  unfold upE
  rw [add_right _ _ (val_txt X).2 (val_txt _).2, (val_txt X).1, (val_txt _).1]
/-- Each spelling is read as the number. -/
theorem plain_back (ng : Bool) (D E : List UInt8) : ∀ t ∈ plainN ng D E, readN t = ((ng, D, E), true) := by
  intro t ht
  unfold plainN at ht
  split at ht
  case isFalse => simp at ht
  rename_i hr
  rcases right_ex D E hr with ⟨rfl, rfl⟩ | ⟨m, X, hm, rfl, rfl⟩
  · rw [if_pos rfl] at ht
    simp only [List.mem_singleton] at ht
    subst ht
    have := read_form (sgl ng) ng (sgl_at ng) [48] [] [] [] 0 (by decide) (by simp) (.inl ⟨rfl, rfl, by simp⟩) (.inl ⟨rfl, rfl⟩)
    simp only [List.append_nil] at this
    rw [this]
    congr 1; exact congrArg (Prod.mk ng) (nz_zero _)
  · have h0 : m ≠ 0 := by intro h0; subst h0; exact hm rfl
    have hne := canon_ne m h0
    have hD := canon_dig m
    rw [if_neg hne] at ht
    obtain ⟨D, eD⟩ : ∃ D, canon m = D := ⟨_, rfl⟩
    have hdv : dval D = m := by rw [← eD, dval_canon]
    have hcore : ∀ e : Int, nz (dval D) e = (D, txt e) := fun e => by rw [hdv, nz_core m e hm, eD]
    rw [eD] at ht hne hD ⊢
    have hl : 0 < D.length := List.length_pos_iff.2 hne
    rcases List.mem_append.1 ht with ht | ht
    · unfold plain1 at ht
      split at ht
      case isFalse => simp at ht
      rename_i hc
      simp only [List.mem_singleton] at ht
      subst ht
      have hx : (intD (txt X)).1 = X := by
        have h2 := hc.1
        unfold intD at h2 ⊢
        split
        · exact (val_txt X).1
        · rename_i hh; rw [if_neg hh] at h2; exact absurd h2 (by simp)
      have hu := hc.2
      rw [hx] at hu ⊢
      unfold unsc at hu ⊢
      split
      · rename_i h1
        have := read_form (sgl ng) ng (sgl_at ng) (D ++ List.replicate X.toNat 48) [] [] [] 0 (fun c hc => (List.mem_append.1 hc).elim (hD c) (dig_rep _ c)) (by simp) (.inl ⟨rfl, rfl, by simp [hne]⟩) (.inl ⟨rfl, rfl⟩)
        simp only [List.append_nil] at this
        rw [this, dval_zeros, nz_pow, hcore, show (0 : Int) - ([] : List UInt8).length + X.toNat = X by simp; omega]
      · rename_i h1
        split
        · rename_i h2
          obtain ⟨n, hn⟩ : ∃ n : Nat, (n : Int) = D.length + X := ⟨((D.length : Int) + X).toNat, by omega⟩
          rw [show ((D.length : Int) + X).toNat = n by omega]
          have := read_form (sgl ng) ng (sgl_at ng) (D.take n) (D.drop n) (46 :: D.drop n) [] 0 (fun c hc => hD c (List.mem_of_mem_take hc)) (fun c hc => hD c (List.mem_of_mem_drop hc)) (.inr ⟨rfl, by intro e; have := congrArg List.length e; simp at this; omega⟩) (.inl ⟨rfl, rfl⟩)
          rw [List.append_nil] at this
          rw [this, List.take_append_drop, hcore, List.length_drop, show (0 : Int) - ((D.length - n : Nat) : Int) = X by omega]
        · rename_i h2
          split
          · rename_i h3
            obtain ⟨n, hn⟩ : ∃ n : Nat, (n : Int) = -(D.length + X) := ⟨(-((D.length : Int) + X)).toNat, by omega⟩
            rw [show (-((D.length : Int) + X)).toNat = n by omega]
            have := read_form (sgl ng) ng (sgl_at ng) [48] (List.replicate n 48 ++ D) (46 :: (List.replicate n 48 ++ D)) [] 0 (by decide) (fun c hc => (List.mem_append.1 hc).elim (dig_rep _ c) (hD c)) (.inr ⟨rfl, by simp [hne]⟩) (.inl ⟨rfl, rfl⟩)
            rw [List.append_nil] at this
            rw [show (48 :: 46 :: (List.replicate n 48 ++ D)) = [48] ++ (46 :: (List.replicate n 48 ++ D)) from rfl, this, show [48] ++ (List.replicate n 48 ++ D) = List.replicate (n + 1) 48 ++ D by rw [List.replicate_succ]; rfl, dval_lead, hcore, List.length_append, List.length_replicate, show (0 : Int) - ((n + D.length : Nat) : Int) = X by omega]
          · rename_i h3
            rw [if_neg h1, if_neg h2, if_neg h3] at hu
            exact absurd rfl hu
    · rcases List.mem_append.1 ht with ht | ht
      · simp only [List.mem_singleton] at ht
        subst ht
        have := read_form (sgl ng) ng (sgl_at ng) D [] [] (101 :: txt X) X hD (by simp) (.inl ⟨rfl, rfl, hne⟩) (expAt_txt X)
        rw [List.nil_append] at this
        rw [this, List.append_nil, hcore, show X - ([] : List UInt8).length = X by simp]
      · unfold plain3 at ht
        split at ht
        case isFalse => simp at ht
        rename_i hc
        simp only [List.mem_singleton] at ht
        subst ht
        rw [upE_txt]
        have := read_form (sgl ng) ng (sgl_at ng) (D.take 1) (D.drop 1) (46 :: D.drop 1) (101 :: txt (X + ((D.length : Int) - 1))) (X + ((D.length : Int) - 1)) (fun c hc => hD c (List.mem_of_mem_take hc)) (fun c hc => hD c (List.mem_of_mem_drop hc)) (.inr ⟨rfl, by intro e; have := congrArg List.length e; simp at this; omega⟩) (expAt_txt _)
        rw [List.cons_append] at this
        rw [this, List.take_append_drop, hcore, List.length_drop, show X + ((D.length : Int) - 1) - ((D.length - 1 : Nat) : Int) = X by omega]
end Go.Proofs.YtfclkackfamdlaaGreatDoor.M
