/- Texts of ours in one: JgD. -/
import Derived.Test.YtlobinjdgcidmaaDoorQj02
import Derived.Test.YtlobinjdgcidmaaDoorQj00
import Derived.Test.YtlobinjdgcidmaaDoorQj01
import Derived.WalkLawsBesides
import Derived.Sort.WalkB12
import Derived.Sort.WalkC
import Derived.BigRegion
import Derived.WalkSmall
import Derived.Deep.QuietTactic
import Derived.BigQuiet
import Derived.Laws.Concat
import Derived.Shelf.Strconv.AtoiAll
/- Several texts of ours in one: Dec DRev DSum DAdd DAdd2 DIntM DInt0 DInt NMath2 NMath4 NMath3. -/
/- Decimals: what the functions of package decimal return that read texts alone. -/
namespace Go.Proofs.YtlobinjdgcidmaaDoor
open Go.RowKit
set_option linter.unusedVariables false

theorem bytes_data (l : List UInt8) : (bytes l).data = l.toArray := rfl
theorem ret_i {k : IntKind} {a b : Int} (h : a = b) : Ending.returned (.int k a) = .returned (.int k b) := by rw [h]
end Go.Proofs.YtlobinjdgcidmaaDoor

/- slices.Reverse at bytes of the call's own. -/
namespace Go.Proofs.YtlobinjdgcidmaaDoor
open Go.RowKit Go.Sort
set_option linter.unusedVariables false

end Go.Proofs.YtlobinjdgcidmaaDoor

/- Decimals: adding and taking off, digit by digit; a row of digits with a sign; which is a decimal, which of two is less. -/
namespace Go.Proofs.YtlobinjdgcidmaaDoor
open Go.RowKit
set_option linter.unusedVariables false

theorem one_digit (w : World) (d : Nat) (v : Value) (h : v = .int .u8 ((M.ofD d).toNat : Int)) : Bs (w.alloc (.cells #[v] 5)) (.slice (some ⟨w.heap.size, 0, none⟩) 1 1) [M.ofD d] := by
  subst h; exact bs_cells_new w [M.ofD d] _ 1 rfl rfl (by simp)
theorem ofD_val (d : Nat) (x : Int) (h : x = 48 + (d % 10 : Nat)) : Value.int .u8 x = .int .u8 ((M.ofD d).toNat : Int) := by
  rw [M.ofD_nat, h]; congr 1

end Go.Proofs.YtlobinjdgcidmaaDoor

/- Decimals: what signed, Right, lessDigits, Add and Less return. -/
namespace Go.Proofs.YtlobinjdgcidmaaDoor
open Go.RowKit
set_option linter.unusedVariables false

theorem toList_bytes (l : List UInt8) : (bytes l).toList = l := by
  rw [ByteArray.toList_eq]; simp [bytes]
theorem unsign_len (l : List UInt8) : (M.unsign l).length ≤ l.length := by
  unfold M.unsign; split <;> simp
theorem dless_iff (k l : List UInt8) : Op.bytesLess k l = decide (k < l) := by
  induction k generalizing l with
  | nil => cases l <;> simp [Op.bytesLess]
  | cons a k ih =>
    cases l with
    | nil => simp [Op.bytesLess]
    | cons b l =>
      simp only [Op.bytesLess, ih, List.cons_lt_cons_iff]
      by_cases h1 : a < b
      · simp [h1]
      · by_cases h2 : a = b
        · subst h2; simp [h1]
        · simp [h1, h2]
end Go.Proofs.YtlobinjdgcidmaaDoor

/- Decimals: what Add and Less return, for any two texts. -/
namespace Go.Proofs.YtlobinjdgcidmaaDoor
open Go.RowKit
set_option linter.unusedVariables false

def strB (r : List UInt8 × Bool) : Value := .tuple #[.string (bytes r.1), .bool r.2]
end Go.Proofs.YtlobinjdgcidmaaDoor

/- Decimals: what Int returns, for any text. -/
namespace Go.Proofs.YtlobinjdgcidmaaDoor.M
open Go.RowKit
set_option linter.unusedVariables false

def intD (l : List UInt8) : Int × Bool := if rightD l = true ∧ -1000000 ≤ valD l ∧ valD l ≤ 1000000 then (valD l, true) else (0, false)
end Go.Proofs.YtlobinjdgcidmaaDoor.M

/- Decimals: an int and whether it is one, as a value. -/
namespace Go.Proofs.YtlobinjdgcidmaaDoor
open Go.RowKit
set_option linter.unusedVariables false
end Go.Proofs.YtlobinjdgcidmaaDoor

/- Decimals: the program's Int. -/
namespace Go.Proofs.YtlobinjdgcidmaaDoor
open Go.RowKit
set_option linter.unusedVariables false
end Go.Proofs.YtlobinjdgcidmaaDoor

/- Plain numbers and lists: the numbers of chapter 5, spelled, and read again. -/
namespace Go.Proofs.YtlobinjdgcidmaaDoor.M
set_option linter.unusedVariables false
set_option linter.unusedSimpArgs false

def rightN (D E : List UInt8) : Bool := if D = [] then E.isEmpty else D.all dig && D.head? != some 48 && D.getLast? != some 48 && rightD E
def unsc (d : List UInt8) (x : Int) : List UInt8 :=
  if 0 ≤ x ∧ x ≤ 20 then d ++ List.replicate x.toNat 48
  else if x < 0 ∧ 0 < (d.length : Int) + x then d.take ((d.length : Int) + x).toNat ++ 46 :: d.drop ((d.length : Int) + x).toNat
  else if (d.length : Int) + x ≤ 0 ∧ -20 ≤ (d.length : Int) + x then 48 :: 46 :: (List.replicate (-((d.length : Int) + x)).toNat 48 ++ d)
  else []
def sgl (ng : Bool) : List UInt8 := if ng then [45] else []
def upE (D E : List UInt8) : List UInt8 := (addD E (txt ((D.length : Int) - 1))).1
def plain1 (ng : Bool) (D E : List UInt8) : List (List UInt8) := if (intD E).2 = true ∧ unsc D (intD E).1 ≠ [] then [sgl ng ++ unsc D (intD E).1] else []
def plain3 (ng : Bool) (D E : List UInt8) : List (List UInt8) := if 1 < D.length ∧ upE D E ≠ [48] then [sgl ng ++ (D.take 1 ++ 46 :: (D.drop 1 ++ 101 :: upE D E))] else []
def plainN (ng : Bool) (D E : List UInt8) : List (List UInt8) :=
  if rightN D E = true then (if D = [] then [sgl ng ++ [48]] else plain1 ng D E ++ ([sgl ng ++ (D ++ 101 :: E)] ++ plain3 ng D E)) else []
def less2 (b s : List UInt8) : List UInt8 := if s.length < b.length then s else b
def shortN : List (List UInt8) → List UInt8
  | [] => []
  | a :: t => t.foldl less2 a
theorem fold_short (t : List (List UInt8)) : ∀ a, (t.foldl less2 a ∈ a :: t) ∧ ∀ x ∈ a :: t, (t.foldl less2 a).length ≤ x.length := by
  induction t with
  | nil => intro a; simp
  | cons b t ih =>
    intro a
    rw [List.foldl_cons]
    obtain ⟨h1, h2⟩ := ih (less2 a b)
    have h3 := h2 (less2 a b) (by simp)
    have h4 : (less2 a b).length ≤ a.length ∧ (less2 a b).length ≤ b.length ∧ (less2 a b = a ∨ less2 a b = b) := by
      unfold less2; split <;> simp <;> omega
    refine ⟨?_, fun x hx => ?_⟩
    · rcases List.mem_cons.1 h1 with h | h
      · rw [h]; rcases h4.2.2 with e | e <;> (rw [e]; simp)
      · simp [h]
    · rcases List.mem_cons.1 hx with rfl | hx
      · omega
      · rcases List.mem_cons.1 hx with rfl | hx
        · omega
        · exact h2 x (by simp [hx])
theorem short_mem (l : List (List UInt8)) (h : l ≠ []) : shortN l ∈ l := by
  cases l with
  | nil => exact absurd rfl h
  | cons a t => exact (fold_short t a).1
theorem canon_last (m : Nat) (h : m % 10 ≠ 0) : (canon m).getLast? ≠ some 48 := by
  rw [canon_pos m (by intro h0; subst h0; exact h rfl)]
  simp
  intro e
  have := congrArg UInt8.toNat e
  rw [ofD_nat] at this
  simp at this; omega
theorem canon_core (D : List UInt8) (hd : ∀ c ∈ D, dig c = true) (h1 : D.head? ≠ some 48) (h2 : D.getLast? ≠ some 48) (hne : D ≠ []) : dval D % 10 ≠ 0 ∧ D = canon (dval D) := by
  have e := canon_self D hd h1
  refine ⟨fun h => ?_, e.symm⟩
  have h0 : dval D ≠ 0 := dval_pos D hd h1 hne
  rw [canon_pos _ h0] at e
  apply h2
  rw [← e]
  simp [ofD, h]
theorem right_ex (D E : List UInt8) (h : rightN D E = true) : (D = [] ∧ E = []) ∨ ∃ m X, m % 10 ≠ 0 ∧ D = canon m ∧ E = txt X := by
  unfold rightN at h
  split at h
  · rename_i h0; left; exact ⟨h0, by simpa using h⟩
  · rename_i h0
    right
    simp only [Bool.and_eq_true, List.all_eq_true, bne_iff_ne] at h
    obtain ⟨⟨⟨h1, h2⟩, h3⟩, h4⟩ := h
    obtain ⟨h5, h6⟩ := canon_core D h1 h2 h3 h0
    exact ⟨_, _, h5, h6, (txt_val E h4).symm⟩
theorem expAt_txt (X : Int) : ExpAt (101 :: txt X) X := .inr ⟨101, .inl rfl, rfl⟩
theorem sgl_at (ng : Bool) : (sgl ng = [] ∧ ng = false) ∨ (sgl ng = [45] ∧ ng = true) ∨ (sgl ng = [43] ∧ ng = false) := by cases ng <;> simp [sgl]
theorem dig_rep (k : Nat) : ∀ c ∈ List.replicate k (48 : UInt8), dig c = true := by
  intro c hc
  rw [List.mem_replicate] at hc
  rw [hc.2]; decide
theorem dval_zeros (D : List UInt8) (k : Nat) : dval (D ++ List.replicate k 48) = dval D * 10 ^ k := by
  induction k with
  | zero => simp
  | succ k ih => rw [List.replicate_succ', ← List.append_assoc, dval_snoc, ih, Nat.pow_succ]; show 10 * (dval D * 10 ^ k) + 0 = dval D * (10 ^ k * 10); rw [Nat.mul_comm (10 ^ k) 10, Nat.mul_left_comm (dval D), Nat.add_zero]
theorem dval_lead (k : Nat) (D : List UInt8) : dval (List.replicate k 48 ++ D) = dval D := by
  induction k with
  | zero => simp
  | succ k ih => rw [List.replicate_succ, List.cons_append, dval_cons, ih]; simp
theorem upE_txt (D : List UInt8) (X : Int) : upE D (txt X) = txt (X + ((D.length : Int) - 1)) := by
  unfold upE
  rw [add_right _ _ (val_txt X).2 (val_txt _).2, (val_txt X).1, (val_txt _).1]
theorem plain_back (ng : Bool) (D E : List UInt8) : ∀ t ∈ plainN ng D E, readN t = ((ng, D, E), true) := by
  intro t ht
  unfold plainN at ht
  split at ht
  case isFalse => simp at ht
  rename_i hr
  rcases right_ex D E hr with ⟨rfl, rfl⟩ | ⟨m, X, hm, rfl, rfl⟩
  · rw [if_pos rfl] at ht
    simp only [List.mem_singleton] at ht
    subst ht
    have := read_form (sgl ng) ng (sgl_at ng) [48] [] [] [] 0 (by decide) (by simp) (.inl ⟨rfl, rfl, by simp⟩) (.inl ⟨rfl, rfl⟩)
    simp only [List.append_nil] at this
    rw [this]
    congr 1; exact congrArg (Prod.mk ng) (nz_zero _)
  · have h0 : m ≠ 0 := by intro h0; subst h0; exact hm rfl
    have hne := canon_ne m h0
    have hD := canon_dig m
    rw [if_neg hne] at ht
    obtain ⟨D, eD⟩ : ∃ D, canon m = D := ⟨_, rfl⟩
    have hdv : dval D = m := by rw [← eD, dval_canon]
    have hcore : ∀ e : Int, nz (dval D) e = (D, txt e) := fun e => by rw [hdv, nz_core m e hm, eD]
    rw [eD] at ht hne hD ⊢
    have hl : 0 < D.length := List.length_pos_iff.2 hne
    rcases List.mem_append.1 ht with ht | ht
    · unfold plain1 at ht
      split at ht
      case isFalse => simp at ht
      rename_i hc
      simp only [List.mem_singleton] at ht
      subst ht
      have hx : (intD (txt X)).1 = X := by
        have h2 := hc.1
        unfold intD at h2 ⊢
        split
        · exact (val_txt X).1
        · rename_i hh; rw [if_neg hh] at h2; exact absurd h2 (by simp)
      have hu := hc.2
      rw [hx] at hu ⊢
      unfold unsc at hu ⊢
      split
      · rename_i h1
        have := read_form (sgl ng) ng (sgl_at ng) (D ++ List.replicate X.toNat 48) [] [] [] 0 (fun c hc => (List.mem_append.1 hc).elim (hD c) (dig_rep _ c)) (by simp) (.inl ⟨rfl, rfl, by simp [hne]⟩) (.inl ⟨rfl, rfl⟩)
        simp only [List.append_nil] at this
        rw [this, dval_zeros, nz_pow, hcore, show (0 : Int) - ([] : List UInt8).length + X.toNat = X by simp; omega]
      · rename_i h1
        split
        · rename_i h2
          obtain ⟨n, hn⟩ : ∃ n : Nat, (n : Int) = D.length + X := ⟨((D.length : Int) + X).toNat, by omega⟩
          rw [show ((D.length : Int) + X).toNat = n by omega]
          have := read_form (sgl ng) ng (sgl_at ng) (D.take n) (D.drop n) (46 :: D.drop n) [] 0 (fun c hc => hD c (List.mem_of_mem_take hc)) (fun c hc => hD c (List.mem_of_mem_drop hc)) (.inr ⟨rfl, by intro e; have := congrArg List.length e; simp at this; omega⟩) (.inl ⟨rfl, rfl⟩)
          rw [List.append_nil] at this
          rw [this, List.take_append_drop, hcore, List.length_drop, show (0 : Int) - ((D.length - n : Nat) : Int) = X by omega]
        · rename_i h2
          split
          · rename_i h3
            obtain ⟨n, hn⟩ : ∃ n : Nat, (n : Int) = -(D.length + X) := ⟨(-((D.length : Int) + X)).toNat, by omega⟩
            rw [show (-((D.length : Int) + X)).toNat = n by omega]
            have := read_form (sgl ng) ng (sgl_at ng) [48] (List.replicate n 48 ++ D) (46 :: (List.replicate n 48 ++ D)) [] 0 (by decide) (fun c hc => (List.mem_append.1 hc).elim (dig_rep _ c) (hD c)) (.inr ⟨rfl, by simp [hne]⟩) (.inl ⟨rfl, rfl⟩)
            rw [List.append_nil] at this
            rw [show (48 :: 46 :: (List.replicate n 48 ++ D)) = [48] ++ (46 :: (List.replicate n 48 ++ D)) from rfl, this, show [48] ++ (List.replicate n 48 ++ D) = List.replicate (n + 1) 48 ++ D by rw [List.replicate_succ]; rfl, dval_lead, hcore, List.length_append, List.length_replicate, show (0 : Int) - ((n + D.length : Nat) : Int) = X by omega]
          · rename_i h3
            rw [if_neg h1, if_neg h2, if_neg h3] at hu
            exact absurd rfl hu
    · rcases List.mem_append.1 ht with ht | ht
      · simp only [List.mem_singleton] at ht
        subst ht
        have := read_form (sgl ng) ng (sgl_at ng) D [] [] (101 :: txt X) X hD (by simp) (.inl ⟨rfl, rfl, hne⟩) (expAt_txt X)
        rw [List.nil_append] at this
        rw [this, List.append_nil, hcore, show X - ([] : List UInt8).length = X by simp]
      · unfold plain3 at ht
        split at ht
        case isFalse => simp at ht
        rename_i hc
        simp only [List.mem_singleton] at ht
        subst ht
        rw [upE_txt]
        have := read_form (sgl ng) ng (sgl_at ng) (D.take 1) (D.drop 1) (46 :: D.drop 1) (101 :: txt (X + ((D.length : Int) - 1))) (X + ((D.length : Int) - 1)) (fun c hc => hD c (List.mem_of_mem_take hc)) (fun c hc => hD c (List.mem_of_mem_drop hc)) (.inr ⟨rfl, by intro e; have := congrArg List.length e; simp at this; omega⟩) (expAt_txt _)
        rw [List.cons_append] at this
        rw [this, List.take_append_drop, hcore, List.length_drop, show X + ((D.length : Int) - 1) - ((D.length - 1 : Nat) : Int) = X by omega]
end Go.Proofs.YtlobinjdgcidmaaDoor.M

/- Plain numbers and lists: numbers written in several ways; which digits and powers may be. -/
namespace Go.Proofs.YtlobinjdgcidmaaDoor.M
set_option linter.unusedVariables false
set_option linter.unusedSimpArgs false

theorem strip_len2 (l : List UInt8) : (strip l).length ≤ l.length := by
  unfold strip
  exact (List.dropWhile_sublist _).length_le
theorem rstrip_len (l : List UInt8) : (rstrip l).length ≤ l.length := by
  unfold rstrip
  rw [List.length_reverse]
  exact Nat.le_trans (List.dropWhile_sublist _).length_le (by rw [List.length_reverse]; exact Nat.le_refl _)
end Go.Proofs.YtlobinjdgcidmaaDoor.M

/- Plain numbers and lists: no text that is a number is shorter than its shortest spelling, but one that begins with a point, or a plus. -/
namespace Go.Proofs.YtlobinjdgcidmaaDoor.M
set_option linter.unusedVariables false
set_option linter.unusedSimpArgs false

theorem plain_ne (ng : Bool) (D E : List UInt8) (h : rightN D E = true) : plainN ng D E ≠ [] := by
  unfold plainN
  rw [if_pos h]
  split <;> simp
theorem readN_nil : (readN []).2 = false := by decide
theorem plain_pos (ng : Bool) (D E : List UInt8) : ∀ t ∈ plainN ng D E, 0 < t.length := by
  intro t ht
  have := plain_back ng D E t ht
  rcases Nat.eq_zero_or_pos t.length with h | h
  · rw [List.length_eq_zero_iff.1 h] at this
    have h2 := readN_nil
    rw [this] at h2
    exact absurd h2 (by simp)
  · exact h
end Go.Proofs.YtlobinjdgcidmaaDoor.M
