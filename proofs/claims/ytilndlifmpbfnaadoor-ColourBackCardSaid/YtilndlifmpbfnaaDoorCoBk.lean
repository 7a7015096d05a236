/- Colours: letters and digits behind a sharp, or alone, are one token: plain. -/
import Derived.Test.YtilndlifmpbfnaaDoorBgD
import Derived.Test.YtilndlifmpbfnaaDoorBgU
import Derived.Test.YtilndlifmpbfnaaDoorCoM
namespace Go.Proofs.YtilndlifmpbfnaaDoor.M
open Go.Lib
set_option linter.unusedVariables false
set_option linter.unusedSimpArgs false

/-- A letter or a digit. -/
def alN (b : UInt8) : Bool := (decide (48 ≤ b.toNat) && decide (b.toNat ≤ 57)) || (decide (97 ≤ b.toNat) && decide (b.toNat ≤ 122))
def plB (b : UInt8) : Bool := b == 35 || alN b
theorem alN_iff (b : UInt8) : alN b = true ↔ (48 ≤ b.toNat ∧ b.toNat ≤ 57) ∨ (97 ≤ b.toNat ∧ b.toNat ≤ 122) := by simp [alN]
theorem plB_iff (b : UInt8) : plB b = true ↔ b.toNat = 35 ∨ (48 ≤ b.toNat ∧ b.toNat ≤ 57) ∨ (97 ≤ b.toNat ∧ b.toNat ≤ 122) := by
  unfold plB
  rw [Bool.or_eq_true, alN_iff, beq_iff_eq]
  constructor
  · rintro (rfl | h)
    · exact .inl rfl
    · exact .inr h
  · rintro (h | h)
    · exact .inl (UInt8.toNat_inj.1 h)
    · exact .inr h
def asZ (l : List UInt8) : List Int := l.map fun b => (b.toNat : Int)
theorem step_pl (l : List UInt8) (i : Nat) (h : i < l.length) (hp : plB l[i] = true) : stepR l i = ((l[i].toNat : Int), 1) := by
  rw [plB_iff] at hp
  have hb : byte (l.drop i) 0 = l[i].toNat := by unfold byte; rw [List.getD_eq_getElem?_getD, List.getElem?_drop, Nat.add_zero, List.getElem?_eq_getElem h]; rfl
  have hd : dec (l.drop i) = (l[i].toNat, 1) := by
    unfold dec decodeN
    rw [hb, if_pos (by omega)]
  unfold stepR
  rw [hd]
  simp only
  rw [if_neg (by omega), if_neg (by omega), if_neg (by omega)]
theorem rn_pl (l : List UInt8) (h : ∀ b ∈ l, plB b = true) (k : Nat) : ∀ i, l.length - i = k → (rn l i).map Prod.fst = asZ (l.drop i) := by
  induction k with
  | zero => intro i hi; rw [rn_out l i (by omega), List.drop_eq_nil_of_le (by omega)]; rfl
  | succ k ih =>
    intro i hi
    have hlt : i < l.length := by omega
    rw [rn_in l i hlt, step_pl l i hlt (h _ (List.getElem_mem _)), List.drop_eq_getElem_cons hlt]
    simp only [List.map_cons]
    rw [ih (i + 1) (by omega)]
    rfl
theorem esB_no (r : Int) (t : List Int) (h : r ≠ 92) : esB (r :: t) = false := by simp [esB, h]
theorem takeN_pl (l : List UInt8) (h : ∀ b ∈ l, alN b = true) : takeN (asZ l) = (asZ l, l.length) := by
  induction l with
  | nil => exact takeN_nil
  | cons b t ih =>
    have hb := (alN_iff b).1 (h b (by simp))
    show takeN ((b.toNat : Int) :: asZ t) = _
    rw [takeN_in _ _ (by rw [nIn_iff]; omega), ih (fun x hx => h x (by simp [hx]))]
    simp only [asZ, List.map_cons, List.length_cons, Prod.mk.injEq, true_and]
    omega
theorem enc_pl (l : List UInt8) (h : ∀ b ∈ l, b.toNat < 128) : encZs (asZ l) = l := by
  induction l with
  | nil => rfl
  | cons b t ih =>
    unfold encZs asZ at *
    rw [List.map_cons, List.flatMap_cons, ih (fun x hx => h x (by simp [hx])), enc_byte b (h b (by simp))]
    rfl
/-- Digits behind a sharp are one token. -/
theorem hash_one (d : UInt8) (ds : List UInt8) (h : ∀ b ∈ d :: ds, alN b = true) : ∃ f : Bool, tksC (rn (35 :: d :: ds) 0) = [({ kind := 4, text := d :: ds, flag := f }, 0)] := by
  have hp : ∀ b ∈ (35 : UInt8) :: d :: ds, plB b = true := by
    intro b hb
    rcases List.mem_cons.1 hb with rfl | hb
    · rfl
    · unfold plB; rw [h b hb]; simp
  have hm := rn_pl (35 :: d :: ds) hp _ 0 rfl
  have hd := (alN_iff d).1 (h d (by simp))
  have hin := rn_in (35 :: d :: ds) 0 (by simp)
  have hs := step_pl (35 :: d :: ds) 0 (by simp) (hp _ (by simp))
  rw [hs] at hin
  obtain ⟨R, hR⟩ : ∃ R, rn (35 :: d :: ds) (0 + 1) = R := ⟨_, rfl⟩
  have hRl : R.length = (d :: ds).length := by
    have := congrArg List.length (rn_pl (35 :: d :: ds) hp _ 1 rfl)
    rw [List.length_map] at this
    rw [← hR]
    simpa [asZ] using this
  simp only at hin
  rw [hR] at hin
  rw [hin]
  have hmap : ((((35 :: d :: ds : List UInt8)[0]'(by simp)).toNat : Int), ((0 : Nat) : Int)) :: R = rn (35 :: d :: ds) 0 := hin.symm
  have hm2 : (((((35 :: d :: ds : List UInt8)[0]'(by simp)).toNat : Int), ((0 : Nat) : Int)) :: R).map Prod.fst = 35 :: asZ (d :: ds) := by
    rw [hmap, hm]; rfl
  have ht : takeN (asZ (d :: ds)) = (asZ (d :: ds), (d :: ds).length) := takeN_pl _ h
  have hw : wayT (35 :: asZ (d :: ds)) = 4 := by
    unfold wayT
    rw [if_neg (by simp [stC]), if_neg (by simp [isBl]), if_neg (by simp), if_pos ⟨rfl, by
      show inNm (asZ (d :: ds)) = true
      unfold inNm
      rw [Bool.or_eq_true]
      left
      show nIn (d.toNat : Int) = true
      rw [nIn_iff]; omega⟩]
  have htk : tkC (35 :: asZ (d :: ds)) = ({ kind := 4, text := d :: ds, flag := begN (asZ (d :: ds)) }, 1 + (d :: ds).length) := by
    unfold tkC
    rw [hw]
    unfold tokW
    rw [if_neg (by decide), if_neg (by decide), if_neg (by decide), if_pos rfl]
    show (({ kind := 4, text := encZs (takeN (asZ (d :: ds))).1, flag := begN (asZ (d :: ds)) } : CT), 1 + (takeN (asZ (d :: ds))).2) = _
    rw [ht, enc_pl _ (fun b hb => by have := (alN_iff b).1 (h b hb); omega)]
  refine ⟨begN (asZ (d :: ds)), ?_⟩
  rw [tksC]
  simp only
  rw [hm2, htk]
  simp only
  rw [List.drop_eq_nil_of_le (by omega), lexC_nil]
  rfl
end Go.Proofs.YtilndlifmpbfnaaDoor.M
