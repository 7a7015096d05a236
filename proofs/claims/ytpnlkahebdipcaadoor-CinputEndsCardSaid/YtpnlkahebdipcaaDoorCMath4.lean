/- Plain numbers and lists: lines of one code point each, whatever ends them. -/
import Derived.Test.YtpnlkahebdipcaaDoorCMath
namespace Go.Proofs.YtpnlkahebdipcaaDoor.M
open Go.Lib
set_option linter.unusedVariables false
set_option linter.unusedSimpArgs false

/-- What ends a line. -/
def mkB (m : Nat) : List UInt8 := if m = 0 then [10] else if m = 1 then [13] else if m = 2 then [12] else [13, 10]
def textE (ms : List Nat) : List UInt8 := ms.flatMap fun m => 120 :: mkB m
theorem textE_snoc (ms : List Nat) (m : Nat) : textE (ms ++ [m]) = textE ms ++ [120] ++ mkB m := by
  simp [textE, List.flatMap_append]
theorem mkB_len (m : Nat) : 1 ≤ (mkB m).length ∧ (mkB m).length ≤ 2 := by unfold mkB; repeat' split
                                                                          all_goals simp
theorem textE_len (ms : List Nat) : (textE ms).length ≤ 3 * ms.length := by
  induction ms with
  | nil => simp [textE]
  | cons a t ih =>
    have := mkB_len a
    simp only [textE, List.flatMap_cons, List.length_append, List.length_cons] at *
    omega
theorem textE_head (ms : List Nat) : (textE ms).getD 0 0 ≠ 10 := by
  cases ms with
  | nil => decide
  | cons a t => simp [textE]
theorem dec_ascii (s : List UInt8) (h : byte s 0 < 128) : dec s = (byte s 0, 1) := by unfold dec decodeN; rw [if_pos h]
theorem step_plain (pre s : List UInt8) (c : UInt8) (h : c.toNat < 128) (h0 : c.toNat ≠ 0) (h12 : c.toNat ≠ 12) (h13 : c.toNat ≠ 13) : stepR (pre ++ (c :: s)) pre.length = ((c.toNat : Int), 1) := by
  have e : (pre ++ (c :: s)).drop pre.length = c :: s := by simp
  have hb : byte (c :: s) 0 = c.toNat := by simp [byte]
  have hd := dec_ascii (c :: s) (by rw [hb]; exact h)
  rw [hb] at hd
  unfold stepR
  rw [e, hd]
  simp only
  rw [if_neg h0, if_neg h12, if_neg h13]
theorem step_twelve (pre s : List UInt8) : stepR (pre ++ (12 :: s)) pre.length = (10, 1) := by
  have e : (pre ++ ((12 : UInt8) :: s)).drop pre.length = 12 :: s := by simp
  have hd : dec ((12 : UInt8) :: s) = (12, 1) := dec_ascii (12 :: s) (by simp [byte])
  unfold stepR
  rw [e, hd]
  rfl
theorem getD_app (pre s : List UInt8) (k : Nat) : (pre ++ s).getD (pre.length + k) 0 = s.getD k 0 := by
  simp only [List.getD]; rw [List.getElem?_append_right (by omega), Nat.add_sub_cancel_left]
theorem step_thirteen (pre s : List UInt8) : stepR (pre ++ (13 :: s)) pre.length = (10, if s.getD 0 0 = 10 then 2 else 1) := by
  have e : (pre ++ ((13 : UInt8) :: s)).drop pre.length = 13 :: s := by simp
  have hd : dec ((13 : UInt8) :: s) = (13, 1) := dec_ascii (13 :: s) (by simp [byte])
  unfold stepR
  rw [e, hd, getD_app]
  rfl
theorem rn_lines (ms : List Nat) (pre : List UInt8) : (rn (pre ++ textE ms) pre.length).map Prod.fst = ms.flatMap fun _ => [120, 10] := by
  induction ms generalizing pre with
  | nil => rw [show textE [] = [] from rfl, List.append_nil, rn_out _ _ (Nat.le_refl _)]; rfl
  | cons m ms ih =>
    have hh := textE_head ms
    have e : textE (m :: ms) = 120 :: (mkB m ++ textE ms) := by simp [textE]
    rw [e, rn_in _ _ (by simp), step_plain pre _ 120 (by decide) (by decide) (by decide) (by decide)]
    simp only [List.map_cons, List.flatMap_cons]
    have e2 : pre ++ (120 :: (mkB m ++ textE ms)) = (pre ++ [120]) ++ (mkB m ++ textE ms) := by simp
    have e3 : pre.length + 1 = (pre ++ [120]).length := by simp
    rw [e2, e3]
    have fin : ∀ (mk : List UInt8) (q : List UInt8), q = pre ++ [120] → stepR (q ++ (mk ++ textE ms)) q.length = (10, mk.length) → 0 < mk.length → (rn (q ++ (mk ++ textE ms)) q.length).map Prod.fst = 10 :: ms.flatMap fun _ => [120, 10] := by
      intro mk q _ h1 h2
      rw [rn_in _ _ (by simp; omega), h1]
      simp only [List.map_cons]
      rw [← List.append_assoc, ← List.length_append, ih]
    have key : (rn ((pre ++ [120]) ++ (mkB m ++ textE ms)) (pre ++ [120]).length).map Prod.fst = 10 :: ms.flatMap fun _ => [120, 10] := by
      refine fin (mkB m) _ rfl ?_ (mkB_len m).1
      unfold mkB
      by_cases h0 : m = 0
      · rw [if_pos h0]; exact step_plain _ _ 10 (by decide) (by decide) (by decide) (by decide)
      · by_cases h1 : m = 1
        · rw [if_neg h0, if_pos h1]
          show stepR ((pre ++ [120]) ++ (13 :: textE ms)) _ = _
          rw [step_thirteen, if_neg hh]; rfl
        · by_cases h2 : m = 2
          · rw [if_neg h0, if_neg h1, if_pos h2]; exact step_twelve _ _
          · rw [if_neg h0, if_neg h1, if_neg h2]
            show stepR ((pre ++ [120]) ++ (13 :: 10 :: textE ms)) _ = _
            rw [step_thirteen]; rfl
    simpa using key
theorem alt_len (ms : List Nat) : (ms.flatMap fun _ => [(120 : Int), 10]).length = 2 * ms.length := by
  induction ms with
  | nil => rfl
  | cons a t ih => simp only [List.flatMap_cons, List.length_append, ih, List.length_cons, List.length_nil]; omega
theorem alt_at (ms : List Nat) (i : Nat) (h : i < (ms.flatMap fun _ => [(120 : Int), 10]).length) : (ms.flatMap fun _ => [(120 : Int), 10])[i] = if i % 2 = 0 then 120 else 10 := by
  induction ms generalizing i with
  | nil => simp at h
  | cons a t ih =>
    match i, h with
    | 0, _ => simp
    | 1, _ => simp
    | i + 2, h =>
      have h' : i < (t.flatMap fun _ => [(120 : Int), 10]).length := by
        rw [alt_len] at h ⊢; simp at h; omega
      have := ih i h'
      simp only [List.flatMap_cons, List.cons_append, List.nil_append, List.getElem_cons_succ]
      rw [this, Nat.add_mod_right]
end Go.Proofs.YtpnlkahebdipcaaDoor.M
