/- Decimals: what Int returns, for any text. -/
import Derived.Test.YtfclkackfamdlaaGreatDoorDAdd
import Derived.Test.YtfclkackfamdlaaGreatDoorShelf
namespace Go.Proofs.YtfclkackfamdlaaGreatDoor.M
open Go.RowKit
set_option linter.unusedVariables false

theorem dec_from (l : List UInt8) (h : ∀ c ∈ l, dig c = true) (acc : Nat) : Lib.decFrom acc l = some (l.foldl (fun a c => 10 * a + (c.toNat - 48)) acc) := by
  induction l generalizing acc with
  | nil => rfl
  | cons c t ih =>
    have hc := (dig_iff c).1 (h c (by simp))
    have : Lib.digitVal c = some (c.toNat - 48) := by unfold Lib.digitVal; rw [if_pos hc]
    unfold Lib.decFrom
    rw [this]
    dsimp only
    rw [ih (fun d hd => h d (by simp [hd])), List.foldl_cons]
    congr 2
    omega
theorem dec_nat (l : List UInt8) (h : ∀ c ∈ l, dig c = true) (hne : l ≠ []) : Lib.decNat l = some (dval l) := by
  unfold Lib.decNat
  cases l with
  | nil => exact absurd rfl hne
  | cons c t => simp only [List.isEmpty_cons, Bool.false_eq_true, if_false]; exact dec_from _ h 0
theorem atoi_right (l : List UInt8) (h : rightD l = true) : Lib.atoi l = some (valD l) := by
  have hr := row_unsign l h
  cases l with
  | nil => simp [Row, unsign] at hr
  | cons c t =>
    unfold Lib.atoi
    by_cases hc : c = 45
    · subst hc
      have : unsign (45 :: t) = t := by simp [unsign]
      rw [this] at hr
      simp only [beq_self_eq_true, if_true]
      rw [dec_nat t hr.1 hr.2.1]
      unfold valD isNeg
      rw [this]
      simp
    · have : unsign (c :: t) = c :: t := by simp [unsign, hc]
      rw [this] at hr
      have hd := (dig_iff c).1 (hr.1 c (by simp))
      have h1 : (c == 45) = false := by simpa using hc
      have h2 : (c == 43) = false := by
        rw [beq_eq_false_iff_ne]; intro h; rw [h] at hd; revert hd; decide
      dsimp only
      rw [h1, h2]
      simp only [Bool.false_eq_true, if_false]
      rw [dec_nat _ hr.1 hr.2.1]
      unfold valD isNeg
      rw [this]
      simp [hc]
def intD (l : List UInt8) : Int × Bool := if rightD l = true ∧ -1000000 ≤ valD l ∧ valD l ≤ 1000000 then (valD l, true) else (0, false)
theorem int_wrong (l : List UInt8) (h : rightD l = false) : intD l = (0, false) := by unfold intD; rw [h]; simp
theorem int_long (l : List UInt8) (h : 8 < l.length) : intD l = (0, false) := by
  unfold intD
  rw [if_neg]
  rintro ⟨h1, h2, h3⟩
  have hr := row_unsign l h1
  have hl : 8 ≤ (unsign l).length := by
    unfold unsign; split
    · simp; omega
    · omega
  have hg := row_ge _ hr (by omega)
  have : (10 : Nat) ^ 7 ≤ 10 ^ ((unsign l).length - 1) := Nat.pow_le_pow_right (by omega) (by omega)
  unfold valD at h2 h3
  split at h2 <;> simp_all <;> omega
theorem int_right (l : List UInt8) (h : rightD l = true) (h1 : -1000000 ≤ valD l) (h2 : valD l ≤ 1000000) : intD l = (valD l, true) := by
  unfold intD; rw [if_pos ⟨h, h1, h2⟩]
theorem int_out (l : List UInt8) (h1 : ¬ (-1000000 ≤ valD l ∧ valD l ≤ 1000000)) : intD l = (0, false) := by
  unfold intD; rw [if_neg (fun h => h1 h.2)]
theorem val_bound (l : List UInt8) (h : rightD l = true) (hl : l.length ≤ 8) : -100000000 ≤ valD l ∧ valD l ≤ 100000000 := by
  have hr := row_unsign l h
  have hlt := dval_lt _ hr.1
  have hle : (unsign l).length ≤ 8 := by
    unfold unsign; split
    · simp; omega
    · omega
  have : (10 : Nat) ^ (unsign l).length ≤ 10 ^ 8 := Nat.pow_le_pow_right (by omega) hle
  unfold valD
  split <;> constructor <;> omega
end Go.Proofs.YtfclkackfamdlaaGreatDoor.M
namespace Go.Proofs.YtfclkackfamdlaaGreatDoor
open Go.RowKit
set_option linter.unusedVariables false
def intB (r : Int × Bool) : Value := .tuple #[.int .i64 r.1, .bool r.2]
set_option maxRecDepth 100000 in
set_option maxHeartbeats 1000000 in
theorem int_any (l : List UInt8) (res : Int × Bool) (w : World) (la : l.length ≤ 100000) (hr : M.intD l = res) :
    Calls Tryz.prog 19 #[.string (bytes l)] w fun e w' => e = .returned (intB res) ∧ Below w.heap.size w w' := by
  have hsz : (bytes l).size = l.length := bytes_size l
  by_cases hl : 8 < l.length
  · rw [M.int_long l hl] at hr
    subst hr
    have h8 : (8 : Int) < (l.length : Int) := by omega
    go_enter Tryz.func19, Tryz.ntmps19
    go_wp2
    go_ret2
    exact ⟨rfl, Below.refl _ _⟩
  · cases ha : M.rightD l with
    | false =>
      rw [M.int_wrong l ha] at hr
      subst hr
      have A1 := Lib.hid (fun W => right_any l false W (by omega) ha)
      clear ha
      go_enter Tryz.func19, Tryz.ntmps19
      go_wp2_with fail
      refine (A1.out _).mono ?_
      rintro e w' ⟨rfl, rfl⟩
      go_wp2
      go_ret2
      exact ⟨rfl, Below.refl _ _⟩
    | true =>
      have A1 := Lib.hid (fun W => right_any l true W (by omega) ha)
      obtain ⟨z, hz⟩ : ∃ z, M.valD l = z := ⟨_, rfl⟩
      have hb := M.val_bound l ha (by omega)
      have hat := M.atoi_right l ha
      have hin := M.int_right l ha
      have hout := M.int_out l
      rw [hz] at hb hat hin hout
      have T1 := Lib.hid (fun W => Tryz.strconv_Atoi (bytes l) z (by omega) hat W)
      by_cases hz1 : z < -1000000
      · rw [hout (by omega)] at hr
        subst hr
        clear ha hz hat hin hout
        go_enter Tryz.func19, Tryz.ntmps19
        go_wp2_with fail
        refine (A1.out _).mono ?_
        rintro e w' ⟨rfl, rfl⟩
        go_wp2_with fail
        refine (T1.out _).mono ?_
        rintro e w' ⟨rfl, t, rfl⟩
        go_wp2
        go_ret2
        exact ⟨rfl, Lib.bytesWorld_below _ _ _⟩
      · by_cases hz2 : 1000000 < z
        · rw [hout (by omega)] at hr
          subst hr
          clear ha hz hat hin hout
          go_enter Tryz.func19, Tryz.ntmps19
          go_wp2_with fail
          refine (A1.out _).mono ?_
          rintro e w' ⟨rfl, rfl⟩
          go_wp2_with fail
          refine (T1.out _).mono ?_
          rintro e w' ⟨rfl, t, rfl⟩
          go_wp2
          go_ret2
          exact ⟨rfl, Lib.bytesWorld_below _ _ _⟩
        · rw [hin (by omega) (by omega)] at hr
          subst hr
          clear ha hz hat hin hout
          go_enter Tryz.func19, Tryz.ntmps19
          go_wp2_with fail
          refine (A1.out _).mono ?_
          rintro e w' ⟨rfl, rfl⟩
          go_wp2_with fail
          refine (T1.out _).mono ?_
          rintro e w' ⟨rfl, t, rfl⟩
          go_wp2
          go_ret2
          exact ⟨rfl, Lib.bytesWorld_below _ _ _⟩
end Go.Proofs.YtfclkackfamdlaaGreatDoor
