/- Numbers: may one be; its text without a power. -/
import Derived.Test.YtfclkackfamdlaaGreatDoorNRead2
import Derived.Test.YtfclkackfamdlaaGreatDoorNMath3
namespace Go.Proofs.YtfclkackfamdlaaGreatDoor
open Go.RowKit
set_option linter.unusedVariables false
set_option linter.unusedSimpArgs false

theorem cat_run (a b c : List UInt8) (h : a ++ b = c) (ha : a.length ≤ 1000000) (hb : b.length ≤ 1000000) : ∀ W : World, (Op.stringOp .add (bytes a) (bytes b)).run Tryz.prog W = .ok (.string (bytes c)) W := by
  intro W
  rw [run_string_add W _ _ (by rw [bytes_size]; omega) (by rw [bytes_size]; omega), ← h]
  apply congrArg (fun x => Result.ok (Value.string x) W)
  apply ByteArray.ext; simp [bytes]
theorem str_eq (S T : ByteArray) (k l : List UInt8) (hS : bytes k = S) (hT : bytes l = T) (b : Bool) (h : (k == l) = b) : (S.toList == T.toList) = b := by
  rw [← hS, ← hT, toList_bytes, toList_bytes, h]
theorem trim_any (D r : List UInt8) (w : World) (hl : D.length ≤ 1000000) (hr : M.strip (M.rstrip D) = r) :
    Calls Tryz.prog 22 #[.string (bytes D), .string ⟨#[48]⟩] w fun e w' => e = .returned (.string (bytes r)) ∧ ∃ n, w' = w.drewN n := by
  have h := Tryz.strings_Trim_one (bytes D) 48 (by decide) w (by rw [bytes_size]; omega)
  rw [bytes_list, show (⟨(Lib.trimB D 48).toArray⟩ : ByteArray) = bytes (M.strip (M.rstrip D)) from rfl, hr] at h
  exact h.mono fun e w' ⟨h1, h2⟩ => ⟨h1, h2.elim (fun h => ⟨0, h⟩) (fun h => ⟨1, h⟩)⟩
set_option maxRecDepth 100000 in
set_option maxHeartbeats 4000000 in
theorem rightn_any (ng : Bool) (D E : List UInt8) (r : Bool) (w : World) (h1 : D.length ≤ 100000) (h2 : E.length ≤ 100000) (hr : M.rightN D E = r) :
    Calls Tryz.prog 9 #[.agg (numV (ng, D, E))] w fun e w' => e = .returned (.bool r) ∧ Below w.heap.size w w' := by
  unfold numV
  simp only
  have R1 := Lib.hid (fun w => right_any E (M.rightD E) w (by omega) rfl)
  obtain ⟨s, hs⟩ : ∃ s, M.strip (M.rstrip D) = s := ⟨_, rfl⟩
  have T1 := Lib.hid (fun w => trim_any D s w (by omega) hs)
  have C1 := Lib.hid (fun w => (cdig_any D (M.dg D) (M.rs D) w (by omega) rfl rfl).mono fun e w' ⟨h, n, hn⟩ => (⟨h, by rw [hn]; exact below_drewN (Below.refl _ _) n⟩ : _ ∧ Below w.heap.size w w'))
  obtain ⟨x, hx⟩ : ∃ x, M.rs D = x := ⟨_, rfl⟩
  rw [hx] at C1
  obtain ⟨SD, hSD⟩ : ∃ S, bytes D = S := ⟨_, rfl⟩
  obtain ⟨SE, hSE⟩ : ∃ S, bytes E = S := ⟨_, rfl⟩
  obtain ⟨ST, hST⟩ : ∃ S, bytes s = S := ⟨_, rfl⟩
  obtain ⟨SR, hSR⟩ : ∃ S, bytes x = S := ⟨_, rfl⟩
  rw [hSE] at R1
  rw [hSD, hST] at T1
  rw [hSD, hSR] at C1
  rw [hSD, hSE]
  by_cases h0 : D = []
  · have hrr : r = E.isEmpty := by rw [← hr]; unfold M.rightN; rw [if_pos h0]
    obtain ⟨e1, e2, e3⟩ := str_nil SD D hSD h0
    have hq : (SE.toList.isEmpty = true ∧ SE.toList = [] ∧ r = true) ∨ (SE.toList.isEmpty = false ∧ (!SE.toList.isEmpty) = true ∧ r = false) := by
      by_cases h : E = []
      · have := str_nil SE E hSE h; exact .inl ⟨this.2.1, this.1, by rw [hrr, h]; rfl⟩
      · have := str_ne SE E hSE h; exact .inr ⟨this.1, this.2.1, by rw [hrr]; simpa using h⟩
    clear hr hrr hs hx hSD hSE hST hSR h0 h1 h2
    rcases hq with ⟨q1, q2, rfl⟩ | ⟨q1, q2, rfl⟩
    all_goals
      go_enter Tryz.func9, Tryz.ntmps9
      go_wp2
      go_ret
      exact ⟨rfl, (Below.refl _ _).alloc (Nat.le_refl _) _⟩
  · rw [M.right_prog D E h0, hs, hx] at hr
    obtain ⟨e1, e2, e3⟩ := str_ne SD D hSD h0
    by_cases hxe : x = []
    · obtain ⟨f1, f2, f3⟩ := str_nil SR x hSR hxe
      rw [hxe] at hr
      by_cases hsD : (s == D) = true
      · have q := str_eq ST SD s D hST hSD true hsD
        rw [hsD] at hr
        simp only [List.isEmpty_nil, Bool.true_and, Bool.and_true] at hr
        rw [hr] at R1
        clear hr hs hx hSD hSE hST hSR h0 h1 h2 hsD hxe
        go_enter Tryz.func9, Tryz.ntmps9
        go_wp2_with fail
        refine (C1.out _).mono ?_
        rintro e w1 ⟨rfl, hb1⟩
        obtain ⟨⟨g0, g1, g2⟩, -, hs1, hb0⟩ := keep3 hb1
        clear hb1
        go_wp2
        go_quiet ((first
          | (go_at_call 22; exact Calls.quiet_of (T1.out _))
          | (go_at_call 23; exact Calls.quiet_of_same ((R1.out _).mono fun _ _ h => ⟨h.1, h.2.symm⟩))))
        go_wp2
        go_ret
        exact ⟨rfl, by first | exact hb0 | exact below_drewN hb0 _⟩
      · have q := str_eq ST SD s D hST hSD false (by simpa using hsD)
        rw [show (s == D) = false by simpa using hsD] at hr
        simp only [List.isEmpty_nil, Bool.true_and, Bool.false_and] at hr
        subst hr
        clear hs hx hSD hSE hST hSR h0 h1 h2 hsD hxe
        go_enter Tryz.func9, Tryz.ntmps9
        go_wp2_with fail
        refine (C1.out _).mono ?_
        rintro e w1 ⟨rfl, hb1⟩
        obtain ⟨⟨g0, g1, g2⟩, -, hs1, hb0⟩ := keep3 hb1
        clear hb1
        go_wp2
        go_quiet ((first
          | (go_at_call 22; exact Calls.quiet_of (T1.out _))
          | (go_at_call 23; exact Calls.quiet_of_same ((R1.out _).mono fun _ _ h => ⟨h.1, h.2.symm⟩))))
        go_wp2
        go_ret
        exact ⟨rfl, by first | exact hb0 | exact below_drewN hb0 _⟩
    · obtain ⟨f1, f2, f3⟩ := str_ne SR x hSR hxe
      rw [show x.isEmpty = false by simpa using hxe] at hr
      simp only [Bool.false_and] at hr
      subst hr
      clear hs hx hSD hSE hST hSR h0 h1 h2 hxe
      go_enter Tryz.func9, Tryz.ntmps9
      go_wp2_with fail
      refine (C1.out _).mono ?_
      rintro e w1 ⟨rfl, hb1⟩
      obtain ⟨⟨g0, g1, g2⟩, -, hs1, hb0⟩ := keep3 hb1
      clear hb1
      go_wp2
      go_quiet ((first
        | (go_at_call 22; exact Calls.quiet_of (T1.out _))
        | (go_at_call 23; exact Calls.quiet_of_same ((R1.out _).mono fun _ _ h => ⟨h.1, h.2.symm⟩))))
      go_wp2
      go_ret
      exact ⟨rfl, by first | exact hb0 | exact below_drewN hb0 _⟩
theorem repeat_any (k : Nat) (w : World) (hk : k ≤ 1000000) :
    Calls Tryz.prog 40 #[.string ⟨#[48]⟩, .int .i64 k] w fun e w' => e = .returned (.string (bytes (List.replicate k 48))) ∧ Below w.heap.size w w' := by
  have h := Tryz.strings_Repeat ⟨#[48]⟩ k w (by omega) (by rw [show (ByteArray.mk #[48]).size = 1 from rfl]; omega)
  have e : (⟨(Lib.repeatL (ByteArray.mk #[48]).data.toList k).toArray⟩ : ByteArray) = bytes (List.replicate k 48) := by
    unfold bytes
    congr 2
    rw [show (ByteArray.mk #[48]).data.toList = [48] from rfl]
    clear h hk
    induction k with
    | zero => rfl
    | succ k ih => rw [List.replicate_succ, ← ih]; rfl
  rw [e] at h
  exact h
end Go.Proofs.YtfclkackfamdlaaGreatDoor
