/- Names among code points: where the program finds that one begins, and which it takes. -/
import Derived.Test.YtpecaalpbeoolaaGreatDoorEEsc2
namespace Go.Proofs.YtpecaalpbeoolaaGreatDoor
open Go.RowKit
set_option linter.unusedVariables false
set_option linter.unusedSimpArgs false

set_option maxRecDepth 100000 in
set_option maxHeartbeats 1000000 in
theorem nin_any (r : Int) (b : Bool) (w : World) (h : M.nIn r = b) : Calls Tryz.prog 66 #[.int .i64 r] w fun e w' => e = .returned (.bool b) ∧ w = w' := by
  cases hs : M.nSt r with
  | true =>
    have X1 := Lib.hid (nst_any r true w hs)
    have hb : b = true := by rw [← h]; simp [M.nIn, hs]
    subst hb
    clear h hs
    go_enter Tryz.func66, Tryz.ntmps66
    go_wp2_with fail
    refine (X1.out).mono ?_
    rintro e w' ⟨rfl, rfl⟩
    go_wp2
    go_ret
    exact ⟨rfl, rfl⟩
  | false =>
    have X1 := Lib.hid (nst_any r false w hs)
    cases hd : M.nDg r with
    | true =>
      have X2 := Lib.hid (ndg_any r true w hd)
      have hb : b = true := by rw [← h]; simp [M.nIn, hd]
      subst hb
      clear h hs hd
      go_enter Tryz.func66, Tryz.ntmps66
      go_wp2_with fail
      refine (X1.out).mono ?_
      rintro e w' ⟨rfl, rfl⟩
      go_wp2_with fail
      refine (X2.out).mono ?_
      rintro e w' ⟨rfl, rfl⟩
      go_wp2
      go_ret
      exact ⟨rfl, rfl⟩
    | false =>
      have X2 := Lib.hid (ndg_any r false w hd)
      have hb : b = (r == 45) := by rw [← h]; simp [M.nIn, hs, hd]; by_cases h45 : r = 45 <;> simp [h45]
      subst hb
      clear h hs hd
      go_enter Tryz.func66, Tryz.ntmps66
      go_wp2_with fail
      refine (X1.out).mono ?_
      rintro e w' ⟨rfl, rfl⟩
      go_wp2_with fail
      refine (X2.out).mono ?_
      rintro e w' ⟨rfl, rfl⟩
      go_wp2
      go_ret
      exact ⟨rfl, rfl⟩
set_option maxRecDepth 100000 in
set_option maxHeartbeats 1000000 in
theorem starts_any (v : Value) (c : List Int) (i : Nat) (b : Bool) (w : World) (hv : Lc w v c) (hl : c.length ≤ 4294967296) (hi : i ≤ 4294967296) (h : (if i < c.length then M.nSt (c.getD i (-1)) || M.esB (c.drop i) else false) = b) :
    Calls Tryz.prog 75 #[v, .int .i64 (i : Int)] w fun e w' => e = .returned (.bool b) ∧ w = w' := by
  have hv2 := hv
  obtain ⟨a, cap, rfl, h1, h2, h3⟩ := hv
  have E1 := ebegins_any _ c i (M.esB (c.drop i)) w hv2 hl (by rw [if_neg (by omega)]; simp)
  obtain ⟨n, hn⟩ : ∃ n, c.length = n := ⟨_, rfl⟩
  unfold maxLen at h2
  rw [hn] at h1 h3 hl h E1 ⊢
  clear hv2
  by_cases hin : i < n
  · rw [if_pos hin] at h
    obtain ⟨p, off, rfl, hp, hc⟩ := h3 (by omega)
    have c0 := hc i hin
    have i1 : (0 : Int) ≤ i := by omega
    have i2 : (i : Int) < n := by omega
    have HE := Lib.hid E1
    cases hs : M.nSt (c.getD i (-1)) with
    | true =>
      have X1 := Lib.hid (nst_any _ true w hs)
      obtain ⟨y, hy⟩ : ∃ y, c.getD i (-1) = y := ⟨_, rfl⟩
      rw [hy] at c0 X1
      rw [hs] at h
      simp at h
      subst h
      clear E1 hc h3 hn hs hy
      go_enter Tryz.func75, Tryz.ntmps75
      go_wp2_with fail
      refine (X1.out).mono ?_
      rintro e w' ⟨rfl, rfl⟩
      go_wp2
      go_ret
      exact ⟨rfl, rfl⟩
    | false =>
      have X1 := Lib.hid (nst_any _ false w hs)
      obtain ⟨y, hy⟩ : ∃ y, c.getD i (-1) = y := ⟨_, rfl⟩
      rw [hy] at c0 X1
      rw [hs, Bool.false_or] at h
      rw [h] at HE
      clear E1 hc h3 hn hs hy h
      go_enter Tryz.func75, Tryz.ntmps75
      go_wp2_with fail
      refine (X1.out).mono ?_
      rintro e w' ⟨rfl, rfl⟩
      go_wp2_with fail
      refine (HE.out).mono ?_
      rintro e w' ⟨rfl, rfl⟩
      go_wp2
      go_ret
      exact ⟨rfl, rfl⟩
  · rw [if_neg hin] at h
    subst h
    have e0 : M.esB (c.drop i) = false := by rw [List.drop_eq_nil_of_le (by omega)]; rfl
    rw [e0] at E1
    have HE := Lib.hid E1
    have i2 : (n : Int) ≤ i := by omega
    have t1 : decide ((i : Int) < n) = false := by simp; omega
    clear h3 hn e0 hin E1
    go_enter Tryz.func75, Tryz.ntmps75
    go_wp2_with fail
    refine (HE.out).mono ?_
    rintro e w' ⟨rfl, rfl⟩
    go_wp2
    go_ret
    exact ⟨rfl, rfl⟩
theorem begN_at (c : List Int) (i : Nat) (h : i < c.length) : M.begN (c.drop i) = (if c.getD i (-1) = 45 then (if i + 1 < c.length then M.nSt (c.getD (i + 1) (-1)) || M.esB (c.drop (i + 1)) else false) || (decide (i + 1 < c.length) && decide (c.getD (i + 1) (-1) = 45)) else M.nSt (c.getD i (-1)) || M.esB (c.drop i)) := by
  rw [getD_lt c i h, List.drop_eq_getElem_cons h]
  simp only [M.begN]
  by_cases h45 : c[i] = 45
  · rw [if_pos h45, if_pos h45, getD_drop, Nat.add_zero]
    by_cases h1 : i + 1 < c.length
    · rw [if_pos h1]
      simp only [h1, decide_true, Bool.true_and]
      cases M.nSt (c.getD (i + 1) (-1)) <;> cases decide (c.getD (i + 1) (-1) = 45) <;> simp
    · have e : c.getD (i + 1) (-1) = -1 := by simp [List.getD, List.getElem?_eq_none (show c.length ≤ i + 1 by omega)]
      rw [if_neg h1, e, List.drop_eq_nil_of_le (by omega)]
      simp [h1, M.esB, M.nSt]
  · rw [if_neg h45, if_neg h45]
set_option maxRecDepth 100000 in
set_option maxHeartbeats 1000000 in
theorem nbegins_any (v : Value) (c : List Int) (at' : Int) (b : Bool) (w : World) (hv : Lc w v c) (hl : c.length ≤ 4294967290) (h : (if at' < 0 then false else M.begN (c.drop at'.toNat)) = b) :
    Calls Tryz.prog 42 #[v, .int .i64 at'] w fun e w' => e = .returned (.bool b) ∧ w = w' := by
  have hv2 := hv
  obtain ⟨a, cap, rfl, h1, h2, h3⟩ := hv
  by_cases hneg : at' < 0
  · rw [if_pos hneg] at h
    subst h
    clear h3 hv2
    go_enter Tryz.func42, Tryz.ntmps42
    go_wp2
    go_ret
    exact ⟨by first | rfl | (simp; done) | (simp; omega), rfl⟩
  rw [if_neg hneg] at h
  obtain ⟨i, rfl⟩ : ∃ i : Nat, at' = (i : Int) := ⟨at'.toNat, by omega⟩
  simp only [Int.toNat_natCast] at h
  by_cases hin : i < c.length
  · rw [begN_at c i hin] at h
    have S0 := starts_any _ c i _ w hv2 (by omega) (by omega) rfl
    have S1 := starts_any _ c (i + 1) _ w hv2 (by omega) (by omega) rfl
    rw [if_pos hin] at S0
    obtain ⟨p, off, rfl, hp, hc⟩ := h3 (by omega)
    have c0 := hc i hin
    have c1 := hc (i + 1)
    obtain ⟨n, hn⟩ : ∃ n, c.length = n := ⟨_, rfl⟩
    unfold maxLen at h2
    rw [hn] at h1 hl h S0 S1 c1 hin ⊢
    have i1 : (0 : Int) ≤ i := by omega
    have i2 : (i : Int) < n := by omega
    have i3 : ((i : Int) + 1).toNat = i + 1 := by omega
    rw [show ((i + 1 : Nat) : Int) = (i : Int) + 1 by omega] at S1
    clear hc hn hv2 hneg h3
    by_cases h45 : c.getD i (-1) = 45
    · rw [if_pos h45] at h
      rw [h45] at c0
      obtain ⟨q, hq⟩ : ∃ q, (if i + 1 < n then M.nSt (c.getD (i + 1) (-1)) || M.esB (c.drop (i + 1)) else false) = q := ⟨_, rfl⟩
      rw [hq] at h S1
      have H1 := Lib.hid S1
      cases q with
      | true =>
        simp at h
        subst h
        clear c1 S0 S1 hq h45
        go_enter Tryz.func42, Tryz.ntmps42
        go_wp2_with fail
        refine (H1.out).mono ?_
        rintro e w' ⟨rfl, rfl⟩
        go_wp2
        go_ret
        exact ⟨rfl, rfl⟩
      | false =>
        rw [Bool.false_or] at h
        by_cases hj : i + 1 < n
        · have c1' := c1 hj
          obtain ⟨y, hy⟩ : ∃ y, c.getD (i + 1) (-1) = y := ⟨_, rfl⟩
          rw [hy] at c1' h
          have hb : b = (y == 45) := by rw [← h]; simp only [hj, decide_true, Bool.true_and]; by_cases h45 : y = 45 <;> simp [h45]
          subst hb
          have j2 : (i : Int) + 1 < n := by omega
          have t2 : decide ((i : Int) + 1 < n) = true := by simp; omega
          clear c1 S0 S1 hq h45 hy h hj
          go_enter Tryz.func42, Tryz.ntmps42
          go_wp2_with fail
          refine (H1.out).mono ?_
          rintro e w' ⟨rfl, rfl⟩
          go_wp2
          go_ret
          exact ⟨rfl, rfl⟩
        · simp [hj] at h
          subst h
          have j2 : (n : Int) ≤ (i : Int) + 1 := by omega
          have t2 : decide ((i : Int) + 1 < n) = false := by simp; omega
          clear c1 S0 S1 hq h45 hj
          go_enter Tryz.func42, Tryz.ntmps42
          go_wp2_with fail
          refine (H1.out).mono ?_
          rintro e w' ⟨rfl, rfl⟩
          go_wp2
          go_ret
          exact ⟨rfl, rfl⟩
    · rw [if_neg h45] at h
      rw [h] at S0
      have H0 := Lib.hid S0
      obtain ⟨y, hy⟩ : ∃ y, c.getD i (-1) = y := ⟨_, rfl⟩
      rw [hy] at c0 h45
      have t3 : (y == 45) = false := by rw [beq_eq_false_iff_ne]; exact h45
      have t4 : (y != 45) = true := by simp [bne, t3]
      clear c1 S0 S1 h45 hy h
      go_enter Tryz.func42, Tryz.ntmps42
      go_wp2_with fail
      refine (H0.out).mono ?_
      rintro e w' ⟨rfl, rfl⟩
      go_wp2
      go_ret
      exact ⟨rfl, rfl⟩
  · rw [List.drop_eq_nil_of_le (by omega)] at h
    obtain rfl : b = false := by rw [← h]; rfl
    obtain ⟨n, hn⟩ : ∃ n, c.length = n := ⟨_, rfl⟩
    unfold maxLen at h2
    rw [hn] at h1 hl hin ⊢
    have i2 : (n : Int) ≤ i := by omega
    clear h3 hn hv2 h
    go_enter Tryz.func42, Tryz.ntmps42
    go_wp2
    go_ret
    exact ⟨by first | rfl | (simp; done) | (simp; omega), rfl⟩
end Go.Proofs.YtpecaalpbeoolaaGreatDoor
