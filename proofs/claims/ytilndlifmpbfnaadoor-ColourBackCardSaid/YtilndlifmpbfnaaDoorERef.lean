/- The reference of names: in, at, hex, escape, Begins, Cap. -/
import Derived.Test.YtilndlifmpbfnaaDoorBgE
import Derived.Outline
namespace Go.Proofs.YtilndlifmpbfnaaDoor
open Go.RowKit
set_option linter.unusedVariables false
set_option linter.unusedSimpArgs false

set_option maxRecDepth 100000 in
set_option maxHeartbeats 1000000 in
theorem rnin_any (r : Int) (b : Bool) (w : World) (h : M.nIn r = b) : Calls Tryd.prog 22 #[.int .i64 r] w fun e w' => e = .returned (.bool b) ∧ w = w' := by
  cases hs : M.nSt r with
  | true =>
    have X1 := Lib.hid (rnst_any r true w hs)
    have hb : b = true := by rw [← h]; simp [M.nIn, hs]
    subst hb
    clear h hs
    go_enter Tryd.func22, Tryd.ntmps22
    go_wp2_with fail
    refine (X1.out).mono ?_
    rintro e w' ⟨rfl, rfl⟩
    go_wp2
    go_ret
    exact ⟨rfl, rfl⟩
  | false =>
    have X1 := Lib.hid (rnst_any r false w hs)
    cases hd : M.nDg r with
    | true =>
      have X2 := Lib.hid (rndg_any r true w hd)
      have hb : b = true := by rw [← h]; simp [M.nIn, hd]
      subst hb
      clear h hs hd
      go_enter Tryd.func22, Tryd.ntmps22
      go_wp2_with fail
      refine (X1.out).mono ?_
      rintro e w' ⟨rfl, rfl⟩
      go_wp2_with fail
      refine (X2.out).mono ?_
      rintro e w' ⟨rfl, rfl⟩
      go_wp2
      go_ret
      exact ⟨rfl, rfl⟩
    | false =>
      have X2 := Lib.hid (rndg_any r false w hd)
      have hb : b = (r == 45) := by rw [← h]; simp [M.nIn, hs, hd]; by_cases h45 : r = 45 <;> simp [h45]
      subst hb
      clear h hs hd
      go_enter Tryd.func22, Tryd.ntmps22
      go_wp2_with fail
      refine (X1.out).mono ?_
      rintro e w' ⟨rfl, rfl⟩
      go_wp2_with fail
      refine (X2.out).mono ?_
      rintro e w' ⟨rfl, rfl⟩
      go_wp2
      go_ret
      exact ⟨rfl, rfl⟩
set_option maxRecDepth 100000 in
set_option maxHeartbeats 1000000 in
theorem rat_any (v : Value) (c : List Int) (i : Nat) (x : Int) (w : World) (hv : Lc w v c) (hl : c.length ≤ 4294967296) (h : c.getD i (-1) = x) :
    Calls Tryd.prog 20 #[v, .int .i64 (i : Int)] w fun e w' => e = .returned (.int .i64 x) ∧ w = w' := by
  obtain ⟨a, cap, rfl, h1, h2, h3⟩ := hv
  by_cases hin : i < c.length
  · obtain ⟨p, off, rfl, hp, hc⟩ := h3 (by omega)
    have c0 := hc i hin
    rw [h] at c0
    obtain ⟨n, hn⟩ : ∃ n, c.length = n := ⟨_, rfl⟩
    unfold maxLen at h2
    rw [hn] at h1 hl hin ⊢
    have i1 : (0 : Int) ≤ i := by omega
    have i2 : (i : Int) < n := by omega
    clear h3 hn hc h
    go_enter Tryd.func20, Tryd.ntmps20
    go_wp2
    go_ret
    exact ⟨rfl, rfl⟩
  · obtain rfl : -1 = x := by rw [← h]; simp [List.getD, List.getElem?_eq_none (Nat.le_of_not_lt hin)]
    obtain ⟨n, hn⟩ : ∃ n, c.length = n := ⟨_, rfl⟩
    unfold maxLen at h2
    rw [hn] at h1 hl hin ⊢
    have i2 : (n : Int) ≤ i := by omega
    clear h3 hn h
    go_enter Tryd.func20, Tryd.ntmps20
    go_wp2
    go_ret
    exact ⟨rfl, rfl⟩
/-- A digit of base 16, or below 0. -/
def hexO (r : Int) : Int := if M.isX r then M.xv r else -1
theorem hexO_x (r : Int) (h : M.isX r = true) : hexO r = M.xv r := by unfold hexO; rw [if_pos h]
theorem hexO_n (r : Int) (h : M.isX r = false) : hexO r = -1 := by unfold hexO; rw [if_neg (by simp [h])]
set_option maxRecDepth 100000 in
set_option maxHeartbeats 1000000 in
theorem rhex_any (r x : Int) (w : World) (h : hexO r = x) : Calls Tryd.prog 43 #[.int .i64 r] w fun e w' => e = .returned (.int .i64 x) ∧ w = w' := by
  have hs : (r ≤ 47 ∧ x = -1) ∨ (48 ≤ r ∧ r ≤ 57 ∧ x = r - 48) ∨ (58 ≤ r ∧ r ≤ 64 ∧ x = -1) ∨ (65 ≤ r ∧ r ≤ 70 ∧ x = r - 55) ∨ (71 ≤ r ∧ r ≤ 96 ∧ x = -1) ∨ (97 ≤ r ∧ r ≤ 102 ∧ x = r - 87) ∨ (103 ≤ r ∧ x = -1) := by
    unfold hexO M.xv at h
    by_cases hx : M.isX r = true
    · rw [if_pos hx] at h
      rw [M.isX_iff] at hx
      repeat' split at h
      all_goals omega
    · rw [if_neg hx] at h
      have := (M.isX_not r).1 (by simpa using hx)
      omega
  clear h
  rcases hs with ⟨h1, rfl⟩ | ⟨h1, h2, hx⟩ | ⟨h1, h2, rfl⟩ | ⟨h1, h2, hx⟩ | ⟨h1, h2, rfl⟩ | ⟨h1, h2, hx⟩ | ⟨h1, rfl⟩
  · have D := Lib.hid (rndg_any r false w (by rw [M.nDg_not]; omega))
    go_enter Tryd.func43, Tryd.ntmps43
    go_wp2_with fail
    refine (D.out).mono ?_
    rintro e w' ⟨rfl, rfl⟩
    go_wp2
    go_ret
    exact ⟨rfl, rfl⟩
  · have D := Lib.hid (rndg_any r true w (by rw [M.nDg_iff]; omega))
    have Hx := Lib.hid hx
    clear hx
    go_enter Tryd.func43, Tryd.ntmps43
    go_wp2_with fail
    refine (D.out).mono ?_
    rintro e w' ⟨rfl, rfl⟩
    go_wp2
    go_ret
    exact ⟨eret_i (by have := Hx.out; omega), rfl⟩
  · have D := Lib.hid (rndg_any r false w (by rw [M.nDg_not]; omega))
    go_enter Tryd.func43, Tryd.ntmps43
    go_wp2_with fail
    refine (D.out).mono ?_
    rintro e w' ⟨rfl, rfl⟩
    go_wp2
    go_ret
    exact ⟨rfl, rfl⟩
  · have D := Lib.hid (rndg_any r false w (by rw [M.nDg_not]; omega))
    have Hx := Lib.hid hx
    clear hx
    go_enter Tryd.func43, Tryd.ntmps43
    go_wp2_with fail
    refine (D.out).mono ?_
    rintro e w' ⟨rfl, rfl⟩
    go_wp2
    go_ret
    exact ⟨eret_i (by have := Hx.out; omega), rfl⟩
  · have D := Lib.hid (rndg_any r false w (by rw [M.nDg_not]; omega))
    go_enter Tryd.func43, Tryd.ntmps43
    go_wp2_with fail
    refine (D.out).mono ?_
    rintro e w' ⟨rfl, rfl⟩
    go_wp2
    go_ret
    exact ⟨rfl, rfl⟩
  · have D := Lib.hid (rndg_any r false w (by rw [M.nDg_not]; omega))
    have Hx := Lib.hid hx
    clear hx
    go_enter Tryd.func43, Tryd.ntmps43
    go_wp2_with fail
    refine (D.out).mono ?_
    rintro e w' ⟨rfl, rfl⟩
    go_wp2
    go_ret
    exact ⟨eret_i (by have := Hx.out; omega), rfl⟩
  · have D := Lib.hid (rndg_any r false w (by rw [M.nDg_not]; omega))
    go_enter Tryd.func43, Tryd.ntmps43
    go_wp2_with fail
    refine (D.out).mono ?_
    rintro e w' ⟨rfl, rfl⟩
    go_wp2
    go_ret
    exact ⟨rfl, rfl⟩
theorem esB_two (c : List Int) (i : Nat) : M.esB (c.drop i) = (decide (c.getD i (-1) = 92) && decide (c.getD (i + 1) (-1) ≠ 10)) := by
  rw [esB_at]
  by_cases h : i < c.length
  · simp [h]
  · have : c.getD i (-1) = -1 := by simp [List.getD, List.getElem?_eq_none (Nat.le_of_not_lt h)]
    rw [this]; simp [h]
set_option maxRecDepth 100000 in
set_option maxHeartbeats 1000000 in
theorem rescape_any (v : Value) (c : List Int) (i : Nat) (b : Bool) (w : World) (hv : Lc w v c) (hl : c.length ≤ 4294967296) (hi : i ≤ 4294967296) (h : M.esB (c.drop i) = b) :
    Calls Tryd.prog 23 #[v, .int .i64 (i : Int)] w fun e w' => e = .returned (.bool b) ∧ w = w' := by
  rw [esB_two] at h
  have A0 := rat_any v c i _ w hv hl rfl
  have A1 := rat_any v c (i + 1) _ w hv hl rfl
  rw [show ((i + 1 : Nat) : Int) = (i : Int) + 1 by omega] at A1
  obtain ⟨x, hx⟩ : ∃ x, c.getD i (-1) = x := ⟨_, rfl⟩
  obtain ⟨y, hy⟩ : ∃ x, c.getD (i + 1) (-1) = x := ⟨_, rfl⟩
  rw [hx] at A0 h
  rw [hy] at A1 h
  have H0 := Lib.hid A0
  have H1 := Lib.hid A1
  have i0 : (0 : Int) ≤ i := by omega
  have i1 : (i : Int) ≤ 4294967296 := by omega
  clear A0 A1 hx hy hv hl hi
  by_cases h92 : x = 92
  · subst h92
    have hb : b = (y != 10) := by rw [← h]; by_cases h10 : y = 10 <;> simp [h10]
    subst hb
    clear h
    go_enter Tryd.func23, Tryd.ntmps23
    go_wp2_with fail
    refine (H0.out).mono ?_
    rintro e w' ⟨rfl, rfl⟩
    go_wp2_with fail
    refine (H1.out).mono ?_
    rintro e w' ⟨rfl, rfl⟩
    go_wp2
    go_ret
    exact ⟨rfl, rfl⟩
  · have t : (x == 92) = false := by rw [beq_eq_false_iff_ne]; exact h92
    have hb : b = false := by rw [← h]; simp [h92]
    subst hb
    clear h h92
    go_enter Tryd.func23, Tryd.ntmps23
    go_wp2_with fail
    refine (H0.out).mono ?_
    rintro e w' ⟨rfl, rfl⟩
    go_wp2
    go_ret
    exact ⟨rfl, rfl⟩
set_option maxRecDepth 100000 in
set_option maxHeartbeats 1000000 in
theorem rcap_any (x lo hi : Int) (w : World) (y : Int) (h : (if x < lo then lo else if hi < x then hi else x) = y) :
    Calls Tryd.prog 37 #[.int .i64 x, .int .i64 lo, .int .i64 hi] w fun e w' => e = .returned (.int .i64 y) ∧ w = w' := by
  by_cases h1 : x < lo
  · rw [if_pos h1] at h
    subst h
    go_enter Tryd.func37, Tryd.ntmps37
    go_wp2
    go_ret
    exact ⟨rfl, rfl⟩
  · rw [if_neg h1] at h
    have t1 : lo ≤ x := by omega
    by_cases h2 : hi < x
    · rw [if_pos h2] at h
      subst h
      go_enter Tryd.func37, Tryd.ntmps37
      go_wp2
      go_ret
      exact ⟨rfl, rfl⟩
    · rw [if_neg h2] at h
      have t2 : x ≤ hi := by omega
      subst h
      go_enter Tryd.func37, Tryd.ntmps37
      go_wp2
      go_ret
      exact ⟨rfl, rfl⟩
set_option maxRecDepth 100000 in
set_option maxHeartbeats 1000000 in
theorem rbegins_any (v : Value) (c : List Int) (at' : Int) (b : Bool) (w : World) (hv : Lc w v c) (hl : c.length ≤ 4294967290) (h : (if at' < 0 then false else M.begN (c.drop at'.toNat)) = b) :
    Calls Tryd.prog 25 #[v, .int .i64 at'] w fun e w' => e = .returned (.bool b) ∧ w = w' := by
  have hv2 := hv
  obtain ⟨a, cap, rfl, h1, h2, h3⟩ := hv
  by_cases hneg : at' < 0
  · rw [if_pos hneg] at h
    subst h
    clear h3 hv2
    go_enter Tryd.func25, Tryd.ntmps25
    go_wp2
    go_ret
    exact ⟨by first | rfl | (simp; done) | (simp; omega), rfl⟩
  rw [if_neg hneg] at h
  obtain ⟨i, rfl⟩ : ∃ i : Nat, at' = (i : Int) := ⟨at'.toNat, by omega⟩
  simp only [Int.toNat_natCast] at h
  by_cases hin : i < c.length
  · rw [List.drop_eq_getElem_cons hin, ← getD_lt c i hin (-1)] at h
    simp only [M.begN] at h
    rw [getD_drop, Nat.add_zero] at h
    rw [show M.esB (c.getD i (-1) :: c.drop (i + 1)) = M.esB (c.drop i) by rw [List.drop_eq_getElem_cons hin, getD_lt c i hin]] at h
    have E0 := rescape_any _ c i _ w hv2 (by omega) (by omega) rfl
    have E1 := rescape_any _ c (i + 1) _ w hv2 (by omega) (by omega) rfl
    have A1 := rat_any _ c (i + 1) _ w hv2 (by omega) rfl
    rw [show ((i + 1 : Nat) : Int) = (i : Int) + 1 by omega] at A1 E1
    obtain ⟨p, off, rfl, hp, hc⟩ := h3 (by omega)
    have c0 := hc i hin
    obtain ⟨n, hn⟩ : ∃ n, c.length = n := ⟨_, rfl⟩
    unfold maxLen at h2
    rw [hn] at h1 hl A1 E0 E1 hin ⊢
    have i1 : (0 : Int) ≤ i := by omega
    have i2 : (i : Int) < n := by omega
    obtain ⟨x, hx⟩ : ∃ x, c.getD i (-1) = x := ⟨_, rfl⟩
    obtain ⟨y, hy⟩ : ∃ x, c.getD (i + 1) (-1) = x := ⟨_, rfl⟩
    obtain ⟨e0, he0⟩ : ∃ x, M.esB (c.drop i) = x := ⟨_, rfl⟩
    obtain ⟨e1, he1⟩ : ∃ x, M.esB (c.drop (i + 1)) = x := ⟨_, rfl⟩
    rw [hx] at c0 h
    rw [hy] at A1 h
    rw [he0] at E0 h
    rw [he1] at E1 h
    have SX := Lib.hid (rnst_any x _ w rfl)
    have SY := Lib.hid (rnst_any y _ w rfl)
    obtain ⟨sx, hsx⟩ : ∃ s, M.nSt x = s := ⟨_, rfl⟩
    obtain ⟨sy, hsy⟩ : ∃ s, M.nSt y = s := ⟨_, rfl⟩
    rw [hsx] at SX h
    rw [hsy] at SY h
    have HA := Lib.hid A1
    have H0 := Lib.hid E0
    have H1 := Lib.hid E1
    clear A1 E0 E1 hc hn hx hy he0 he1 hsx hsy hv2 hneg h3
    by_cases h45 : x = 45
    · subst h45
      rw [if_pos rfl] at h
      cases sy with
      | true =>
        simp at h
        subst h
        go_enter Tryd.func25, Tryd.ntmps25
        go_wp2_with fail
        refine (HA.out).mono ?_
        rintro e w' ⟨rfl, rfl⟩
        go_wp2_with fail
        refine (SY.out).mono ?_
        rintro e w' ⟨rfl, rfl⟩
        go_wp2
        go_ret
        exact ⟨rfl, rfl⟩
      | false =>
        by_cases y45 : y = 45
        · subst y45
          simp at h
          subst h
          go_enter Tryd.func25, Tryd.ntmps25
          go_wp2_with fail
          refine (HA.out).mono ?_
          rintro e w' ⟨rfl, rfl⟩
          go_wp2_with fail
          refine (SY.out).mono ?_
          rintro e w' ⟨rfl, rfl⟩
          go_wp2
          go_ret
          exact ⟨rfl, rfl⟩
        · simp [y45] at h
          subst h
          have t : (y == 45) = false := by rw [beq_eq_false_iff_ne]; exact y45
          clear y45
          go_enter Tryd.func25, Tryd.ntmps25
          go_wp2_with fail
          refine (HA.out).mono ?_
          rintro e w' ⟨rfl, rfl⟩
          go_wp2_with fail
          refine (SY.out).mono ?_
          rintro e w' ⟨rfl, rfl⟩
          go_wp2_with fail
          refine (H1.out).mono ?_
          rintro e w' ⟨rfl, rfl⟩
          go_wp2
          go_ret
          exact ⟨rfl, rfl⟩
    · rw [if_neg h45] at h
      have t : (x == 45) = false := by rw [beq_eq_false_iff_ne]; exact h45
      clear h45
      cases sx with
      | true =>
        simp at h
        subst h
        go_enter Tryd.func25, Tryd.ntmps25
        go_wp2_with fail
        refine (SX.out).mono ?_
        rintro e w' ⟨rfl, rfl⟩
        go_wp2
        go_ret
        exact ⟨rfl, rfl⟩
      | false =>
        rw [Bool.false_or] at h
        subst h
        go_enter Tryd.func25, Tryd.ntmps25
        go_wp2_with fail
        refine (SX.out).mono ?_
        rintro e w' ⟨rfl, rfl⟩
        go_wp2_with fail
        refine (H0.out).mono ?_
        rintro e w' ⟨rfl, rfl⟩
        go_wp2
        go_ret
        exact ⟨rfl, rfl⟩
  · rw [List.drop_eq_nil_of_le (by omega)] at h
    obtain rfl : b = false := by rw [← h]; rfl
    obtain ⟨n, hn⟩ : ∃ n, c.length = n := ⟨_, rfl⟩
    unfold maxLen at h2
    rw [hn] at h1 hl hin ⊢
    have i2 : (n : Int) ≤ i := by omega
    clear h3 hn hv2 h
    go_enter Tryd.func25, Tryd.ntmps25
    go_wp2
    go_ret
    exact ⟨by first | rfl | (simp; done) | (simp; omega), rfl⟩
end Go.Proofs.YtilndlifmpbfnaaDoor
