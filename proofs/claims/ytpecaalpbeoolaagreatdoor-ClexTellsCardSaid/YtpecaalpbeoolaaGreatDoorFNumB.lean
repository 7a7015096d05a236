/- Tokens of CSS: where a number begins and ends. -/
import Derived.Test.YtpecaalpbeoolaaGreatDoorFLoop
namespace Go.Proofs.YtpecaalpbeoolaaGreatDoor
open Go.RowKit
set_option linter.unusedVariables false
set_option linter.unusedSimpArgs false

theorem stC_one (r : Int) (c : List Int) (i : Nat) (hr : r ≠ -1) : M.stC [r] (c.drop i) = decide (c.getD i (-1) = r) := by
  by_cases hi : i < c.length
  · rw [drop_cons c i hi, getD_lt c i hi]
    show (r == c[i] && true) = _
    rw [Bool.and_true]
    by_cases h : c[i] = r
    · simp [h]
    · simp [h, Ne.symm h]
  · rw [List.drop_eq_nil_of_le (by omega)]
    simp [M.stC, List.getD, List.getElem?_eq_none (show c.length ≤ i by omega), Ne.symm hr]
/-- stands, of one code point, in any world behind this one. -/
theorem fst_one (x : UInt8) (v : Value) (c : List Int) (i : Nat) (b : Bool) (w : World) (hv : Lc w v c) (hl : c.length ≤ 4294967290) (hi : i ≤ 4294967290) (h : decide (c.getD i (-1) = (x.toNat : Int)) = b) :
    ∀ W, Below w.heap.size w W → Calls Tryz.prog 33 #[v, .int .i64 (i : Int), .string ⟨#[x]⟩] W fun e w' => e = .returned (.bool b) ∧ Below W.heap.size W w' := by
  intro W hW
  have := fstands_any v c i [x] b W (hv.keep hW) hl hi (by simp) (by simp) (by rw [show asI [x] = [(x.toNat : Int)] from rfl, stC_one _ c i (by omega)]; exact h)
  exact this
set_option maxRecDepth 100000 in
set_option maxHeartbeats 1000000 in
theorem fsign_any (v : Value) (c : List Int) (i k : Nat) (w : World) (hv : Lc w v c) (hl : c.length ≤ 4294967200) (hi : i ≤ 4294967200) (h : i + M.sgN (c.drop i) = k) :
    Calls Tryz.prog 68 #[v, .int .i64 (i : Int)] w fun e w' => e = .returned (.int .i64 (k : Int)) ∧ Below w.heap.size w w' := by
  unfold M.sgN at h
  rw [getD_drop, Nat.add_zero] at h
  have c0 : Below w.heap.size w w := Below.refl _ _
  by_cases h43 : c.getD i (-1) = 43
  · rw [if_pos (.inl h43)] at h
    have S1 := Lib.hid (fst_one 43 v c i true w hv (by omega) (by omega) (by simpa using h43))
    have hk : (i : Int) + 1 = k := by omega
    have hi' : (i : Int) ≤ 4294967200 := by omega
    clear h h43 hv hl hi
    go_enter Tryz.func68, Tryz.ntmps68
    go_wp2_with fail
    refine (S1.out _ c0).mono ?_
    rintro e w1 ⟨rfl, hb1⟩
    have c1 := c0.trans (hb1.mono c0.size)
    clear hb1
    go_wp2
    go_ret
    exact ⟨rfl, c1⟩
  · by_cases h45 : c.getD i (-1) = 45
    · rw [if_pos (.inr h45)] at h
      have S1 := Lib.hid (fst_one 43 v c i false w hv (by omega) (by omega) (by simpa using h43))
      have S2 := Lib.hid (fst_one 45 v c i true w hv (by omega) (by omega) (by simpa using h45))
      have hk : (i : Int) + 1 = k := by omega
      have hi' : (i : Int) ≤ 4294967200 := by omega
      clear h h43 hv hl hi h45
      go_enter Tryz.func68, Tryz.ntmps68
      go_wp2_with fail
      refine (S1.out _ c0).mono ?_
      rintro e w1 ⟨rfl, hb1⟩
      have c1 := c0.trans (hb1.mono c0.size)
      clear hb1
      go_wp2_with fail
      refine (S2.out _ c1).mono ?_
      rintro e w2 ⟨rfl, hb2⟩
      have c2 := c1.trans (hb2.mono c1.size)
      clear hb2
      go_wp2
      go_ret
      exact ⟨rfl, c2⟩
    · rw [if_neg (by omega), Nat.add_zero] at h
      subst h
      have S1 := Lib.hid (fst_one 43 v c i false w hv (by omega) (by omega) (by simpa using h43))
      have S2 := Lib.hid (fst_one 45 v c i false w hv (by omega) (by omega) (by simpa using h45))
      clear h43 hv hl hi h45
      go_enter Tryz.func68, Tryz.ntmps68
      go_wp2_with fail
      refine (S1.out _ c0).mono ?_
      rintro e w1 ⟨rfl, hb1⟩
      have c1 := c0.trans (hb1.mono c0.size)
      clear hb1
      go_wp2_with fail
      refine (S2.out _ c1).mono ?_
      rintro e w2 ⟨rfl, hb2⟩
      have c2 := c1.trans (hb2.mono c1.size)
      clear hb2
      go_wp2
      go_ret
      exact ⟨rfl, c2⟩
set_option maxRecDepth 100000 in
set_option maxHeartbeats 1000000 in
theorem ffrac_any (v : Value) (c : List Int) (i : Nat) (b : Bool) (w : World) (hv : Lc w v c) (hl : c.length ≤ 4294967200) (hi : i ≤ 4294967200) (h : M.fracB (c.drop i) = b) :
    Calls Tryz.prog 70 #[v, .int .i64 (i : Int)] w fun e w' => e = .returned (.bool b) ∧ Below w.heap.size w w' := by
  unfold M.fracB at h
  rw [getD_drop, getD_drop, Nat.add_zero] at h
  have c0 : Below w.heap.size w w := Below.refl _ _
  by_cases h46 : c.getD i (-1) = 46
  · rw [h46] at h
    simp only [decide_true, Bool.true_and] at h
    have S1 := Lib.hid (fst_one 46 v c i true w hv (by omega) (by omega) (by simpa using h46))
    have D1 := Lib.hid (fun W (hW : Below w.heap.size w W) => fdig_any v c (i + 1) b W (hv.keep hW) (by omega) (by omega) h)
    rw [show ((i + 1 : Nat) : Int) = (i : Int) + 1 by omega] at D1
    have hi' : (i : Int) ≤ 4294967200 := by omega
    clear h h46 hv hl hi
    go_enter Tryz.func70, Tryz.ntmps70
    go_wp2_with fail
    refine (S1.out _ c0).mono ?_
    rintro e w1 ⟨rfl, hb1⟩
    have c1 := c0.trans (hb1.mono c0.size)
    clear hb1
    go_wp2_with fail
    refine (D1.out _ c1).mono ?_
    rintro e w' ⟨rfl, rfl⟩
    go_wp2
    go_ret
    exact ⟨rfl, c1⟩
  · simp only [h46, decide_false, Bool.false_and] at h
    subst h
    have S1 := Lib.hid (fst_one 46 v c i false w hv (by omega) (by omega) (by simpa using h46))
    clear h46 hv hl hi
    go_enter Tryz.func70, Tryz.ntmps70
    go_wp2_with fail
    refine (S1.out _ c0).mono ?_
    rintro e w1 ⟨rfl, hb1⟩
    have c1 := c0.trans (hb1.mono c0.size)
    clear hb1
    go_wp2
    go_ret
    exact ⟨rfl, c1⟩
set_option maxRecDepth 100000 in
set_option maxHeartbeats 1000000 in
theorem fnumb_any (v : Value) (c : List Int) (i : Nat) (b : Bool) (w : World) (hv : Lc w v c) (hl : c.length ≤ 4294967100) (hi : i ≤ 4294967100) (h : M.numB (c.drop i) = b) :
    Calls Tryz.prog 40 #[v, .int .i64 (i : Int)] w fun e w' => e = .returned (.bool b) ∧ Below w.heap.size w w' := by
  unfold M.numB at h
  rw [getD_drop, List.drop_drop] at h
  have c0 : Below w.heap.size w w := Below.refl _ _
  have hk1 : i + M.sgN (c.drop i) ≤ i + 1 := by unfold M.sgN; split <;> omega
  obtain ⟨k, hk⟩ : ∃ k, i + M.sgN (c.drop i) = k := ⟨_, rfl⟩
  rw [hk] at h hk1
  have S1 := Lib.hid (fun W (hW : Below w.heap.size w W) => fsign_any v c i k W (hv.keep hW) (by omega) (by omega) hk)
  cases hd : M.nDg (c.getD k (-1)) with
  | true =>
    rw [hd] at h
    simp only [Bool.true_or] at h
    subst h
    have D1 := Lib.hid (fun W (hW : Below w.heap.size w W) => fdig_any v c k true W (hv.keep hW) (by omega) (by omega) hd)
    clear hk hd hv hl hi hk1
    go_enter Tryz.func40, Tryz.ntmps40
    go_wp2_with fail
    refine (S1.out _ c0).mono ?_
    rintro e w1 ⟨rfl, hb1⟩
    have c1 := c0.trans (hb1.mono c0.size)
    clear hb1
    go_wp2_with fail
    refine (D1.out _ c1).mono ?_
    rintro e w' ⟨rfl, rfl⟩
    go_wp2
    go_ret
    exact ⟨rfl, c1⟩
  | false =>
    rw [hd, Bool.false_or] at h
    have D1 := Lib.hid (fun W (hW : Below w.heap.size w W) => fdig_any v c k false W (hv.keep hW) (by omega) (by omega) hd)
    have F1 := Lib.hid (fun W (hW : Below w.heap.size w W) => ffrac_any v c k b W (hv.keep hW) (by omega) (by omega) h)
    clear hk hd hv hl hi hk1 h
    go_enter Tryz.func40, Tryz.ntmps40
    go_wp2_with fail
    refine (S1.out _ c0).mono ?_
    rintro e w1 ⟨rfl, hb1⟩
    have c1 := c0.trans (hb1.mono c0.size)
    clear hb1
    go_wp2_with fail
    refine (D1.out _ c1).mono ?_
    rintro e w' ⟨rfl, rfl⟩
    go_wp2_with fail
    refine (F1.out _ c1).mono ?_
    rintro e w2 ⟨rfl, hb2⟩
    have c2 := c1.trans (hb2.mono c1.size)
    clear hb2
    go_wp2
    go_ret
    exact ⟨rfl, c2⟩
/-- Where a number ends, by places. -/
def nE2 (c : List Int) (i : Nat) : Nat := i + M.sgN (c.drop i) + M.digN (c.drop (i + M.sgN (c.drop i)))
def nE3 (c : List Int) (k : Nat) : Nat := if M.fracB (c.drop k) = true then k + 1 + M.digN (c.drop (k + 1)) else k
def nEd (c : List Int) (k : Nat) : Nat := k + 1 + M.sgN (c.drop (k + 1))
def nE4 (c : List Int) (k : Nat) : Nat := if c.getD k (-1) = 101 ∨ c.getD k (-1) = 69 then (if M.nDg (c.getD (nEd c k) (-1)) = true then nEd c k + M.digN (c.drop (nEd c k)) else k) else k
theorem numE_at (c : List Int) (i : Nat) : i + M.numE (c.drop i) = nE4 c (nE3 c (nE2 c i)) := by
  have e1 : i + M.num1 (c.drop i) = nE2 c i := by unfold M.num1 nE2; rw [List.drop_drop]; omega
  have e2 : i + M.num2 (c.drop i) = nE3 c (nE2 c i) := by
    unfold M.num2 nE3
    rw [List.drop_drop, List.drop_drop, ← Nat.add_assoc, e1]
    split <;> omega
  unfold M.numE nE4 nEd
  rw [getD_drop, getD_drop, List.drop_drop, List.drop_drop]
  have e3 : i + (M.num2 (c.drop i) + 1) = nE3 c (nE2 c i) + 1 := by omega
  rw [e2, e3]
  have e4 : i + (M.num2 (c.drop i) + 1 + M.sgN (c.drop (nE3 c (nE2 c i) + 1))) = nE3 c (nE2 c i) + 1 + M.sgN (c.drop (nE3 c (nE2 c i) + 1)) := by omega
  rw [e4]
  split
  · split <;> omega
  · omega
theorem sgN_le1 (c : List Int) (i : Nat) : M.sgN (c.drop i) ≤ 1 := by unfold M.sgN; split <;> omega
theorem digN_lim (c : List Int) (i : Nat) : i + M.digN (c.drop i) ≤ max i c.length := by
  have := M.digN_le (c.drop i)
  rw [List.length_drop] at this; omega
set_option maxRecDepth 100000 in
set_option maxHeartbeats 4000000 in
theorem fnume_any (v : Value) (c : List Int) (i k : Nat) (w : World) (hv : Lc w v c) (hl : c.length ≤ 4294960000) (hi : i ≤ 4294960000) (h : i + M.numE (c.drop i) = k) :
    Calls Tryz.prog 71 #[v, .int .i64 (i : Int)] w fun e w' => e = .returned (.int .i64 (k : Int)) ∧ Below w.heap.size w w' := by
  rw [numE_at] at h
  have c0 : Below w.heap.size w w := Below.refl _ _
  have b1 := sgN_le1 c i
  have b2 := digN_lim c (i + M.sgN (c.drop i))
  obtain ⟨i1, hi1⟩ : ∃ k, i + M.sgN (c.drop i) = k := ⟨_, rfl⟩
  obtain ⟨i2, hi2⟩ : ∃ k, nE2 c i = k := ⟨_, rfl⟩
  have hi2' : i1 + M.digN (c.drop i1) = i2 := by rw [← hi2, ← hi1]; rfl
  rw [hi2] at h
  rw [hi1, hi2'] at b2
  have S1 := Lib.hid (fun W (hW : Below w.heap.size w W) => fsign_any v c i i1 W (hv.keep hW) (by omega) (by omega) hi1)
  have D1 := Lib.hid (fun W (hW : Below w.heap.size w W) => fskipd_any v c i1 i2 W (hv.keep hW) (by omega) (by omega) hi2')
  have b3 := digN_lim c (i2 + 1)
  obtain ⟨i3, hi3⟩ : ∃ k, nE3 c i2 = k := ⟨_, rfl⟩
  rw [hi3] at h
  have b4 : i3 ≤ 4294960005 := by rw [← hi3]; unfold nE3; split <;> omega
  have b5 := sgN_le1 c (i3 + 1)
  obtain ⟨i4, hi4⟩ : ∃ k, nEd c i3 = k := ⟨_, rfl⟩
  have hi4' : i3 + 1 + M.sgN (c.drop (i3 + 1)) = i4 := hi4
  have E1 := Lib.hid (fst_one 101 v c i3 _ w hv (by omega) (by omega) rfl)
  have E2 := Lib.hid (fst_one 69 v c i3 _ w hv (by omega) (by omega) rfl)
  have S2 := Lib.hid (fun W (hW : Below w.heap.size w W) => fsign_any v c (i3 + 1) i4 W (hv.keep hW) (by omega) (by omega) hi4')
  have D2 := Lib.hid (fun W (hW : Below w.heap.size w W) => fdig_any v c i4 _ W (hv.keep hW) (by omega) (by omega) rfl)
  have D3 := Lib.hid (fun W (hW : Below w.heap.size w W) => fskipd_any v c i4 _ W (hv.keep hW) (by omega) (by omega) rfl)
  have F1 := Lib.hid (fun W (hW : Below w.heap.size w W) => ffrac_any v c i2 _ W (hv.keep hW) (by omega) (by omega) rfl)
  have D4 := Lib.hid (fun W (hW : Below w.heap.size w W) => fskipd_any v c (i2 + 1) _ W (hv.keep hW) (by omega) (by omega) rfl)
  rw [show ((i3 + 1 : Nat) : Int) = (i3 : Int) + 1 by omega] at S2
  rw [show ((i2 + 1 : Nat) : Int) = (i2 : Int) + 1 by omega] at D4
  unfold nE4 at h
  rw [hi4] at h
  unfold nE3 at hi3
  have k0 : (i2 : Int) ≤ 4294960005 := by omega
  have k1 : (i3 : Int) ≤ 4294960005 := by omega
  obtain ⟨y, hy⟩ : ∃ y, c.getD i3 (-1) = y := ⟨_, rfl⟩
  rw [hy] at h E1 E2
  obtain ⟨dg, hdg⟩ : ∃ y, M.nDg (c.getD i4 (-1)) = y := ⟨_, rfl⟩
  rw [hdg] at h D2
  obtain ⟨fr, hfr⟩ : ∃ y, M.fracB (c.drop i2) = y := ⟨_, rfl⟩
  rw [hfr] at hi3 F1
  have HH := Lib.hid h
  have HI3 := Lib.hid hi3
  clear hv hl hi h hi1 hi2 hi2' hi3 hi4 hi4' b1 b2 b3 b4 b5 hy hdg hfr
  obtain ⟨i5, hi5⟩ : ∃ z, i2 + 1 + M.digN (c.drop (i2 + 1)) = z := ⟨_, rfl⟩
  obtain ⟨i6, hi6⟩ : ∃ z, i4 + M.digN (c.drop i4) = z := ⟨_, rfl⟩
  rw [hi5] at D4 HI3
  rw [hi6] at D3 HH
  clear hi5 hi6
  go_enter Tryz.func71, Tryz.ntmps71
  go_wp2_with fail
  refine (S1.out _ c0).mono ?_
  rintro e w1 ⟨rfl, hb1⟩
  have c1 := c0.trans (hb1.mono c0.size)
  clear hb1
  go_wp2_with fail
  refine (D1.out _ c1).mono ?_
  rintro e w' ⟨rfl, rfl⟩
  go_wp2_with fail
  refine (F1.out _ c1).mono ?_
  rintro e w2 ⟨rfl, hb2⟩
  have c2 := c1.trans (hb2.mono c1.size)
  clear hb2
  cases fr with
  | true =>
    have hi3 := HI3.out
    simp only [if_true, if_false, Bool.false_eq_true] at hi3
    subst hi3
    go_wp2_with fail
    refine (D4.out _ c2).mono ?_
    rintro e w' ⟨rfl, rfl⟩
    by_cases h101 : y = 101
    · have t1 : decide (y = ((101 : UInt8).toNat : Int)) = true := by simpa using h101
      rw [t1] at E1
      have hh := HH.out
      rw [if_pos (.inl h101)] at hh
      clear t1 h101
      go_wp2_with fail
      refine (E1.out _ c2).mono ?_
      rintro e w3 ⟨rfl, hb3⟩
      have c3 := c2.trans (hb3.mono c2.size)
      clear hb3
      go_wp2_with fail
      refine (S2.out _ c3).mono ?_
      rintro e w4 ⟨rfl, hb4⟩
      have c4 := c3.trans (hb4.mono c3.size)
      clear hb4
      go_wp2_with fail
      refine (D2.out _ c4).mono ?_
      rintro e w' ⟨rfl, rfl⟩
      cases dg with
      | true =>
        simp only [if_true, if_false, Bool.false_eq_true] at hh
        subst hh
        go_wp2_with fail
        refine (D3.out _ c4).mono ?_
        rintro e w' ⟨rfl, rfl⟩
        go_wp2
        go_ret
        exact ⟨rfl, c4⟩
      | false =>
        simp only [if_true, if_false, Bool.false_eq_true] at hh
        subst hh
        go_wp2
        go_ret
        exact ⟨rfl, c4⟩
    · have t1 : decide (y = ((101 : UInt8).toNat : Int)) = false := by simpa using h101
      rw [t1] at E1
      by_cases h69 : y = 69
      · have t2 : decide (y = ((69 : UInt8).toNat : Int)) = true := by simpa using h69
        rw [t2] at E2
        have hh := HH.out
        rw [if_pos (.inr h69)] at hh
        clear t1 h101 t2 h69
        go_wp2_with fail
        refine (E1.out _ c2).mono ?_
        rintro e w3 ⟨rfl, hb3⟩
        have c3 := c2.trans (hb3.mono c2.size)
        clear hb3
        go_wp2_with fail
        refine (E2.out _ c3).mono ?_
        rintro e w5 ⟨rfl, hb5⟩
        have c5 := c3.trans (hb5.mono c3.size)
        clear hb5
        go_wp2_with fail
        refine (S2.out _ c5).mono ?_
        rintro e w4 ⟨rfl, hb4⟩
        have c4 := c5.trans (hb4.mono c5.size)
        clear hb4
        go_wp2_with fail
        refine (D2.out _ c4).mono ?_
        rintro e w' ⟨rfl, rfl⟩
        cases dg with
        | true =>
          simp only [if_true, if_false, Bool.false_eq_true] at hh
          subst hh
          go_wp2_with fail
          refine (D3.out _ c4).mono ?_
          rintro e w' ⟨rfl, rfl⟩
          go_wp2
          go_ret
          exact ⟨rfl, c4⟩
        | false =>
          simp only [if_true, if_false, Bool.false_eq_true] at hh
          subst hh
          go_wp2
          go_ret
          exact ⟨rfl, c4⟩
      · have t2 : decide (y = ((69 : UInt8).toNat : Int)) = false := by simpa using h69
        rw [t2] at E2
        have hh := HH.out
        rw [if_neg (by omega)] at hh
        subst hh
        clear t1 h101 t2 h69
        go_wp2_with fail
        refine (E1.out _ c2).mono ?_
        rintro e w3 ⟨rfl, hb3⟩
        have c3 := c2.trans (hb3.mono c2.size)
        clear hb3
        go_wp2_with fail
        refine (E2.out _ c3).mono ?_
        rintro e w4 ⟨rfl, hb4⟩
        have c4 := c3.trans (hb4.mono c3.size)
        clear hb4
        go_wp2
        go_ret
        exact ⟨rfl, c4⟩
  | false =>
    have hi3 := HI3.out
    simp only [if_true, if_false, Bool.false_eq_true] at hi3
    subst hi3
    by_cases h101 : y = 101
    · have t1 : decide (y = ((101 : UInt8).toNat : Int)) = true := by simpa using h101
      rw [t1] at E1
      have hh := HH.out
      rw [if_pos (.inl h101)] at hh
      clear t1 h101
      go_wp2_with fail
      refine (E1.out _ c2).mono ?_
      rintro e w3 ⟨rfl, hb3⟩
      have c3 := c2.trans (hb3.mono c2.size)
      clear hb3
      go_wp2_with fail
      refine (S2.out _ c3).mono ?_
      rintro e w4 ⟨rfl, hb4⟩
      have c4 := c3.trans (hb4.mono c3.size)
      clear hb4
      go_wp2_with fail
      refine (D2.out _ c4).mono ?_
      rintro e w' ⟨rfl, rfl⟩
      cases dg with
      | true =>
        simp only [if_true, if_false, Bool.false_eq_true] at hh
        subst hh
        go_wp2_with fail
        refine (D3.out _ c4).mono ?_
        rintro e w' ⟨rfl, rfl⟩
        go_wp2
        go_ret
        exact ⟨rfl, c4⟩
      | false =>
        simp only [if_true, if_false, Bool.false_eq_true] at hh
        subst hh
        go_wp2
        go_ret
        exact ⟨rfl, c4⟩
    · have t1 : decide (y = ((101 : UInt8).toNat : Int)) = false := by simpa using h101
      rw [t1] at E1
      by_cases h69 : y = 69
      · have t2 : decide (y = ((69 : UInt8).toNat : Int)) = true := by simpa using h69
        rw [t2] at E2
        have hh := HH.out
        rw [if_pos (.inr h69)] at hh
        clear t1 h101 t2 h69
        go_wp2_with fail
        refine (E1.out _ c2).mono ?_
        rintro e w3 ⟨rfl, hb3⟩
        have c3 := c2.trans (hb3.mono c2.size)
        clear hb3
        go_wp2_with fail
        refine (E2.out _ c3).mono ?_
        rintro e w5 ⟨rfl, hb5⟩
        have c5 := c3.trans (hb5.mono c3.size)
        clear hb5
        go_wp2_with fail
        refine (S2.out _ c5).mono ?_
        rintro e w4 ⟨rfl, hb4⟩
        have c4 := c5.trans (hb4.mono c5.size)
        clear hb4
        go_wp2_with fail
        refine (D2.out _ c4).mono ?_
        rintro e w' ⟨rfl, rfl⟩
        cases dg with
        | true =>
          simp only [if_true, if_false, Bool.false_eq_true] at hh
          subst hh
          go_wp2_with fail
          refine (D3.out _ c4).mono ?_
          rintro e w' ⟨rfl, rfl⟩
          go_wp2
          go_ret
          exact ⟨rfl, c4⟩
        | false =>
          simp only [if_true, if_false, Bool.false_eq_true] at hh
          subst hh
          go_wp2
          go_ret
          exact ⟨rfl, c4⟩
      · have t2 : decide (y = ((69 : UInt8).toNat : Int)) = false := by simpa using h69
        rw [t2] at E2
        have hh := HH.out
        rw [if_neg (by omega)] at hh
        subst hh
        clear t1 h101 t2 h69
        go_wp2_with fail
        refine (E1.out _ c2).mono ?_
        rintro e w3 ⟨rfl, hb3⟩
        have c3 := c2.trans (hb3.mono c2.size)
        clear hb3
        go_wp2_with fail
        refine (E2.out _ c3).mono ?_
        rintro e w4 ⟨rfl, hb4⟩
        have c4 := c3.trans (hb4.mono c3.size)
        clear hb4
        go_wp2
        go_ret
        exact ⟨rfl, c4⟩
end Go.Proofs.YtpecaalpbeoolaaGreatDoor
