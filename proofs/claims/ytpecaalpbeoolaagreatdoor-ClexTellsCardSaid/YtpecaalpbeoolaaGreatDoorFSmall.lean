/- Tokens of CSS: the program's small functions of one place. -/
import Derived.Test.YtpecaalpbeoolaaGreatDoorEEsc2
import Derived.Test.YtpecaalpbeoolaaGreatDoorEName
import Derived.Test.YtpecaalpbeoolaaGreatDoorMgD
namespace Go.Proofs.YtpecaalpbeoolaaGreatDoor
open Go.RowKit
set_option linter.unusedVariables false
set_option linter.unusedSimpArgs false

theorem getD_end (c : List Int) (n i : Nat) (hn : c.length = n) (h : n ≤ i) : c.getD i (-1) = -1 := by simp [List.getD, List.getElem?_eq_none (show c.length ≤ i by omega)]
/-- What a walk wants of a place: nothing there, or its cell. -/
theorem lc_at {w : World} {v : Value} {c : List Int} (hv : Lc w v c) {n : Nat} (hn : c.length = n) : ∃ a cap, v = .slice a n cap ∧ n ≤ cap ∧ cap ≤ maxLen ∧ ∀ i, i < n → ∃ b off, a = some ⟨b, off, none⟩ ∧ b < w.heap.size ∧ w.cell? ⟨b, off + i * 2, none⟩ = some (.int .i64 (c.getD i (-1))) := by
  obtain ⟨a, cap, rfl, h1, h2, h3⟩ := hv
  subst hn
  refine ⟨a, cap, rfl, h1, h2, fun i hi => ?_⟩
  obtain ⟨b, off, rfl, hb, hc⟩ := h3 (by omega)
  exact ⟨b, off, rfl, hb, hc i hi⟩
set_option maxRecDepth 100000 in
set_option maxHeartbeats 1000000 in
theorem fdig_any (v : Value) (c : List Int) (i : Nat) (b : Bool) (w : World) (hv : Lc w v c) (hl : c.length ≤ 4294967290) (hi : i ≤ 4294967290) (h : M.nDg (c.getD i (-1)) = b) :
    Calls Tryz.prog 69 #[v, .int .i64 (i : Int)] w fun e w' => e = .returned (.bool b) ∧ w = w' := by
  obtain ⟨n, hn⟩ : ∃ n, c.length = n := ⟨_, rfl⟩
  obtain ⟨a, cap, rfl, h1, h2, h3⟩ := lc_at hv hn
  rw [hn] at hl
  by_cases hin : i < n
  · obtain ⟨p, off, rfl, hp, c0⟩ := h3 i hin
    have i1 : (0 : Int) ≤ i := by omega
    have i2 : (i : Int) < n := by omega
    obtain ⟨y, hy⟩ : ∃ y, c.getD i (-1) = y := ⟨_, rfl⟩
    rw [hy] at c0 h
    clear hn hy h3 hin hv
    by_cases ha : 48 ≤ y
    · by_cases hb : y ≤ 57
      · obtain rfl : true = b := by rw [← h]; symm; rw [M.nDg_iff]; omega
        clear h
        go_enter Tryz.func69, Tryz.ntmps69
        go_wp2
        go_ret
        exact ⟨by first | rfl | (simp; done) | (simp; omega), rfl⟩
      · obtain rfl : false = b := by rw [← h]; symm; rw [M.nDg_not]; omega
        clear h
        go_enter Tryz.func69, Tryz.ntmps69
        go_wp2
        go_ret
        exact ⟨by first | rfl | (simp; done) | (simp; omega), rfl⟩
    · obtain rfl : false = b := by rw [← h]; symm; rw [M.nDg_not]; omega
      clear h
      go_enter Tryz.func69, Tryz.ntmps69
      go_wp2
      go_ret
      exact ⟨by first | rfl | (simp; done) | (simp; omega), rfl⟩
  · rw [getD_end c n i hn (by omega)] at h
    obtain rfl : false = b := by rw [← h]; decide
    have i2 : (n : Int) ≤ i := by omega
    clear h3 hv hn h hin
    go_enter Tryz.func69, Tryz.ntmps69
    go_wp2
    go_ret
    exact ⟨by first | rfl | (simp; done) | (simp; omega), rfl⟩
set_option maxRecDepth 100000 in
set_option maxHeartbeats 1000000 in
theorem finn_any (v : Value) (c : List Int) (i : Nat) (b : Bool) (w : World) (hv : Lc w v c) (hl : c.length ≤ 4294967290) (hi : i ≤ 4294967290) (h : M.inNm (c.drop i) = b) :
    Calls Tryz.prog 38 #[v, .int .i64 (i : Int)] w fun e w' => e = .returned (.bool b) ∧ w = w' := by
  have E1 := Lib.hid (ebegins_any v c i (M.esB (c.drop i)) w hv (by omega) (by rw [if_neg (by omega)]; simp))
  unfold M.inNm at h
  rw [getD_drop, Nat.add_zero] at h
  obtain ⟨n, hn⟩ : ∃ n, c.length = n := ⟨_, rfl⟩
  obtain ⟨a, cap, rfl, h1, h2, h3⟩ := lc_at hv hn
  rw [hn] at hl
  by_cases hin : i < n
  · obtain ⟨p, off, rfl, hp, c0⟩ := h3 i hin
    have i1 : (0 : Int) ≤ i := by omega
    have i2 : (i : Int) < n := by omega
    obtain ⟨y, hy⟩ : ∃ y, c.getD i (-1) = y := ⟨_, rfl⟩
    rw [hy] at c0 h
    have X1 := Lib.hid (nin_any y _ w rfl)
    obtain ⟨q, hq⟩ : ∃ q, M.nIn y = q := ⟨_, rfl⟩
    obtain ⟨r, hr⟩ : ∃ q, M.esB (c.drop i) = q := ⟨_, rfl⟩
    rw [hq] at h X1
    rw [hr] at h E1
    clear hn hy h3 hin hv hq hr
    cases q with
    | true =>
      simp at h
      subst h
      go_enter Tryz.func38, Tryz.ntmps38
      go_wp2_with fail
      refine (X1.out).mono ?_
      rintro e w' ⟨rfl, rfl⟩
      go_wp2
      go_ret
      exact ⟨rfl, rfl⟩
    | false =>
      rw [Bool.false_or] at h
      subst h
      go_enter Tryz.func38, Tryz.ntmps38
      go_wp2_with fail
      refine (X1.out).mono ?_
      rintro e w' ⟨rfl, rfl⟩
      go_wp2_with fail
      refine (E1.out).mono ?_
      rintro e w' ⟨rfl, rfl⟩
      go_wp2
      go_ret
      exact ⟨rfl, rfl⟩
  · rw [getD_end c n i hn (by omega)] at h
    have e0 : M.esB (c.drop i) = false := by rw [List.drop_eq_nil_of_le (by omega)]; rfl
    rw [e0] at h E1
    obtain rfl : false = b := by rw [← h]; decide
    have i2 : (n : Int) ≤ i := by omega
    clear h3 hv hn h hin e0
    go_enter Tryz.func38, Tryz.ntmps38
    go_wp2_with fail
    refine (E1.out).mono ?_
    rintro e w' ⟨rfl, rfl⟩
    go_wp2
    go_ret
    exact ⟨rfl, rfl⟩
set_option maxRecDepth 100000 in
set_option maxHeartbeats 1000000 in
theorem finu_any (r : Int) (b : Bool) (w : World) (h : M.inU r = b) :
    Calls Tryz.prog 99 #[.int .i64 r] w fun e w' => e = .returned (.bool b) ∧ w = w' := by
  by_cases hs : r = 34 ∨ r = 39 ∨ r = 40 ∨ r = 92 ∨ r = 11 ∨ r = 127
  · rcases hs with rfl | rfl | rfl | rfl | rfl | rfl
    all_goals
      obtain rfl : false = b := by rw [← h]; decide
      clear h
      go_enter Tryz.func99, Tryz.ntmps99
      go_wp2
      go_ret
      exact ⟨by first | rfl | (simp; done) | (simp; omega), rfl⟩
  · have t1 : (r == 34) = false := by rw [beq_eq_false_iff_ne]; omega
    have t2 : (r == 39) = false := by rw [beq_eq_false_iff_ne]; omega
    have t3 : (r == 40) = false := by rw [beq_eq_false_iff_ne]; omega
    have t4 : (r == 92) = false := by rw [beq_eq_false_iff_ne]; omega
    have t5 : (r == 11) = false := by rw [beq_eq_false_iff_ne]; omega
    have t6 : (r == 127) = false := by rw [beq_eq_false_iff_ne]; omega
    have hb : (9 ≤ r ∧ (r < 14 ∨ 31 < r)) ↔ b = true := by
      rw [← h]
      simp [M.inU]
      omega
    clear hs h
    have HB := Lib.hid hb
    clear hb
    by_cases h9 : 9 ≤ r
    · by_cases h14 : r < 14
      · obtain rfl : b = true := HB.out.1 ⟨h9, .inl h14⟩
        clear HB
        go_enter Tryz.func99, Tryz.ntmps99
        go_wp2
        go_ret
        exact ⟨by first | rfl | (simp; done) | (simp; omega), rfl⟩
      · by_cases h31 : 31 < r
        · obtain rfl : b = true := HB.out.1 ⟨h9, .inr h31⟩
          clear HB
          go_enter Tryz.func99, Tryz.ntmps99
          go_wp2
          go_ret
          exact ⟨by first | rfl | (simp; done) | (simp; omega), rfl⟩
        · obtain rfl : b = false := by
            cases b with
            | false => rfl
            | true => have := HB.out.2 rfl; omega
          clear HB
          go_enter Tryz.func99, Tryz.ntmps99
          go_wp2
          go_ret
          exact ⟨by first | rfl | (simp; done) | (simp; omega), rfl⟩
    · obtain rfl : b = false := by
        cases b with
        | false => rfl
        | true => have := HB.out.2 rfl; omega
      clear HB
      go_enter Tryz.func99, Tryz.ntmps99
      go_wp2
      go_ret
      exact ⟨by first | rfl | (simp; done) | (simp; omega), rfl⟩
end Go.Proofs.YtpecaalpbeoolaaGreatDoor
