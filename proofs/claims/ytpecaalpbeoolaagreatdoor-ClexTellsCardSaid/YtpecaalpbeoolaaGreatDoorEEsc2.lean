/- Escapes among code points: what the program's escape.Take finds. -/
import Derived.Test.YtpecaalpbeoolaaGreatDoorEEsc
import Derived.Test.YtpecaalpbeoolaaGreatDoorMgU
namespace Go.Proofs.YtpecaalpbeoolaaGreatDoor
open Go.RowKit
set_option linter.unusedVariables false
set_option linter.unusedSimpArgs false

theorem eret_i {k : IntKind} {a b : Int} (h : a = b) : Ending.returned (.int k a) = .returned (.int k b) := by rw [h]
theorem etup_ii {a b c d : Int} (h : a = b) (h2 : c = d) : Ending.returned (.tuple #[.int .i64 a, .int .i64 c]) = .returned (.tuple #[.int .i64 b, .int .i64 d]) := by rw [h, h2]
set_option maxRecDepth 100000 in
set_option maxHeartbeats 1000000 in
theorem hexv_any (r x : Int) (w : World) (h : M.isX r = true) (hx : M.xv r = x) : Calls Tryz.prog 88 #[.int .i64 r] w fun e w' => e = .returned (.int .i64 x) ∧ w = w' := by
  rw [M.isX_iff] at h
  have hx2 : (48 ≤ r ∧ r ≤ 57 ∧ x = r - 48) ∨ (97 ≤ r ∧ r ≤ 102 ∧ x = r - 87) ∨ (65 ≤ r ∧ r ≤ 70 ∧ x = r - 55) := by
    subst hx
    unfold M.xv
    rcases h with h | h | h
    · left; rw [if_pos (by omega)]; omega
    · right; left; rw [if_neg (by omega), if_neg (by omega)]; omega
    · right; right; rw [if_neg (by omega), if_pos (by omega)]; omega
  clear h hx
  rcases hx2 with ⟨h1, h2, hx⟩ | ⟨h1, h2, hx⟩ | ⟨h1, h2, hx⟩
  all_goals
    have Hx := Lib.hid hx
    clear hx
    go_enter Tryz.func88, Tryz.ntmps88
    go_wp2
    go_ret
    exact ⟨eret_i (by have := Hx.out; omega), rfl⟩

theorem eor_16 (a x : Int) (h0 : 0 ≤ a) (ha : a < 16777216) (hx0 : 0 ≤ x) (hx : x ≤ 15) : bits .or .i64 (a * 16) x = 16 * a + x := by
  have := bits_join .i64 62 (by decide) rwraps_i64 4 (a * 16) x (by omega) (by omega) (by omega) (by omega) (by omega) (by omega)
  rw [this]; omega
set_option maxRecDepth 100000 in
set_option maxHeartbeats 4000000 in
theorem etake_any (v : Value) (c : List Int) (i : Nat) (r : Int) (k : Nat) (w : World) (hv : Lc w v c) (hl : c.length ≤ 4294967296) (hi : i < c.length) (h : M.escV (c.drop (i + 1)) = (r, k)) :
    Calls Tryz.prog 65 #[v, .int .i64 (i : Int)] w fun e w' => e = .returned (.tuple #[.int .i64 r, .int .i64 ((i + 1 + k : Nat) : Int)]) ∧ w = w' := by
  obtain ⟨a, cap, rfl, h1, h2, h3⟩ := hv
  obtain ⟨n, hn⟩ : ∃ n, c.length = n := ⟨_, rfl⟩
  unfold maxLen at h2
  rw [hn] at h1 h3 hl hi ⊢
  obtain ⟨p, off, rfl, hp, hc⟩ := h3 (by omega)
  obtain ⟨m, hm⟩ : ∃ m, i + 1 = m := ⟨_, rfl⟩
  rw [hm] at h ⊢
  have hm' : (i : Int) + 1 = m := by omega
  clear h3
  by_cases hend : m = n
  · rw [List.drop_eq_nil_of_le (by omega)] at h
    simp only [M.escV, Prod.mk.injEq] at h
    obtain ⟨rfl, rfl⟩ := h
    have Hn := Lib.hid hn
    have Hm := Lib.hid hm
    have t1 : ((m : Int) == n) = true := by rw [beq_iff_eq]; omega
    clear hn hm hc hend
    go_enter Tryz.func65, Tryz.ntmps65
    go_wp2
    go_ret2
    exact ⟨etup_ii rfl (by omega), rfl⟩
  have hmn : m < n := by omega
  have c0 := hc m hmn
  have t1 : ((m : Int) == n) = false := by rw [beq_eq_false_iff_ne]; omega
  have i1 : (0 : Int) ≤ m := by omega
  have i2 : (m : Int) < n := by omega
  have hdc : c.drop m = c.getD m (-1) :: c.drop (m + 1) := by rw [getD_lt c m (by omega)]; exact List.drop_eq_getElem_cons (by omega)
  by_cases hx : M.isX (c.getD m (-1)) = true
  · rw [hdc] at h
    simp only [M.escV, hx, if_true, Prod.mk.injEq] at h
    rw [← hdc] at h
    obtain ⟨hr, hk⟩ := h
    obtain ⟨D, hD⟩ : ∃ D, M.hexRun 6 (c.drop m) = D := ⟨_, rfl⟩
    have hg := M.hexRun_get 6 (c.drop m)
    have he := M.hexRun_end 6 (c.drop m)
    have hle := M.hexRun_len 6 (c.drop m)
    have hsm := M.hexVal_small 6 (c.drop m)
    have hst := M.hexVal_step D
    rw [hD] at hg he hle hr hk
    simp only [getD_drop, hD] at hg he hk hsm
    rw [List.length_drop, hn] at he hle
    obtain ⟨d, hd⟩ : ∃ d, D.length = d := ⟨_, rfl⟩
    rw [hd] at he hle hk
    have X1 := Lib.hid (isx_any (c.getD m (-1)) true w hx)
    have Hr := Lib.hid hr
    have Hk := Lib.hid hk
    have Hn := Lib.hid hn
    have Hm := Lib.hid hm
    have Hd := Lib.hid hd
    have HG := Lib.hid hg
    have HE := Lib.hid he
    have HS := Lib.hid hsm
    have HT := Lib.hid hst
    have HC := Lib.hid hc
    have hm0 : M.hexVal (D.take 0) = 0 := by simp [M.hexVal]
    have Hm0 := Lib.hid hm0
    obtain ⟨y, hy⟩ : ∃ y, c.getD m (-1) = y := ⟨_, rfl⟩
    rw [hy] at c0 X1
    clear hr hk hn hm hd hg he hsm hst hc hdc hx hD hend hy hm0
    have hd6 := hle.1
    have hdn := hle.2
    clear hle
    go_enter Tryz.func65, Tryz.ntmps65
    go_wp2_with fail
    refine (X1.out).mono ?_
    rintro e w' ⟨rfl, rfl⟩
    go_wp2
    go_loop [6, 7] (fun rv ev => ∃ j : Nat, ev = .int .i64 ((m : Int) + j) ∧ j ≤ d ∧ rv = .int .i64 (M.hexVal (D.take j))) (fun _ ev => m + d - (intOf ev).toNat)
    case atStart => exact ⟨0, by simp, by omega, by rw [Hm0.out]⟩
    case round =>
      obtain ⟨j, rfl, hj, rfl⟩ := hrel
      obtain ⟨V, hV⟩ : ∃ V, M.hexVal (D.take j) = V := ⟨_, rfl⟩
      have hVr := HS.out j (by decide)
      rw [hV] at hVr ⊢
      obtain ⟨hV0, hV1⟩ := hVr
      obtain ⟨q, hq⟩ : ∃ q, m + j = q := ⟨_, rfl⟩
      have hq' : (m : Int) + j = q := by omega
      rw [hq']
      by_cases hlt : j < d
      · obtain ⟨g1, g2⟩ := HG.out j (by rw [Hd.out]; exact hlt)
        have ht := HT.out j (by rw [Hd.out]; exact hlt)
        rw [← g1, hV, hq] at ht
        rw [hq] at g2
        have c1 := HC.out q (by omega)
        have X2 := Lib.hid (isx_any (c.getD q (-1)) true w g2)
        have hxr := M.xv_range _ g2
        obtain ⟨x, hx⟩ : ∃ x, M.xv (c.getD q (-1)) = x := ⟨_, rfl⟩
        have X3 := Lib.hid (hexv_any (c.getD q (-1)) x w g2 hx)
        rw [hx] at ht hxr
        obtain ⟨hx0, hx1⟩ := hxr
        have hor := eor_16 V x hV0 hV1 hx0 hx1
        obtain ⟨y2, hy⟩ : ∃ y, c.getD q (-1) = y := ⟨_, rfl⟩
        rw [hy] at c1 X2 X3
        have Ht := Lib.hid ht
        have Hq := Lib.hid hq
        have HV := Lib.hid hV
        have j1 : (0 : Int) ≤ q := by omega
        have j2 : (q : Int) < n := by omega
        have j3 : (q : Int) - m < 6 := by omega
        clear g1 g2 ht hx hy hq hV hq'
        go_wp2_with fail
        refine (X2.out).mono ?_
        rintro e w' ⟨rfl, rfl⟩
        go_wp2_with fail
        refine (X3.out).mono ?_
        rintro e w' ⟨rfl, rfl⟩
        go_wp2
        go_round
        case rel => exact ⟨j + 1, by have := Hq.out; go_num, by omega, by rw [Ht.out]⟩
        case measure => have := Hq.out; simp [intOf]; omega
      · obtain rfl : j = d := by omega
        have hvd : V = M.hexVal D := by rw [← hV, List.take_of_length_le (by rw [Hd.out]; exact Nat.le_refl _)]
        have hr2 : M.okX V = r := by rw [hvd]; exact Hr.out
        have hk2 := Hk.out
        have he2 := HE.out
        rw [hq] at hk2 he2
        have Hq := Lib.hid hq
        have HR := Lib.hid hr2
        have HK := Lib.hid hk2
        have j1 : (0 : Int) ≤ q := by omega
        have hcq := HC.out q
        have hbe : n ≤ q → M.isBl (c.getD q (-1)) = false := fun hh => by simp [List.getD, List.getElem?_eq_none (show c.length ≤ q by rw [Hn.out]; exact hh), M.isBl]
        clear hV hvd hr2 hk2 hlt hq' hq
        by_cases hqn : q < n
        · have j2 : (q : Int) < n := by omega
          have t2 : decide ((q : Int) < n) = true := by simp; omega
          have c1 := hcq hqn
          obtain ⟨bl, hbl⟩ : ∃ bl, M.isBl (c.getD q (-1)) = bl := ⟨_, rfl⟩
          have X2 := Lib.hid (isbl_any (c.getD q (-1)) bl w hbl)
          have HB := Lib.hid hbl
          have hx2 : (6 ≤ (q : Int) - m) ∨ ((q : Int) - m < 6 ∧ M.isX (c.getD q (-1)) = false) := by
            have hqq := Hq.out
            rcases he2 with h | h | ⟨h, h2⟩
            · left; omega
            · omega
            · by_cases h6 : (q : Int) - m < 6
              · right; exact ⟨h6, h2⟩
              · left; omega
          obtain ⟨y2, hy⟩ : ∃ y, c.getD q (-1) = y := ⟨_, rfl⟩
          rw [hy] at c1 X2 hx2
          clear hbl hy he2 hcq hbe
          rcases hx2 with h6 | ⟨h6, hx2⟩
          · have t3 : decide ((q : Int) - m < 6) = false := by simp; omega
            cases bl with
            | true =>
              go_wp2_with fail
              refine (X2.out).mono ?_
              rintro e w' ⟨rfl, rfl⟩
              go_wp2
              all_goals
                go_ret2
                refine ⟨etup_ii ?_ ?_, rfl⟩
                · rw [← HR.out]; unfold M.okX; (try simp only [beq_iff_eq] at *); split <;> omega
                · have hk3 := HK.out; have hqq := Hq.out; rw [HB.out] at hk3; simp at hk3; omega
            | false =>
              go_wp2_with fail
              refine (X2.out).mono ?_
              rintro e w' ⟨rfl, rfl⟩
              go_wp2
              all_goals
                go_ret2
                refine ⟨etup_ii ?_ ?_, rfl⟩
                · rw [← HR.out]; unfold M.okX; (try simp only [beq_iff_eq] at *); split <;> omega
                · have hk3 := HK.out; have hqq := Hq.out; rw [HB.out] at hk3; simp at hk3; omega
          · have t3 : decide ((q : Int) - m < 6) = true := by simp; omega
            have X4 := Lib.hid (isx_any y2 false w hx2)
            clear hx2
            cases bl with
            | true =>
              go_wp2_with fail
              refine (X4.out).mono ?_
              rintro e w' ⟨rfl, rfl⟩
              go_wp2_with fail
              refine (X2.out).mono ?_
              rintro e w' ⟨rfl, rfl⟩
              go_wp2
              all_goals
                go_ret2
                refine ⟨etup_ii ?_ ?_, rfl⟩
                · rw [← HR.out]; unfold M.okX; (try simp only [beq_iff_eq] at *); split <;> omega
                · have hk3 := HK.out; have hqq := Hq.out; rw [HB.out] at hk3; simp at hk3; omega
            | false =>
              go_wp2_with fail
              refine (X4.out).mono ?_
              rintro e w' ⟨rfl, rfl⟩
              go_wp2_with fail
              refine (X2.out).mono ?_
              rintro e w' ⟨rfl, rfl⟩
              go_wp2
              all_goals
                go_ret2
                refine ⟨etup_ii ?_ ?_, rfl⟩
                · rw [← HR.out]; unfold M.okX; (try simp only [beq_iff_eq] at *); split <;> omega
                · have hk3 := HK.out; have hqq := Hq.out; rw [HB.out] at hk3; simp at hk3; omega
        · have t2 : decide ((q : Int) < n) = false := by simp; omega
          have j2 : (n : Int) ≤ q := by omega
          have HB := Lib.hid (hbe (by omega))
          clear he2 hcq hbe
          go_wp2
          all_goals
            go_ret2
            refine ⟨etup_ii ?_ ?_, rfl⟩
            · rw [← HR.out]; unfold M.okX; (try simp only [beq_iff_eq] at *); split <;> omega
            · have hk3 := HK.out; have hqq := Hq.out; rw [HB.out] at hk3; simp at hk3; omega
  · have hx' : M.isX (c.getD m (-1)) = false := by simpa using hx
    rw [hdc] at h
    simp only [M.escV, hx', Bool.false_eq_true, if_false, Prod.mk.injEq] at h
    obtain ⟨hr, rfl⟩ := h
    have X1 := Lib.hid (isx_any (c.getD m (-1)) false w hx')
    rw [hr] at c0 X1
    have Hn := Lib.hid hn
    have Hm := Lib.hid hm
    clear hn hm hc hend hx hx' hdc hr
    go_enter Tryz.func65, Tryz.ntmps65
    go_wp2_with fail
    refine (X1.out).mono ?_
    rintro e w' ⟨rfl, rfl⟩
    go_wp2
    go_ret2
    exact ⟨etup_ii rfl (by omega), rfl⟩
end Go.Proofs.YtpecaalpbeoolaaGreatDoor
