/- Texts of ours in one: JgS. -/
import Derived.Test.YtlobinjdgcidmaaDoorQj12
import Derived.Test.YtlobinjdgcidmaaDoorQj11
import Derived.Test.YtlobinjdgcidmaaDoorQj10
import Derived.Test.YtlobinjdgcidmaaDoorQj00
import Derived.Test.YtlobinjdgcidmaaDoorQj03
import Derived.Deep.QuietTactic
import Derived.BigQuiet
/- Several texts of ours in one: QR QR2 QR4. -/
/- Tokens of JSON as the reference reads them: run, blank, goes, jnumber. -/
namespace Go.Proofs.YtlobinjdgcidmaaDoor
open Go.RowKit
set_option linter.unusedVariables false
set_option linter.unusedSimpArgs false

theorem blB_c (c : UInt8) : M.blB c = (decide (c.toNat = 32) || decide (c.toNat = 9) || decide (c.toNat = 10) || decide (c.toNat = 13)) := by
  have h : ∀ n : Fin 256, M.blB n.val.toUInt8 = (decide (n.val = 32) || decide (n.val = 9) || decide (n.val = 10) || decide (n.val = 13)) := by decide +kernel
  have := h ⟨c.toNat, c.toNat_lt⟩
  simp only at this
  rwa [← u8_of c.toNat_lt rfl] at this

set_option maxRecDepth 100000 in
set_option maxHeartbeats 1000000 in
theorem refblank_any (c : UInt8) (r : Bool) (w : World) (hr : M.blB c = r) :
    Calls Tryd.prog 37 #[.int .u8 (c.toNat : Int)] w fun e w' => e = .returned (.bool r) ∧ w = w' := by
  have hb : c.toNat < 256 := c.toNat_lt
  rw [blB_c] at hr
  obtain ⟨N, hN⟩ : ∃ N, c.toNat = N := ⟨_, rfl⟩
  rw [hN] at hr hb ⊢
  obtain ⟨C, hC⟩ : ∃ C : Int, (N : Int) = C := ⟨_, rfl⟩
  rw [hC]
  have hs : (0 ≤ N ∧ N ≤ 8) ∨ (9 ≤ N ∧ N ≤ 9) ∨ (10 ≤ N ∧ N ≤ 10) ∨ (11 ≤ N ∧ N ≤ 12) ∨ (13 ≤ N ∧ N ≤ 13) ∨ (14 ≤ N ∧ N ≤ 31) ∨ (32 ≤ N ∧ N ≤ 32) ∨ (33 ≤ N ∧ N ≤ 255) := by omega
  rcases hs with ⟨a1, a2⟩ | ⟨a1, a2⟩ | ⟨a1, a2⟩ | ⟨a1, a2⟩ | ⟨a1, a2⟩ | ⟨a1, a2⟩ | ⟨a1, a2⟩ | ⟨a1, a2⟩
  · obtain rfl : false = r := by rw [← hr]; simp; omega
    have t0 : (C == 32) = false := by rw [beq_eq_false_iff_ne]; omega
    have t1 : (C == 9) = false := by rw [beq_eq_false_iff_ne]; omega
    have t2 : (C == 10) = false := by rw [beq_eq_false_iff_ne]; omega
    have t3 : (C == 13) = false := by rw [beq_eq_false_iff_ne]; omega
    clear hr hN hC hb a1 a2
    go_enter Tryd.func37, Tryd.ntmps37
    go_wp2
    go_ret
    exact ⟨rfl, rfl⟩
  · obtain rfl : true = r := by rw [← hr]; simp; omega
    have t0 : (C == 32) = false := by rw [beq_eq_false_iff_ne]; omega
    have t1 : (C == 9) = true := by rw [beq_iff_eq]; omega
    have t2 : (C == 10) = false := by rw [beq_eq_false_iff_ne]; omega
    have t3 : (C == 13) = false := by rw [beq_eq_false_iff_ne]; omega
    clear hr hN hC hb a1 a2
    go_enter Tryd.func37, Tryd.ntmps37
    go_wp2
    go_ret
    exact ⟨rfl, rfl⟩
  · obtain rfl : true = r := by rw [← hr]; simp; omega
    have t0 : (C == 32) = false := by rw [beq_eq_false_iff_ne]; omega
    have t1 : (C == 9) = false := by rw [beq_eq_false_iff_ne]; omega
    have t2 : (C == 10) = true := by rw [beq_iff_eq]; omega
    have t3 : (C == 13) = false := by rw [beq_eq_false_iff_ne]; omega
    clear hr hN hC hb a1 a2
    go_enter Tryd.func37, Tryd.ntmps37
    go_wp2
    go_ret
    exact ⟨rfl, rfl⟩
  · obtain rfl : false = r := by rw [← hr]; simp; omega
    have t0 : (C == 32) = false := by rw [beq_eq_false_iff_ne]; omega
    have t1 : (C == 9) = false := by rw [beq_eq_false_iff_ne]; omega
    have t2 : (C == 10) = false := by rw [beq_eq_false_iff_ne]; omega
    have t3 : (C == 13) = false := by rw [beq_eq_false_iff_ne]; omega
    clear hr hN hC hb a1 a2
    go_enter Tryd.func37, Tryd.ntmps37
    go_wp2
    go_ret
    exact ⟨rfl, rfl⟩
  · obtain rfl : true = r := by rw [← hr]; simp; omega
    have t0 : (C == 32) = false := by rw [beq_eq_false_iff_ne]; omega
    have t1 : (C == 9) = false := by rw [beq_eq_false_iff_ne]; omega
    have t2 : (C == 10) = false := by rw [beq_eq_false_iff_ne]; omega
    have t3 : (C == 13) = true := by rw [beq_iff_eq]; omega
    clear hr hN hC hb a1 a2
    go_enter Tryd.func37, Tryd.ntmps37
    go_wp2
    go_ret
    exact ⟨rfl, rfl⟩
  · obtain rfl : false = r := by rw [← hr]; simp; omega
    have t0 : (C == 32) = false := by rw [beq_eq_false_iff_ne]; omega
    have t1 : (C == 9) = false := by rw [beq_eq_false_iff_ne]; omega
    have t2 : (C == 10) = false := by rw [beq_eq_false_iff_ne]; omega
    have t3 : (C == 13) = false := by rw [beq_eq_false_iff_ne]; omega
    clear hr hN hC hb a1 a2
    go_enter Tryd.func37, Tryd.ntmps37
    go_wp2
    go_ret
    exact ⟨rfl, rfl⟩
  · obtain rfl : true = r := by rw [← hr]; simp; omega
    have t0 : (C == 32) = true := by rw [beq_iff_eq]; omega
    have t1 : (C == 9) = false := by rw [beq_eq_false_iff_ne]; omega
    have t2 : (C == 10) = false := by rw [beq_eq_false_iff_ne]; omega
    have t3 : (C == 13) = false := by rw [beq_eq_false_iff_ne]; omega
    clear hr hN hC hb a1 a2
    go_enter Tryd.func37, Tryd.ntmps37
    go_wp2
    go_ret
    exact ⟨rfl, rfl⟩
  · obtain rfl : false = r := by rw [← hr]; simp; omega
    have t0 : (C == 32) = false := by rw [beq_eq_false_iff_ne]; omega
    have t1 : (C == 9) = false := by rw [beq_eq_false_iff_ne]; omega
    have t2 : (C == 10) = false := by rw [beq_eq_false_iff_ne]; omega
    have t3 : (C == 13) = false := by rw [beq_eq_false_iff_ne]; omega
    clear hr hN hC hb a1 a2
    go_enter Tryd.func37, Tryd.ntmps37
    go_wp2
    go_ret
    exact ⟨rfl, rfl⟩
set_option maxRecDepth 100000 in
set_option maxHeartbeats 4000000 in
theorem refgoes_any (v : Value) (l : List UInt8) (i : Nat) (r : Bool) (w : World) (hv : Bs w v l) (hi : i ≤ 8589934592) (hl : l.length ≤ 4294967296) (hr : M.goB (l.getD i 0) = r) :
    Calls Tryd.prog 38 #[v, .int .i64 (i : Int)] w fun e w' => e = .returned (.bool r) ∧ w = w' := by
  obtain ⟨a, cap, rfl, h1, h2, h3⟩ := hv
  obtain ⟨n, hn⟩ : ∃ n, l.length = n := ⟨_, rfl⟩
  have hout := getD_out l i
  have hcg := fun b off hcl => @cell_getD w b off l hcl i
  obtain ⟨c, hc⟩ : ∃ c, l.getD i 0 = c := ⟨_, rfl⟩
  rw [hc] at hr hout hcg
  by_cases hin : i < n
  · obtain ⟨b, off, rfl, hb, hcl⟩ := h3 (by omega)
    have hci := hcg b off hcl (by omega)
    rw [goB_c] at hr
    obtain ⟨N, hN⟩ : ∃ N, c.toNat = N := ⟨_, rfl⟩
    have hN9 : N < 256 := by have := c.toNat_lt; omega
    rw [hN] at hci hr
    obtain ⟨C, hC⟩ : ∃ C : Int, (N : Int) = C := ⟨_, rfl⟩
    rw [hC] at hci
    have u1 : (i : Int) < n := by omega
    have u2 : decide ((n : Int) ≤ i) = false := by simp; omega
    rw [hn] at h1 hl ⊢
    have C0 : 0 ≤ C := by omega
    have hs : (0 ≤ N ∧ N ≤ 42) ∨ (43 ≤ N ∧ N ≤ 43) ∨ (44 ≤ N ∧ N ≤ 44) ∨ (45 ≤ N ∧ N ≤ 45) ∨ (46 ≤ N ∧ N ≤ 46) ∨ (47 ≤ N ∧ N ≤ 47) ∨ (48 ≤ N ∧ N ≤ 57) ∨ (58 ≤ N ∧ N ≤ 64) ∨ (65 ≤ N ∧ N ≤ 90) ∨ (91 ≤ N ∧ N ≤ 94) ∨ (95 ≤ N ∧ N ≤ 95) ∨ (96 ≤ N ∧ N ≤ 96) ∨ (97 ≤ N ∧ N ≤ 122) ∨ (123 ≤ N ∧ N ≤ 255) := by omega
    rcases hs with ⟨a1, a2⟩ | ⟨a1, a2⟩ | ⟨a1, a2⟩ | ⟨a1, a2⟩ | ⟨a1, a2⟩ | ⟨a1, a2⟩ | ⟨a1, a2⟩ | ⟨a1, a2⟩ | ⟨a1, a2⟩ | ⟨a1, a2⟩ | ⟨a1, a2⟩ | ⟨a1, a2⟩ | ⟨a1, a2⟩ | ⟨a1, a2⟩
    · obtain rfl : false = r := by rw [← hr]; simp; omega
      have t0 : decide ((97 : Int) ≤ C) = false := by simp; omega
      have t1 : decide (C ≤ (122 : Int)) = true := by simp; omega
      have t2 : decide ((65 : Int) ≤ C) = false := by simp; omega
      have t3 : decide (C ≤ (90 : Int)) = true := by simp; omega
      have t4 : decide ((48 : Int) ≤ C) = false := by simp; omega
      have t5 : decide (C ≤ (57 : Int)) = true := by simp; omega
      have t6 : (C == 46) = false := by rw [beq_eq_false_iff_ne]; omega
      have t7 : (C == 43) = false := by rw [beq_eq_false_iff_ne]; omega
      have t8 : (C == 45) = false := by rw [beq_eq_false_iff_ne]; omega
      have t9 : (C == 95) = false := by rw [beq_eq_false_iff_ne]; omega
      clear hr hN hC hcg hcl hout hc h3 hn h2 a1 a2
      go_enter Tryd.func38, Tryd.ntmps38
      go_wp2
      go_ret
      exact ⟨rfl, rfl⟩
    · obtain rfl : true = r := by rw [← hr]; simp; omega
      have t0 : decide ((97 : Int) ≤ C) = false := by simp; omega
      have t1 : decide (C ≤ (122 : Int)) = true := by simp; omega
      have t2 : decide ((65 : Int) ≤ C) = false := by simp; omega
      have t3 : decide (C ≤ (90 : Int)) = true := by simp; omega
      have t4 : decide ((48 : Int) ≤ C) = false := by simp; omega
      have t5 : decide (C ≤ (57 : Int)) = true := by simp; omega
      have t6 : (C == 46) = false := by rw [beq_eq_false_iff_ne]; omega
      have t7 : (C == 43) = true := by rw [beq_iff_eq]; omega
      have t8 : (C == 45) = false := by rw [beq_eq_false_iff_ne]; omega
      have t9 : (C == 95) = false := by rw [beq_eq_false_iff_ne]; omega
      clear hr hN hC hcg hcl hout hc h3 hn h2 a1 a2
      go_enter Tryd.func38, Tryd.ntmps38
      go_wp2
      go_ret
      exact ⟨rfl, rfl⟩
    · obtain rfl : false = r := by rw [← hr]; simp; omega
      have t0 : decide ((97 : Int) ≤ C) = false := by simp; omega
      have t1 : decide (C ≤ (122 : Int)) = true := by simp; omega
      have t2 : decide ((65 : Int) ≤ C) = false := by simp; omega
      have t3 : decide (C ≤ (90 : Int)) = true := by simp; omega
      have t4 : decide ((48 : Int) ≤ C) = false := by simp; omega
      have t5 : decide (C ≤ (57 : Int)) = true := by simp; omega
      have t6 : (C == 46) = false := by rw [beq_eq_false_iff_ne]; omega
      have t7 : (C == 43) = false := by rw [beq_eq_false_iff_ne]; omega
      have t8 : (C == 45) = false := by rw [beq_eq_false_iff_ne]; omega
      have t9 : (C == 95) = false := by rw [beq_eq_false_iff_ne]; omega
      clear hr hN hC hcg hcl hout hc h3 hn h2 a1 a2
      go_enter Tryd.func38, Tryd.ntmps38
      go_wp2
      go_ret
      exact ⟨rfl, rfl⟩
    · obtain rfl : true = r := by rw [← hr]; simp; omega
      have t0 : decide ((97 : Int) ≤ C) = false := by simp; omega
      have t1 : decide (C ≤ (122 : Int)) = true := by simp; omega
      have t2 : decide ((65 : Int) ≤ C) = false := by simp; omega
      have t3 : decide (C ≤ (90 : Int)) = true := by simp; omega
      have t4 : decide ((48 : Int) ≤ C) = false := by simp; omega
      have t5 : decide (C ≤ (57 : Int)) = true := by simp; omega
      have t6 : (C == 46) = false := by rw [beq_eq_false_iff_ne]; omega
      have t7 : (C == 43) = false := by rw [beq_eq_false_iff_ne]; omega
      have t8 : (C == 45) = true := by rw [beq_iff_eq]; omega
      have t9 : (C == 95) = false := by rw [beq_eq_false_iff_ne]; omega
      clear hr hN hC hcg hcl hout hc h3 hn h2 a1 a2
      go_enter Tryd.func38, Tryd.ntmps38
      go_wp2
      go_ret
      exact ⟨rfl, rfl⟩
    · obtain rfl : true = r := by rw [← hr]; simp; omega
      have t0 : decide ((97 : Int) ≤ C) = false := by simp; omega
      have t1 : decide (C ≤ (122 : Int)) = true := by simp; omega
      have t2 : decide ((65 : Int) ≤ C) = false := by simp; omega
      have t3 : decide (C ≤ (90 : Int)) = true := by simp; omega
      have t4 : decide ((48 : Int) ≤ C) = false := by simp; omega
      have t5 : decide (C ≤ (57 : Int)) = true := by simp; omega
      have t6 : (C == 46) = true := by rw [beq_iff_eq]; omega
      have t7 : (C == 43) = false := by rw [beq_eq_false_iff_ne]; omega
      have t8 : (C == 45) = false := by rw [beq_eq_false_iff_ne]; omega
      have t9 : (C == 95) = false := by rw [beq_eq_false_iff_ne]; omega
      clear hr hN hC hcg hcl hout hc h3 hn h2 a1 a2
      go_enter Tryd.func38, Tryd.ntmps38
      go_wp2
      go_ret
      exact ⟨rfl, rfl⟩
    · obtain rfl : false = r := by rw [← hr]; simp; omega
      have t0 : decide ((97 : Int) ≤ C) = false := by simp; omega
      have t1 : decide (C ≤ (122 : Int)) = true := by simp; omega
      have t2 : decide ((65 : Int) ≤ C) = false := by simp; omega
      have t3 : decide (C ≤ (90 : Int)) = true := by simp; omega
      have t4 : decide ((48 : Int) ≤ C) = false := by simp; omega
      have t5 : decide (C ≤ (57 : Int)) = true := by simp; omega
      have t6 : (C == 46) = false := by rw [beq_eq_false_iff_ne]; omega
      have t7 : (C == 43) = false := by rw [beq_eq_false_iff_ne]; omega
      have t8 : (C == 45) = false := by rw [beq_eq_false_iff_ne]; omega
      have t9 : (C == 95) = false := by rw [beq_eq_false_iff_ne]; omega
      clear hr hN hC hcg hcl hout hc h3 hn h2 a1 a2
      go_enter Tryd.func38, Tryd.ntmps38
      go_wp2
      go_ret
      exact ⟨rfl, rfl⟩
    · obtain rfl : true = r := by rw [← hr]; simp; omega
      have t0 : decide ((97 : Int) ≤ C) = false := by simp; omega
      have t1 : decide (C ≤ (122 : Int)) = true := by simp; omega
      have t2 : decide ((65 : Int) ≤ C) = false := by simp; omega
      have t3 : decide (C ≤ (90 : Int)) = true := by simp; omega
      have t4 : decide ((48 : Int) ≤ C) = true := by simp; omega
      have t5 : decide (C ≤ (57 : Int)) = true := by simp; omega
      have t6 : (C == 46) = false := by rw [beq_eq_false_iff_ne]; omega
      have t7 : (C == 43) = false := by rw [beq_eq_false_iff_ne]; omega
      have t8 : (C == 45) = false := by rw [beq_eq_false_iff_ne]; omega
      have t9 : (C == 95) = false := by rw [beq_eq_false_iff_ne]; omega
      clear hr hN hC hcg hcl hout hc h3 hn h2 a1 a2
      go_enter Tryd.func38, Tryd.ntmps38
      go_wp2
      go_ret
      exact ⟨rfl, rfl⟩
    · obtain rfl : false = r := by rw [← hr]; simp; omega
      have t0 : decide ((97 : Int) ≤ C) = false := by simp; omega
      have t1 : decide (C ≤ (122 : Int)) = true := by simp; omega
      have t2 : decide ((65 : Int) ≤ C) = false := by simp; omega
      have t3 : decide (C ≤ (90 : Int)) = true := by simp; omega
      have t4 : decide ((48 : Int) ≤ C) = true := by simp; omega
      have t5 : decide (C ≤ (57 : Int)) = false := by simp; omega
      have t6 : (C == 46) = false := by rw [beq_eq_false_iff_ne]; omega
      have t7 : (C == 43) = false := by rw [beq_eq_false_iff_ne]; omega
      have t8 : (C == 45) = false := by rw [beq_eq_false_iff_ne]; omega
      have t9 : (C == 95) = false := by rw [beq_eq_false_iff_ne]; omega
      clear hr hN hC hcg hcl hout hc h3 hn h2 a1 a2
      go_enter Tryd.func38, Tryd.ntmps38
      go_wp2
      go_ret
      exact ⟨rfl, rfl⟩
    · obtain rfl : true = r := by rw [← hr]; simp; omega
      have t0 : decide ((97 : Int) ≤ C) = false := by simp; omega
      have t1 : decide (C ≤ (122 : Int)) = true := by simp; omega
      have t2 : decide ((65 : Int) ≤ C) = true := by simp; omega
      have t3 : decide (C ≤ (90 : Int)) = true := by simp; omega
      have t4 : decide ((48 : Int) ≤ C) = true := by simp; omega
      have t5 : decide (C ≤ (57 : Int)) = false := by simp; omega
      have t6 : (C == 46) = false := by rw [beq_eq_false_iff_ne]; omega
      have t7 : (C == 43) = false := by rw [beq_eq_false_iff_ne]; omega
      have t8 : (C == 45) = false := by rw [beq_eq_false_iff_ne]; omega
      have t9 : (C == 95) = false := by rw [beq_eq_false_iff_ne]; omega
      clear hr hN hC hcg hcl hout hc h3 hn h2 a1 a2
      go_enter Tryd.func38, Tryd.ntmps38
      go_wp2
      go_ret
      exact ⟨rfl, rfl⟩
    · obtain rfl : false = r := by rw [← hr]; simp; omega
      have t0 : decide ((97 : Int) ≤ C) = false := by simp; omega
      have t1 : decide (C ≤ (122 : Int)) = true := by simp; omega
      have t2 : decide ((65 : Int) ≤ C) = true := by simp; omega
      have t3 : decide (C ≤ (90 : Int)) = false := by simp; omega
      have t4 : decide ((48 : Int) ≤ C) = true := by simp; omega
      have t5 : decide (C ≤ (57 : Int)) = false := by simp; omega
      have t6 : (C == 46) = false := by rw [beq_eq_false_iff_ne]; omega
      have t7 : (C == 43) = false := by rw [beq_eq_false_iff_ne]; omega
      have t8 : (C == 45) = false := by rw [beq_eq_false_iff_ne]; omega
      have t9 : (C == 95) = false := by rw [beq_eq_false_iff_ne]; omega
      clear hr hN hC hcg hcl hout hc h3 hn h2 a1 a2
      go_enter Tryd.func38, Tryd.ntmps38
      go_wp2
      go_ret
      exact ⟨rfl, rfl⟩
    · obtain rfl : true = r := by rw [← hr]; simp; omega
      have t0 : decide ((97 : Int) ≤ C) = false := by simp; omega
      have t1 : decide (C ≤ (122 : Int)) = true := by simp; omega
      have t2 : decide ((65 : Int) ≤ C) = true := by simp; omega
      have t3 : decide (C ≤ (90 : Int)) = false := by simp; omega
      have t4 : decide ((48 : Int) ≤ C) = true := by simp; omega
      have t5 : decide (C ≤ (57 : Int)) = false := by simp; omega
      have t6 : (C == 46) = false := by rw [beq_eq_false_iff_ne]; omega
      have t7 : (C == 43) = false := by rw [beq_eq_false_iff_ne]; omega
      have t8 : (C == 45) = false := by rw [beq_eq_false_iff_ne]; omega
      have t9 : (C == 95) = true := by rw [beq_iff_eq]; omega
      clear hr hN hC hcg hcl hout hc h3 hn h2 a1 a2
      go_enter Tryd.func38, Tryd.ntmps38
      go_wp2
      go_ret
      exact ⟨rfl, rfl⟩
    · obtain rfl : false = r := by rw [← hr]; simp; omega
      have t0 : decide ((97 : Int) ≤ C) = false := by simp; omega
      have t1 : decide (C ≤ (122 : Int)) = true := by simp; omega
      have t2 : decide ((65 : Int) ≤ C) = true := by simp; omega
      have t3 : decide (C ≤ (90 : Int)) = false := by simp; omega
      have t4 : decide ((48 : Int) ≤ C) = true := by simp; omega
      have t5 : decide (C ≤ (57 : Int)) = false := by simp; omega
      have t6 : (C == 46) = false := by rw [beq_eq_false_iff_ne]; omega
      have t7 : (C == 43) = false := by rw [beq_eq_false_iff_ne]; omega
      have t8 : (C == 45) = false := by rw [beq_eq_false_iff_ne]; omega
      have t9 : (C == 95) = false := by rw [beq_eq_false_iff_ne]; omega
      clear hr hN hC hcg hcl hout hc h3 hn h2 a1 a2
      go_enter Tryd.func38, Tryd.ntmps38
      go_wp2
      go_ret
      exact ⟨rfl, rfl⟩
    · obtain rfl : true = r := by rw [← hr]; simp; omega
      have t0 : decide ((97 : Int) ≤ C) = true := by simp; omega
      have t1 : decide (C ≤ (122 : Int)) = true := by simp; omega
      have t2 : decide ((65 : Int) ≤ C) = true := by simp; omega
      have t3 : decide (C ≤ (90 : Int)) = false := by simp; omega
      have t4 : decide ((48 : Int) ≤ C) = true := by simp; omega
      have t5 : decide (C ≤ (57 : Int)) = false := by simp; omega
      have t6 : (C == 46) = false := by rw [beq_eq_false_iff_ne]; omega
      have t7 : (C == 43) = false := by rw [beq_eq_false_iff_ne]; omega
      have t8 : (C == 45) = false := by rw [beq_eq_false_iff_ne]; omega
      have t9 : (C == 95) = false := by rw [beq_eq_false_iff_ne]; omega
      clear hr hN hC hcg hcl hout hc h3 hn h2 a1 a2
      go_enter Tryd.func38, Tryd.ntmps38
      go_wp2
      go_ret
      exact ⟨rfl, rfl⟩
    · obtain rfl : false = r := by rw [← hr]; simp; omega
      have t0 : decide ((97 : Int) ≤ C) = true := by simp; omega
      have t1 : decide (C ≤ (122 : Int)) = false := by simp; omega
      have t2 : decide ((65 : Int) ≤ C) = true := by simp; omega
      have t3 : decide (C ≤ (90 : Int)) = false := by simp; omega
      have t4 : decide ((48 : Int) ≤ C) = true := by simp; omega
      have t5 : decide (C ≤ (57 : Int)) = false := by simp; omega
      have t6 : (C == 46) = false := by rw [beq_eq_false_iff_ne]; omega
      have t7 : (C == 43) = false := by rw [beq_eq_false_iff_ne]; omega
      have t8 : (C == 45) = false := by rw [beq_eq_false_iff_ne]; omega
      have t9 : (C == 95) = false := by rw [beq_eq_false_iff_ne]; omega
      clear hr hN hC hcg hcl hout hc h3 hn h2 a1 a2
      go_enter Tryd.func38, Tryd.ntmps38
      go_wp2
      go_ret
      exact ⟨rfl, rfl⟩
  · obtain rfl : c = 0 := hout (by omega)
    obtain rfl : false = r := by rw [← hr]; rfl
    have t1 : decide ((n : Int) ≤ i) = true := by simp; omega
    rw [hn] at h1 ⊢
    clear hr hcg hout hc h3 hn hl h2
    go_enter Tryd.func38, Tryd.ntmps38
    go_wp2
    go_ret
    exact ⟨rfl, rfl⟩

def StB (S : ByteArray) (l : List UInt8) : Prop := S.size = l.length ∧ ∀ j (h : j < S.size), S[j]'h = l.getD j 0
theorem stB (l : List UInt8) : StB (bytes l) l := by
  refine ⟨bytes_size l, fun j h => ?_⟩
  have hj : j < l.length := by rw [bytes_size] at h; exact h
  show (l.toArray)[j] = _
  simp [hj]
set_option maxRecDepth 100000 in
set_option maxHeartbeats 2000000 in
theorem refrun_any (S : ByteArray) (l : List UInt8) (i r : Nat) (w : World) (hS : StB S l) (hi : i ≤ 8589934592) (hl : l.length ≤ 4294967296) (hr : i + M.run (l.drop i) = r) :
    Calls Tryd.prog 59 #[.string S, .int .i64 (i : Int)] w fun e w' => e = .returned (.int .i64 (r : Int)) ∧ w = w' := by
  obtain ⟨hs, hg⟩ := hS
  obtain ⟨n, hn⟩ : ∃ n, l.length = n := ⟨_, rfl⟩
  have Hr := Lib.hid hr
  have Hg := Lib.hid hg
  have HS := Lib.hid hs
  have Hn := Lib.hid hn
  rw [hn] at hl
  have s1 : S.size ≤ 4294967296 := by rw [hs, hn]; exact hl
  clear hr hg hs hn
  go_enter Tryd.func59, Tryd.ntmps59
  go_wp2
  go_loop [1] (fun iv => ∃ j : Nat, iv = .int .i64 (j : Int) ∧ j ≤ max i n ∧ j + M.run (l.drop j) = r) (fun iv => max i n - (intOf iv).toNat)
  case atStart => exact ⟨i, rfl, by omega, Hr.out⟩
  case round =>
    obtain ⟨j, rfl, hj, hx⟩ := hrel
    obtain ⟨r1, r2⟩ := run_at l j
    by_cases hlt : j < S.size
    · have hgj := Hg.out j hlt
      have hjn : j < n := by rw [HS.out, Hn.out] at hlt; exact hlt
      have hdi := dg_iff (l.getD j 0)
      obtain ⟨c, hc⟩ : ∃ c, l.getD j 0 = c := ⟨_, rfl⟩
      rw [hc] at hgj r1 r2 hdi
      obtain ⟨C, hC⟩ : ∃ C : Int, (c.toNat : Int) = C := ⟨_, rfl⟩
      have hgC : ((S[j]'hlt).toNat : Int) = C := by rw [hgj]; exact hC
      have C0 : 0 ≤ C := by omega
      have u1 : (j : Int) < S.size := by omega
      have u2 : (0 : Int) ≤ j := by omega
      have hs : (C < 48) ∨ (48 ≤ C ∧ C ≤ 57) ∨ (57 < C) := by omega
      rcases hs with q | ⟨q, q2⟩ | q
      · have t1 : decide ((48 : Int) ≤ C) = false := by simp; omega
        have Hx := Lib.hid ((r2 (by rw [← Bool.not_eq_true, hdi]; omega)).symm.trans hx)
        clear r1 r2 hdi hgj hx hC hc
        go_wp2
        go_ret
        exact ⟨by rw [Hx.out]; rfl, rfl⟩
      · have t1 : decide ((48 : Int) ≤ C) = true := by simp; omega
        have t2 : decide (C ≤ (57 : Int)) = true := by simp; omega
        have Hx := Lib.hid ((r1 (hdi.2 (by omega))).symm.trans hx)
        clear r1 r2 hdi hgj hx hC hc
        go_wp2
        go_round
        case rel => exact ⟨j + 1, by go_num, by omega, Hx.out⟩
        case measure => simp [intOf]; omega
      · have t1 : decide ((48 : Int) ≤ C) = true := by simp; omega
        have t2 : decide (C ≤ (57 : Int)) = false := by simp; omega
        have Hx := Lib.hid ((r2 (by rw [← Bool.not_eq_true, hdi]; omega)).symm.trans hx)
        clear r1 r2 hdi hgj hx hC hc
        go_wp2
        go_ret
        exact ⟨by rw [Hx.out]; rfl, rfl⟩
    · have hz : l.getD j 0 = 0 := getD_out l j (by rw [← HS.out]; omega)
      have Hx := Lib.hid ((r2 (by rw [hz]; rfl)).symm.trans hx)
      have t1 : decide ((j : Int) < S.size) = false := by simp; omega
      have u1 : ¬ (j : Int) < S.size := by omega
      clear r1 r2 hx hz
      go_wp2
      go_ret
      exact ⟨by rw [Hx.out]; rfl, rfl⟩

end Go.Proofs.YtlobinjdgcidmaaDoor
/- Tokens of JSON as the reference reads them: jnumber. -/
namespace Go.Proofs.YtlobinjdgcidmaaDoor
open Go.RowKit
set_option linter.unusedVariables false
set_option linter.unusedSimpArgs false

def st4 (l : List UInt8) (c : Nat) : Int := if M.goB (l.getD c 0) = true then -1 else (c : Int)
def st3 (l : List UInt8) (b : Nat) : Int := st4 l (b + M.expo (l.drop b))
def st2 (l : List UInt8) (a : Nat) : Int := st3 l (a + M.frac (l.drop a))
def numZ (l : List UInt8) (q : Nat) : Int := if M.dgB (l.getD q 0) = true then st2 l (q + M.whole (l.drop q)) else -1
def jnI (o : Option Nat) (i : Nat) : Int := match o with | none => -1 | some m => ((i + m : Nat) : Int)
theorem numZ_eq (l : List UInt8) (i : Nat) : jnI (M.numL (l.drop i)) i = numZ l (i + M.neg (l.drop i)) := by
  have h := numT_eq l i
  unfold numT at h
  unfold numZ st2 st3 st4
  simp only at h
  by_cases hd : M.dgB (l.getD (i + M.neg (l.drop i)) 0) = true
  · rw [if_pos hd] at h ⊢
    split at h
    · rename_i hg
      rw [if_pos hg]
      cases hn : M.numL (l.drop i) with
      | none => rfl
      | some m => rw [hn] at h; simp [tokI] at h
    · rename_i hg
      rw [if_neg hg]
      cases hn : M.numL (l.drop i) with
      | none => rw [hn] at h; simp [tokI] at h
      | some m => rw [hn] at h; simp only [Option.map_some, tokI, Prod.mk.injEq] at h; exact h.2
  · rw [if_neg hd] at h ⊢
    cases hn : M.numL (l.drop i) with
    | none => rfl
    | some m => rw [hn] at h; simp [tokI] at h
theorem st4_of (l : List UInt8) (c : Nat) : (M.goB (l.getD c 0) = true → st4 l c = -1) ∧ (M.goB (l.getD c 0) = false → st4 l c = c) := by
  unfold st4
  constructor
  · intro h; rw [if_pos h]
  · intro h; rw [if_neg (by rw [h]; simp)]
theorem num_no (l : List UInt8) (q : Nat) (h : M.dgB (l.getD q 0) = false) : numZ l q = -1 ∧ q + M.run (l.drop q) = q := by
  refine ⟨by unfold numZ; rw [if_neg (by rw [h]; simp)], (run_at l q).2 h⟩
theorem st_stop (l : List UInt8) (a : Nat) (h46 : l.getD a 0 ≠ 46) (he : l.getD a 0 ≠ 101) (hE : l.getD a 0 ≠ 69) (hg : M.goB (l.getD a 0) = true) : st2 l a = -1 := by
  have hf : M.frac (l.drop a) = 0 := by unfold M.frac; rw [M.drop_getD, Nat.add_zero, if_neg (fun hh => h46 hh.1)]
  have hx : M.expo (l.drop a) = 0 := by unfold M.expo; rw [M.drop_getD, Nat.add_zero, if_neg (by rintro (h | h); exact he h; exact hE h)]
  unfold st2 st3
  rw [hf, Nat.add_zero, hx, Nat.add_zero]
  exact (st4_of l a).1 hg
theorem num_nought (l : List UInt8) (q k : Nat) (h0 : l.getD q 0 = 48) (hk : q + M.run (l.drop q) = k) (h : q + 1 < k) : numZ l q = -1 := by
  have hd : M.dgB (l.getD q 0) = true := by rw [h0]; decide
  have hw : M.whole (l.drop q) = 1 := by unfold M.whole; rw [M.drop_getD, Nat.add_zero, if_pos h0]
  unfold numZ
  rw [if_pos hd, hw]
  have hd1 : M.dgB (l.getD (q + 1) 0) = true := by
    have := ((M.run_iff (l.drop q) _).1 rfl).1 1 (by omega)
    rwa [M.drop_getD] at this
  have hb := (dg_iff _).1 hd1
  refine st_stop l (q + 1) ?_ ?_ ?_ (by unfold M.goB; rw [hd1]; rfl)
  · intro e; rw [e] at hb; exact absurd hb (by decide)
  · intro e; rw [e] at hb; exact absurd hb (by decide)
  · intro e; rw [e] at hb; exact absurd hb (by decide)
theorem num_go (l : List UInt8) (q k : Nat) (hd : M.dgB (l.getD q 0) = true) (hk : q + M.run (l.drop q) = k) (h : l.getD q 0 ≠ 48 ∨ k ≤ q + 1) : numZ l q = st2 l k := by
  unfold numZ
  rw [if_pos hd]
  have hd0 : M.dgB ((l.drop q).getD 0 0) = true := by rw [M.drop_getD, Nat.add_zero]; exact hd
  have hp := M.run_pos _ hd0
  have : q + M.whole (l.drop q) = k := by
    unfold M.whole
    rw [M.drop_getD, Nat.add_zero]
    split
    · rename_i h48
      rcases h with h | h
      · exact absurd h48 h
      · omega
    · exact hk
  rw [this]
theorem st2_no (l : List UInt8) (k : Nat) (h : l.getD k 0 ≠ 46) : st2 l k = st3 l k := by
  unfold st2
  have hf : M.frac (l.drop k) = 0 := by unfold M.frac; rw [M.drop_getD, Nat.add_zero, if_neg (fun hh => h hh.1)]
  rw [hf, Nat.add_zero]
theorem st2_bad (l : List UInt8) (k j : Nat) (h : l.getD k 0 = 46) (hj : k + 1 + M.run (l.drop (k + 1)) = j) (he : j = k + 1) : st2 l k = -1 := by
  have hr : M.run (l.drop (k + 1)) = 0 := by omega
  have hd : M.dgB (l.getD (k + 1) 0) = false := by
    have := ((M.run_iff (l.drop (k + 1)) 0).1 hr).2
    rwa [M.drop_getD] at this
  have hf : M.frac (l.drop k) = 0 := by unfold M.frac; rw [M.drop_getD, M.drop_getD, if_neg (fun hh => by rw [hd] at hh; exact absurd hh.2 (by simp))]
  have hx : M.expo (l.drop k) = 0 := by unfold M.expo; rw [M.drop_getD, Nat.add_zero, h, if_neg (by decide)]
  unfold st2 st3
  rw [hf, Nat.add_zero, hx, Nat.add_zero]
  exact (st4_of l k).1 (by rw [h]; decide)
theorem st2_go (l : List UInt8) (k j : Nat) (h : l.getD k 0 = 46) (hj : k + 1 + M.run (l.drop (k + 1)) = j) (he : j ≠ k + 1) : st2 l k = st3 l j := by
  have hd : M.dgB (l.getD (k + 1) 0) = true := by
    cases hx : M.dgB (l.getD (k + 1) 0) with
    | true => rfl
    | false => have := (run_at l (k + 1)).2 hx; omega
  have hf : M.frac (l.drop k) = 1 + M.run (l.drop (k + 1)) := by unfold M.frac; rw [M.drop_getD, M.drop_getD, Nat.add_zero, if_pos ⟨h, hd⟩, List.drop_drop]
  unfold st2
  rw [hf, show k + (1 + M.run (l.drop (k + 1))) = j by omega]
theorem st3_no (l : List UInt8) (k : Nat) (h : l.getD k 0 ≠ 101) (h2 : l.getD k 0 ≠ 69) : st3 l k = st4 l k := by
  have hx : M.expo (l.drop k) = 0 := by unfold M.expo; rw [M.drop_getD, Nat.add_zero, if_neg (by rintro (e | e); exact h e; exact h2 e)]
  unfold st3
  rw [hx, Nat.add_zero]
def expQ (l : List UInt8) (k : Nat) : Nat := if l.getD (k + 1) 0 = 43 ∨ l.getD (k + 1) 0 = 45 then k + 1 + 1 else k + 1
theorem st3_bad (l : List UInt8) (k j : Nat) (h : l.getD k 0 = 101 ∨ l.getD k 0 = 69) (hj : expQ l k + M.run (l.drop (expQ l k)) = j) (he : j = expQ l k) : st3 l k = -1 := by
  have hr : M.run (l.drop (expQ l k)) = 0 := by omega
  have hd : M.dgB (l.getD (expQ l k) 0) = false := by
    have := ((M.run_iff (l.drop (expQ l k)) 0).1 hr).2
    rwa [M.drop_getD] at this
  have hq : k + M.sgnQ (l.drop k) = expQ l k := by unfold M.sgnQ expQ; rw [M.drop_getD]; split <;> omega
  have hx : M.expo (l.drop k) = 0 := by unfold M.expo; rw [M.drop_getD, Nat.add_zero, if_pos h, M.drop_getD, hq, if_neg (by rw [hd]; simp)]
  unfold st3
  rw [hx, Nat.add_zero]
  exact (st4_of l k).1 (by rcases h with e | e <;> (rw [e]; decide))
theorem st3_go (l : List UInt8) (k j : Nat) (h : l.getD k 0 = 101 ∨ l.getD k 0 = 69) (hj : expQ l k + M.run (l.drop (expQ l k)) = j) (he : j ≠ expQ l k) : st3 l k = st4 l j := by
  have hd : M.dgB (l.getD (expQ l k) 0) = true := by
    cases hx : M.dgB (l.getD (expQ l k) 0) with
    | true => rfl
    | false => have := (run_at l (expQ l k)).2 hx; omega
  have hq : k + M.sgnQ (l.drop k) = expQ l k := by unfold M.sgnQ expQ; rw [M.drop_getD]; split <;> omega
  unfold st3 M.expo
  rw [M.drop_getD, Nat.add_zero, if_pos h, M.drop_getD, hq, if_pos hd, List.drop_drop, hq, show k + (M.sgnQ (l.drop k) + M.run (l.drop (expQ l k))) = j by omega]
end Go.Proofs.YtlobinjdgcidmaaDoor

/- Tokens of JSON as the reference finds them: Jlex, for any bytes. -/
namespace Go.Proofs.YtlobinjdgcidmaaDoor
open Go.RowKit
set_option linter.unusedVariables false
set_option linter.unusedSimpArgs false

def TB (m : Nat) (w : World) (K P T : Int) : Prop := w.cell? ⟨m, 0, none⟩ = some (.int .i64 K) ∧ w.cell? ⟨m, 1, none⟩ = some (.int .i64 P) ∧ w.cell? ⟨m, 2, none⟩ = some (.int .i64 T) ∧ (w.frozen? ⟨m, 0, none⟩ = false ∧ w.frozen? ⟨m, 2, none⟩ = false) ∧ m < w.heap.size
theorem TB.set0 {m : Nat} {w : World} {K P T : Int} (h : TB m w K P T) (K' : Int) : TB m (w.setCell ⟨m, 0, none⟩ (.int .i64 K')) K' P T := by
  obtain ⟨h0, h1, h2, ⟨h3, h4⟩, h5⟩ := h
  refine ⟨World.cell?_setCell_same _ _ _ h0, ?_, ?_, ⟨by rw [World.frozen?_setCell]; exact h3, by rw [World.frozen?_setCell]; exact h4⟩, by rw [World.size_setCell]; exact h5⟩
  · rw [World.cell?_setCell_other _ _ _ _ (by simp)]; exact h1
  · rw [World.cell?_setCell_other _ _ _ _ (by simp)]; exact h2
theorem TB.set2 {m : Nat} {w : World} {K P T : Int} (h : TB m w K P T) (T' : Int) : TB m (w.setCell ⟨m, 2, none⟩ (.int .i64 T')) K P T' := by
  obtain ⟨h0, h1, h2, ⟨h3, h4⟩, h5⟩ := h
  refine ⟨?_, ?_, World.cell?_setCell_same _ _ _ h2, ⟨by rw [World.frozen?_setCell]; exact h3, by rw [World.frozen?_setCell]; exact h4⟩, by rw [World.size_setCell]; exact h5⟩
  · rw [World.cell?_setCell_other _ _ _ _ (by simp)]; exact h0
  · rw [World.cell?_setCell_other _ _ _ _ (by simp)]; exact h1
theorem TB.drewN {m : Nat} {w : World} {K P T : Int} (h : TB m w K P T) (q : Nat) : TB m (w.drewN q) K P T := h
theorem TB.keep {m : Nat} {w w' : World} {K P T : Int} (h : TB m w K P T) (hb : Below w.heap.size w w') : TB m w' K P T := by
  obtain ⟨h0, h1, h2, ⟨h3, h4⟩, h5⟩ := h
  exact ⟨(hb.cell (p := ⟨m, 0, none⟩) h5).trans h0, (hb.cell (p := ⟨m, 1, none⟩) h5).trans h1, (hb.cell (p := ⟨m, 2, none⟩) h5).trans h2, ⟨(hb.frozen (p := ⟨m, 0, none⟩) h5).trans h3, (hb.frozen (p := ⟨m, 2, none⟩) h5).trans h4⟩, Nat.lt_of_lt_of_le h5 hb.size⟩
theorem tb_new (w : World) (P : Int) : TB w.heap.size (w.alloc (.cells #[.int .i64 0, .int .i64 P, .int .i64 (-1)] 85)) 0 P (-1) := by
  refine ⟨by simp, by simp, by simp, ⟨by simp, by simp⟩, by simp⟩
theorem sgE_at (j : Nat) (h : j < (ByteArray.mk #[123, 125, 91, 93, 58, 44]).size) : (ByteArray.mk #[123, 125, 91, 93, 58, 44])[j]'h = M.sgn6.getD j 0 := by
  have h6 : j < 6 := h
  have : j = 0 ∨ j = 1 ∨ j = 2 ∨ j = 3 ∨ j = 4 ∨ j = 5 := by omega
  rcases this with rfl | rfl | rfl | rfl | rfl | rfl <;> rfl
theorem sgK_succ (c : UInt8) (k : Nat) : (M.sgn6.getD k 0 = c → M.sgK c (k + 1) = k + 1 ∧ ∀ i, M.sgT c i (k + 1) = (i : Int) + 1) ∧ (M.sgn6.getD k 0 ≠ c → M.sgK c (k + 1) = M.sgK c k ∧ ∀ i, M.sgT c i (k + 1) = M.sgT c i k) := by
  constructor
  · intro h; exact ⟨by simp only [M.sgK, if_pos h], fun i => by simp only [M.sgT, if_pos h]⟩
  · intro h; exact ⟨by simp only [M.sgK, if_neg h], fun i => by simp only [M.sgT, if_neg h]⟩
theorem wd_succ (s : List UInt8) (i K : Nat) (T : Int) (k : Nat) : (M.wOk s k = true → M.wK s K (k + 1) = 9 + k ∧ M.wT s i T (k + 1) = ((i + (M.wds k).length : Nat) : Int)) ∧ (M.wOk s k = false → M.wK s K (k + 1) = M.wK s K k ∧ M.wT s i T (k + 1) = M.wT s i T k) := by
  constructor
  · intro h; exact ⟨by simp only [M.wK, if_pos h], by simp only [M.wT, if_pos h]⟩
  · intro h; exact ⟨by simp only [M.wK, h]; rfl, by simp only [M.wT, h]; rfl⟩
theorem lexAt_blank (l : List UInt8) (pre : M.Toks) (i : Nat) (h : i < l.length) (hb : M.blB (l.getD i 0) = true) : lexAt l pre i = lexAt l pre (i + 1) := by
  unfold lexAt
  have e : l.drop i = l[i] :: l.drop (i + 1) := List.drop_eq_getElem_cons h
  have g : l.getD i 0 = l[i] := by simp [h]
  have hl : 1 ≤ M.lead (l.drop i) := by rw [e]; unfold M.lead; rw [← g, if_pos hb]; omega
  have := M.lexS_skip (l.drop i) i 1 hl
  rw [List.drop_drop] at this
  rw [this]
theorem lead_none (l : List UInt8) (i : Nat) (hb : M.blB (l.getD i 0) = false) : M.lead (l.drop i) = 0 := by
  have := (lead_at l i).2 hb
  omega
theorem lexAt_tok (l : List UInt8) (pre : M.Toks) (i k m : Nat) (h : i < l.length) (h0 : M.lead (l.drop i) = 0) (ht : M.tokL (l.drop i) = some (k, m)) :
    lexAt l pre i = lexAt l (pre ++ [(k, i, i + m)]) (i + m) := by
  rw [lexAt_in l pre i k m h h0 ht]
  unfold lexAt
  have e := M.lexS_skip (l.drop (i + m)) (i + m) (M.lead (l.drop (i + m))) (Nat.le_refl _)
  rw [List.drop_drop] at e
  rw [e]
def wblk : Obj := .cells #[.string ⟨#[116, 114, 117, 101]⟩, .string ⟨#[102, 97, 108, 115, 101]⟩, .string ⟨#[110, 117, 108, 108]⟩] 9
theorem wblk_cell (w : World) (k : Nat) (hk : k < 3) : (w.alloc wblk).cell? ⟨w.heap.size, k, none⟩ = some (.string (bytes (M.wds k))) := by
  unfold wblk
  rw [World.cell?_alloc_at _ _ _ _ rfl]
  have : k = 0 ∨ k = 1 ∨ k = 2 := by omega
  rcases this with rfl | rfl | rfl <;> rfl
def TokR (l : List UInt8) (i : Nat) (K T : Int) : Prop := (∃ k m, M.tokL (l.drop i) = some (k, m) ∧ K = k ∧ T = ((i + m : Nat) : Int) ∧ 1 ≤ m ∧ i + m ≤ l.length ∧ k ≤ 11) ∨ (M.tokL (l.drop i) = none ∧ T = -1)
theorem tokR_text (l : List UInt8) (i : Nat) (h : i < l.length) (hc : l.getD i 0 = 34) : TokR l i 7 (jtI l (i + 1)) := by
  have ht : M.tokL (l.drop i) = (M.jtS (l.drop (i + 1))).map fun n => (7, n + 1) := by
    unfold M.tokL
    rw [M.drop_getD, Nat.add_zero, hc, if_neg (by decide), if_neg (by decide), if_neg (by decide), if_neg (by decide), if_neg (by decide), if_neg (by decide), if_pos rfl, List.drop_drop]
  unfold TokR jtI
  rw [ht]
  cases hj : M.jtS (l.drop (i + 1)) with
  | none => right; exact ⟨rfl, rfl⟩
  | some m =>
    left
    have := M.jtS_le _ m hj
    rw [List.length_drop] at this
    exact ⟨7, m + 1, rfl, rfl, by simp only; omega, by omega, by omega, by omega⟩
theorem tokR_num (l : List UInt8) (i : Nat) (h : i < l.length) (hc : l.getD i 0 = 45 ∨ M.dgB (l.getD i 0) = true) : TokR l i 8 (jnI (M.numL (l.drop i)) i) := by
  have hne : ∀ k : UInt8, M.dgB k = false → k ≠ 45 → l.getD i 0 ≠ k := by
    intro k hk h45 e
    rcases hc with h1 | h1
    · exact h45 (by rw [← e, h1])
    · rw [e, hk] at h1; exact absurd h1 (by simp)
  have ht : M.tokL (l.drop i) = (M.numL (l.drop i)).map fun n => (8, n) := by
    unfold M.tokL
    rw [M.drop_getD, Nat.add_zero, if_neg (hne 123 (by decide) (by decide)), if_neg (hne 125 (by decide) (by decide)), if_neg (hne 91 (by decide) (by decide)), if_neg (hne 93 (by decide) (by decide)), if_neg (hne 58 (by decide) (by decide)), if_neg (hne 44 (by decide) (by decide)),
      if_neg (hne 34 (by decide) (by decide)), if_neg (hne 116 (by decide) (by decide)), if_neg (hne 102 (by decide) (by decide)), if_neg (hne 110 (by decide) (by decide))]
  unfold TokR jnI
  rw [ht]
  cases hj : M.numL (l.drop i) with
  | none => right; exact ⟨rfl, rfl⟩
  | some m =>
    left
    have := M.numL_le _ m hj
    rw [List.length_drop] at this
    exact ⟨8, m, rfl, rfl, rfl, by omega, by omega, by omega⟩
theorem tokR_other (l : List UInt8) (i : Nat) (h : i < l.length) (h34 : l.getD i 0 ≠ 34) (h45 : l.getD i 0 ≠ 45) (hd : M.dgB (l.getD i 0) = false) :
    TokR l i (M.wK (l.drop i) (M.sgK (l.getD i 0) 6) 3 : Nat) (M.wT (l.drop i) i (M.sgT (l.getD i 0) i 6) 3) := by
  rcases M.tok_other (l.drop i) i (l.getD i 0) (by rw [M.drop_getD, Nat.add_zero]) h34 h45 hd with ⟨k, m, h1, h2, h3⟩ | ⟨h1, h2⟩
  · left
    have := M.tok_le (l.drop i) (by rw [List.length_drop]; omega) k m h1
    rw [List.length_drop] at this
    exact ⟨k, m, h1, by rw [h2], h3, by omega, by omega, by omega⟩
  · right; exact ⟨h1, h2⟩
end Go.Proofs.YtlobinjdgcidmaaDoor
