/- Tokens of JSON as the reference reads them: run, blank, goes, jnumber. -/
import Derived.Test.YtakgkdgielkieaaDoorQJ4
import Derived.Test.YtakgkdgielkieaaDoorKText
namespace Go.Proofs.YtakgkdgielkieaaDoor
open Go.RowKit
set_option linter.unusedVariables false
set_option linter.unusedSimpArgs false

theorem blB_c (c : UInt8) : M.blB c = (decide (c.toNat = 32) || decide (c.toNat = 9) || decide (c.toNat = 10) || decide (c.toNat = 13)) := by
  have h : ∀ n : Fin 256, M.blB n.val.toUInt8 = (decide (n.val = 32) || decide (n.val = 9) || decide (n.val = 10) || decide (n.val = 13)) := by decide +kernel
  have := h ⟨c.toNat, c.toNat_lt⟩
  simp only at this
  rwa [← u8_of c.toNat_lt rfl] at this

set_option maxRecDepth 100000 in
set_option maxHeartbeats 1000000 in
theorem refblank_any (c : UInt8) (r : Bool) (w : World) (hr : M.blB c = r) :
    Calls Tryd.prog 8 #[.int .u8 (c.toNat : Int)] w fun e w' => e = .returned (.bool r) ∧ w = w' := by
  have hb : c.toNat < 256 := c.toNat_lt
  rw [blB_c] at hr
  obtain ⟨N, hN⟩ : ∃ N, c.toNat = N := ⟨_, rfl⟩
  rw [hN] at hr hb ⊢
  obtain ⟨C, hC⟩ : ∃ C : Int, (N : Int) = C := ⟨_, rfl⟩
  rw [hC]
  have hs : (0 ≤ N ∧ N ≤ 8) ∨ (9 ≤ N ∧ N ≤ 9) ∨ (10 ≤ N ∧ N ≤ 10) ∨ (11 ≤ N ∧ N ≤ 12) ∨ (13 ≤ N ∧ N ≤ 13) ∨ (14 ≤ N ∧ N ≤ 31) ∨ (32 ≤ N ∧ N ≤ 32) ∨ (33 ≤ N ∧ N ≤ 255) := by omega
  rcases hs with ⟨a1, a2⟩ | ⟨a1, a2⟩ | ⟨a1, a2⟩ | ⟨a1, a2⟩ | ⟨a1, a2⟩ | ⟨a1, a2⟩ | ⟨a1, a2⟩ | ⟨a1, a2⟩
  · obtain rfl : false = r := by rw [← hr]; simp; omega
    have t0 : (C == 32) = false := by rw [beq_eq_false_iff_ne]; omega
    have t1 : (C == 9) = false := by rw [beq_eq_false_iff_ne]; omega
    have t2 : (C == 10) = false := by rw [beq_eq_false_iff_ne]; omega
    have t3 : (C == 13) = false := by rw [beq_eq_false_iff_ne]; omega
    clear hr hN hC hb a1 a2
    go_enter Tryd.func8, Tryd.ntmps8
    go_wp2
    go_ret
    exact ⟨rfl, rfl⟩
  · obtain rfl : true = r := by rw [← hr]; simp; omega
    have t0 : (C == 32) = false := by rw [beq_eq_false_iff_ne]; omega
    have t1 : (C == 9) = true := by rw [beq_iff_eq]; omega
    have t2 : (C == 10) = false := by rw [beq_eq_false_iff_ne]; omega
    have t3 : (C == 13) = false := by rw [beq_eq_false_iff_ne]; omega
    clear hr hN hC hb a1 a2
    go_enter Tryd.func8, Tryd.ntmps8
    go_wp2
    go_ret
    exact ⟨rfl, rfl⟩
  · obtain rfl : true = r := by rw [← hr]; simp; omega
    have t0 : (C == 32) = false := by rw [beq_eq_false_iff_ne]; omega
    have t1 : (C == 9) = false := by rw [beq_eq_false_iff_ne]; omega
    have t2 : (C == 10) = true := by rw [beq_iff_eq]; omega
    have t3 : (C == 13) = false := by rw [beq_eq_false_iff_ne]; omega
    clear hr hN hC hb a1 a2
    go_enter Tryd.func8, Tryd.ntmps8
    go_wp2
    go_ret
    exact ⟨rfl, rfl⟩
  · obtain rfl : false = r := by rw [← hr]; simp; omega
    have t0 : (C == 32) = false := by rw [beq_eq_false_iff_ne]; omega
    have t1 : (C == 9) = false := by rw [beq_eq_false_iff_ne]; omega
    have t2 : (C == 10) = false := by rw [beq_eq_false_iff_ne]; omega
    have t3 : (C == 13) = false := by rw [beq_eq_false_iff_ne]; omega
    clear hr hN hC hb a1 a2
    go_enter Tryd.func8, Tryd.ntmps8
    go_wp2
    go_ret
    exact ⟨rfl, rfl⟩
  · obtain rfl : true = r := by rw [← hr]; simp; omega
    have t0 : (C == 32) = false := by rw [beq_eq_false_iff_ne]; omega
    have t1 : (C == 9) = false := by rw [beq_eq_false_iff_ne]; omega
    have t2 : (C == 10) = false := by rw [beq_eq_false_iff_ne]; omega
    have t3 : (C == 13) = true := by rw [beq_iff_eq]; omega
    clear hr hN hC hb a1 a2
    go_enter Tryd.func8, Tryd.ntmps8
    go_wp2
    go_ret
    exact ⟨rfl, rfl⟩
  · obtain rfl : false = r := by rw [← hr]; simp; omega
    have t0 : (C == 32) = false := by rw [beq_eq_false_iff_ne]; omega
    have t1 : (C == 9) = false := by rw [beq_eq_false_iff_ne]; omega
    have t2 : (C == 10) = false := by rw [beq_eq_false_iff_ne]; omega
    have t3 : (C == 13) = false := by rw [beq_eq_false_iff_ne]; omega
    clear hr hN hC hb a1 a2
    go_enter Tryd.func8, Tryd.ntmps8
    go_wp2
    go_ret
    exact ⟨rfl, rfl⟩
  · obtain rfl : true = r := by rw [← hr]; simp; omega
    have t0 : (C == 32) = true := by rw [beq_iff_eq]; omega
    have t1 : (C == 9) = false := by rw [beq_eq_false_iff_ne]; omega
    have t2 : (C == 10) = false := by rw [beq_eq_false_iff_ne]; omega
    have t3 : (C == 13) = false := by rw [beq_eq_false_iff_ne]; omega
    clear hr hN hC hb a1 a2
    go_enter Tryd.func8, Tryd.ntmps8
    go_wp2
    go_ret
    exact ⟨rfl, rfl⟩
  · obtain rfl : false = r := by rw [← hr]; simp; omega
    have t0 : (C == 32) = false := by rw [beq_eq_false_iff_ne]; omega
    have t1 : (C == 9) = false := by rw [beq_eq_false_iff_ne]; omega
    have t2 : (C == 10) = false := by rw [beq_eq_false_iff_ne]; omega
    have t3 : (C == 13) = false := by rw [beq_eq_false_iff_ne]; omega
    clear hr hN hC hb a1 a2
    go_enter Tryd.func8, Tryd.ntmps8
    go_wp2
    go_ret
    exact ⟨rfl, rfl⟩
set_option maxRecDepth 100000 in
set_option maxHeartbeats 4000000 in
theorem refgoes_any (v : Value) (l : List UInt8) (i : Nat) (r : Bool) (w : World) (hv : Bs w v l) (hi : i ≤ 8589934592) (hl : l.length ≤ 4294967296) (hr : M.goB (l.getD i 0) = r) :
    Calls Tryd.prog 9 #[v, .int .i64 (i : Int)] w fun e w' => e = .returned (.bool r) ∧ w = w' := by
  obtain ⟨a, cap, rfl, h1, h2, h3⟩ := hv
  obtain ⟨n, hn⟩ : ∃ n, l.length = n := ⟨_, rfl⟩
  have hout := getD_out l i
  have hcg := fun b off hcl => @cell_getD w b off l hcl i
  obtain ⟨c, hc⟩ : ∃ c, l.getD i 0 = c := ⟨_, rfl⟩
  rw [hc] at hr hout hcg
  by_cases hin : i < n
  · obtain ⟨b, off, rfl, hb, hcl⟩ := h3 (by omega)
    have hci := hcg b off hcl (by omega)
    rw [goB_c] at hr
    obtain ⟨N, hN⟩ : ∃ N, c.toNat = N := ⟨_, rfl⟩
    have hN9 : N < 256 := by have := c.toNat_lt; omega
    rw [hN] at hci hr
    obtain ⟨C, hC⟩ : ∃ C : Int, (N : Int) = C := ⟨_, rfl⟩
    rw [hC] at hci
    have u1 : (i : Int) < n := by omega
    have u2 : decide ((n : Int) ≤ i) = false := by simp; omega
    rw [hn] at h1 hl ⊢
    have C0 : 0 ≤ C := by omega
    have hs : (0 ≤ N ∧ N ≤ 42) ∨ (43 ≤ N ∧ N ≤ 43) ∨ (44 ≤ N ∧ N ≤ 44) ∨ (45 ≤ N ∧ N ≤ 45) ∨ (46 ≤ N ∧ N ≤ 46) ∨ (47 ≤ N ∧ N ≤ 47) ∨ (48 ≤ N ∧ N ≤ 57) ∨ (58 ≤ N ∧ N ≤ 64) ∨ (65 ≤ N ∧ N ≤ 90) ∨ (91 ≤ N ∧ N ≤ 94) ∨ (95 ≤ N ∧ N ≤ 95) ∨ (96 ≤ N ∧ N ≤ 96) ∨ (97 ≤ N ∧ N ≤ 122) ∨ (123 ≤ N ∧ N ≤ 255) := by omega
    rcases hs with ⟨a1, a2⟩ | ⟨a1, a2⟩ | ⟨a1, a2⟩ | ⟨a1, a2⟩ | ⟨a1, a2⟩ | ⟨a1, a2⟩ | ⟨a1, a2⟩ | ⟨a1, a2⟩ | ⟨a1, a2⟩ | ⟨a1, a2⟩ | ⟨a1, a2⟩ | ⟨a1, a2⟩ | ⟨a1, a2⟩ | ⟨a1, a2⟩
    · obtain rfl : false = r := by rw [← hr]; simp; omega
      have t0 : decide ((97 : Int) ≤ C) = false := by simp; omega
      have t1 : decide (C ≤ (122 : Int)) = true := by simp; omega
      have t2 : decide ((65 : Int) ≤ C) = false := by simp; omega
      have t3 : decide (C ≤ (90 : Int)) = true := by simp; omega
      have t4 : decide ((48 : Int) ≤ C) = false := by simp; omega
      have t5 : decide (C ≤ (57 : Int)) = true := by simp; omega
      have t6 : (C == 46) = false := by rw [beq_eq_false_iff_ne]; omega
      have t7 : (C == 43) = false := by rw [beq_eq_false_iff_ne]; omega
      have t8 : (C == 45) = false := by rw [beq_eq_false_iff_ne]; omega
      have t9 : (C == 95) = false := by rw [beq_eq_false_iff_ne]; omega
      clear hr hN hC hcg hcl hout hc h3 hn h2 a1 a2
      go_enter Tryd.func9, Tryd.ntmps9
      go_wp2
      go_ret
      exact ⟨rfl, rfl⟩
    · obtain rfl : true = r := by rw [← hr]; simp; omega
      have t0 : decide ((97 : Int) ≤ C) = false := by simp; omega
      have t1 : decide (C ≤ (122 : Int)) = true := by simp; omega
      have t2 : decide ((65 : Int) ≤ C) = false := by simp; omega
      have t3 : decide (C ≤ (90 : Int)) = true := by simp; omega
      have t4 : decide ((48 : Int) ≤ C) = false := by simp; omega
      have t5 : decide (C ≤ (57 : Int)) = true := by simp; omega
      have t6 : (C == 46) = false := by rw [beq_eq_false_iff_ne]; omega
      have t7 : (C == 43) = true := by rw [beq_iff_eq]; omega
      have t8 : (C == 45) = false := by rw [beq_eq_false_iff_ne]; omega
      have t9 : (C == 95) = false := by rw [beq_eq_false_iff_ne]; omega
      clear hr hN hC hcg hcl hout hc h3 hn h2 a1 a2
      go_enter Tryd.func9, Tryd.ntmps9
      go_wp2
      go_ret
      exact ⟨rfl, rfl⟩
    · obtain rfl : false = r := by rw [← hr]; simp; omega
      have t0 : decide ((97 : Int) ≤ C) = false := by simp; omega
      have t1 : decide (C ≤ (122 : Int)) = true := by simp; omega
      have t2 : decide ((65 : Int) ≤ C) = false := by simp; omega
      have t3 : decide (C ≤ (90 : Int)) = true := by simp; omega
      have t4 : decide ((48 : Int) ≤ C) = false := by simp; omega
      have t5 : decide (C ≤ (57 : Int)) = true := by simp; omega
      have t6 : (C == 46) = false := by rw [beq_eq_false_iff_ne]; omega
      have t7 : (C == 43) = false := by rw [beq_eq_false_iff_ne]; omega
      have t8 : (C == 45) = false := by rw [beq_eq_false_iff_ne]; omega
      have t9 : (C == 95) = false := by rw [beq_eq_false_iff_ne]; omega
      clear hr hN hC hcg hcl hout hc h3 hn h2 a1 a2
      go_enter Tryd.func9, Tryd.ntmps9
      go_wp2
      go_ret
      exact ⟨rfl, rfl⟩
    · obtain rfl : true = r := by rw [← hr]; simp; omega
      have t0 : decide ((97 : Int) ≤ C) = false := by simp; omega
      have t1 : decide (C ≤ (122 : Int)) = true := by simp; omega
      have t2 : decide ((65 : Int) ≤ C) = false := by simp; omega
      have t3 : decide (C ≤ (90 : Int)) = true := by simp; omega
      have t4 : decide ((48 : Int) ≤ C) = false := by simp; omega
      have t5 : decide (C ≤ (57 : Int)) = true := by simp; omega
      have t6 : (C == 46) = false := by rw [beq_eq_false_iff_ne]; omega
      have t7 : (C == 43) = false := by rw [beq_eq_false_iff_ne]; omega
      have t8 : (C == 45) = true := by rw [beq_iff_eq]; omega
      have t9 : (C == 95) = false := by rw [beq_eq_false_iff_ne]; omega
      clear hr hN hC hcg hcl hout hc h3 hn h2 a1 a2
      go_enter Tryd.func9, Tryd.ntmps9
      go_wp2
      go_ret
      exact ⟨rfl, rfl⟩
    · obtain rfl : true = r := by rw [← hr]; simp; omega
      have t0 : decide ((97 : Int) ≤ C) = false := by simp; omega
      have t1 : decide (C ≤ (122 : Int)) = true := by simp; omega
      have t2 : decide ((65 : Int) ≤ C) = false := by simp; omega
      have t3 : decide (C ≤ (90 : Int)) = true := by simp; omega
      have t4 : decide ((48 : Int) ≤ C) = false := by simp; omega
      have t5 : decide (C ≤ (57 : Int)) = true := by simp; omega
      have t6 : (C == 46) = true := by rw [beq_iff_eq]; omega
      have t7 : (C == 43) = false := by rw [beq_eq_false_iff_ne]; omega
      have t8 : (C == 45) = false := by rw [beq_eq_false_iff_ne]; omega
      have t9 : (C == 95) = false := by rw [beq_eq_false_iff_ne]; omega
      clear hr hN hC hcg hcl hout hc h3 hn h2 a1 a2
      go_enter Tryd.func9, Tryd.ntmps9
      go_wp2
      go_ret
      exact ⟨rfl, rfl⟩
    · obtain rfl : false = r := by rw [← hr]; simp; omega
      have t0 : decide ((97 : Int) ≤ C) = false := by simp; omega
      have t1 : decide (C ≤ (122 : Int)) = true := by simp; omega
      have t2 : decide ((65 : Int) ≤ C) = false := by simp; omega
      have t3 : decide (C ≤ (90 : Int)) = true := by simp; omega
      have t4 : decide ((48 : Int) ≤ C) = false := by simp; omega
      have t5 : decide (C ≤ (57 : Int)) = true := by simp; omega
      have t6 : (C == 46) = false := by rw [beq_eq_false_iff_ne]; omega
      have t7 : (C == 43) = false := by rw [beq_eq_false_iff_ne]; omega
      have t8 : (C == 45) = false := by rw [beq_eq_false_iff_ne]; omega
      have t9 : (C == 95) = false := by rw [beq_eq_false_iff_ne]; omega
      clear hr hN hC hcg hcl hout hc h3 hn h2 a1 a2
      go_enter Tryd.func9, Tryd.ntmps9
      go_wp2
      go_ret
      exact ⟨rfl, rfl⟩
    · obtain rfl : true = r := by rw [← hr]; simp; omega
      have t0 : decide ((97 : Int) ≤ C) = false := by simp; omega
      have t1 : decide (C ≤ (122 : Int)) = true := by simp; omega
      have t2 : decide ((65 : Int) ≤ C) = false := by simp; omega
      have t3 : decide (C ≤ (90 : Int)) = true := by simp; omega
      have t4 : decide ((48 : Int) ≤ C) = true := by simp; omega
      have t5 : decide (C ≤ (57 : Int)) = true := by simp; omega
      have t6 : (C == 46) = false := by rw [beq_eq_false_iff_ne]; omega
      have t7 : (C == 43) = false := by rw [beq_eq_false_iff_ne]; omega
      have t8 : (C == 45) = false := by rw [beq_eq_false_iff_ne]; omega
      have t9 : (C == 95) = false := by rw [beq_eq_false_iff_ne]; omega
      clear hr hN hC hcg hcl hout hc h3 hn h2 a1 a2
      go_enter Tryd.func9, Tryd.ntmps9
      go_wp2
      go_ret
      exact ⟨rfl, rfl⟩
    · obtain rfl : false = r := by rw [← hr]; simp; omega
      have t0 : decide ((97 : Int) ≤ C) = false := by simp; omega
      have t1 : decide (C ≤ (122 : Int)) = true := by simp; omega
      have t2 : decide ((65 : Int) ≤ C) = false := by simp; omega
      have t3 : decide (C ≤ (90 : Int)) = true := by simp; omega
      have t4 : decide ((48 : Int) ≤ C) = true := by simp; omega
      have t5 : decide (C ≤ (57 : Int)) = false := by simp; omega
      have t6 : (C == 46) = false := by rw [beq_eq_false_iff_ne]; omega
      have t7 : (C == 43) = false := by rw [beq_eq_false_iff_ne]; omega
      have t8 : (C == 45) = false := by rw [beq_eq_false_iff_ne]; omega
      have t9 : (C == 95) = false := by rw [beq_eq_false_iff_ne]; omega
      clear hr hN hC hcg hcl hout hc h3 hn h2 a1 a2
      go_enter Tryd.func9, Tryd.ntmps9
      go_wp2
      go_ret
      exact ⟨rfl, rfl⟩
    · obtain rfl : true = r := by rw [← hr]; simp; omega
      have t0 : decide ((97 : Int) ≤ C) = false := by simp; omega
      have t1 : decide (C ≤ (122 : Int)) = true := by simp; omega
      have t2 : decide ((65 : Int) ≤ C) = true := by simp; omega
      have t3 : decide (C ≤ (90 : Int)) = true := by simp; omega
      have t4 : decide ((48 : Int) ≤ C) = true := by simp; omega
      have t5 : decide (C ≤ (57 : Int)) = false := by simp; omega
      have t6 : (C == 46) = false := by rw [beq_eq_false_iff_ne]; omega
      have t7 : (C == 43) = false := by rw [beq_eq_false_iff_ne]; omega
      have t8 : (C == 45) = false := by rw [beq_eq_false_iff_ne]; omega
      have t9 : (C == 95) = false := by rw [beq_eq_false_iff_ne]; omega
      clear hr hN hC hcg hcl hout hc h3 hn h2 a1 a2
      go_enter Tryd.func9, Tryd.ntmps9
      go_wp2
      go_ret
      exact ⟨rfl, rfl⟩
    · obtain rfl : false = r := by rw [← hr]; simp; omega
      have t0 : decide ((97 : Int) ≤ C) = false := by simp; omega
      have t1 : decide (C ≤ (122 : Int)) = true := by simp; omega
      have t2 : decide ((65 : Int) ≤ C) = true := by simp; omega
      have t3 : decide (C ≤ (90 : Int)) = false := by simp; omega
      have t4 : decide ((48 : Int) ≤ C) = true := by simp; omega
      have t5 : decide (C ≤ (57 : Int)) = false := by simp; omega
      have t6 : (C == 46) = false := by rw [beq_eq_false_iff_ne]; omega
      have t7 : (C == 43) = false := by rw [beq_eq_false_iff_ne]; omega
      have t8 : (C == 45) = false := by rw [beq_eq_false_iff_ne]; omega
      have t9 : (C == 95) = false := by rw [beq_eq_false_iff_ne]; omega
      clear hr hN hC hcg hcl hout hc h3 hn h2 a1 a2
      go_enter Tryd.func9, Tryd.ntmps9
      go_wp2
      go_ret
      exact ⟨rfl, rfl⟩
    · obtain rfl : true = r := by rw [← hr]; simp; omega
      have t0 : decide ((97 : Int) ≤ C) = false := by simp; omega
      have t1 : decide (C ≤ (122 : Int)) = true := by simp; omega
      have t2 : decide ((65 : Int) ≤ C) = true := by simp; omega
      have t3 : decide (C ≤ (90 : Int)) = false := by simp; omega
      have t4 : decide ((48 : Int) ≤ C) = true := by simp; omega
      have t5 : decide (C ≤ (57 : Int)) = false := by simp; omega
      have t6 : (C == 46) = false := by rw [beq_eq_false_iff_ne]; omega
      have t7 : (C == 43) = false := by rw [beq_eq_false_iff_ne]; omega
      have t8 : (C == 45) = false := by rw [beq_eq_false_iff_ne]; omega
      have t9 : (C == 95) = true := by rw [beq_iff_eq]; omega
      clear hr hN hC hcg hcl hout hc h3 hn h2 a1 a2
      go_enter Tryd.func9, Tryd.ntmps9
      go_wp2
      go_ret
      exact ⟨rfl, rfl⟩
    · obtain rfl : false = r := by rw [← hr]; simp; omega
      have t0 : decide ((97 : Int) ≤ C) = false := by simp; omega
      have t1 : decide (C ≤ (122 : Int)) = true := by simp; omega
      have t2 : decide ((65 : Int) ≤ C) = true := by simp; omega
      have t3 : decide (C ≤ (90 : Int)) = false := by simp; omega
      have t4 : decide ((48 : Int) ≤ C) = true := by simp; omega
      have t5 : decide (C ≤ (57 : Int)) = false := by simp; omega
      have t6 : (C == 46) = false := by rw [beq_eq_false_iff_ne]; omega
      have t7 : (C == 43) = false := by rw [beq_eq_false_iff_ne]; omega
      have t8 : (C == 45) = false := by rw [beq_eq_false_iff_ne]; omega
      have t9 : (C == 95) = false := by rw [beq_eq_false_iff_ne]; omega
      clear hr hN hC hcg hcl hout hc h3 hn h2 a1 a2
      go_enter Tryd.func9, Tryd.ntmps9
      go_wp2
      go_ret
      exact ⟨rfl, rfl⟩
    · obtain rfl : true = r := by rw [← hr]; simp; omega
      have t0 : decide ((97 : Int) ≤ C) = true := by simp; omega
      have t1 : decide (C ≤ (122 : Int)) = true := by simp; omega
      have t2 : decide ((65 : Int) ≤ C) = true := by simp; omega
      have t3 : decide (C ≤ (90 : Int)) = false := by simp; omega
      have t4 : decide ((48 : Int) ≤ C) = true := by simp; omega
      have t5 : decide (C ≤ (57 : Int)) = false := by simp; omega
      have t6 : (C == 46) = false := by rw [beq_eq_false_iff_ne]; omega
      have t7 : (C == 43) = false := by rw [beq_eq_false_iff_ne]; omega
      have t8 : (C == 45) = false := by rw [beq_eq_false_iff_ne]; omega
      have t9 : (C == 95) = false := by rw [beq_eq_false_iff_ne]; omega
      clear hr hN hC hcg hcl hout hc h3 hn h2 a1 a2
      go_enter Tryd.func9, Tryd.ntmps9
      go_wp2
      go_ret
      exact ⟨rfl, rfl⟩
    · obtain rfl : false = r := by rw [← hr]; simp; omega
      have t0 : decide ((97 : Int) ≤ C) = true := by simp; omega
      have t1 : decide (C ≤ (122 : Int)) = false := by simp; omega
      have t2 : decide ((65 : Int) ≤ C) = true := by simp; omega
      have t3 : decide (C ≤ (90 : Int)) = false := by simp; omega
      have t4 : decide ((48 : Int) ≤ C) = true := by simp; omega
      have t5 : decide (C ≤ (57 : Int)) = false := by simp; omega
      have t6 : (C == 46) = false := by rw [beq_eq_false_iff_ne]; omega
      have t7 : (C == 43) = false := by rw [beq_eq_false_iff_ne]; omega
      have t8 : (C == 45) = false := by rw [beq_eq_false_iff_ne]; omega
      have t9 : (C == 95) = false := by rw [beq_eq_false_iff_ne]; omega
      clear hr hN hC hcg hcl hout hc h3 hn h2 a1 a2
      go_enter Tryd.func9, Tryd.ntmps9
      go_wp2
      go_ret
      exact ⟨rfl, rfl⟩
  · obtain rfl : c = 0 := hout (by omega)
    obtain rfl : false = r := by rw [← hr]; rfl
    have t1 : decide ((n : Int) ≤ i) = true := by simp; omega
    rw [hn] at h1 ⊢
    clear hr hcg hout hc h3 hn hl h2
    go_enter Tryd.func9, Tryd.ntmps9
    go_wp2
    go_ret
    exact ⟨rfl, rfl⟩

/-- A text, as a row of bytes. -/
def StB (S : ByteArray) (l : List UInt8) : Prop := S.size = l.length ∧ ∀ j (h : j < S.size), S[j]'h = l.getD j 0
theorem stB (l : List UInt8) : StB (bytes l) l := by
  refine ⟨bytes_size l, fun j h => ?_⟩
  have hj : j < l.length := by rw [bytes_size] at h; exact h
  show (l.toArray)[j] = _
  simp [hj]
set_option maxRecDepth 100000 in
set_option maxHeartbeats 2000000 in
theorem refrun_any (S : ByteArray) (l : List UInt8) (i r : Nat) (w : World) (hS : StB S l) (hi : i ≤ 8589934592) (hl : l.length ≤ 4294967296) (hr : i + M.run (l.drop i) = r) :
    Calls Tryd.prog 17 #[.string S, .int .i64 (i : Int)] w fun e w' => e = .returned (.int .i64 (r : Int)) ∧ w = w' := by
  obtain ⟨hs, hg⟩ := hS
  obtain ⟨n, hn⟩ : ∃ n, l.length = n := ⟨_, rfl⟩
  have Hr := Lib.hid hr
  have Hg := Lib.hid hg
  have HS := Lib.hid hs
  have Hn := Lib.hid hn
  rw [hn] at hl
  have s1 : S.size ≤ 4294967296 := by rw [hs, hn]; exact hl
  clear hr hg hs hn
  go_enter Tryd.func17, Tryd.ntmps17
  go_wp2
  go_loop [1] (fun iv => ∃ j : Nat, iv = .int .i64 (j : Int) ∧ j ≤ max i n ∧ j + M.run (l.drop j) = r) (fun iv => max i n - (intOf iv).toNat)
  case atStart => exact ⟨i, rfl, by omega, Hr.out⟩
  case round =>
    obtain ⟨j, rfl, hj, hx⟩ := hrel
    obtain ⟨r1, r2⟩ := run_at l j
    by_cases hlt : j < S.size
    · have hgj := Hg.out j hlt
      have hjn : j < n := by rw [HS.out, Hn.out] at hlt; exact hlt
      have hdi := dg_iff (l.getD j 0)
      obtain ⟨c, hc⟩ : ∃ c, l.getD j 0 = c := ⟨_, rfl⟩
      rw [hc] at hgj r1 r2 hdi
      obtain ⟨C, hC⟩ : ∃ C : Int, (c.toNat : Int) = C := ⟨_, rfl⟩
      have hgC : ((S[j]'hlt).toNat : Int) = C := by rw [hgj]; exact hC
      have C0 : 0 ≤ C := by omega
      have u1 : (j : Int) < S.size := by omega
      have u2 : (0 : Int) ≤ j := by omega
      have hs : (C < 48) ∨ (48 ≤ C ∧ C ≤ 57) ∨ (57 < C) := by omega
      rcases hs with q | ⟨q, q2⟩ | q
      · have t1 : decide ((48 : Int) ≤ C) = false := by simp; omega
        have Hx := Lib.hid ((r2 (by rw [← Bool.not_eq_true, hdi]; omega)).symm.trans hx)
        clear r1 r2 hdi hgj hx hC hc
        go_wp2
        go_ret
        exact ⟨by rw [Hx.out]; rfl, rfl⟩
      · have t1 : decide ((48 : Int) ≤ C) = true := by simp; omega
        have t2 : decide (C ≤ (57 : Int)) = true := by simp; omega
        have Hx := Lib.hid ((r1 (hdi.2 (by omega))).symm.trans hx)
        clear r1 r2 hdi hgj hx hC hc
        go_wp2
        go_round
        case rel => exact ⟨j + 1, by go_num, by omega, Hx.out⟩
        case measure => simp [intOf]; omega
      · have t1 : decide ((48 : Int) ≤ C) = true := by simp; omega
        have t2 : decide (C ≤ (57 : Int)) = false := by simp; omega
        have Hx := Lib.hid ((r2 (by rw [← Bool.not_eq_true, hdi]; omega)).symm.trans hx)
        clear r1 r2 hdi hgj hx hC hc
        go_wp2
        go_ret
        exact ⟨by rw [Hx.out]; rfl, rfl⟩
    · have hz : l.getD j 0 = 0 := getD_out l j (by rw [← HS.out]; omega)
      have Hx := Lib.hid ((r2 (by rw [hz]; rfl)).symm.trans hx)
      have t1 : decide ((j : Int) < S.size) = false := by simp; omega
      have u1 : ¬ (j : Int) < S.size := by omega
      clear r1 r2 hx hz
      go_wp2
      go_ret
      exact ⟨by rw [Hx.out]; rfl, rfl⟩

end Go.Proofs.YtakgkdgielkieaaDoor