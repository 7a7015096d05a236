/- What the small functions of jlex return, for any bytes. -/
import Derived.Test.YtakgkdgielkieaaDoorQMath2
import Derived.Test.YtakgkdgielkieaaDoorUtf
import Derived.Test.YtakgkdgielkieaaDoorVBase
import Derived.Deep.QuietTactic
import Derived.BigQuiet
import Derived.Outline
namespace Go.Proofs.YtakgkdgielkieaaDoor
open Go.RowKit
set_option linter.unusedVariables false
set_option linter.unusedSimpArgs false

theorem dg_iff (c : UInt8) : M.dgB c = true ↔ 48 ≤ c.toNat ∧ c.toNat ≤ 57 := by simp [M.dgB]
theorem u8_of {c : UInt8} {k : Nat} (hk : k < 256) (h : c.toNat = k) : c = k.toUInt8 := by
  apply UInt8.toNat_inj.1; rw [h, M.toU8 k hk]
theorem goB_val (n : Nat) (h : n < 256) : M.goB n.toUInt8 = (decide (48 ≤ n ∧ n ≤ 57) || decide (97 ≤ n ∧ n ≤ 122) || decide (65 ≤ n ∧ n ≤ 90) || decide (n = 46) || decide (n = 43) || decide (n = 45) || decide (n = 95)) := by
  have : ∀ n : Fin 256, M.goB n.val.toUInt8 = (decide (48 ≤ n.val ∧ n.val ≤ 57) || decide (97 ≤ n.val ∧ n.val ≤ 122) || decide (65 ≤ n.val ∧ n.val ≤ 90) || decide (n.val = 46) || decide (n.val = 43) || decide (n.val = 45) || decide (n.val = 95)) := by decide +kernel
  exact this ⟨n, h⟩
theorem goB_c (c : UInt8) : M.goB c = (decide (48 ≤ c.toNat ∧ c.toNat ≤ 57) || decide (97 ≤ c.toNat ∧ c.toNat ≤ 122) || decide (65 ≤ c.toNat ∧ c.toNat ≤ 90) || decide (c.toNat = 46) || decide (c.toNat = 43) || decide (c.toNat = 45) || decide (c.toNat = 95)) := by
  have := goB_val c.toNat c.toNat_lt
  rwa [← u8_of c.toNat_lt rfl] at this
theorem cell_getD {w : World} {b off : Nat} {l : List UInt8} (hcl : ∀ j (h : j < l.length), w.cell? ⟨b, off + j, none⟩ = some (.int .u8 (l[j].toNat : Int))) (i : Nat) (h : i < l.length) :
    w.cell? ⟨b, off + i, none⟩ = some (.int .u8 ((l.getD i 0).toNat : Int)) := by rw [hcl i h]; simp [h]
theorem getD_out (l : List UInt8) (i : Nat) (h : l.length ≤ i) : l.getD i 0 = 0 := by simp [List.getD, List.getElem?_eq_none h]

set_option maxRecDepth 100000 in
set_option maxHeartbeats 1000000 in
theorem isdig_any (v : Value) (l : List UInt8) (i : Nat) (r : Bool) (w : World) (hv : Bs w v l) (hi : i ≤ 8589934592) (hl : l.length ≤ 4294967296) (hr : M.dgB (l.getD i 0) = r) :
    Calls Tryd.prog 26 #[v, .int .i64 (i : Int)] w fun e w' => e = .returned (.bool r) ∧ w = w' := by
  obtain ⟨a, cap, rfl, h1, h2, h3⟩ := hv
  obtain ⟨n, hn⟩ : ∃ n, l.length = n := ⟨_, rfl⟩
  have hout := getD_out l i
  have hcg := fun b off hcl => @cell_getD w b off l hcl i
  obtain ⟨c, hc⟩ : ∃ c, l.getD i 0 = c := ⟨_, rfl⟩
  rw [hc] at hr hout hcg
  have h4 := fun h => h3 h
  by_cases hin : i < n
  · obtain ⟨b, off, rfl, hb, hcl⟩ := h3 (by omega)
    have hci := hcg b off hcl (by omega)
    have hd := dg_iff c
    obtain ⟨N, hN⟩ : ∃ N, c.toNat = N := ⟨_, rfl⟩
    have hN9 : N < 256 := by have := c.toNat_lt; omega
    rw [hN] at hci hd
    obtain ⟨C, hC⟩ : ∃ C : Int, (N : Int) = C := ⟨_, rfl⟩
    rw [hC] at hci
    have u1 : (i : Int) < n := by omega
    rw [hn] at h1 ⊢
    have C0 : 0 ≤ C := by omega
    have hs : (N < 48) ∨ (48 ≤ N ∧ N ≤ 57) ∨ (57 < N) := by omega
    rcases hs with q | ⟨q, q2⟩ | q
    · obtain rfl : false = r := by rw [← hr, eq_comm, ← Bool.not_eq_true, hd]; omega
      have t1 : decide ((48 : Int) ≤ C) = false := by simp; omega
      clear hd hr hN hC hcg hcl hout hc h3 h4 hn hl h2
      go_enter Tryd.func26, Tryd.ntmps26
      go_wp2
      go_ret
      exact ⟨rfl, rfl⟩
    · obtain rfl : true = r := by rw [← hr, eq_comm, hd]; omega
      have t1 : decide ((48 : Int) ≤ C) = true := by simp; omega
      have t2 : decide (C ≤ (57 : Int)) = true := by simp; omega
      clear hd hr hN hC hcg hcl hout hc h3 h4 hn hl h2
      go_enter Tryd.func26, Tryd.ntmps26
      go_wp2
      go_ret
      exact ⟨rfl, rfl⟩
    · obtain rfl : false = r := by rw [← hr, eq_comm, ← Bool.not_eq_true, hd]; omega
      have t1 : decide ((48 : Int) ≤ C) = true := by simp; omega
      have t2 : decide (C ≤ (57 : Int)) = false := by simp; omega
      clear hd hr hN hC hcg hcl hout hc h3 h4 hn hl h2
      go_enter Tryd.func26, Tryd.ntmps26
      go_wp2
      go_ret
      exact ⟨rfl, rfl⟩
  · obtain rfl : c = 0 := hout (by omega)
    obtain rfl : false = r := by rw [← hr]; rfl
    have t1 : decide ((i : Int) < n) = false := by simp; omega
    rw [hn] at h1 ⊢
    clear hr hcg hout hc h3 h4 hn hl h2
    go_enter Tryd.func26, Tryd.ntmps26
    go_wp2
    go_ret
    exact ⟨rfl, rfl⟩

set_option maxRecDepth 100000 in
set_option maxHeartbeats 1000000 in
theorem ishex_any (c : UInt8) (r : Bool) (w : World) (hr : decide (48 ≤ c.toNat ∧ c.toNat ≤ 57 ∨ 97 ≤ c.toNat ∧ c.toNat ≤ 102 ∨ 65 ≤ c.toNat ∧ c.toNat ≤ 70) = r) :
    Calls Tryd.prog 33 #[.int .u8 (c.toNat : Int)] w fun e w' => e = .returned (.bool r) ∧ w = w' := by
  have hb : c.toNat < 256 := c.toNat_lt
  obtain ⟨N, hN⟩ : ∃ N, c.toNat = N := ⟨_, rfl⟩
  rw [hN] at hr hb ⊢
  obtain ⟨C, hC⟩ : ∃ C : Int, (N : Int) = C := ⟨_, rfl⟩
  rw [hC]
  have hs : (0 ≤ N ∧ N ≤ 47) ∨ (48 ≤ N ∧ N ≤ 57) ∨ (58 ≤ N ∧ N ≤ 64) ∨ (65 ≤ N ∧ N ≤ 70) ∨ (71 ≤ N ∧ N ≤ 96) ∨ (97 ≤ N ∧ N ≤ 102) ∨ (103 ≤ N ∧ N ≤ 255) := by omega
  rcases hs with ⟨a1, a2⟩ | ⟨a1, a2⟩ | ⟨a1, a2⟩ | ⟨a1, a2⟩ | ⟨a1, a2⟩ | ⟨a1, a2⟩ | ⟨a1, a2⟩
  · obtain rfl : false = r := by rw [← hr]; simp; omega
    have t0 : decide ((48 : Int) ≤ C) = false := by simp; omega
    have t1 : decide (C ≤ (57 : Int)) = true := by simp; omega
    have t2 : decide ((97 : Int) ≤ C) = false := by simp; omega
    have t3 : decide (C ≤ (102 : Int)) = true := by simp; omega
    have t4 : decide ((65 : Int) ≤ C) = false := by simp; omega
    have t5 : decide (C ≤ (70 : Int)) = true := by simp; omega
    clear hr hN hC hb a1 a2
    go_enter Tryd.func33, Tryd.ntmps33
    go_wp2
    go_ret
    exact ⟨rfl, rfl⟩
  · obtain rfl : true = r := by rw [← hr]; simp; omega
    have t0 : decide ((48 : Int) ≤ C) = true := by simp; omega
    have t1 : decide (C ≤ (57 : Int)) = true := by simp; omega
    have t2 : decide ((97 : Int) ≤ C) = false := by simp; omega
    have t3 : decide (C ≤ (102 : Int)) = true := by simp; omega
    have t4 : decide ((65 : Int) ≤ C) = false := by simp; omega
    have t5 : decide (C ≤ (70 : Int)) = true := by simp; omega
    clear hr hN hC hb a1 a2
    go_enter Tryd.func33, Tryd.ntmps33
    go_wp2
    go_ret
    exact ⟨rfl, rfl⟩
  · obtain rfl : false = r := by rw [← hr]; simp; omega
    have t0 : decide ((48 : Int) ≤ C) = true := by simp; omega
    have t1 : decide (C ≤ (57 : Int)) = false := by simp; omega
    have t2 : decide ((97 : Int) ≤ C) = false := by simp; omega
    have t3 : decide (C ≤ (102 : Int)) = true := by simp; omega
    have t4 : decide ((65 : Int) ≤ C) = false := by simp; omega
    have t5 : decide (C ≤ (70 : Int)) = true := by simp; omega
    clear hr hN hC hb a1 a2
    go_enter Tryd.func33, Tryd.ntmps33
    go_wp2
    go_ret
    exact ⟨rfl, rfl⟩
  · obtain rfl : true = r := by rw [← hr]; simp; omega
    have t0 : decide ((48 : Int) ≤ C) = true := by simp; omega
    have t1 : decide (C ≤ (57 : Int)) = false := by simp; omega
    have t2 : decide ((97 : Int) ≤ C) = false := by simp; omega
    have t3 : decide (C ≤ (102 : Int)) = true := by simp; omega
    have t4 : decide ((65 : Int) ≤ C) = true := by simp; omega
    have t5 : decide (C ≤ (70 : Int)) = true := by simp; omega
    clear hr hN hC hb a1 a2
    go_enter Tryd.func33, Tryd.ntmps33
    go_wp2
    go_ret
    exact ⟨rfl, rfl⟩
  · obtain rfl : false = r := by rw [← hr]; simp; omega
    have t0 : decide ((48 : Int) ≤ C) = true := by simp; omega
    have t1 : decide (C ≤ (57 : Int)) = false := by simp; omega
    have t2 : decide ((97 : Int) ≤ C) = false := by simp; omega
    have t3 : decide (C ≤ (102 : Int)) = true := by simp; omega
    have t4 : decide ((65 : Int) ≤ C) = true := by simp; omega
    have t5 : decide (C ≤ (70 : Int)) = false := by simp; omega
    clear hr hN hC hb a1 a2
    go_enter Tryd.func33, Tryd.ntmps33
    go_wp2
    go_ret
    exact ⟨rfl, rfl⟩
  · obtain rfl : true = r := by rw [← hr]; simp; omega
    have t0 : decide ((48 : Int) ≤ C) = true := by simp; omega
    have t1 : decide (C ≤ (57 : Int)) = false := by simp; omega
    have t2 : decide ((97 : Int) ≤ C) = true := by simp; omega
    have t3 : decide (C ≤ (102 : Int)) = true := by simp; omega
    have t4 : decide ((65 : Int) ≤ C) = true := by simp; omega
    have t5 : decide (C ≤ (70 : Int)) = false := by simp; omega
    clear hr hN hC hb a1 a2
    go_enter Tryd.func33, Tryd.ntmps33
    go_wp2
    go_ret
    exact ⟨rfl, rfl⟩
  · obtain rfl : false = r := by rw [← hr]; simp; omega
    have t0 : decide ((48 : Int) ≤ C) = true := by simp; omega
    have t1 : decide (C ≤ (57 : Int)) = false := by simp; omega
    have t2 : decide ((97 : Int) ≤ C) = true := by simp; omega
    have t3 : decide (C ≤ (102 : Int)) = false := by simp; omega
    have t4 : decide ((65 : Int) ≤ C) = true := by simp; omega
    have t5 : decide (C ≤ (70 : Int)) = false := by simp; omega
    clear hr hN hC hb a1 a2
    go_enter Tryd.func33, Tryd.ntmps33
    go_wp2
    go_ret
    exact ⟨rfl, rfl⟩
set_option maxRecDepth 100000 in
set_option maxHeartbeats 4000000 in
theorem goes_any (v : Value) (l : List UInt8) (i : Nat) (r : Bool) (w : World) (hv : Bs w v l) (hi : i ≤ l.length) (hl : l.length ≤ 4294967296) (hr : M.goB (l.getD i 0) = r) :
    Calls Tryd.prog 25 #[v, .int .i64 (i : Int)] w fun e w' => e = .returned (.bool r) ∧ w = w' := by
  have D := Lib.hid (fun d hd => isdig_any v l i d w hv (by omega) hl hd)
  obtain ⟨a, cap, rfl, h1, h2, h3⟩ := hv
  obtain ⟨n, hn⟩ : ∃ n, l.length = n := ⟨_, rfl⟩
  have hout := getD_out l i
  have hcg := fun b off hcl => @cell_getD w b off l hcl i
  obtain ⟨c, hc⟩ : ∃ c, l.getD i 0 = c := ⟨_, rfl⟩
  rw [hc] at hr hout hcg D
  rw [goB_c] at hr
  have hd := dg_iff c
  by_cases hin : i < n
  · obtain ⟨b, off, rfl, hb, hcl⟩ := h3 (by omega)
    have hci := hcg b off hcl (by omega)
    obtain ⟨N, hN⟩ : ∃ N, c.toNat = N := ⟨_, rfl⟩
    have hN9 : N < 256 := by have := c.toNat_lt; omega
    rw [hN] at hci hd hr
    obtain ⟨C, hC⟩ : ∃ C : Int, (N : Int) = C := ⟨_, rfl⟩
    rw [hC] at hci
    have u1 : (i : Int) < n := by omega
    have u2 : ((i : Int) == n) = false := by rw [beq_eq_false_iff_ne]; omega
    rw [hn] at h1 D ⊢
    have C0 : 0 ≤ C := by omega
    have hs : (0 ≤ N ∧ N ≤ 42) ∨ (43 ≤ N ∧ N ≤ 43) ∨ (44 ≤ N ∧ N ≤ 44) ∨ (45 ≤ N ∧ N ≤ 45) ∨ (46 ≤ N ∧ N ≤ 46) ∨ (47 ≤ N ∧ N ≤ 47) ∨ (48 ≤ N ∧ N ≤ 57) ∨ (58 ≤ N ∧ N ≤ 64) ∨ (65 ≤ N ∧ N ≤ 90) ∨ (91 ≤ N ∧ N ≤ 94) ∨ (95 ≤ N ∧ N ≤ 95) ∨ (96 ≤ N ∧ N ≤ 96) ∨ (97 ≤ N ∧ N ≤ 122) ∨ (123 ≤ N ∧ N ≤ 255) := by omega
    rcases hs with ⟨a1, a2⟩ | ⟨a1, a2⟩ | ⟨a1, a2⟩ | ⟨a1, a2⟩ | ⟨a1, a2⟩ | ⟨a1, a2⟩ | ⟨a1, a2⟩ | ⟨a1, a2⟩ | ⟨a1, a2⟩ | ⟨a1, a2⟩ | ⟨a1, a2⟩ | ⟨a1, a2⟩ | ⟨a1, a2⟩ | ⟨a1, a2⟩
    · obtain rfl : false = r := by rw [← hr]; simp; omega
      have hdd : M.dgB c = false := by rw [← Bool.not_eq_true, hd]; omega
      have DD := Lib.hid (D.out _ hdd)
      have t0 : decide ((97 : Int) ≤ C) = false := by simp; omega
      have t1 : decide (C ≤ (122 : Int)) = true := by simp; omega
      have t2 : decide ((65 : Int) ≤ C) = false := by simp; omega
      have t3 : decide (C ≤ (90 : Int)) = true := by simp; omega
      have t4 : (C == 46) = false := by rw [beq_eq_false_iff_ne]; omega
      have t5 : (C == 43) = false := by rw [beq_eq_false_iff_ne]; omega
      have t6 : (C == 45) = false := by rw [beq_eq_false_iff_ne]; omega
      have t7 : (C == 95) = false := by rw [beq_eq_false_iff_ne]; omega
      clear hd hr hN hC hcg hcl hout hc h3 hn hl h2 a1 a2 hdd D
      go_enter Tryd.func25, Tryd.ntmps25
      go_wp2_with fail
      refine DD.out.mono ?_
      rintro e w' ⟨rfl, rfl⟩
      go_wp2
      go_ret
      exact ⟨rfl, rfl⟩
    · obtain rfl : true = r := by rw [← hr]; simp; omega
      have hdd : M.dgB c = false := by rw [← Bool.not_eq_true, hd]; omega
      have DD := Lib.hid (D.out _ hdd)
      have t0 : decide ((97 : Int) ≤ C) = false := by simp; omega
      have t1 : decide (C ≤ (122 : Int)) = true := by simp; omega
      have t2 : decide ((65 : Int) ≤ C) = false := by simp; omega
      have t3 : decide (C ≤ (90 : Int)) = true := by simp; omega
      have t4 : (C == 46) = false := by rw [beq_eq_false_iff_ne]; omega
      have t5 : (C == 43) = true := by rw [beq_iff_eq]; omega
      have t6 : (C == 45) = false := by rw [beq_eq_false_iff_ne]; omega
      have t7 : (C == 95) = false := by rw [beq_eq_false_iff_ne]; omega
      clear hd hr hN hC hcg hcl hout hc h3 hn hl h2 a1 a2 hdd D
      go_enter Tryd.func25, Tryd.ntmps25
      go_wp2_with fail
      refine DD.out.mono ?_
      rintro e w' ⟨rfl, rfl⟩
      go_wp2
      go_ret
      exact ⟨rfl, rfl⟩
    · obtain rfl : false = r := by rw [← hr]; simp; omega
      have hdd : M.dgB c = false := by rw [← Bool.not_eq_true, hd]; omega
      have DD := Lib.hid (D.out _ hdd)
      have t0 : decide ((97 : Int) ≤ C) = false := by simp; omega
      have t1 : decide (C ≤ (122 : Int)) = true := by simp; omega
      have t2 : decide ((65 : Int) ≤ C) = false := by simp; omega
      have t3 : decide (C ≤ (90 : Int)) = true := by simp; omega
      have t4 : (C == 46) = false := by rw [beq_eq_false_iff_ne]; omega
      have t5 : (C == 43) = false := by rw [beq_eq_false_iff_ne]; omega
      have t6 : (C == 45) = false := by rw [beq_eq_false_iff_ne]; omega
      have t7 : (C == 95) = false := by rw [beq_eq_false_iff_ne]; omega
      clear hd hr hN hC hcg hcl hout hc h3 hn hl h2 a1 a2 hdd D
      go_enter Tryd.func25, Tryd.ntmps25
      go_wp2_with fail
      refine DD.out.mono ?_
      rintro e w' ⟨rfl, rfl⟩
      go_wp2
      go_ret
      exact ⟨rfl, rfl⟩
    · obtain rfl : true = r := by rw [← hr]; simp; omega
      have hdd : M.dgB c = false := by rw [← Bool.not_eq_true, hd]; omega
      have DD := Lib.hid (D.out _ hdd)
      have t0 : decide ((97 : Int) ≤ C) = false := by simp; omega
      have t1 : decide (C ≤ (122 : Int)) = true := by simp; omega
      have t2 : decide ((65 : Int) ≤ C) = false := by simp; omega
      have t3 : decide (C ≤ (90 : Int)) = true := by simp; omega
      have t4 : (C == 46) = false := by rw [beq_eq_false_iff_ne]; omega
      have t5 : (C == 43) = false := by rw [beq_eq_false_iff_ne]; omega
      have t6 : (C == 45) = true := by rw [beq_iff_eq]; omega
      have t7 : (C == 95) = false := by rw [beq_eq_false_iff_ne]; omega
      clear hd hr hN hC hcg hcl hout hc h3 hn hl h2 a1 a2 hdd D
      go_enter Tryd.func25, Tryd.ntmps25
      go_wp2_with fail
      refine DD.out.mono ?_
      rintro e w' ⟨rfl, rfl⟩
      go_wp2
      go_ret
      exact ⟨rfl, rfl⟩
    · obtain rfl : true = r := by rw [← hr]; simp; omega
      have hdd : M.dgB c = false := by rw [← Bool.not_eq_true, hd]; omega
      have DD := Lib.hid (D.out _ hdd)
      have t0 : decide ((97 : Int) ≤ C) = false := by simp; omega
      have t1 : decide (C ≤ (122 : Int)) = true := by simp; omega
      have t2 : decide ((65 : Int) ≤ C) = false := by simp; omega
      have t3 : decide (C ≤ (90 : Int)) = true := by simp; omega
      have t4 : (C == 46) = true := by rw [beq_iff_eq]; omega
      have t5 : (C == 43) = false := by rw [beq_eq_false_iff_ne]; omega
      have t6 : (C == 45) = false := by rw [beq_eq_false_iff_ne]; omega
      have t7 : (C == 95) = false := by rw [beq_eq_false_iff_ne]; omega
      clear hd hr hN hC hcg hcl hout hc h3 hn hl h2 a1 a2 hdd D
      go_enter Tryd.func25, Tryd.ntmps25
      go_wp2_with fail
      refine DD.out.mono ?_
      rintro e w' ⟨rfl, rfl⟩
      go_wp2
      go_ret
      exact ⟨rfl, rfl⟩
    · obtain rfl : false = r := by rw [← hr]; simp; omega
      have hdd : M.dgB c = false := by rw [← Bool.not_eq_true, hd]; omega
      have DD := Lib.hid (D.out _ hdd)
      have t0 : decide ((97 : Int) ≤ C) = false := by simp; omega
      have t1 : decide (C ≤ (122 : Int)) = true := by simp; omega
      have t2 : decide ((65 : Int) ≤ C) = false := by simp; omega
      have t3 : decide (C ≤ (90 : Int)) = true := by simp; omega
      have t4 : (C == 46) = false := by rw [beq_eq_false_iff_ne]; omega
      have t5 : (C == 43) = false := by rw [beq_eq_false_iff_ne]; omega
      have t6 : (C == 45) = false := by rw [beq_eq_false_iff_ne]; omega
      have t7 : (C == 95) = false := by rw [beq_eq_false_iff_ne]; omega
      clear hd hr hN hC hcg hcl hout hc h3 hn hl h2 a1 a2 hdd D
      go_enter Tryd.func25, Tryd.ntmps25
      go_wp2_with fail
      refine DD.out.mono ?_
      rintro e w' ⟨rfl, rfl⟩
      go_wp2
      go_ret
      exact ⟨rfl, rfl⟩
    · obtain rfl : true = r := by rw [← hr]; simp; omega
      have hdd : M.dgB c = true := by rw [hd]; omega
      have DD := Lib.hid (D.out _ hdd)
      have t0 : decide ((97 : Int) ≤ C) = false := by simp; omega
      have t1 : decide (C ≤ (122 : Int)) = true := by simp; omega
      have t2 : decide ((65 : Int) ≤ C) = false := by simp; omega
      have t3 : decide (C ≤ (90 : Int)) = true := by simp; omega
      have t4 : (C == 46) = false := by rw [beq_eq_false_iff_ne]; omega
      have t5 : (C == 43) = false := by rw [beq_eq_false_iff_ne]; omega
      have t6 : (C == 45) = false := by rw [beq_eq_false_iff_ne]; omega
      have t7 : (C == 95) = false := by rw [beq_eq_false_iff_ne]; omega
      clear hd hr hN hC hcg hcl hout hc h3 hn hl h2 a1 a2 hdd D
      go_enter Tryd.func25, Tryd.ntmps25
      go_wp2_with fail
      refine DD.out.mono ?_
      rintro e w' ⟨rfl, rfl⟩
      go_wp2
      go_ret
      exact ⟨rfl, rfl⟩
    · obtain rfl : false = r := by rw [← hr]; simp; omega
      have hdd : M.dgB c = false := by rw [← Bool.not_eq_true, hd]; omega
      have DD := Lib.hid (D.out _ hdd)
      have t0 : decide ((97 : Int) ≤ C) = false := by simp; omega
      have t1 : decide (C ≤ (122 : Int)) = true := by simp; omega
      have t2 : decide ((65 : Int) ≤ C) = false := by simp; omega
      have t3 : decide (C ≤ (90 : Int)) = true := by simp; omega
      have t4 : (C == 46) = false := by rw [beq_eq_false_iff_ne]; omega
      have t5 : (C == 43) = false := by rw [beq_eq_false_iff_ne]; omega
      have t6 : (C == 45) = false := by rw [beq_eq_false_iff_ne]; omega
      have t7 : (C == 95) = false := by rw [beq_eq_false_iff_ne]; omega
      clear hd hr hN hC hcg hcl hout hc h3 hn hl h2 a1 a2 hdd D
      go_enter Tryd.func25, Tryd.ntmps25
      go_wp2_with fail
      refine DD.out.mono ?_
      rintro e w' ⟨rfl, rfl⟩
      go_wp2
      go_ret
      exact ⟨rfl, rfl⟩
    · obtain rfl : true = r := by rw [← hr]; simp; omega
      have hdd : M.dgB c = false := by rw [← Bool.not_eq_true, hd]; omega
      have DD := Lib.hid (D.out _ hdd)
      have t0 : decide ((97 : Int) ≤ C) = false := by simp; omega
      have t1 : decide (C ≤ (122 : Int)) = true := by simp; omega
      have t2 : decide ((65 : Int) ≤ C) = true := by simp; omega
      have t3 : decide (C ≤ (90 : Int)) = true := by simp; omega
      have t4 : (C == 46) = false := by rw [beq_eq_false_iff_ne]; omega
      have t5 : (C == 43) = false := by rw [beq_eq_false_iff_ne]; omega
      have t6 : (C == 45) = false := by rw [beq_eq_false_iff_ne]; omega
      have t7 : (C == 95) = false := by rw [beq_eq_false_iff_ne]; omega
      clear hd hr hN hC hcg hcl hout hc h3 hn hl h2 a1 a2 hdd D
      go_enter Tryd.func25, Tryd.ntmps25
      go_wp2_with fail
      refine DD.out.mono ?_
      rintro e w' ⟨rfl, rfl⟩
      go_wp2
      go_ret
      exact ⟨rfl, rfl⟩
    · obtain rfl : false = r := by rw [← hr]; simp; omega
      have hdd : M.dgB c = false := by rw [← Bool.not_eq_true, hd]; omega
      have DD := Lib.hid (D.out _ hdd)
      have t0 : decide ((97 : Int) ≤ C) = false := by simp; omega
      have t1 : decide (C ≤ (122 : Int)) = true := by simp; omega
      have t2 : decide ((65 : Int) ≤ C) = true := by simp; omega
      have t3 : decide (C ≤ (90 : Int)) = false := by simp; omega
      have t4 : (C == 46) = false := by rw [beq_eq_false_iff_ne]; omega
      have t5 : (C == 43) = false := by rw [beq_eq_false_iff_ne]; omega
      have t6 : (C == 45) = false := by rw [beq_eq_false_iff_ne]; omega
      have t7 : (C == 95) = false := by rw [beq_eq_false_iff_ne]; omega
      clear hd hr hN hC hcg hcl hout hc h3 hn hl h2 a1 a2 hdd D
      go_enter Tryd.func25, Tryd.ntmps25
      go_wp2_with fail
      refine DD.out.mono ?_
      rintro e w' ⟨rfl, rfl⟩
      go_wp2
      go_ret
      exact ⟨rfl, rfl⟩
    · obtain rfl : true = r := by rw [← hr]; simp; omega
      have hdd : M.dgB c = false := by rw [← Bool.not_eq_true, hd]; omega
      have DD := Lib.hid (D.out _ hdd)
      have t0 : decide ((97 : Int) ≤ C) = false := by simp; omega
      have t1 : decide (C ≤ (122 : Int)) = true := by simp; omega
      have t2 : decide ((65 : Int) ≤ C) = true := by simp; omega
      have t3 : decide (C ≤ (90 : Int)) = false := by simp; omega
      have t4 : (C == 46) = false := by rw [beq_eq_false_iff_ne]; omega
      have t5 : (C == 43) = false := by rw [beq_eq_false_iff_ne]; omega
      have t6 : (C == 45) = false := by rw [beq_eq_false_iff_ne]; omega
      have t7 : (C == 95) = true := by rw [beq_iff_eq]; omega
      clear hd hr hN hC hcg hcl hout hc h3 hn hl h2 a1 a2 hdd D
      go_enter Tryd.func25, Tryd.ntmps25
      go_wp2_with fail
      refine DD.out.mono ?_
      rintro e w' ⟨rfl, rfl⟩
      go_wp2
      go_ret
      exact ⟨rfl, rfl⟩
    · obtain rfl : false = r := by rw [← hr]; simp; omega
      have hdd : M.dgB c = false := by rw [← Bool.not_eq_true, hd]; omega
      have DD := Lib.hid (D.out _ hdd)
      have t0 : decide ((97 : Int) ≤ C) = false := by simp; omega
      have t1 : decide (C ≤ (122 : Int)) = true := by simp; omega
      have t2 : decide ((65 : Int) ≤ C) = true := by simp; omega
      have t3 : decide (C ≤ (90 : Int)) = false := by simp; omega
      have t4 : (C == 46) = false := by rw [beq_eq_false_iff_ne]; omega
      have t5 : (C == 43) = false := by rw [beq_eq_false_iff_ne]; omega
      have t6 : (C == 45) = false := by rw [beq_eq_false_iff_ne]; omega
      have t7 : (C == 95) = false := by rw [beq_eq_false_iff_ne]; omega
      clear hd hr hN hC hcg hcl hout hc h3 hn hl h2 a1 a2 hdd D
      go_enter Tryd.func25, Tryd.ntmps25
      go_wp2_with fail
      refine DD.out.mono ?_
      rintro e w' ⟨rfl, rfl⟩
      go_wp2
      go_ret
      exact ⟨rfl, rfl⟩
    · obtain rfl : true = r := by rw [← hr]; simp; omega
      have hdd : M.dgB c = false := by rw [← Bool.not_eq_true, hd]; omega
      have DD := Lib.hid (D.out _ hdd)
      have t0 : decide ((97 : Int) ≤ C) = true := by simp; omega
      have t1 : decide (C ≤ (122 : Int)) = true := by simp; omega
      have t2 : decide ((65 : Int) ≤ C) = true := by simp; omega
      have t3 : decide (C ≤ (90 : Int)) = false := by simp; omega
      have t4 : (C == 46) = false := by rw [beq_eq_false_iff_ne]; omega
      have t5 : (C == 43) = false := by rw [beq_eq_false_iff_ne]; omega
      have t6 : (C == 45) = false := by rw [beq_eq_false_iff_ne]; omega
      have t7 : (C == 95) = false := by rw [beq_eq_false_iff_ne]; omega
      clear hd hr hN hC hcg hcl hout hc h3 hn hl h2 a1 a2 hdd D
      go_enter Tryd.func25, Tryd.ntmps25
      go_wp2_with fail
      refine DD.out.mono ?_
      rintro e w' ⟨rfl, rfl⟩
      go_wp2
      go_ret
      exact ⟨rfl, rfl⟩
    · obtain rfl : false = r := by rw [← hr]; simp; omega
      have hdd : M.dgB c = false := by rw [← Bool.not_eq_true, hd]; omega
      have DD := Lib.hid (D.out _ hdd)
      have t0 : decide ((97 : Int) ≤ C) = true := by simp; omega
      have t1 : decide (C ≤ (122 : Int)) = false := by simp; omega
      have t2 : decide ((65 : Int) ≤ C) = true := by simp; omega
      have t3 : decide (C ≤ (90 : Int)) = false := by simp; omega
      have t4 : (C == 46) = false := by rw [beq_eq_false_iff_ne]; omega
      have t5 : (C == 43) = false := by rw [beq_eq_false_iff_ne]; omega
      have t6 : (C == 45) = false := by rw [beq_eq_false_iff_ne]; omega
      have t7 : (C == 95) = false := by rw [beq_eq_false_iff_ne]; omega
      clear hd hr hN hC hcg hcl hout hc h3 hn hl h2 a1 a2 hdd D
      go_enter Tryd.func25, Tryd.ntmps25
      go_wp2_with fail
      refine DD.out.mono ?_
      rintro e w' ⟨rfl, rfl⟩
      go_wp2
      go_ret
      exact ⟨rfl, rfl⟩
  · obtain rfl : c = 0 := hout (by omega)
    obtain rfl : false = r := by rw [← hr]; rfl
    have t1 : ((i : Int) == n) = true := by rw [beq_iff_eq]; omega
    rw [hn] at h1 ⊢
    clear hr hcg hout hc h3 hn hl h2 D hd
    go_enter Tryd.func25, Tryd.ntmps25
    go_wp2
    go_ret
    exact ⟨rfl, rfl⟩

end Go.Proofs.YtakgkdgielkieaaDoor