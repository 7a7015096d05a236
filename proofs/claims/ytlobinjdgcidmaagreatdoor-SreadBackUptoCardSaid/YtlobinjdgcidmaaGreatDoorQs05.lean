/- Texts of ours in one: JgQ. -/
import Derived.Test.YtlobinjdgcidmaaGreatDoorQs00
import Derived.Test.YtlobinjdgcidmaaGreatDoorQs04
import Derived.Test.YtlobinjdgcidmaaGreatDoorQs02
import Derived.Deep.QuietTactic
import Derived.BigQuiet
import Derived.Outline
/- Several texts of ours in one: QJ QJ2 QJ3. -/
/- What the small functions of jlex return, for any bytes. -/
namespace Go.Proofs.YtlobinjdgcidmaaGreatDoor
open Go.RowKit
set_option linter.unusedVariables false
set_option linter.unusedSimpArgs false

theorem dg_iff (c : UInt8) : M.dgB c = true ↔ 48 ≤ c.toNat ∧ c.toNat ≤ 57 := by simp [M.dgB]
theorem u8_of {c : UInt8} {k : Nat} (hk : k < 256) (h : c.toNat = k) : c = k.toUInt8 := by
  apply UInt8.toNat_inj.1; rw [h, M.toU8 k hk]
theorem goB_val (n : Nat) (h : n < 256) : M.goB n.toUInt8 = (decide (48 ≤ n ∧ n ≤ 57) || decide (97 ≤ n ∧ n ≤ 122) || decide (65 ≤ n ∧ n ≤ 90) || decide (n = 46) || decide (n = 43) || decide (n = 45) || decide (n = 95)) := by
  have : ∀ n : Fin 256, M.goB n.val.toUInt8 = (decide (48 ≤ n.val ∧ n.val ≤ 57) || decide (97 ≤ n.val ∧ n.val ≤ 122) || decide (65 ≤ n.val ∧ n.val ≤ 90) || decide (n.val = 46) || decide (n.val = 43) || decide (n.val = 45) || decide (n.val = 95)) := by decide +kernel
  exact this ⟨n, h⟩
theorem goB_c (c : UInt8) : M.goB c = (decide (48 ≤ c.toNat ∧ c.toNat ≤ 57) || decide (97 ≤ c.toNat ∧ c.toNat ≤ 122) || decide (65 ≤ c.toNat ∧ c.toNat ≤ 90) || decide (c.toNat = 46) || decide (c.toNat = 43) || decide (c.toNat = 45) || decide (c.toNat = 95)) := by
  have := goB_val c.toNat c.toNat_lt
  rwa [← u8_of c.toNat_lt rfl] at this
theorem cell_getD {w : World} {b off : Nat} {l : List UInt8} (hcl : ∀ j (h : j < l.length), w.cell? ⟨b, off + j, none⟩ = some (.int .u8 (l[j].toNat : Int))) (i : Nat) (h : i < l.length) :
    w.cell? ⟨b, off + i, none⟩ = some (.int .u8 ((l.getD i 0).toNat : Int)) := by rw [hcl i h]; simp [h]
theorem getD_out (l : List UInt8) (i : Nat) (h : l.length ≤ i) : l.getD i 0 = 0 := by simp [List.getD, List.getElem?_eq_none h]

set_option maxRecDepth 100000 in
set_option maxHeartbeats 1000000 in
theorem isdigQ_any (v : Value) (l : List UInt8) (i : Nat) (r : Bool) (w : World) (hv : Bs w v l) (hi : i ≤ 8589934592) (hl : l.length ≤ 4294967296) (hr : M.dgB (l.getD i 0) = r) :
    Calls Tryz.prog 88 #[v, .int .i64 (i : Int)] w fun e w' => e = .returned (.bool r) ∧ w = w' := by
  obtain ⟨a, cap, rfl, h1, h2, h3⟩ := hv
  obtain ⟨n, hn⟩ : ∃ n, l.length = n := ⟨_, rfl⟩
  have hout := getD_out l i
  have hcg := fun b off hcl => @cell_getD w b off l hcl i
  obtain ⟨c, hc⟩ : ∃ c, l.getD i 0 = c := ⟨_, rfl⟩
  rw [hc] at hr hout hcg
  have h4 := fun h => h3 h
  by_cases hin : i < n
  · obtain ⟨b, off, rfl, hb, hcl⟩ := h3 (by omega)
    have hci := hcg b off hcl (by omega)
    have hd := dg_iff c
    obtain ⟨N, hN⟩ : ∃ N, c.toNat = N := ⟨_, rfl⟩
    have hN9 : N < 256 := by have := c.toNat_lt; omega
    rw [hN] at hci hd
    obtain ⟨C, hC⟩ : ∃ C : Int, (N : Int) = C := ⟨_, rfl⟩
    rw [hC] at hci
    have u1 : (i : Int) < n := by omega
    rw [hn] at h1 ⊢
    have C0 : 0 ≤ C := by omega
    have hs : (N < 48) ∨ (48 ≤ N ∧ N ≤ 57) ∨ (57 < N) := by omega
    rcases hs with q | ⟨q, q2⟩ | q
    · obtain rfl : false = r := by rw [← hr, eq_comm, ← Bool.not_eq_true, hd]; omega
      have t1 : decide ((48 : Int) ≤ C) = false := by simp; omega
      clear hd hr hN hC hcg hcl hout hc h3 h4 hn hl h2
      go_enter Tryz.func88, Tryz.ntmps88
      go_wp2
      go_ret
      exact ⟨rfl, rfl⟩
    · obtain rfl : true = r := by rw [← hr, eq_comm, hd]; omega
      have t1 : decide ((48 : Int) ≤ C) = true := by simp; omega
      have t2 : decide (C ≤ (57 : Int)) = true := by simp; omega
      clear hd hr hN hC hcg hcl hout hc h3 h4 hn hl h2
      go_enter Tryz.func88, Tryz.ntmps88
      go_wp2
      go_ret
      exact ⟨rfl, rfl⟩
    · obtain rfl : false = r := by rw [← hr, eq_comm, ← Bool.not_eq_true, hd]; omega
      have t1 : decide ((48 : Int) ≤ C) = true := by simp; omega
      have t2 : decide (C ≤ (57 : Int)) = false := by simp; omega
      clear hd hr hN hC hcg hcl hout hc h3 h4 hn hl h2
      go_enter Tryz.func88, Tryz.ntmps88
      go_wp2
      go_ret
      exact ⟨rfl, rfl⟩
  · obtain rfl : c = 0 := hout (by omega)
    obtain rfl : false = r := by rw [← hr]; rfl
    have t1 : decide ((i : Int) < n) = false := by simp; omega
    rw [hn] at h1 ⊢
    clear hr hcg hout hc h3 h4 hn hl h2
    go_enter Tryz.func88, Tryz.ntmps88
    go_wp2
    go_ret
    exact ⟨rfl, rfl⟩

set_option maxRecDepth 100000 in
set_option maxHeartbeats 1000000 in
theorem ishex_any (c : UInt8) (r : Bool) (w : World) (hr : decide (48 ≤ c.toNat ∧ c.toNat ≤ 57 ∨ 97 ≤ c.toNat ∧ c.toNat ≤ 102 ∨ 65 ≤ c.toNat ∧ c.toNat ≤ 70) = r) :
    Calls Tryz.prog 121 #[.int .u8 (c.toNat : Int)] w fun e w' => e = .returned (.bool r) ∧ w = w' := by
  have hb : c.toNat < 256 := c.toNat_lt
  obtain ⟨N, hN⟩ : ∃ N, c.toNat = N := ⟨_, rfl⟩
  rw [hN] at hr hb ⊢
  obtain ⟨C, hC⟩ : ∃ C : Int, (N : Int) = C := ⟨_, rfl⟩
  rw [hC]
  have hs : (0 ≤ N ∧ N ≤ 47) ∨ (48 ≤ N ∧ N ≤ 57) ∨ (58 ≤ N ∧ N ≤ 64) ∨ (65 ≤ N ∧ N ≤ 70) ∨ (71 ≤ N ∧ N ≤ 96) ∨ (97 ≤ N ∧ N ≤ 102) ∨ (103 ≤ N ∧ N ≤ 255) := by omega
  rcases hs with ⟨a1, a2⟩ | ⟨a1, a2⟩ | ⟨a1, a2⟩ | ⟨a1, a2⟩ | ⟨a1, a2⟩ | ⟨a1, a2⟩ | ⟨a1, a2⟩
  · obtain rfl : false = r := by rw [← hr]; simp; omega
    have t0 : decide ((48 : Int) ≤ C) = false := by simp; omega
    have t1 : decide (C ≤ (57 : Int)) = true := by simp; omega
    have t2 : decide ((97 : Int) ≤ C) = false := by simp; omega
    have t3 : decide (C ≤ (102 : Int)) = true := by simp; omega
    have t4 : decide ((65 : Int) ≤ C) = false := by simp; omega
    have t5 : decide (C ≤ (70 : Int)) = true := by simp; omega
    clear hr hN hC hb a1 a2
    go_enter Tryz.func121, Tryz.ntmps121
    go_wp2
    go_ret
    exact ⟨rfl, rfl⟩
  · obtain rfl : true = r := by rw [← hr]; simp; omega
    have t0 : decide ((48 : Int) ≤ C) = true := by simp; omega
    have t1 : decide (C ≤ (57 : Int)) = true := by simp; omega
    have t2 : decide ((97 : Int) ≤ C) = false := by simp; omega
    have t3 : decide (C ≤ (102 : Int)) = true := by simp; omega
    have t4 : decide ((65 : Int) ≤ C) = false := by simp; omega
    have t5 : decide (C ≤ (70 : Int)) = true := by simp; omega
    clear hr hN hC hb a1 a2
    go_enter Tryz.func121, Tryz.ntmps121
    go_wp2
    go_ret
    exact ⟨rfl, rfl⟩
  · obtain rfl : false = r := by rw [← hr]; simp; omega
    have t0 : decide ((48 : Int) ≤ C) = true := by simp; omega
    have t1 : decide (C ≤ (57 : Int)) = false := by simp; omega
    have t2 : decide ((97 : Int) ≤ C) = false := by simp; omega
    have t3 : decide (C ≤ (102 : Int)) = true := by simp; omega
    have t4 : decide ((65 : Int) ≤ C) = false := by simp; omega
    have t5 : decide (C ≤ (70 : Int)) = true := by simp; omega
    clear hr hN hC hb a1 a2
    go_enter Tryz.func121, Tryz.ntmps121
    go_wp2
    go_ret
    exact ⟨rfl, rfl⟩
  · obtain rfl : true = r := by rw [← hr]; simp; omega
    have t0 : decide ((48 : Int) ≤ C) = true := by simp; omega
    have t1 : decide (C ≤ (57 : Int)) = false := by simp; omega
    have t2 : decide ((97 : Int) ≤ C) = false := by simp; omega
    have t3 : decide (C ≤ (102 : Int)) = true := by simp; omega
    have t4 : decide ((65 : Int) ≤ C) = true := by simp; omega
    have t5 : decide (C ≤ (70 : Int)) = true := by simp; omega
    clear hr hN hC hb a1 a2
    go_enter Tryz.func121, Tryz.ntmps121
    go_wp2
    go_ret
    exact ⟨rfl, rfl⟩
  · obtain rfl : false = r := by rw [← hr]; simp; omega
    have t0 : decide ((48 : Int) ≤ C) = true := by simp; omega
    have t1 : decide (C ≤ (57 : Int)) = false := by simp; omega
    have t2 : decide ((97 : Int) ≤ C) = false := by simp; omega
    have t3 : decide (C ≤ (102 : Int)) = true := by simp; omega
    have t4 : decide ((65 : Int) ≤ C) = true := by simp; omega
    have t5 : decide (C ≤ (70 : Int)) = false := by simp; omega
    clear hr hN hC hb a1 a2
    go_enter Tryz.func121, Tryz.ntmps121
    go_wp2
    go_ret
    exact ⟨rfl, rfl⟩
  · obtain rfl : true = r := by rw [← hr]; simp; omega
    have t0 : decide ((48 : Int) ≤ C) = true := by simp; omega
    have t1 : decide (C ≤ (57 : Int)) = false := by simp; omega
    have t2 : decide ((97 : Int) ≤ C) = true := by simp; omega
    have t3 : decide (C ≤ (102 : Int)) = true := by simp; omega
    have t4 : decide ((65 : Int) ≤ C) = true := by simp; omega
    have t5 : decide (C ≤ (70 : Int)) = false := by simp; omega
    clear hr hN hC hb a1 a2
    go_enter Tryz.func121, Tryz.ntmps121
    go_wp2
    go_ret
    exact ⟨rfl, rfl⟩
  · obtain rfl : false = r := by rw [← hr]; simp; omega
    have t0 : decide ((48 : Int) ≤ C) = true := by simp; omega
    have t1 : decide (C ≤ (57 : Int)) = false := by simp; omega
    have t2 : decide ((97 : Int) ≤ C) = true := by simp; omega
    have t3 : decide (C ≤ (102 : Int)) = false := by simp; omega
    have t4 : decide ((65 : Int) ≤ C) = true := by simp; omega
    have t5 : decide (C ≤ (70 : Int)) = false := by simp; omega
    clear hr hN hC hb a1 a2
    go_enter Tryz.func121, Tryz.ntmps121
    go_wp2
    go_ret
    exact ⟨rfl, rfl⟩
set_option maxRecDepth 100000 in
set_option maxHeartbeats 4000000 in
theorem goes_any (v : Value) (l : List UInt8) (i : Nat) (r : Bool) (w : World) (hv : Bs w v l) (hi : i ≤ l.length) (hl : l.length ≤ 4294967296) (hr : M.goB (l.getD i 0) = r) :
    Calls Tryz.prog 87 #[v, .int .i64 (i : Int)] w fun e w' => e = .returned (.bool r) ∧ w = w' := by
  have D := Lib.hid (fun d hd => isdigQ_any v l i d w hv (by omega) hl hd)
  obtain ⟨a, cap, rfl, h1, h2, h3⟩ := hv
  obtain ⟨n, hn⟩ : ∃ n, l.length = n := ⟨_, rfl⟩
  have hout := getD_out l i
  have hcg := fun b off hcl => @cell_getD w b off l hcl i
  obtain ⟨c, hc⟩ : ∃ c, l.getD i 0 = c := ⟨_, rfl⟩
  rw [hc] at hr hout hcg D
  rw [goB_c] at hr
  have hd := dg_iff c
  by_cases hin : i < n
  · obtain ⟨b, off, rfl, hb, hcl⟩ := h3 (by omega)
    have hci := hcg b off hcl (by omega)
    obtain ⟨N, hN⟩ : ∃ N, c.toNat = N := ⟨_, rfl⟩
    have hN9 : N < 256 := by have := c.toNat_lt; omega
    rw [hN] at hci hd hr
    obtain ⟨C, hC⟩ : ∃ C : Int, (N : Int) = C := ⟨_, rfl⟩
    rw [hC] at hci
    have u1 : (i : Int) < n := by omega
    have u2 : ((i : Int) == n) = false := by rw [beq_eq_false_iff_ne]; omega
    rw [hn] at h1 D ⊢
    have C0 : 0 ≤ C := by omega
    have hs : (0 ≤ N ∧ N ≤ 42) ∨ (43 ≤ N ∧ N ≤ 43) ∨ (44 ≤ N ∧ N ≤ 44) ∨ (45 ≤ N ∧ N ≤ 45) ∨ (46 ≤ N ∧ N ≤ 46) ∨ (47 ≤ N ∧ N ≤ 47) ∨ (48 ≤ N ∧ N ≤ 57) ∨ (58 ≤ N ∧ N ≤ 64) ∨ (65 ≤ N ∧ N ≤ 90) ∨ (91 ≤ N ∧ N ≤ 94) ∨ (95 ≤ N ∧ N ≤ 95) ∨ (96 ≤ N ∧ N ≤ 96) ∨ (97 ≤ N ∧ N ≤ 122) ∨ (123 ≤ N ∧ N ≤ 255) := by omega
    rcases hs with ⟨a1, a2⟩ | ⟨a1, a2⟩ | ⟨a1, a2⟩ | ⟨a1, a2⟩ | ⟨a1, a2⟩ | ⟨a1, a2⟩ | ⟨a1, a2⟩ | ⟨a1, a2⟩ | ⟨a1, a2⟩ | ⟨a1, a2⟩ | ⟨a1, a2⟩ | ⟨a1, a2⟩ | ⟨a1, a2⟩ | ⟨a1, a2⟩
    · obtain rfl : false = r := by rw [← hr]; simp; omega
      have hdd : M.dgB c = false := by rw [← Bool.not_eq_true, hd]; omega
      have DD := Lib.hid (D.out _ hdd)
      have t0 : decide ((97 : Int) ≤ C) = false := by simp; omega
      have t1 : decide (C ≤ (122 : Int)) = true := by simp; omega
      have t2 : decide ((65 : Int) ≤ C) = false := by simp; omega
      have t3 : decide (C ≤ (90 : Int)) = true := by simp; omega
      have t4 : (C == 46) = false := by rw [beq_eq_false_iff_ne]; omega
      have t5 : (C == 43) = false := by rw [beq_eq_false_iff_ne]; omega
      have t6 : (C == 45) = false := by rw [beq_eq_false_iff_ne]; omega
      have t7 : (C == 95) = false := by rw [beq_eq_false_iff_ne]; omega
      clear hd hr hN hC hcg hcl hout hc h3 hn hl h2 a1 a2 hdd D
      go_enter Tryz.func87, Tryz.ntmps87
      go_wp2_with fail
      refine DD.out.mono ?_
      rintro e w' ⟨rfl, rfl⟩
      go_wp2
      go_ret
      exact ⟨rfl, rfl⟩
    · obtain rfl : true = r := by rw [← hr]; simp; omega
      have hdd : M.dgB c = false := by rw [← Bool.not_eq_true, hd]; omega
      have DD := Lib.hid (D.out _ hdd)
      have t0 : decide ((97 : Int) ≤ C) = false := by simp; omega
      have t1 : decide (C ≤ (122 : Int)) = true := by simp; omega
      have t2 : decide ((65 : Int) ≤ C) = false := by simp; omega
      have t3 : decide (C ≤ (90 : Int)) = true := by simp; omega
      have t4 : (C == 46) = false := by rw [beq_eq_false_iff_ne]; omega
      have t5 : (C == 43) = true := by rw [beq_iff_eq]; omega
      have t6 : (C == 45) = false := by rw [beq_eq_false_iff_ne]; omega
      have t7 : (C == 95) = false := by rw [beq_eq_false_iff_ne]; omega
      clear hd hr hN hC hcg hcl hout hc h3 hn hl h2 a1 a2 hdd D
      go_enter Tryz.func87, Tryz.ntmps87
      go_wp2_with fail
      refine DD.out.mono ?_
      rintro e w' ⟨rfl, rfl⟩
      go_wp2
      go_ret
      exact ⟨rfl, rfl⟩
    · obtain rfl : false = r := by rw [← hr]; simp; omega
      have hdd : M.dgB c = false := by rw [← Bool.not_eq_true, hd]; omega
      have DD := Lib.hid (D.out _ hdd)
      have t0 : decide ((97 : Int) ≤ C) = false := by simp; omega
      have t1 : decide (C ≤ (122 : Int)) = true := by simp; omega
      have t2 : decide ((65 : Int) ≤ C) = false := by simp; omega
      have t3 : decide (C ≤ (90 : Int)) = true := by simp; omega
      have t4 : (C == 46) = false := by rw [beq_eq_false_iff_ne]; omega
      have t5 : (C == 43) = false := by rw [beq_eq_false_iff_ne]; omega
      have t6 : (C == 45) = false := by rw [beq_eq_false_iff_ne]; omega
      have t7 : (C == 95) = false := by rw [beq_eq_false_iff_ne]; omega
      clear hd hr hN hC hcg hcl hout hc h3 hn hl h2 a1 a2 hdd D
      go_enter Tryz.func87, Tryz.ntmps87
      go_wp2_with fail
      refine DD.out.mono ?_
      rintro e w' ⟨rfl, rfl⟩
      go_wp2
      go_ret
      exact ⟨rfl, rfl⟩
    · obtain rfl : true = r := by rw [← hr]; simp; omega
      have hdd : M.dgB c = false := by rw [← Bool.not_eq_true, hd]; omega
      have DD := Lib.hid (D.out _ hdd)
      have t0 : decide ((97 : Int) ≤ C) = false := by simp; omega
      have t1 : decide (C ≤ (122 : Int)) = true := by simp; omega
      have t2 : decide ((65 : Int) ≤ C) = false := by simp; omega
      have t3 : decide (C ≤ (90 : Int)) = true := by simp; omega
      have t4 : (C == 46) = false := by rw [beq_eq_false_iff_ne]; omega
      have t5 : (C == 43) = false := by rw [beq_eq_false_iff_ne]; omega
      have t6 : (C == 45) = true := by rw [beq_iff_eq]; omega
      have t7 : (C == 95) = false := by rw [beq_eq_false_iff_ne]; omega
      clear hd hr hN hC hcg hcl hout hc h3 hn hl h2 a1 a2 hdd D
      go_enter Tryz.func87, Tryz.ntmps87
      go_wp2_with fail
      refine DD.out.mono ?_
      rintro e w' ⟨rfl, rfl⟩
      go_wp2
      go_ret
      exact ⟨rfl, rfl⟩
    · obtain rfl : true = r := by rw [← hr]; simp; omega
      have hdd : M.dgB c = false := by rw [← Bool.not_eq_true, hd]; omega
      have DD := Lib.hid (D.out _ hdd)
      have t0 : decide ((97 : Int) ≤ C) = false := by simp; omega
      have t1 : decide (C ≤ (122 : Int)) = true := by simp; omega
      have t2 : decide ((65 : Int) ≤ C) = false := by simp; omega
      have t3 : decide (C ≤ (90 : Int)) = true := by simp; omega
      have t4 : (C == 46) = true := by rw [beq_iff_eq]; omega
      have t5 : (C == 43) = false := by rw [beq_eq_false_iff_ne]; omega
      have t6 : (C == 45) = false := by rw [beq_eq_false_iff_ne]; omega
      have t7 : (C == 95) = false := by rw [beq_eq_false_iff_ne]; omega
      clear hd hr hN hC hcg hcl hout hc h3 hn hl h2 a1 a2 hdd D
      go_enter Tryz.func87, Tryz.ntmps87
      go_wp2_with fail
      refine DD.out.mono ?_
      rintro e w' ⟨rfl, rfl⟩
      go_wp2
      go_ret
      exact ⟨rfl, rfl⟩
    · obtain rfl : false = r := by rw [← hr]; simp; omega
      have hdd : M.dgB c = false := by rw [← Bool.not_eq_true, hd]; omega
      have DD := Lib.hid (D.out _ hdd)
      have t0 : decide ((97 : Int) ≤ C) = false := by simp; omega
      have t1 : decide (C ≤ (122 : Int)) = true := by simp; omega
      have t2 : decide ((65 : Int) ≤ C) = false := by simp; omega
      have t3 : decide (C ≤ (90 : Int)) = true := by simp; omega
      have t4 : (C == 46) = false := by rw [beq_eq_false_iff_ne]; omega
      have t5 : (C == 43) = false := by rw [beq_eq_false_iff_ne]; omega
      have t6 : (C == 45) = false := by rw [beq_eq_false_iff_ne]; omega
      have t7 : (C == 95) = false := by rw [beq_eq_false_iff_ne]; omega
      clear hd hr hN hC hcg hcl hout hc h3 hn hl h2 a1 a2 hdd D
      go_enter Tryz.func87, Tryz.ntmps87
      go_wp2_with fail
      refine DD.out.mono ?_
      rintro e w' ⟨rfl, rfl⟩
      go_wp2
      go_ret
      exact ⟨rfl, rfl⟩
    · obtain rfl : true = r := by rw [← hr]; simp; omega
      have hdd : M.dgB c = true := by rw [hd]; omega
      have DD := Lib.hid (D.out _ hdd)
      have t0 : decide ((97 : Int) ≤ C) = false := by simp; omega
      have t1 : decide (C ≤ (122 : Int)) = true := by simp; omega
      have t2 : decide ((65 : Int) ≤ C) = false := by simp; omega
      have t3 : decide (C ≤ (90 : Int)) = true := by simp; omega
      have t4 : (C == 46) = false := by rw [beq_eq_false_iff_ne]; omega
      have t5 : (C == 43) = false := by rw [beq_eq_false_iff_ne]; omega
      have t6 : (C == 45) = false := by rw [beq_eq_false_iff_ne]; omega
      have t7 : (C == 95) = false := by rw [beq_eq_false_iff_ne]; omega
      clear hd hr hN hC hcg hcl hout hc h3 hn hl h2 a1 a2 hdd D
      go_enter Tryz.func87, Tryz.ntmps87
      go_wp2_with fail
      refine DD.out.mono ?_
      rintro e w' ⟨rfl, rfl⟩
      go_wp2
      go_ret
      exact ⟨rfl, rfl⟩
    · obtain rfl : false = r := by rw [← hr]; simp; omega
      have hdd : M.dgB c = false := by rw [← Bool.not_eq_true, hd]; omega
      have DD := Lib.hid (D.out _ hdd)
      have t0 : decide ((97 : Int) ≤ C) = false := by simp; omega
      have t1 : decide (C ≤ (122 : Int)) = true := by simp; omega
      have t2 : decide ((65 : Int) ≤ C) = false := by simp; omega
      have t3 : decide (C ≤ (90 : Int)) = true := by simp; omega
      have t4 : (C == 46) = false := by rw [beq_eq_false_iff_ne]; omega
      have t5 : (C == 43) = false := by rw [beq_eq_false_iff_ne]; omega
      have t6 : (C == 45) = false := by rw [beq_eq_false_iff_ne]; omega
      have t7 : (C == 95) = false := by rw [beq_eq_false_iff_ne]; omega
      clear hd hr hN hC hcg hcl hout hc h3 hn hl h2 a1 a2 hdd D
      go_enter Tryz.func87, Tryz.ntmps87
      go_wp2_with fail
      refine DD.out.mono ?_
      rintro e w' ⟨rfl, rfl⟩
      go_wp2
      go_ret
      exact ⟨rfl, rfl⟩
    · obtain rfl : true = r := by rw [← hr]; simp; omega
      have hdd : M.dgB c = false := by rw [← Bool.not_eq_true, hd]; omega
      have DD := Lib.hid (D.out _ hdd)
      have t0 : decide ((97 : Int) ≤ C) = false := by simp; omega
      have t1 : decide (C ≤ (122 : Int)) = true := by simp; omega
      have t2 : decide ((65 : Int) ≤ C) = true := by simp; omega
      have t3 : decide (C ≤ (90 : Int)) = true := by simp; omega
      have t4 : (C == 46) = false := by rw [beq_eq_false_iff_ne]; omega
      have t5 : (C == 43) = false := by rw [beq_eq_false_iff_ne]; omega
      have t6 : (C == 45) = false := by rw [beq_eq_false_iff_ne]; omega
      have t7 : (C == 95) = false := by rw [beq_eq_false_iff_ne]; omega
      clear hd hr hN hC hcg hcl hout hc h3 hn hl h2 a1 a2 hdd D
      go_enter Tryz.func87, Tryz.ntmps87
      go_wp2_with fail
      refine DD.out.mono ?_
      rintro e w' ⟨rfl, rfl⟩
      go_wp2
      go_ret
      exact ⟨rfl, rfl⟩
    · obtain rfl : false = r := by rw [← hr]; simp; omega
      have hdd : M.dgB c = false := by rw [← Bool.not_eq_true, hd]; omega
      have DD := Lib.hid (D.out _ hdd)
      have t0 : decide ((97 : Int) ≤ C) = false := by simp; omega
      have t1 : decide (C ≤ (122 : Int)) = true := by simp; omega
      have t2 : decide ((65 : Int) ≤ C) = true := by simp; omega
      have t3 : decide (C ≤ (90 : Int)) = false := by simp; omega
      have t4 : (C == 46) = false := by rw [beq_eq_false_iff_ne]; omega
      have t5 : (C == 43) = false := by rw [beq_eq_false_iff_ne]; omega
      have t6 : (C == 45) = false := by rw [beq_eq_false_iff_ne]; omega
      have t7 : (C == 95) = false := by rw [beq_eq_false_iff_ne]; omega
      clear hd hr hN hC hcg hcl hout hc h3 hn hl h2 a1 a2 hdd D
      go_enter Tryz.func87, Tryz.ntmps87
      go_wp2_with fail
      refine DD.out.mono ?_
      rintro e w' ⟨rfl, rfl⟩
      go_wp2
      go_ret
      exact ⟨rfl, rfl⟩
    · obtain rfl : true = r := by rw [← hr]; simp; omega
      have hdd : M.dgB c = false := by rw [← Bool.not_eq_true, hd]; omega
      have DD := Lib.hid (D.out _ hdd)
      have t0 : decide ((97 : Int) ≤ C) = false := by simp; omega
      have t1 : decide (C ≤ (122 : Int)) = true := by simp; omega
      have t2 : decide ((65 : Int) ≤ C) = true := by simp; omega
      have t3 : decide (C ≤ (90 : Int)) = false := by simp; omega
      have t4 : (C == 46) = false := by rw [beq_eq_false_iff_ne]; omega
      have t5 : (C == 43) = false := by rw [beq_eq_false_iff_ne]; omega
      have t6 : (C == 45) = false := by rw [beq_eq_false_iff_ne]; omega
      have t7 : (C == 95) = true := by rw [beq_iff_eq]; omega
      clear hd hr hN hC hcg hcl hout hc h3 hn hl h2 a1 a2 hdd D
      go_enter Tryz.func87, Tryz.ntmps87
      go_wp2_with fail
      refine DD.out.mono ?_
      rintro e w' ⟨rfl, rfl⟩
      go_wp2
      go_ret
      exact ⟨rfl, rfl⟩
    · obtain rfl : false = r := by rw [← hr]; simp; omega
      have hdd : M.dgB c = false := by rw [← Bool.not_eq_true, hd]; omega
      have DD := Lib.hid (D.out _ hdd)
      have t0 : decide ((97 : Int) ≤ C) = false := by simp; omega
      have t1 : decide (C ≤ (122 : Int)) = true := by simp; omega
      have t2 : decide ((65 : Int) ≤ C) = true := by simp; omega
      have t3 : decide (C ≤ (90 : Int)) = false := by simp; omega
      have t4 : (C == 46) = false := by rw [beq_eq_false_iff_ne]; omega
      have t5 : (C == 43) = false := by rw [beq_eq_false_iff_ne]; omega
      have t6 : (C == 45) = false := by rw [beq_eq_false_iff_ne]; omega
      have t7 : (C == 95) = false := by rw [beq_eq_false_iff_ne]; omega
      clear hd hr hN hC hcg hcl hout hc h3 hn hl h2 a1 a2 hdd D
      go_enter Tryz.func87, Tryz.ntmps87
      go_wp2_with fail
      refine DD.out.mono ?_
      rintro e w' ⟨rfl, rfl⟩
      go_wp2
      go_ret
      exact ⟨rfl, rfl⟩
    · obtain rfl : true = r := by rw [← hr]; simp; omega
      have hdd : M.dgB c = false := by rw [← Bool.not_eq_true, hd]; omega
      have DD := Lib.hid (D.out _ hdd)
      have t0 : decide ((97 : Int) ≤ C) = true := by simp; omega
      have t1 : decide (C ≤ (122 : Int)) = true := by simp; omega
      have t2 : decide ((65 : Int) ≤ C) = true := by simp; omega
      have t3 : decide (C ≤ (90 : Int)) = false := by simp; omega
      have t4 : (C == 46) = false := by rw [beq_eq_false_iff_ne]; omega
      have t5 : (C == 43) = false := by rw [beq_eq_false_iff_ne]; omega
      have t6 : (C == 45) = false := by rw [beq_eq_false_iff_ne]; omega
      have t7 : (C == 95) = false := by rw [beq_eq_false_iff_ne]; omega
      clear hd hr hN hC hcg hcl hout hc h3 hn hl h2 a1 a2 hdd D
      go_enter Tryz.func87, Tryz.ntmps87
      go_wp2_with fail
      refine DD.out.mono ?_
      rintro e w' ⟨rfl, rfl⟩
      go_wp2
      go_ret
      exact ⟨rfl, rfl⟩
    · obtain rfl : false = r := by rw [← hr]; simp; omega
      have hdd : M.dgB c = false := by rw [← Bool.not_eq_true, hd]; omega
      have DD := Lib.hid (D.out _ hdd)
      have t0 : decide ((97 : Int) ≤ C) = true := by simp; omega
      have t1 : decide (C ≤ (122 : Int)) = false := by simp; omega
      have t2 : decide ((65 : Int) ≤ C) = true := by simp; omega
      have t3 : decide (C ≤ (90 : Int)) = false := by simp; omega
      have t4 : (C == 46) = false := by rw [beq_eq_false_iff_ne]; omega
      have t5 : (C == 43) = false := by rw [beq_eq_false_iff_ne]; omega
      have t6 : (C == 45) = false := by rw [beq_eq_false_iff_ne]; omega
      have t7 : (C == 95) = false := by rw [beq_eq_false_iff_ne]; omega
      clear hd hr hN hC hcg hcl hout hc h3 hn hl h2 a1 a2 hdd D
      go_enter Tryz.func87, Tryz.ntmps87
      go_wp2_with fail
      refine DD.out.mono ?_
      rintro e w' ⟨rfl, rfl⟩
      go_wp2
      go_ret
      exact ⟨rfl, rfl⟩
  · obtain rfl : c = 0 := hout (by omega)
    obtain rfl : false = r := by rw [← hr]; rfl
    have t1 : ((i : Int) == n) = true := by rw [beq_iff_eq]; omega
    rw [hn] at h1 ⊢
    clear hr hcg hout hc h3 hn hl h2 D hd
    go_enter Tryz.func87, Tryz.ntmps87
    go_wp2
    go_ret
    exact ⟨rfl, rfl⟩

end Go.Proofs.YtlobinjdgcidmaaGreatDoor
/- What the functions of jlex that read numbers and words return, for any bytes. -/
namespace Go.Proofs.YtlobinjdgcidmaaGreatDoor
open Go.RowKit
set_option linter.unusedVariables false
set_option linter.unusedSimpArgs false

theorem run_at (l : List UInt8) (i : Nat) : (M.dgB (l.getD i 0) = true → i + M.run (l.drop i) = i + 1 + M.run (l.drop (i + 1))) ∧ (M.dgB (l.getD i 0) = false → i + M.run (l.drop i) = i) := by
  by_cases h : i < l.length
  · have e : l.drop i = l[i] :: l.drop (i + 1) := List.drop_eq_getElem_cons h
    have g : l.getD i 0 = l[i] := by simp [h]
    rw [e, g, show M.run (l[i] :: l.drop (i + 1)) = if M.dgB l[i] then M.run (l.drop (i + 1)) + 1 else 0 from rfl]
    constructor
    · intro hd; rw [if_pos hd]; omega
    · intro hd; rw [if_neg (by simp [hd])]; rfl
  · rw [getD_out l i (by omega), List.drop_eq_nil_of_le (by omega)]
    exact ⟨fun h => absurd h (by decide), fun _ => by simp [M.run]⟩
theorem lead_at (l : List UInt8) (i : Nat) : (M.blB (l.getD i 0) = true → i + M.lead (l.drop i) = i + 1 + M.lead (l.drop (i + 1))) ∧ (M.blB (l.getD i 0) = false → i + M.lead (l.drop i) = i) := by
  by_cases h : i < l.length
  · have e : l.drop i = l[i] :: l.drop (i + 1) := List.drop_eq_getElem_cons h
    have g : l.getD i 0 = l[i] := by simp [h]
    rw [e, g, show M.lead (l[i] :: l.drop (i + 1)) = if M.blB l[i] then M.lead (l.drop (i + 1)) + 1 else 0 from rfl]
    constructor
    · intro hd; rw [if_pos hd]; omega
    · intro hd; rw [if_neg (by simp [hd])]; rfl
  · rw [getD_out l i (by omega), List.drop_eq_nil_of_le (by omega)]
    exact ⟨fun h => absurd h (by decide), fun _ => by simp [M.lead]⟩

set_option maxRecDepth 100000 in
set_option maxHeartbeats 1000000 in
theorem skipd_any (v : Value) (l : List UInt8) (i r : Nat) (w : World) (hv : Bs w v l) (hi : i ≤ l.length) (hl : l.length ≤ 4294967296) (hr : i + M.run (l.drop i) = r) :
    Calls Tryz.prog 89 #[v, .int .i64 (i : Int)] w fun e w' => e = .returned (.int .i64 (r : Int)) ∧ w = w' := by
  obtain ⟨n, hn⟩ : ∃ n, l.length = n := ⟨_, rfl⟩
  have Hv := Lib.hid hv
  have Hr := Lib.hid hr
  have Hn := Lib.hid hn
  rw [hn] at hi hl
  clear hv hr hn
  go_enter Tryz.func89, Tryz.ntmps89
  go_wp2
  go_loop [1] (fun iv => ∃ j : Nat, iv = .int .i64 (j : Int) ∧ j ≤ n ∧ j + M.run (l.drop j) = r) (fun iv => n - (intOf iv).toNat)
  case atStart => exact ⟨i, rfl, hi, Hr.out⟩
  case round =>
    obtain ⟨j, rfl, hj, hx⟩ := hrel
    obtain ⟨r1, r2⟩ := run_at l j
    have DD := fun d hd => isdigQ_any v l j d w Hv.out (by omega) (by rw [Hn.out]; omega) hd
    have hin := M.dg_in l j
    cases hd : M.dgB (l.getD j 0) with
    | true =>
      have hlt := hin hd
      rw [Hn.out] at hlt
      have Hx := Lib.hid ((r1 hd).symm.trans hx)
      have D1 := Lib.hid (DD true hd)
      clear DD r1 r2 hin hd hx
      go_wp2_with fail
      refine D1.out.mono ?_
      rintro e w' ⟨rfl, rfl⟩
      go_wp2
      go_round
      case rel => exact ⟨j + 1, by go_num, by omega, Hx.out⟩
      case measure => simp [intOf]; omega
    | false =>
      have Hx := Lib.hid ((r2 hd).symm.trans hx)
      have D1 := Lib.hid (DD false hd)
      clear DD r1 r2 hin hd hx
      go_wp2_with fail
      refine D1.out.mono ?_
      rintro e w' ⟨rfl, rfl⟩
      go_wp2
      go_ret
      exact ⟨by rw [Hx.out]; rfl, rfl⟩

set_option maxRecDepth 100000 in
set_option maxHeartbeats 1000000 in
theorem frac_any (v : Value) (l : List UInt8) (i r : Nat) (w : World) (hv : Bs w v l) (hi : i ≤ l.length) (hl : l.length ≤ 4294967296) (hr : i + M.frac (l.drop i) = r) :
    Calls Tryz.prog 91 #[v, .int .i64 (i : Int)] w fun e w' => e = .returned (.int .i64 (r : Int)) ∧ w = w' := by
  have D := Lib.hid (fun d hd => isdigQ_any v l (i + 1) d w hv (by omega) hl hd)
  have S := Lib.hid (fun r h hr => skipd_any v l (i + 1) r w hv h hl hr)
  have hin1 := M.dg_in l (i + 1)
  obtain ⟨a, cap, rfl, h1, h2, h3⟩ := hv
  obtain ⟨n, hn⟩ : ∃ n, l.length = n := ⟨_, rfl⟩
  have hout := getD_out l i
  have hcg := fun b off hcl => @cell_getD w b off l hcl i
  unfold M.frac at hr
  simp only [M.drop_getD, Nat.add_zero, List.drop_drop] at hr
  obtain ⟨c, hc⟩ : ∃ c, l.getD i 0 = c := ⟨_, rfl⟩
  rw [hc] at hr hout hcg
  have i4 : ((i : Int) + 1).toNat = i + 1 := by omega
  by_cases hlt : i < n
  · obtain ⟨b, off, rfl, hb, hcl⟩ := h3 (by omega)
    have hci := hcg b off hcl (by omega)
    obtain ⟨C, hC⟩ : ∃ C : Int, (c.toNat : Int) = C := ⟨_, rfl⟩
    rw [hC] at hci
    have u1 : (i : Int) < n := by omega
    by_cases h46 : c = 46
    · have t1 : (C == 46) = true := by rw [beq_iff_eq, ← hC, h46]; rfl
      cases hd : M.dgB (l.getD (i + 1) 0) with
      | true =>
        rw [if_pos ⟨h46, hd⟩] at hr
        have D1 := Lib.hid (D.out true hd)
        have S1 := Lib.hid (S.out r (by have := hin1 hd; omega) (by omega))
        have e2 : (((i + 1 : Nat)) : Int) = (i : Int) + 1 := by omega
        rw [hn] at h1 hl D1 S1 ⊢
        rw [e2] at D1 S1
        clear e2 D S hd hr hC hcg hcl hout hc h3 hn h2 h46 hin1 hi
        go_enter Tryz.func91, Tryz.ntmps91
        go_wp2_with fail
        refine D1.out.mono ?_
        rintro e w' ⟨rfl, rfl⟩
        go_wp2_with fail
        refine S1.out.mono ?_
        rintro e w' ⟨rfl, rfl⟩
        go_wp2
        go_ret
        exact ⟨rfl, rfl⟩
      | false =>
        rw [if_neg (by rw [hd]; simp)] at hr
        obtain rfl : i = r := by omega
        have D1 := Lib.hid (D.out false hd)
        have e2 : (((i + 1 : Nat)) : Int) = (i : Int) + 1 := by omega
        rw [hn] at h1 hl D1 ⊢
        rw [e2] at D1
        clear e2 D S hd hr hC hcg hcl hout hc h3 hn h2 h46 hin1 hi
        go_enter Tryz.func91, Tryz.ntmps91
        go_wp2_with fail
        refine D1.out.mono ?_
        rintro e w' ⟨rfl, rfl⟩
        go_wp2
        go_ret
        exact ⟨rfl, rfl⟩
    · have t1 : (C == 46) = false := by rw [beq_eq_false_iff_ne]; intro hh; apply h46; apply UInt8.toNat_inj.1; show c.toNat = 46; omega
      rw [if_neg (fun hh => h46 hh.1)] at hr
      obtain rfl : i = r := by omega
      rw [hn] at h1 hl ⊢
      clear D S hr hC hcg hcl hout hc h3 hn h2 h46 hin1 hi
      go_enter Tryz.func91, Tryz.ntmps91
      go_wp2
      go_ret
      exact ⟨rfl, rfl⟩
  · obtain rfl : c = 0 := hout (by omega)
    rw [if_neg (by simp)] at hr
    obtain rfl : i = r := by omega
    have t1 : decide ((i : Int) < n) = false := by simp; omega
    rw [hn] at h1 hl ⊢
    clear D S hr hcg hout hc h3 hn h2 hin1 hi
    go_enter Tryz.func91, Tryz.ntmps91
    go_wp2
    go_ret
    exact ⟨rfl, rfl⟩

set_option maxRecDepth 100000 in
set_option maxHeartbeats 2000000 in
theorem expoQ_any (v : Value) (l : List UInt8) (i r : Nat) (w : World) (hv : Bs w v l) (hi : i ≤ l.length) (hl : l.length ≤ 4294967296) (hr : i + M.expo (l.drop i) = r) :
    Calls Tryz.prog 90 #[v, .int .i64 (i : Int)] w fun e w' => e = .returned (.int .i64 (r : Int)) ∧ w = w' := by
  have D := Lib.hid (fun q d hq hd => isdigQ_any v l q d w hv hq hl hd)
  have S := Lib.hid (fun q r h hr => skipd_any v l q r w hv h hl hr)
  have hin1 := fun q => M.dg_in l q
  obtain ⟨a, cap, rfl, h1, h2, h3⟩ := hv
  obtain ⟨n, hn⟩ : ∃ n, l.length = n := ⟨_, rfl⟩
  have hout := getD_out l i
  have hout1 := getD_out l (i + 1)
  have hcg := fun b off hcl => @cell_getD w b off l hcl
  unfold M.expo M.sgnQ at hr
  simp only [M.drop_getD, Nat.add_zero, List.drop_drop] at hr
  obtain ⟨c, hc⟩ : ∃ c, l.getD i 0 = c := ⟨_, rfl⟩
  rw [hc] at hr hout
  have i4 : ((i : Int) + 1).toNat = i + 1 := by omega
  by_cases hlt : i < n
  · obtain ⟨b, off, rfl, hb, hcl⟩ := h3 (by omega)
    have hci := hcg b off hcl i (by omega)
    rw [hc] at hci
    obtain ⟨C, hC⟩ : ∃ C : Int, (c.toNat : Int) = C := ⟨_, rfl⟩
    rw [hC] at hci
    have u1 : (i : Int) < n := by omega
    have u2 : ((i : Int) == n) = false := by rw [beq_eq_false_iff_ne]; omega
    by_cases he : c = 101 ∨ c = 69
    · have t12 : ((C != 101) = true ∧ (C != 69) = false) ∨ ((C != 101) = false) := by
        rcases he with rfl | rfl
        · right; simp [← hC]
        · left; constructor <;> simp [← hC]
      rw [if_pos he] at hr
      obtain ⟨d, hd⟩ : ∃ d, l.getD (i + 1) 0 = d := ⟨_, rfl⟩
      rw [hd] at hr hout1
      by_cases hlt1 : i + 1 < n
      · have hcd := hcg b off hcl (i + 1) (by omega)
        rw [hd] at hcd
        obtain ⟨E, hE⟩ : ∃ C : Int, (d.toNat : Int) = C := ⟨_, rfl⟩
        rw [hE] at hcd
        have v1 : decide ((i : Int) + 1 < n) = true := by simp; omega
        have v2 : (i : Int) + 1 < n := by omega
        by_cases hs : d = 43 ∨ d = 45
        · have t34 : ((E == 43) = false ∧ (E == 45) = true) ∨ ((E == 43) = true) := by
            rcases hs with rfl | rfl
            · right; simp [← hE]
            · left; constructor <;> simp [← hE]
          rw [if_pos hs] at hr
          cases hdd : M.dgB (l.getD (i + 2) 0) with
          | true =>
            rw [if_pos hdd] at hr
            have D1 := Lib.hid (D.out (i + 2) true (by omega) hdd)
            have S1 := Lib.hid (S.out (i + 2) r (by have := hin1 _ hdd; omega) (by omega))
            have e2 : (((i + 2 : Nat)) : Int) = (i : Int) + 1 + 1 := by omega
            rw [hn] at h1 hl D1 S1 ⊢
            rw [e2] at D1 S1
            clear D S hd hdd hr hC hE hcg hcl hout hout1 hc h3 hn h2 he hs hin1 hi e2
            rcases t12 with ⟨t1, t2⟩ | t1
            all_goals
              rcases t34 with ⟨t3, t4⟩ | t3
              all_goals
                go_enter Tryz.func90, Tryz.ntmps90
                go_wp2_with fail
                refine D1.out.mono ?_
                rintro e w' ⟨rfl, rfl⟩
                go_wp2_with fail
                refine S1.out.mono ?_
                rintro e w' ⟨rfl, rfl⟩
                go_wp2
                go_ret
                exact ⟨rfl, rfl⟩
          | false =>
            rw [if_neg (by rw [hdd]; simp)] at hr
            obtain rfl : i = r := by omega
            have D1 := Lib.hid (D.out (i + 2) false (by omega) hdd)
            have e2 : (((i + 2 : Nat)) : Int) = (i : Int) + 1 + 1 := by omega
            rw [hn] at h1 hl D1 ⊢
            rw [e2] at D1
            clear D S hd hdd hr hC hE hcg hcl hout hout1 hc h3 hn h2 he hs hin1 hi e2
            rcases t12 with ⟨t1, t2⟩ | t1
            all_goals
              rcases t34 with ⟨t3, t4⟩ | t3
              all_goals
                go_enter Tryz.func90, Tryz.ntmps90
                go_wp2_with fail
                refine D1.out.mono ?_
                rintro e w' ⟨rfl, rfl⟩
                go_wp2
                go_ret
                exact ⟨rfl, rfl⟩
        · have t3 : (E == 43) = false := by rw [beq_eq_false_iff_ne]; intro hh; apply hs; left; apply UInt8.toNat_inj.1; show d.toNat = 43; omega
          have t4 : (E == 45) = false := by rw [beq_eq_false_iff_ne]; intro hh; apply hs; right; apply UInt8.toNat_inj.1; show d.toNat = 45; omega
          rw [if_neg hs] at hr
          have e2 : (((i + 1 : Nat)) : Int) = (i : Int) + 1 := by omega
          cases hdd : M.dgB d with
          | true =>
            rw [hd, if_pos hdd] at hr
            have hdd' : M.dgB (l.getD (i + 1) 0) = true := by rw [hd]; exact hdd
            have D1 := Lib.hid (D.out (i + 1) true (by omega) hdd')
            have S1 := Lib.hid (S.out (i + 1) r (by omega) (by omega))
            rw [hn] at h1 hl D1 S1 ⊢
            rw [e2] at D1 S1
            clear D S hd hdd hdd' hr hC hE hcg hcl hout hout1 hc h3 hn h2 he hs hin1 hi e2
            rcases t12 with ⟨t1, t2⟩ | t1
            all_goals
              go_enter Tryz.func90, Tryz.ntmps90
              go_wp2_with fail
              refine D1.out.mono ?_
              rintro e w' ⟨rfl, rfl⟩
              go_wp2_with fail
              refine S1.out.mono ?_
              rintro e w' ⟨rfl, rfl⟩
              go_wp2
              go_ret
              exact ⟨rfl, rfl⟩
          | false =>
            rw [hd, if_neg (by rw [hdd]; simp)] at hr
            obtain rfl : i = r := by omega
            have hdd' : M.dgB (l.getD (i + 1) 0) = false := by rw [hd]; exact hdd
            have D1 := Lib.hid (D.out (i + 1) false (by omega) hdd')
            rw [hn] at h1 hl D1 ⊢
            rw [e2] at D1
            clear D S hd hdd hdd' hr hC hE hcg hcl hout hout1 hc h3 hn h2 he hs hin1 hi e2
            rcases t12 with ⟨t1, t2⟩ | t1
            all_goals
              go_enter Tryz.func90, Tryz.ntmps90
              go_wp2_with fail
              refine D1.out.mono ?_
              rintro e w' ⟨rfl, rfl⟩
              go_wp2
              go_ret
              exact ⟨rfl, rfl⟩
      · obtain rfl : d = 0 := hout1 (by omega)
        have v1 : decide ((i : Int) + 1 < n) = false := by simp; omega
        rw [if_neg (show ¬ ((0 : UInt8) = 43 ∨ (0 : UInt8) = 45) by decide), hd, if_neg (by decide)] at hr
        obtain rfl : i = r := by omega
        have e2 : (((i + 1 : Nat)) : Int) = (i : Int) + 1 := by omega
        have D1 := Lib.hid (D.out (i + 1) false (by omega) (by rw [hd]; rfl))
        rw [hn] at h1 hl D1 ⊢
        rw [e2] at D1
        clear D S hd hr hC hcg hcl hout hout1 hc h3 hn h2 he hin1 hi e2
        rcases t12 with ⟨t1, t2⟩ | t1
        all_goals
          go_enter Tryz.func90, Tryz.ntmps90
          go_wp2_with fail
          refine D1.out.mono ?_
          rintro e w' ⟨rfl, rfl⟩
          go_wp2
          go_ret
          exact ⟨rfl, rfl⟩
    · have t1 : (C != 101) = true := by rw [bne_iff_ne]; intro hh; apply he; left; apply UInt8.toNat_inj.1; show c.toNat = 101; omega
      have t2 : (C != 69) = true := by rw [bne_iff_ne]; intro hh; apply he; right; apply UInt8.toNat_inj.1; show c.toNat = 69; omega
      rw [if_neg he] at hr
      obtain rfl : i = r := by omega
      rw [hn] at h1 hl ⊢
      clear D S hr hC hcg hcl hout hout1 hc h3 hn h2 he hin1 hi
      go_enter Tryz.func90, Tryz.ntmps90
      go_wp2
      go_ret
      exact ⟨rfl, rfl⟩
  · obtain rfl : c = 0 := hout (by omega)
    rw [if_neg (by decide)] at hr
    obtain rfl : i = r := by omega
    have t1 : ((i : Int) == n) = true := by rw [beq_iff_eq]; omega
    rw [hn] at h1 hl ⊢
    clear D S hr hcg hout hout1 hc h3 hn h2 hin1 hi
    go_enter Tryz.func90, Tryz.ntmps90
    go_wp2
    go_ret
    exact ⟨rfl, rfl⟩
end Go.Proofs.YtlobinjdgcidmaaGreatDoor

/- What jlex.number and jlex.word return, for any bytes. -/
namespace Go.Proofs.YtlobinjdgcidmaaGreatDoor
open Go.RowKit
set_option linter.unusedVariables false
set_option linter.unusedSimpArgs false

def tokI (o : Option (Nat × Nat)) (i : Nat) : Int × Int := match o with
  | none => (0, 0)
  | some (k, m) => ((k : Int), ((i + m : Nat) : Int))
def pr (r : Int × Int) : Value := .tuple #[.int .i64 r.1, .int .i64 r.2]
theorem whole_run (s : List UInt8) (h : M.dgB (s.getD 0 0) = true) (h0 : s.getD 0 0 ≠ 48) : M.whole s = 1 + M.run (s.drop 1) := by
  unfold M.whole
  rw [if_neg h0]
  have := (run_at s 0).1 h
  simpa [Nat.add_comm] using this
def numT (l : List UInt8) (q : Nat) : Int × Int :=
  if M.dgB (l.getD q 0) = true then
    (let a := q + M.whole (l.drop q)
     let b := a + M.frac (l.drop a)
     let c := b + M.expo (l.drop b)
     if M.goB (l.getD c 0) = true then (0, 0) else (8, (c : Int)))
  else (0, 0)
theorem numT_eq (l : List UInt8) (i : Nat) : tokI ((M.numL (l.drop i)).map fun n => (8, n)) i = numT l (i + M.neg (l.drop i)) := by
  unfold M.numL numT
  simp only [M.drop_getD, List.drop_drop]
  by_cases hd : M.dgB (l.getD (i + M.neg (l.drop i)) 0) = true
  · rw [if_pos hd, if_pos hd]
    generalize M.neg (l.drop i) = q
    rw [show ∀ x, i + (q + x) = i + q + x from fun x => by omega]
    generalize hw : M.whole (l.drop (i + q)) = a
    rw [show i + q + a = i + (q + a) by omega]
    generalize hf : M.frac (l.drop (i + (q + a))) = b
    rw [show i + (q + a + b) = i + (q + a) + b by omega]
    generalize hx : M.expo (l.drop (i + (q + a) + b)) = c
    rw [show i + (q + a) + b + c = i + (q + a + b + c) by omega]
    by_cases hg : M.goB (l.getD (i + (q + a + b + c)) 0) = true
    · rw [if_pos hg, if_pos hg]; rfl
    · rw [if_neg hg, if_neg hg]; rfl
  · rw [if_neg hd, if_neg hd]; rfl

set_option maxRecDepth 100000 in
set_option maxHeartbeats 4000000 in
theorem number_any (v : Value) (l : List UInt8) (i : Nat) (r : Int × Int) (w : World) (hv : Bs w v l) (hi : i < l.length) (hl : l.length ≤ 4294967296) (hr : tokI ((M.numL (l.drop i)).map fun n => (8, n)) i = r) :
    Calls Tryz.prog 69 #[v, .int .i64 (i : Int)] w fun e w' => e = .returned (pr r) ∧ w = w' := by
  rw [numT_eq] at hr
  have D := Lib.hid (fun q d hq hd => isdigQ_any v l q d w hv hq hl hd)
  have S := Lib.hid (fun q r h hr => skipd_any v l q r w hv h hl hr)
  have F := Lib.hid (fun q r h hr => frac_any v l q r w hv h hl hr)
  have X := Lib.hid (fun q r h hr => expoQ_any v l q r w hv h hl hr)
  have G := Lib.hid (fun q r h hr => goes_any v l q r w hv h hl hr)
  obtain ⟨a, cap, rfl, h1, h2, h3⟩ := hv
  obtain ⟨n, hn⟩ : ∃ n, l.length = n := ⟨_, rfl⟩
  obtain ⟨b, off, rfl, hb, hcl⟩ := h3 (by omega)
  have hcg := @cell_getD w b off l hcl
  have hneg : M.neg (l.drop i) = if l.getD i 0 = 45 then 1 else 0 := by unfold M.neg; rw [M.drop_getD, Nat.add_zero]
  rw [hneg] at hr
  have hci := hcg i (by omega)
  obtain ⟨c, hc⟩ : ∃ c, l.getD i 0 = c := ⟨_, rfl⟩
  rw [hc] at hci hr
  obtain ⟨C, hC⟩ : ∃ C : Int, (c.toNat : Int) = C := ⟨_, rfl⟩
  rw [hC] at hci
  have u1 : (i : Int) < n := by omega
  -- where the digits would begin
  obtain ⟨q, hq, hqi, hsign⟩ : ∃ q : Nat, numT l q = r ∧ q ≤ i + 1 ∧ (((C == 45) = true ∧ q = i + 1) ∨ ((C == 45) = false ∧ q = i)) := by
    by_cases h45 : c = 45
    · rw [if_pos h45] at hr
      exact ⟨i + 1, hr, Nat.le_refl _, .inl ⟨by rw [beq_iff_eq, ← hC, h45]; rfl, rfl⟩⟩
    · rw [if_neg h45] at hr
      exact ⟨i, hr, by omega, .inr ⟨by rw [beq_eq_false_iff_ne]; intro hh; apply h45; apply UInt8.toNat_inj.1; show c.toNat = 45; omega, rfl⟩⟩
  have hqn := M.dg_in l q
  unfold numT at hq
  clear hr hneg
  cases hd : M.dgB (l.getD q 0) with
  | false =>
    rw [if_neg (by rw [hd]; simp)] at hq
    subst hq
    have D1 := Lib.hid (D.out q false (by omega) hd)
    rw [hn] at h1 hl D1 ⊢
    clear hd hC hcg hcl hc h3 hn h2 hqn hi D S F X G
    rcases hsign with ⟨t1, hs⟩ | ⟨t1, hs⟩
    · subst hs
      have e2 : (((i + 1 : Nat)) : Int) = (i : Int) + 1 := by omega
      rw [e2] at D1
      clear e2
      go_enter Tryz.func69, Tryz.ntmps69
      go_wp2_with fail
      refine D1.out.mono ?_
      rintro e w' ⟨rfl, rfl⟩
      go_wp2
      go_ret2
      exact ⟨rfl, rfl⟩
    · obtain rfl : i = q := hs.symm
      go_enter Tryz.func69, Tryz.ntmps69
      go_wp2_with fail
      refine D1.out.mono ?_
      rintro e w' ⟨rfl, rfl⟩
      go_wp2
      go_ret2
      exact ⟨rfl, rfl⟩
  | true =>
    rw [if_pos hd] at hq
    simp only at hq
    have hqlt := hqn hd
    have hcq := hcg q hqlt
    have hd0 : M.dgB ((l.drop q).getD 0 0) = true := by rw [M.drop_getD, Nat.add_zero]; exact hd
    have hwl := M.whole_le (l.drop q) hd0
    have hwr := whole_run (l.drop q) hd0
    rw [List.length_drop] at hwl
    have hw48 : l.getD q 0 = 48 → M.whole (l.drop q) = 1 := fun h => by unfold M.whole; rw [M.drop_getD, Nat.add_zero, if_pos h]
    rw [M.drop_getD, Nat.add_zero, List.drop_drop] at hwr
    have D1 := Lib.hid (D.out q true (by omega) hd)
    obtain ⟨A, hA⟩ : ∃ A, q + M.whole (l.drop q) = A := ⟨_, rfl⟩
    rw [hA] at hq
    have hfl := M.frac_le (l.drop A)
    rw [List.length_drop] at hfl
    obtain ⟨B, hB⟩ : ∃ B, A + M.frac (l.drop A) = B := ⟨_, rfl⟩
    rw [hB] at hq
    have hxl := M.expo_le (l.drop B)
    rw [List.length_drop] at hxl
    obtain ⟨Z, hZ⟩ : ∃ Z, B + M.expo (l.drop B) = Z := ⟨_, rfl⟩
    rw [hZ] at hq
    have F1 := Lib.hid (F.out A B (by omega) hB)
    have X1 := Lib.hid (X.out B Z (by omega) hZ)
    obtain ⟨g, hg⟩ : ∃ g, M.goB (l.getD Z 0) = g := ⟨_, rfl⟩
    rw [hg] at hq
    have G1 := Lib.hid (G.out Z g (by omega) hg)
    obtain ⟨d, hdv⟩ : ∃ d, l.getD q 0 = d := ⟨_, rfl⟩
    rw [hdv] at hcq hwr hw48
    obtain ⟨E, hE⟩ : ∃ C : Int, (d.toNat : Int) = C := ⟨_, rfl⟩
    rw [hE] at hcq
    have hAcases : ((E != 48) = false ∧ A = q + 1) ∨ ((E != 48) = true ∧ q + 1 + M.run (l.drop (q + 1)) = A) := by
      by_cases h48 : d = 48
      · left; exact ⟨by simp [← hE, h48], by rw [← hA, hw48 h48]⟩
      · right; exact ⟨by rw [bne_iff_ne]; intro hh; apply h48; apply UInt8.toNat_inj.1; show d.toNat = 48; omega, by rw [← hA, hwr h48]; omega⟩
    have S1 := Lib.hid (fun hr => S.out (q + 1) A (by omega) hr)
    have v1 : (q : Int) < n := by omega
    have e1 : (((q + 1 : Nat)) : Int) = (q : Int) + 1 := by omega
    rw [hn] at h1 hl D1 F1 X1 G1 S1 ⊢
    rw [e1] at S1
    clear hd hC hE hcg hcl hc h3 hn h2 hqn hd0 hwl hwr hw48 D S F X G hA hB hZ hfl hxl hg hdv hi e1
    have HQ := Lib.hid hq
    clear hq
    rcases hsign with ⟨t1, hs⟩ | ⟨t1, hs⟩
    · subst hs
      have e2 : (((i + 1 : Nat)) : Int) = (i : Int) + 1 := by omega
      have i4 : ((i : Int) + 1).toNat = i + 1 := by omega
      have v2 : (0 : Int) ≤ (i : Int) + 1 := by omega
      rw [e2] at D1 S1 v1
      clear e2
      rcases hAcases with ⟨t2, hA⟩ | ⟨t2, hA⟩
      · subst hA
        have e3 : (((i + 1 + 1 : Nat)) : Int) = (i : Int) + 1 + 1 := by omega
        rw [e3] at F1
        clear e3
        cases g with
        | false =>
          have HR := Lib.hid (HQ.out)
          go_enter Tryz.func69, Tryz.ntmps69
          go_wp2_with fail
          refine D1.out.mono ?_
          rintro e w' ⟨rfl, rfl⟩
          go_wp2_with fail
          refine F1.out.mono ?_
          rintro e w' ⟨rfl, rfl⟩
          go_wp2_with fail
          refine X1.out.mono ?_
          rintro e w' ⟨rfl, rfl⟩
          go_wp2_with fail
          refine G1.out.mono ?_
          rintro e w' ⟨rfl, rfl⟩
          go_wp2
          go_ret2
          exact ⟨by rw [← HQ.out]; rfl, rfl⟩
        | true =>
          go_enter Tryz.func69, Tryz.ntmps69
          go_wp2_with fail
          refine D1.out.mono ?_
          rintro e w' ⟨rfl, rfl⟩
          go_wp2_with fail
          refine F1.out.mono ?_
          rintro e w' ⟨rfl, rfl⟩
          go_wp2_with fail
          refine X1.out.mono ?_
          rintro e w' ⟨rfl, rfl⟩
          go_wp2_with fail
          refine G1.out.mono ?_
          rintro e w' ⟨rfl, rfl⟩
          go_wp2
          go_ret2
          exact ⟨by rw [← HQ.out]; rfl, rfl⟩
      · have S2 := Lib.hid (S1.out hA)
        clear S1 hA
        cases g with
        | false =>
          go_enter Tryz.func69, Tryz.ntmps69
          go_wp2_with fail
          refine D1.out.mono ?_
          rintro e w' ⟨rfl, rfl⟩
          go_wp2_with fail
          refine S2.out.mono ?_
          rintro e w' ⟨rfl, rfl⟩
          go_wp2_with fail
          refine F1.out.mono ?_
          rintro e w' ⟨rfl, rfl⟩
          go_wp2_with fail
          refine X1.out.mono ?_
          rintro e w' ⟨rfl, rfl⟩
          go_wp2_with fail
          refine G1.out.mono ?_
          rintro e w' ⟨rfl, rfl⟩
          go_wp2
          go_ret2
          exact ⟨by rw [← HQ.out]; rfl, rfl⟩
        | true =>
          go_enter Tryz.func69, Tryz.ntmps69
          go_wp2_with fail
          refine D1.out.mono ?_
          rintro e w' ⟨rfl, rfl⟩
          go_wp2_with fail
          refine S2.out.mono ?_
          rintro e w' ⟨rfl, rfl⟩
          go_wp2_with fail
          refine F1.out.mono ?_
          rintro e w' ⟨rfl, rfl⟩
          go_wp2_with fail
          refine X1.out.mono ?_
          rintro e w' ⟨rfl, rfl⟩
          go_wp2_with fail
          refine G1.out.mono ?_
          rintro e w' ⟨rfl, rfl⟩
          go_wp2
          go_ret2
          exact ⟨by rw [← HQ.out]; rfl, rfl⟩
    · obtain rfl : i = q := hs.symm
      obtain rfl : C = E := by have := hci.symm.trans hcq; simpa using this
      clear hcq
      rcases hAcases with ⟨t2, hA⟩ | ⟨t2, hA⟩
      · subst hA
        have e3 : (((i + 1 : Nat)) : Int) = (i : Int) + 1 := by omega
        rw [e3] at F1
        clear e3
        cases g with
        | false =>
          go_enter Tryz.func69, Tryz.ntmps69
          go_wp2_with fail
          refine D1.out.mono ?_
          rintro e w' ⟨rfl, rfl⟩
          go_wp2_with fail
          refine F1.out.mono ?_
          rintro e w' ⟨rfl, rfl⟩
          go_wp2_with fail
          refine X1.out.mono ?_
          rintro e w' ⟨rfl, rfl⟩
          go_wp2_with fail
          refine G1.out.mono ?_
          rintro e w' ⟨rfl, rfl⟩
          go_wp2
          go_ret2
          exact ⟨by rw [← HQ.out]; rfl, rfl⟩
        | true =>
          go_enter Tryz.func69, Tryz.ntmps69
          go_wp2_with fail
          refine D1.out.mono ?_
          rintro e w' ⟨rfl, rfl⟩
          go_wp2_with fail
          refine F1.out.mono ?_
          rintro e w' ⟨rfl, rfl⟩
          go_wp2_with fail
          refine X1.out.mono ?_
          rintro e w' ⟨rfl, rfl⟩
          go_wp2_with fail
          refine G1.out.mono ?_
          rintro e w' ⟨rfl, rfl⟩
          go_wp2
          go_ret2
          exact ⟨by rw [← HQ.out]; rfl, rfl⟩
      · have S2 := Lib.hid (S1.out hA)
        clear S1 hA
        cases g with
        | false =>
          go_enter Tryz.func69, Tryz.ntmps69
          go_wp2_with fail
          refine D1.out.mono ?_
          rintro e w' ⟨rfl, rfl⟩
          go_wp2_with fail
          refine S2.out.mono ?_
          rintro e w' ⟨rfl, rfl⟩
          go_wp2_with fail
          refine F1.out.mono ?_
          rintro e w' ⟨rfl, rfl⟩
          go_wp2_with fail
          refine X1.out.mono ?_
          rintro e w' ⟨rfl, rfl⟩
          go_wp2_with fail
          refine G1.out.mono ?_
          rintro e w' ⟨rfl, rfl⟩
          go_wp2
          go_ret2
          exact ⟨by rw [← HQ.out]; rfl, rfl⟩
        | true =>
          go_enter Tryz.func69, Tryz.ntmps69
          go_wp2_with fail
          refine D1.out.mono ?_
          rintro e w' ⟨rfl, rfl⟩
          go_wp2_with fail
          refine S2.out.mono ?_
          rintro e w' ⟨rfl, rfl⟩
          go_wp2_with fail
          refine F1.out.mono ?_
          rintro e w' ⟨rfl, rfl⟩
          go_wp2_with fail
          refine X1.out.mono ?_
          rintro e w' ⟨rfl, rfl⟩
          go_wp2_with fail
          refine G1.out.mono ?_
          rintro e w' ⟨rfl, rfl⟩
          go_wp2
          go_ret2
          exact ⟨by rw [← HQ.out]; rfl, rfl⟩
end Go.Proofs.YtlobinjdgcidmaaGreatDoor
