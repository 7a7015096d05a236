/- What the functions of jlex that read numbers and words return, for any bytes. -/
import Derived.Test.YtakgkdgielkieaaDoorQJ
import Derived.Test.YtakgkdgielkieaaDoorUConv
namespace Go.Proofs.YtakgkdgielkieaaDoor
open Go.RowKit
set_option linter.unusedVariables false
set_option linter.unusedSimpArgs false

theorem run_at (l : List UInt8) (i : Nat) : (M.dgB (l.getD i 0) = true → i + M.run (l.drop i) = i + 1 + M.run (l.drop (i + 1))) ∧ (M.dgB (l.getD i 0) = false → i + M.run (l.drop i) = i) := by
  by_cases h : i < l.length
  · have e : l.drop i = l[i] :: l.drop (i + 1) := List.drop_eq_getElem_cons h
    have g : l.getD i 0 = l[i] := by simp [h]
    rw [e, g, show M.run (l[i] :: l.drop (i + 1)) = if M.dgB l[i] then M.run (l.drop (i + 1)) + 1 else 0 from rfl]
    constructor
    · intro hd; rw [if_pos hd]; omega
    · intro hd; rw [if_neg (by simp [hd])]; rfl
  · rw [getD_out l i (by omega), List.drop_eq_nil_of_le (by omega)]
    exact ⟨fun h => absurd h (by decide), fun _ => by simp [M.run]⟩
theorem lead_at (l : List UInt8) (i : Nat) : (M.blB (l.getD i 0) = true → i + M.lead (l.drop i) = i + 1 + M.lead (l.drop (i + 1))) ∧ (M.blB (l.getD i 0) = false → i + M.lead (l.drop i) = i) := by
  by_cases h : i < l.length
  · have e : l.drop i = l[i] :: l.drop (i + 1) := List.drop_eq_getElem_cons h
    have g : l.getD i 0 = l[i] := by simp [h]
    rw [e, g, show M.lead (l[i] :: l.drop (i + 1)) = if M.blB l[i] then M.lead (l.drop (i + 1)) + 1 else 0 from rfl]
    constructor
    · intro hd; rw [if_pos hd]; omega
    · intro hd; rw [if_neg (by simp [hd])]; rfl
  · rw [getD_out l i (by omega), List.drop_eq_nil_of_le (by omega)]
    exact ⟨fun h => absurd h (by decide), fun _ => by simp [M.lead]⟩

set_option maxRecDepth 100000 in
set_option maxHeartbeats 1000000 in
theorem skipd_any (v : Value) (l : List UInt8) (i r : Nat) (w : World) (hv : Bs w v l) (hi : i ≤ l.length) (hl : l.length ≤ 4294967296) (hr : i + M.run (l.drop i) = r) :
    Calls Tryd.prog 27 #[v, .int .i64 (i : Int)] w fun e w' => e = .returned (.int .i64 (r : Int)) ∧ w = w' := by
  obtain ⟨n, hn⟩ : ∃ n, l.length = n := ⟨_, rfl⟩
  have Hv := Lib.hid hv
  have Hr := Lib.hid hr
  have Hn := Lib.hid hn
  rw [hn] at hi hl
  clear hv hr hn
  go_enter Tryd.func27, Tryd.ntmps27
  go_wp2
  go_loop [1] (fun iv => ∃ j : Nat, iv = .int .i64 (j : Int) ∧ j ≤ n ∧ j + M.run (l.drop j) = r) (fun iv => n - (intOf iv).toNat)
  case atStart => exact ⟨i, rfl, hi, Hr.out⟩
  case round =>
    obtain ⟨j, rfl, hj, hx⟩ := hrel
    obtain ⟨r1, r2⟩ := run_at l j
    have DD := fun d hd => isdig_any v l j d w Hv.out (by omega) (by rw [Hn.out]; omega) hd
    have hin := M.dg_in l j
    cases hd : M.dgB (l.getD j 0) with
    | true =>
      have hlt := hin hd
      rw [Hn.out] at hlt
      have Hx := Lib.hid ((r1 hd).symm.trans hx)
      have D1 := Lib.hid (DD true hd)
      clear DD r1 r2 hin hd hx
      go_wp2_with fail
      refine D1.out.mono ?_
      rintro e w' ⟨rfl, rfl⟩
      go_wp2
      go_round
      case rel => exact ⟨j + 1, by go_num, by omega, Hx.out⟩
      case measure => simp [intOf]; omega
    | false =>
      have Hx := Lib.hid ((r2 hd).symm.trans hx)
      have D1 := Lib.hid (DD false hd)
      clear DD r1 r2 hin hd hx
      go_wp2_with fail
      refine D1.out.mono ?_
      rintro e w' ⟨rfl, rfl⟩
      go_wp2
      go_ret
      exact ⟨by rw [Hx.out]; rfl, rfl⟩

set_option maxRecDepth 100000 in
set_option maxHeartbeats 1000000 in
theorem frac_any (v : Value) (l : List UInt8) (i r : Nat) (w : World) (hv : Bs w v l) (hi : i ≤ l.length) (hl : l.length ≤ 4294967296) (hr : i + M.frac (l.drop i) = r) :
    Calls Tryd.prog 29 #[v, .int .i64 (i : Int)] w fun e w' => e = .returned (.int .i64 (r : Int)) ∧ w = w' := by
  have D := Lib.hid (fun d hd => isdig_any v l (i + 1) d w hv (by omega) hl hd)
  have S := Lib.hid (fun r h hr => skipd_any v l (i + 1) r w hv h hl hr)
  have hin1 := M.dg_in l (i + 1)
  obtain ⟨a, cap, rfl, h1, h2, h3⟩ := hv
  obtain ⟨n, hn⟩ : ∃ n, l.length = n := ⟨_, rfl⟩
  have hout := getD_out l i
  have hcg := fun b off hcl => @cell_getD w b off l hcl i
  unfold M.frac at hr
  simp only [M.drop_getD, Nat.add_zero, List.drop_drop] at hr
  obtain ⟨c, hc⟩ : ∃ c, l.getD i 0 = c := ⟨_, rfl⟩
  rw [hc] at hr hout hcg
  have i4 : ((i : Int) + 1).toNat = i + 1 := by omega
  by_cases hlt : i < n
  · obtain ⟨b, off, rfl, hb, hcl⟩ := h3 (by omega)
    have hci := hcg b off hcl (by omega)
    obtain ⟨C, hC⟩ : ∃ C : Int, (c.toNat : Int) = C := ⟨_, rfl⟩
    rw [hC] at hci
    have u1 : (i : Int) < n := by omega
    by_cases h46 : c = 46
    · have t1 : (C == 46) = true := by rw [beq_iff_eq, ← hC, h46]; rfl
      cases hd : M.dgB (l.getD (i + 1) 0) with
      | true =>
        rw [if_pos ⟨h46, hd⟩] at hr
        have D1 := Lib.hid (D.out true hd)
        have S1 := Lib.hid (S.out r (by have := hin1 hd; omega) (by omega))
        have e2 : (((i + 1 : Nat)) : Int) = (i : Int) + 1 := by omega
        rw [hn] at h1 hl D1 S1 ⊢
        rw [e2] at D1 S1
        clear e2 D S hd hr hC hcg hcl hout hc h3 hn h2 h46 hin1 hi
        go_enter Tryd.func29, Tryd.ntmps29
        go_wp2_with fail
        refine D1.out.mono ?_
        rintro e w' ⟨rfl, rfl⟩
        go_wp2_with fail
        refine S1.out.mono ?_
        rintro e w' ⟨rfl, rfl⟩
        go_wp2
        go_ret
        exact ⟨rfl, rfl⟩
      | false =>
        rw [if_neg (by rw [hd]; simp)] at hr
        obtain rfl : i = r := by omega
        have D1 := Lib.hid (D.out false hd)
        have e2 : (((i + 1 : Nat)) : Int) = (i : Int) + 1 := by omega
        rw [hn] at h1 hl D1 ⊢
        rw [e2] at D1
        clear e2 D S hd hr hC hcg hcl hout hc h3 hn h2 h46 hin1 hi
        go_enter Tryd.func29, Tryd.ntmps29
        go_wp2_with fail
        refine D1.out.mono ?_
        rintro e w' ⟨rfl, rfl⟩
        go_wp2
        go_ret
        exact ⟨rfl, rfl⟩
    · have t1 : (C == 46) = false := by rw [beq_eq_false_iff_ne]; intro hh; apply h46; apply UInt8.toNat_inj.1; show c.toNat = 46; omega
      rw [if_neg (fun hh => h46 hh.1)] at hr
      obtain rfl : i = r := by omega
      rw [hn] at h1 hl ⊢
      clear D S hr hC hcg hcl hout hc h3 hn h2 h46 hin1 hi
      go_enter Tryd.func29, Tryd.ntmps29
      go_wp2
      go_ret
      exact ⟨rfl, rfl⟩
  · obtain rfl : c = 0 := hout (by omega)
    rw [if_neg (by simp)] at hr
    obtain rfl : i = r := by omega
    have t1 : decide ((i : Int) < n) = false := by simp; omega
    rw [hn] at h1 hl ⊢
    clear D S hr hcg hout hc h3 hn h2 hin1 hi
    go_enter Tryd.func29, Tryd.ntmps29
    go_wp2
    go_ret
    exact ⟨rfl, rfl⟩

set_option maxRecDepth 100000 in
set_option maxHeartbeats 2000000 in
theorem expo_any (v : Value) (l : List UInt8) (i r : Nat) (w : World) (hv : Bs w v l) (hi : i ≤ l.length) (hl : l.length ≤ 4294967296) (hr : i + M.expo (l.drop i) = r) :
    Calls Tryd.prog 28 #[v, .int .i64 (i : Int)] w fun e w' => e = .returned (.int .i64 (r : Int)) ∧ w = w' := by
  have D := Lib.hid (fun q d hq hd => isdig_any v l q d w hv hq hl hd)
  have S := Lib.hid (fun q r h hr => skipd_any v l q r w hv h hl hr)
  have hin1 := fun q => M.dg_in l q
  obtain ⟨a, cap, rfl, h1, h2, h3⟩ := hv
  obtain ⟨n, hn⟩ : ∃ n, l.length = n := ⟨_, rfl⟩
  have hout := getD_out l i
  have hout1 := getD_out l (i + 1)
  have hcg := fun b off hcl => @cell_getD w b off l hcl
  unfold M.expo M.sgn at hr
  simp only [M.drop_getD, Nat.add_zero, List.drop_drop] at hr
  obtain ⟨c, hc⟩ : ∃ c, l.getD i 0 = c := ⟨_, rfl⟩
  rw [hc] at hr hout
  have i4 : ((i : Int) + 1).toNat = i + 1 := by omega
  by_cases hlt : i < n
  · obtain ⟨b, off, rfl, hb, hcl⟩ := h3 (by omega)
    have hci := hcg b off hcl i (by omega)
    rw [hc] at hci
    obtain ⟨C, hC⟩ : ∃ C : Int, (c.toNat : Int) = C := ⟨_, rfl⟩
    rw [hC] at hci
    have u1 : (i : Int) < n := by omega
    have u2 : ((i : Int) == n) = false := by rw [beq_eq_false_iff_ne]; omega
    by_cases he : c = 101 ∨ c = 69
    · have t12 : ((C != 101) = true ∧ (C != 69) = false) ∨ ((C != 101) = false) := by
        rcases he with rfl | rfl
        · right; simp [← hC]
        · left; constructor <;> simp [← hC]
      rw [if_pos he] at hr
      obtain ⟨d, hd⟩ : ∃ d, l.getD (i + 1) 0 = d := ⟨_, rfl⟩
      rw [hd] at hr hout1
      by_cases hlt1 : i + 1 < n
      · have hcd := hcg b off hcl (i + 1) (by omega)
        rw [hd] at hcd
        obtain ⟨E, hE⟩ : ∃ C : Int, (d.toNat : Int) = C := ⟨_, rfl⟩
        rw [hE] at hcd
        have v1 : decide ((i : Int) + 1 < n) = true := by simp; omega
        have v2 : (i : Int) + 1 < n := by omega
        by_cases hs : d = 43 ∨ d = 45
        · have t34 : ((E == 43) = false ∧ (E == 45) = true) ∨ ((E == 43) = true) := by
            rcases hs with rfl | rfl
            · right; simp [← hE]
            · left; constructor <;> simp [← hE]
          rw [if_pos hs] at hr
          cases hdd : M.dgB (l.getD (i + 2) 0) with
          | true =>
            rw [if_pos hdd] at hr
            have D1 := Lib.hid (D.out (i + 2) true (by omega) hdd)
            have S1 := Lib.hid (S.out (i + 2) r (by have := hin1 _ hdd; omega) (by omega))
            have e2 : (((i + 2 : Nat)) : Int) = (i : Int) + 1 + 1 := by omega
            rw [hn] at h1 hl D1 S1 ⊢
            rw [e2] at D1 S1
            clear D S hd hdd hr hC hE hcg hcl hout hout1 hc h3 hn h2 he hs hin1 hi e2
            rcases t12 with ⟨t1, t2⟩ | t1
            all_goals
              rcases t34 with ⟨t3, t4⟩ | t3
              all_goals
                go_enter Tryd.func28, Tryd.ntmps28
                go_wp2_with fail
                refine D1.out.mono ?_
                rintro e w' ⟨rfl, rfl⟩
                go_wp2_with fail
                refine S1.out.mono ?_
                rintro e w' ⟨rfl, rfl⟩
                go_wp2
                go_ret
                exact ⟨rfl, rfl⟩
          | false =>
            rw [if_neg (by rw [hdd]; simp)] at hr
            obtain rfl : i = r := by omega
            have D1 := Lib.hid (D.out (i + 2) false (by omega) hdd)
            have e2 : (((i + 2 : Nat)) : Int) = (i : Int) + 1 + 1 := by omega
            rw [hn] at h1 hl D1 ⊢
            rw [e2] at D1
            clear D S hd hdd hr hC hE hcg hcl hout hout1 hc h3 hn h2 he hs hin1 hi e2
            rcases t12 with ⟨t1, t2⟩ | t1
            all_goals
              rcases t34 with ⟨t3, t4⟩ | t3
              all_goals
                go_enter Tryd.func28, Tryd.ntmps28
                go_wp2_with fail
                refine D1.out.mono ?_
                rintro e w' ⟨rfl, rfl⟩
                go_wp2
                go_ret
                exact ⟨rfl, rfl⟩
        · have t3 : (E == 43) = false := by rw [beq_eq_false_iff_ne]; intro hh; apply hs; left; apply UInt8.toNat_inj.1; show d.toNat = 43; omega
          have t4 : (E == 45) = false := by rw [beq_eq_false_iff_ne]; intro hh; apply hs; right; apply UInt8.toNat_inj.1; show d.toNat = 45; omega
          rw [if_neg hs] at hr
          have e2 : (((i + 1 : Nat)) : Int) = (i : Int) + 1 := by omega
          cases hdd : M.dgB d with
          | true =>
            rw [hd, if_pos hdd] at hr
            have hdd' : M.dgB (l.getD (i + 1) 0) = true := by rw [hd]; exact hdd
            have D1 := Lib.hid (D.out (i + 1) true (by omega) hdd')
            have S1 := Lib.hid (S.out (i + 1) r (by omega) (by omega))
            rw [hn] at h1 hl D1 S1 ⊢
            rw [e2] at D1 S1
            clear D S hd hdd hdd' hr hC hE hcg hcl hout hout1 hc h3 hn h2 he hs hin1 hi e2
            rcases t12 with ⟨t1, t2⟩ | t1
            all_goals
              go_enter Tryd.func28, Tryd.ntmps28
              go_wp2_with fail
              refine D1.out.mono ?_
              rintro e w' ⟨rfl, rfl⟩
              go_wp2_with fail
              refine S1.out.mono ?_
              rintro e w' ⟨rfl, rfl⟩
              go_wp2
              go_ret
              exact ⟨rfl, rfl⟩
          | false =>
            rw [hd, if_neg (by rw [hdd]; simp)] at hr
            obtain rfl : i = r := by omega
            have hdd' : M.dgB (l.getD (i + 1) 0) = false := by rw [hd]; exact hdd
            have D1 := Lib.hid (D.out (i + 1) false (by omega) hdd')
            rw [hn] at h1 hl D1 ⊢
            rw [e2] at D1
            clear D S hd hdd hdd' hr hC hE hcg hcl hout hout1 hc h3 hn h2 he hs hin1 hi e2
            rcases t12 with ⟨t1, t2⟩ | t1
            all_goals
              go_enter Tryd.func28, Tryd.ntmps28
              go_wp2_with fail
              refine D1.out.mono ?_
              rintro e w' ⟨rfl, rfl⟩
              go_wp2
              go_ret
              exact ⟨rfl, rfl⟩
      · obtain rfl : d = 0 := hout1 (by omega)
        have v1 : decide ((i : Int) + 1 < n) = false := by simp; omega
        rw [if_neg (show ¬ ((0 : UInt8) = 43 ∨ (0 : UInt8) = 45) by decide), hd, if_neg (by decide)] at hr
        obtain rfl : i = r := by omega
        have e2 : (((i + 1 : Nat)) : Int) = (i : Int) + 1 := by omega
        have D1 := Lib.hid (D.out (i + 1) false (by omega) (by rw [hd]; rfl))
        rw [hn] at h1 hl D1 ⊢
        rw [e2] at D1
        clear D S hd hr hC hcg hcl hout hout1 hc h3 hn h2 he hin1 hi e2
        rcases t12 with ⟨t1, t2⟩ | t1
        all_goals
          go_enter Tryd.func28, Tryd.ntmps28
          go_wp2_with fail
          refine D1.out.mono ?_
          rintro e w' ⟨rfl, rfl⟩
          go_wp2
          go_ret
          exact ⟨rfl, rfl⟩
    · have t1 : (C != 101) = true := by rw [bne_iff_ne]; intro hh; apply he; left; apply UInt8.toNat_inj.1; show c.toNat = 101; omega
      have t2 : (C != 69) = true := by rw [bne_iff_ne]; intro hh; apply he; right; apply UInt8.toNat_inj.1; show c.toNat = 69; omega
      rw [if_neg he] at hr
      obtain rfl : i = r := by omega
      rw [hn] at h1 hl ⊢
      clear D S hr hC hcg hcl hout hout1 hc h3 hn h2 he hin1 hi
      go_enter Tryd.func28, Tryd.ntmps28
      go_wp2
      go_ret
      exact ⟨rfl, rfl⟩
  · obtain rfl : c = 0 := hout (by omega)
    rw [if_neg (by decide)] at hr
    obtain rfl : i = r := by omega
    have t1 : ((i : Int) == n) = true := by rw [beq_iff_eq]; omega
    rw [hn] at h1 hl ⊢
    clear D S hr hcg hout hout1 hc h3 hn h2 hin1 hi
    go_enter Tryd.func28, Tryd.ntmps28
    go_wp2
    go_ret
    exact ⟨rfl, rfl⟩
end Go.Proofs.YtakgkdgielkieaaDoor
