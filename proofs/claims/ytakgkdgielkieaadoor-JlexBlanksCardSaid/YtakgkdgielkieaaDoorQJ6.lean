/- What jlex.skipBlanks, jlex.token and jlex.Split return, for any bytes. -/
import Derived.Test.YtakgkdgielkieaaDoorQJ5
import Derived.Test.YtakgkdgielkieaaDoorQMath3
namespace Go.Proofs.YtakgkdgielkieaaDoor
open Go.RowKit
set_option linter.unusedVariables false
set_option linter.unusedSimpArgs false

theorem bl_cases (c : UInt8) (C : Int) (h : (c.toNat : Int) = C) : (M.blB c = true ∧ ((C == 32) = true ∨ ((C == 32) = false ∧ (C == 9) = true) ∨ ((C == 32) = false ∧ (C == 9) = false ∧ (C == 10) = true) ∨ ((C == 32) = false ∧ (C == 9) = false ∧ (C == 10) = false ∧ (C == 13) = true))) ∨
    (M.blB c = false ∧ (C == 32) = false ∧ (C == 9) = false ∧ (C == 10) = false ∧ (C == 13) = false) := by
  have h0 : ∀ d : Fin 256, (M.blB d.val.toUInt8 = true ∧ (((d.val : Int) == 32) = true ∨ (((d.val : Int) == 32) = false ∧ ((d.val : Int) == 9) = true) ∨ (((d.val : Int) == 32) = false ∧ ((d.val : Int) == 9) = false ∧ ((d.val : Int) == 10) = true) ∨ (((d.val : Int) == 32) = false ∧ ((d.val : Int) == 9) = false ∧ ((d.val : Int) == 10) = false ∧ ((d.val : Int) == 13) = true))) ∨
    (M.blB d.val.toUInt8 = false ∧ ((d.val : Int) == 32) = false ∧ ((d.val : Int) == 9) = false ∧ ((d.val : Int) == 10) = false ∧ ((d.val : Int) == 13) = false) := by decide +kernel
  have h2 := h0 ⟨c.toNat, c.toNat_lt⟩
  simp only at h2
  rw [← u8_of c.toNat_lt rfl, h] at h2
  exact h2
set_option maxRecDepth 100000 in
set_option maxHeartbeats 2000000 in
theorem skipb_any (v : Value) (l : List UInt8) (i r : Nat) (w : World) (hv : Bs w v l) (hi : i ≤ l.length) (hl : l.length ≤ 4294967296) (hr : i + M.lead (l.drop i) = r) :
    Calls Tryd.prog 13 #[v, .int .i64 (i : Int)] w fun e w' => e = .returned (.int .i64 (r : Int)) ∧ w = w' := by
  obtain ⟨a, cap, rfl, h1, h2, h3⟩ := hv
  obtain ⟨n, hn⟩ : ∃ n, l.length = n := ⟨_, rfl⟩
  have Hr := Lib.hid hr
  have HN := Lib.hid hn
  have H3 := Lib.hid h3
  rw [hn] at hi hl h1 ⊢
  clear hr hn h3 h2
  go_enter Tryd.func13, Tryd.ntmps13
  go_wp2
  go_loop [1] (fun iv => ∃ j : Nat, iv = .int .i64 (j : Int) ∧ j ≤ n ∧ j + M.lead (l.drop j) = r) (fun iv => n - (intOf iv).toNat)
  case atStart => exact ⟨i, rfl, hi, Hr.out⟩
  case round =>
    obtain ⟨j, rfl, hj, hx⟩ := hrel
    obtain ⟨r1, r2⟩ := lead_at l j
    by_cases hlt : j < n
    · obtain ⟨b, off, rfl, hb, hcl⟩ := H3.out (by rw [HN.out]; omega)
      have hcj := @cell_getD w b off l hcl j (by rw [HN.out]; exact hlt)
      obtain ⟨c, hc⟩ : ∃ c, l.getD j 0 = c := ⟨_, rfl⟩
      rw [hc] at hcj r1 r2
      obtain ⟨C, hC⟩ : ∃ C : Int, (c.toNat : Int) = C := ⟨_, rfl⟩
      rw [hC] at hcj
      have u1 : (j : Int) < n := by omega
      rcases bl_cases c C hC with ⟨hbl, hs⟩ | ⟨hbl, q1, q2, q3, q4⟩
      · have Hx := Lib.hid ((r1 hbl).symm.trans hx)
        clear r1 r2 hbl hx hC hc hcl
        rcases hs with q1 | ⟨q1, q2⟩ | ⟨q1, q2, q3⟩ | ⟨q1, q2, q3, q4⟩
        all_goals
          go_wp2
          go_round
          case rel => exact ⟨j + 1, by go_num, by omega, Hx.out⟩
          case measure => simp [intOf]; omega
      · have Hx := Lib.hid ((r2 hbl).symm.trans hx)
        clear r1 r2 hbl hx hC hc hcl
        go_wp2
        go_ret
        exact ⟨by rw [Hx.out]; rfl, rfl⟩
    · have hc := getD_out l j (by rw [HN.out]; omega)
      have Hx := Lib.hid ((r2 (by rw [hc]; rfl)).symm.trans hx)
      have t1 : decide ((j : Int) < n) = false := by simp; omega
      clear r1 r2 hx hc
      go_wp2
      go_ret
      exact ⟨by rw [Hx.out]; rfl, rfl⟩

theorem ne_c (c : UInt8) (C : Int) (hC : (c.toNat : Int) = C) (k : UInt8) (K : Int) (hK : (k.toNat : Int) = K) (h : ¬ c = k) : (C == K) = false := by
  rw [beq_eq_false_iff_ne]; intro e; apply h; apply UInt8.toNat_inj.1; omega
theorem eq_c (c : UInt8) (C : Int) (hC : (c.toNat : Int) = C) (k : UInt8) (K : Int) (hK : (k.toNat : Int) = K) (h : c = k) : (C == K) = true := by
  rw [beq_iff_eq, ← hC, h, hK]
set_option maxRecDepth 100000 in
set_option maxHeartbeats 4000000 in
theorem token_any (v : Value) (l : List UInt8) (i : Nat) (r : Int × Int) (w : World) (hT : Tabs w) (hv : Bs w v l) (hi : i < l.length) (hl : l.length ≤ 4294967296) (hok : Okv l i)
    (hr : tokI (M.tokL (l.drop i)) i = r) :
    Calls Tryd.prog 14 #[v, .int .i64 (i : Int)] w fun e w' => e = .returned (pr r) ∧ Below w.heap.size w w' := by
  have TX := Lib.hid (fun h r hr => text_any v l i r w hT hv hi hl h hr)
  have WD := Lib.hid (fun nm k r hk h0 h9 hr => word_any v l i nm k r w hv hi hl hk h0 h9 hr)
  have NU := Lib.hid (fun r hr => number_any v l i r w hv hi hl hr)
  have hv2 := hv
  obtain ⟨a, cap, rfl, h1, h2, h3⟩ := hv2
  obtain ⟨n, hn⟩ : ∃ n, l.length = n := ⟨_, rfl⟩
  obtain ⟨b, off, rfl, hb, hcl⟩ := h3 (by omega)
  have hci := @cell_getD w b off l hcl i hi
  unfold M.tokL at hr
  simp only [M.drop_getD, Nat.add_zero] at hr
  have hasc : l.getD i 0 = 34 → Okv l (i + 1) := fun h => okv_ascii l i 1 (by omega) (fun j hj => by rw [show i + j = i by omega, h]; decide) hok
  obtain ⟨c, hc⟩ : ∃ c, l.getD i 0 = c := ⟨_, rfl⟩
  rw [hc] at hci hr hasc
  obtain ⟨C, hC⟩ : ∃ C : Int, (c.toNat : Int) = C := ⟨_, rfl⟩
  rw [hC] at hci
  have u1 : (i : Int) < n := by omega
  rw [hn] at h1 hl hi TX WD NU ⊢
  clear hc hcl h3 h2 hn hv hT hok
  by_cases c1 : c = 123
  · rw [if_pos c1] at hr; subst hr
    have t1 := eq_c c C hC 123 123 rfl c1
    clear TX WD NU hasc hC c1
    go_enter Tryd.func14, Tryd.ntmps14
    go_wp2
    go_ret2
    exact ⟨rfl, Below.refl _ _⟩
  have t1 := ne_c c C hC 123 123 rfl c1
  rw [if_neg c1] at hr
  clear c1
  by_cases c2 : c = 125
  · rw [if_pos c2] at hr; subst hr
    have t2 := eq_c c C hC 125 125 rfl c2
    clear TX WD NU hasc hC c2
    go_enter Tryd.func14, Tryd.ntmps14
    go_wp2
    go_ret2
    exact ⟨rfl, Below.refl _ _⟩
  have t2 := ne_c c C hC 125 125 rfl c2
  rw [if_neg c2] at hr
  clear c2
  by_cases c3 : c = 91
  · rw [if_pos c3] at hr; subst hr
    have t3 := eq_c c C hC 91 91 rfl c3
    clear TX WD NU hasc hC c3
    go_enter Tryd.func14, Tryd.ntmps14
    go_wp2
    go_ret2
    exact ⟨rfl, Below.refl _ _⟩
  have t3 := ne_c c C hC 91 91 rfl c3
  rw [if_neg c3] at hr
  clear c3
  by_cases c4 : c = 93
  · rw [if_pos c4] at hr; subst hr
    have t4 := eq_c c C hC 93 93 rfl c4
    clear TX WD NU hasc hC c4
    go_enter Tryd.func14, Tryd.ntmps14
    go_wp2
    go_ret2
    exact ⟨rfl, Below.refl _ _⟩
  have t4 := ne_c c C hC 93 93 rfl c4
  rw [if_neg c4] at hr
  clear c4
  by_cases c5 : c = 58
  · rw [if_pos c5] at hr; subst hr
    have t5 := eq_c c C hC 58 58 rfl c5
    clear TX WD NU hasc hC c5
    go_enter Tryd.func14, Tryd.ntmps14
    go_wp2
    go_ret2
    exact ⟨rfl, Below.refl _ _⟩
  have t5 := ne_c c C hC 58 58 rfl c5
  rw [if_neg c5] at hr
  clear c5
  by_cases c6 : c = 44
  · rw [if_pos c6] at hr; subst hr
    have t6 := eq_c c C hC 44 44 rfl c6
    clear TX WD NU hasc hC c6
    go_enter Tryd.func14, Tryd.ntmps14
    go_wp2
    go_ret2
    exact ⟨rfl, Below.refl _ _⟩
  have t6 := ne_c c C hC 44 44 rfl c6
  rw [if_neg c6] at hr
  clear c6
  by_cases c7 : c = 34
  · rw [if_pos c7] at hr
    have t7 := eq_c c C hC 34 34 rfl c7
    have T1 := Lib.hid (TX.out (hasc c7) r hr)
    clear TX WD NU hasc hC c7 hr
    go_enter Tryd.func14, Tryd.ntmps14
    go_wp2_with fail
    refine T1.out.mono ?_
    rintro e w' ⟨rfl, hb1⟩
    unfold pr
    go_wp2
    go_ret2
    exact ⟨rfl, hb1⟩
  have t7 := ne_c c C hC 34 34 rfl c7
  rw [if_neg c7] at hr
  clear c7 TX hasc
  by_cases c8 : c = 116
  · rw [if_pos c8] at hr
    have t8 := eq_c c C hC 116 116 rfl c8
    have T1 := WD.out M.tru 9 r (by omega) (by decide) (by decide) hr
    rw [show bytes M.tru = ⟨#[116, 114, 117, 101]⟩ from rfl] at T1
    have T1 := Lib.hid T1
    clear WD NU hC c8 hr
    go_enter Tryd.func14, Tryd.ntmps14
    go_wp2_with fail
    refine T1.out.mono ?_
    rintro e w' ⟨rfl, rfl⟩
    unfold pr
    go_wp2
    go_ret2
    exact ⟨rfl, Below.refl _ _⟩
  have t8 := ne_c c C hC 116 116 rfl c8
  rw [if_neg c8] at hr
  clear c8
  by_cases c9 : c = 102
  · rw [if_pos c9] at hr
    have t9 := eq_c c C hC 102 102 rfl c9
    have T1 := WD.out M.fls 10 r (by omega) (by decide) (by decide) hr
    rw [show bytes M.fls = ⟨#[102, 97, 108, 115, 101]⟩ from rfl] at T1
    have T1 := Lib.hid T1
    clear WD NU hC c9 hr
    go_enter Tryd.func14, Tryd.ntmps14
    go_wp2_with fail
    refine T1.out.mono ?_
    rintro e w' ⟨rfl, rfl⟩
    unfold pr
    go_wp2
    go_ret2
    exact ⟨rfl, Below.refl _ _⟩
  have t9 := ne_c c C hC 102 102 rfl c9
  rw [if_neg c9] at hr
  clear c9
  by_cases c10 : c = 110
  · rw [if_pos c10] at hr
    have t10 := eq_c c C hC 110 110 rfl c10
    have T1 := WD.out M.nul 11 r (by omega) (by decide) (by decide) hr
    rw [show bytes M.nul = ⟨#[110, 117, 108, 108]⟩ from rfl] at T1
    have T1 := Lib.hid T1
    clear WD NU hC c10 hr
    go_enter Tryd.func14, Tryd.ntmps14
    go_wp2_with fail
    refine T1.out.mono ?_
    rintro e w' ⟨rfl, rfl⟩
    unfold pr
    go_wp2
    go_ret2
    exact ⟨rfl, Below.refl _ _⟩
  have t10 := ne_c c C hC 110 110 rfl c10
  rw [if_neg c10] at hr
  clear c10 WD
  have N1 := Lib.hid (NU.out r hr)
  clear NU hr hC
  go_enter Tryd.func14, Tryd.ntmps14
  go_wp2_with fail
  refine N1.out.mono ?_
  rintro e w' ⟨rfl, rfl⟩
  unfold pr
  go_wp2
  go_ret2
  exact ⟨rfl, Below.refl _ _⟩
end Go.Proofs.YtakgkdgielkieaaDoor
