/- What the functions of jlex that read texts return, for any bytes that are UTF-8 from there on. -/
import Derived.Test.YtakgkdgielkieaaDoorQJ4
import Derived.Test.YtakgkdgielkieaaDoorRMath
namespace Go.Proofs.YtakgkdgielkieaaDoor
open Go.RowKit
set_option linter.unusedVariables false
set_option linter.unusedSimpArgs false

theorem hexV_iff (c : UInt8) : 0 ≤ M.hexV c ↔ (48 ≤ c.toNat ∧ c.toNat ≤ 57 ∨ 97 ≤ c.toNat ∧ c.toNat ≤ 102 ∨ 65 ≤ c.toNat ∧ c.toNat ≤ 70) := by
  unfold M.hexV
  repeat' split
  all_goals omega
set_option maxRecDepth 100000 in
set_option maxHeartbeats 2000000 in
theorem uesc_any (v : Value) (l : List UInt8) (i r : Nat) (w : World) (hv : Bs w v l) (hi : i < l.length) (hl : l.length ≤ 4294967296) (hr : (if M.hex4ok (l.drop (i + 2)) = true then 6 else 0) = r) :
    Calls Tryd.prog 32 #[v, .int .i64 (i : Int)] w fun e w' => e = .returned (.int .i64 (r : Int)) ∧ w = w' := by
  obtain ⟨a, cap, rfl, h1, h2, h3⟩ := hv
  obtain ⟨n, hn⟩ : ∃ n, l.length = n := ⟨_, rfl⟩
  obtain ⟨b, off, rfl, hb, hcl⟩ := h3 (by omega)
  have HC := Lib.hid (@cell_getD w b off l hcl)
  have HX := Lib.hid (fun c r hr => ishex_any c r w hr)
  have Hr := Lib.hid hr
  have HN := Lib.hid hn
  have i2 : ((i : Int) + 2).toNat = i + 2 := by omega
  have i6 : ((i : Int) + 6).toNat = i + 6 := by omega
  have i5 : i + 6 - (i + 2) = 4 := by omega
  by_cases hend : i + 6 ≤ n
  · rw [hn] at h1 hl hi ⊢
    have t1 : decide ((n : Int) < (i : Int) + 6) = false := by simp; omega
    have u1 : (i : Int) + 6 ≤ n := by omega
    clear h3 hcl hr hn h2
    go_enter Tryd.func32, Tryd.ntmps32
    go_wp2
    go_loop [19] (fun kv => ∃ j : Nat, kv = .int .i64 (j : Int) ∧ j ≤ 4 ∧ hexTo l (i + 2) j = true) (fun kv => 4 - (intOf kv).toNat)
    case atStart => exact ⟨0, rfl, by omega, rfl⟩
    case round =>
      obtain ⟨j, rfl, hj, hx⟩ := hrel
      have Hx := Lib.hid hx
      clear hx
      by_cases hj4 : j < 4
      · have hck := HC.out (i + 2 + j) (by rw [HN.out]; omega)
        obtain ⟨c, hc⟩ : ∃ c, l.getD (i + 2 + j) 0 = c := ⟨_, rfl⟩
        rw [hc] at hck
        have hck2 : w.cell? ⟨b, off + (i + 2) + j, none⟩ = some (.int .u8 (c.toNat : Int)) := by rw [← hck]; congr 2; omega
        have hno := hexTo_no l (i + 2) j hj4
        rw [hc, hexV_iff] at hno
        obtain ⟨d, hd⟩ : ∃ d, decide (48 ≤ c.toNat ∧ c.toNat ≤ 57 ∨ 97 ≤ c.toNat ∧ c.toNat ≤ 102 ∨ 65 ≤ c.toNat ∧ c.toNat ≤ 70) = d := ⟨_, rfl⟩
        have X1 := Lib.hid (HX.out c d hd)
        have hsucc : d = true → hexTo l (i + 2) (j + 1) = true := by
          intro h
          unfold hexTo
          rw [Hx.out, hc]
          simp only [Bool.true_and, decide_eq_true_eq]
          rw [hexV_iff]
          rw [h] at hd
          exact of_decide_eq_true hd
        have hbad : d = false → r = 0 := by
          intro h
          rw [h] at hd
          have := Hr.out
          rw [hno (of_decide_eq_false hd), if_neg (by simp)] at this
          omega
        have Hs := Lib.hid hsucc
        have Hb := Lib.hid hbad
        obtain ⟨C, hC⟩ : ∃ C : Int, (c.toNat : Int) = C := ⟨_, rfl⟩
        rw [hC] at hck2 X1
        clear hck hc hno hd hsucc hbad hC
        cases d with
        | true =>
          have Hn := Lib.hid (Hs.out rfl)
          go_wp2_with fail
          refine X1.out.mono ?_
          rintro e w' ⟨rfl, rfl⟩
          go_wp2
          go_round
          case rel => exact ⟨j + 1, by go_num, by omega, Hn.out⟩
          case measure => simp [intOf]; omega
        | false =>
          obtain rfl := Hb.out rfl
          go_wp2_with fail
          refine X1.out.mono ?_
          rintro e w' ⟨rfl, rfl⟩
          go_wp2
          go_ret
          exact ⟨rfl, rfl⟩
      · obtain rfl : j = 4 := by omega
        have hr6 := Hr.out
        rw [hexTo_four, Hx.out, if_pos rfl] at hr6
        subst hr6
        go_wp2
        go_ret
        exact ⟨rfl, rfl⟩
  · have t1 : decide ((n : Int) < (i : Int) + 6) = true := by simp; omega
    have hno : M.hex4ok (l.drop (i + 2)) = false := by
      cases h4 : M.hex4ok (l.drop (i + 2)) with
      | false => rfl
      | true =>
        rw [hexTo_four] at h4
        simp only [hexTo, Bool.true_and, Bool.and_eq_true, decide_eq_true_eq] at h4
        have := hexV_in l _ h4.2
        omega
    rw [hno, if_neg (by simp)] at hr
    subst hr
    rw [hn] at h1 hl hi ⊢
    clear h3 hcl hn h2 HC HX Hr HN hno
    go_enter Tryd.func32, Tryd.ntmps32
    go_wp2
    go_ret
    exact ⟨rfl, rfl⟩

set_option maxRecDepth 100000 in
set_option maxHeartbeats 2000000 in
theorem cpt_any (v : Value) (l : List UInt8) (i r : Nat) (w : World) (hT : Tabs w) (hv : Bs w v l) (hi : i < l.length) (hl : l.length ≤ 4294967296) (hok : (M.nx (l.drop i)).2.2 = true)
    (hr : (if 32 ≤ (l.getD i 0).toNat then (M.dec (l.drop i)).2 else 0) = r) :
    Calls Tryd.prog 31 #[v, .int .i64 (i : Int)] w fun e w' => e = .returned (.int .i64 (r : Int)) ∧ Below w.heap.size w w' := by
  have hnx : M.nextAt l (i : Int) = (((M.dec (l.drop i)).1 : Int), ((M.dec (l.drop i)).2 : Int), true) := by
    rw [M.nextAt_in l i hi]
    unfold M.nx at hok ⊢
    split
    · rename_i h; rw [if_pos h] at hok; exact absurd hok (by simp)
    · rfl
  have N1 := Lib.hid (next_any v l (i : Int) _ w hT hv hl hnx)
  obtain ⟨a, cap, rfl, h1, h2, h3⟩ := hv
  obtain ⟨n, hn⟩ : ∃ n, l.length = n := ⟨_, rfl⟩
  obtain ⟨b, off, rfl, hb, hcl⟩ := h3 (by omega)
  have hci := @cell_getD w b off l hcl i hi
  obtain ⟨c, hc⟩ : ∃ c, l.getD i 0 = c := ⟨_, rfl⟩
  rw [hc] at hci hr
  obtain ⟨R, hR⟩ : ∃ R, (M.dec (l.drop i)).1 = R := ⟨_, rfl⟩
  obtain ⟨K, hK⟩ : ∃ R, (M.dec (l.drop i)).2 = R := ⟨_, rfl⟩
  rw [hR, hK] at N1
  rw [hK] at hr
  obtain ⟨C, hC⟩ : ∃ C : Int, (c.toNat : Int) = C := ⟨_, rfl⟩
  rw [hC] at hci
  unfold tri at N1
  rw [hn] at h1 hl hi N1 ⊢
  have u1 : (i : Int) < n := by omega
  by_cases h32 : 32 ≤ c.toNat
  · rw [if_pos h32] at hr
    have t1 : decide (C < (32 : Int)) = false := by simp; omega
    subst hr
    clear h32 hC hR hK hc hcl h3 h2 hn hnx hok hT
    go_enter Tryd.func31, Tryd.ntmps31
    go_wp2_with fail
    refine N1.out.mono ?_
    rintro e w' ⟨rfl, hb1⟩
    have hcr := hb1.cell (p := ⟨b, off + i, none⟩) hb
    rw [hci] at hcr
    go_wp2
    go_ret
    exact ⟨rfl, hb1⟩
  · rw [if_neg h32] at hr
    have t1 : decide (C < (32 : Int)) = true := by simp; omega
    subst hr
    clear h32 hC hR hK hc hcl h3 h2 hn hnx hok hT
    go_enter Tryd.func31, Tryd.ntmps31
    go_wp2_with fail
    refine N1.out.mono ?_
    rintro e w' ⟨rfl, hb1⟩
    have hcr := hb1.cell (p := ⟨b, off + i, none⟩) hb
    rw [hci] at hcr
    go_wp2
    go_ret
    exact ⟨rfl, hb1⟩

theorem esc_cases (d : UInt8) (D : Int) (hD : (d.toNat : Int) = D) : (d ∈ M.escL ∧ d ≠ 117 ∧ ((D == 34) = true ∨ ((D == 34) = false ∧ (D == 92) = true) ∨ ((D == 34) = false ∧ (D == 92) = false ∧ (D == 47) = true) ∨ ((D == 34) = false ∧ (D == 92) = false ∧ (D == 47) = false ∧ (D == 98) = true) ∨
    ((D == 34) = false ∧ (D == 92) = false ∧ (D == 47) = false ∧ (D == 98) = false ∧ (D == 102) = true) ∨ ((D == 34) = false ∧ (D == 92) = false ∧ (D == 47) = false ∧ (D == 98) = false ∧ (D == 102) = false ∧ (D == 110) = true) ∨
    ((D == 34) = false ∧ (D == 92) = false ∧ (D == 47) = false ∧ (D == 98) = false ∧ (D == 102) = false ∧ (D == 110) = false ∧ (D == 114) = true) ∨
    ((D == 34) = false ∧ (D == 92) = false ∧ (D == 47) = false ∧ (D == 98) = false ∧ (D == 102) = false ∧ (D == 110) = false ∧ (D == 114) = false ∧ (D == 116) = true))) ∨
    (d ∉ M.escL ∧ (D == 34) = false ∧ (D == 92) = false ∧ (D == 47) = false ∧ (D == 98) = false ∧ (D == 102) = false ∧ (D == 110) = false ∧ (D == 114) = false ∧ (D == 116) = false ∧ ((d = 117 ∧ (D == 117) = true) ∨ (d ≠ 117 ∧ (D == 117) = false))) := by
  have h : ∀ d : Fin 256, (d.val.toUInt8 ∈ M.escL ∧ d.val.toUInt8 ≠ 117 ∧ (((d.val : Int) == 34) = true ∨ (((d.val : Int) == 34) = false ∧ ((d.val : Int) == 92) = true) ∨ (((d.val : Int) == 34) = false ∧ ((d.val : Int) == 92) = false ∧ ((d.val : Int) == 47) = true) ∨ (((d.val : Int) == 34) = false ∧ ((d.val : Int) == 92) = false ∧ ((d.val : Int) == 47) = false ∧ ((d.val : Int) == 98) = true) ∨
    (((d.val : Int) == 34) = false ∧ ((d.val : Int) == 92) = false ∧ ((d.val : Int) == 47) = false ∧ ((d.val : Int) == 98) = false ∧ ((d.val : Int) == 102) = true) ∨ (((d.val : Int) == 34) = false ∧ ((d.val : Int) == 92) = false ∧ ((d.val : Int) == 47) = false ∧ ((d.val : Int) == 98) = false ∧ ((d.val : Int) == 102) = false ∧ ((d.val : Int) == 110) = true) ∨
    (((d.val : Int) == 34) = false ∧ ((d.val : Int) == 92) = false ∧ ((d.val : Int) == 47) = false ∧ ((d.val : Int) == 98) = false ∧ ((d.val : Int) == 102) = false ∧ ((d.val : Int) == 110) = false ∧ ((d.val : Int) == 114) = true) ∨
    (((d.val : Int) == 34) = false ∧ ((d.val : Int) == 92) = false ∧ ((d.val : Int) == 47) = false ∧ ((d.val : Int) == 98) = false ∧ ((d.val : Int) == 102) = false ∧ ((d.val : Int) == 110) = false ∧ ((d.val : Int) == 114) = false ∧ ((d.val : Int) == 116) = true))) ∨
    (d.val.toUInt8 ∉ M.escL ∧ ((d.val : Int) == 34) = false ∧ ((d.val : Int) == 92) = false ∧ ((d.val : Int) == 47) = false ∧ ((d.val : Int) == 98) = false ∧ ((d.val : Int) == 102) = false ∧ ((d.val : Int) == 110) = false ∧ ((d.val : Int) == 114) = false ∧ ((d.val : Int) == 116) = false ∧ ((d.val.toUInt8 = 117 ∧ ((d.val : Int) == 117) = true) ∨ (d.val.toUInt8 ≠ 117 ∧ ((d.val : Int) == 117) = false))) := by decide +kernel
  have h2 := h ⟨d.toNat, d.toNat_lt⟩
  simp only at h2
  rw [← u8_of d.toNat_lt rfl, hD] at h2
  exact h2
set_option maxRecDepth 100000 in
set_option maxHeartbeats 4000000 in
theorem elem_any (v : Value) (l : List UInt8) (i r : Nat) (w : World) (hT : Tabs w) (hv : Bs w v l) (hi : i < l.length) (hl : l.length ≤ 4294967296) (hok : Okv l i) (hr : elemN l i = r) :
    Calls Tryd.prog 24 #[v, .int .i64 (i : Int)] w fun e w' => e = .returned (.int .i64 (r : Int)) ∧ Below w.heap.size w w' := by
  have CP := Lib.hid (fun r hr => cpt_any v l i r w hT hv hi hl (okv_nx l i hi hok).1 hr)
  have UE := Lib.hid (fun r hr => uesc_any v l i r w hv hi hl hr)
  obtain ⟨a, cap, rfl, h1, h2, h3⟩ := hv
  obtain ⟨n, hn⟩ : ∃ n, l.length = n := ⟨_, rfl⟩
  obtain ⟨b, off, rfl, hb, hcl⟩ := h3 (by omega)
  have hcg := @cell_getD w b off l hcl
  have hci := hcg i hi
  unfold elemN at hr
  have hout := getD_out l (i + 1)
  obtain ⟨c, hc⟩ : ∃ c, l.getD i 0 = c := ⟨_, rfl⟩
  rw [hc] at hci hr CP
  obtain ⟨C, hC⟩ : ∃ C : Int, (c.toNat : Int) = C := ⟨_, rfl⟩
  rw [hC] at hci
  have u1 : (i : Int) < n := by omega
  have i4 : ((i : Int) + 1).toNat = i + 1 := by omega
  by_cases h92 : c = 92
  · have t1 : (C != 92) = false := by simp [← hC, h92]
    rw [if_pos h92] at hr
    by_cases hend : i + 1 < n
    · have hcd := hcg (i + 1) (by omega)
      obtain ⟨d, hd⟩ : ∃ d, l.getD (i + 1) 0 = d := ⟨_, rfl⟩
      rw [hd] at hcd hr
      obtain ⟨D, hD⟩ : ∃ D : Int, (d.toNat : Int) = D := ⟨_, rfl⟩
      rw [hD] at hcd
      have t2 : ((i : Int) + 1 == n) = false := by rw [beq_eq_false_iff_ne]; omega
      have v1 : (i : Int) + 1 < n := by omega
      rcases esc_cases d D hD with ⟨hm, hnu, hs⟩ | ⟨hm, q1, q2, q3, q4, q5, q6, q7, q8, hu⟩
      · rw [if_neg hnu, if_pos hm] at hr
        subst hr
        rw [hn] at h1 hl hi ⊢
        clear CP UE hC hD hd hc hcl hcg hout h3 h2 hn hm hnu hok hT h92 hend
        rcases hs with q1 | ⟨q1, q2⟩ | ⟨q1, q2, q3⟩ | ⟨q1, q2, q3, q4⟩ | ⟨q1, q2, q3, q4, q5⟩ | ⟨q1, q2, q3, q4, q5, q6⟩ | ⟨q1, q2, q3, q4, q5, q6, q7⟩ | ⟨q1, q2, q3, q4, q5, q6, q7, q8⟩
        all_goals
          go_enter Tryd.func24, Tryd.ntmps24
          go_wp2
          go_ret
          exact ⟨rfl, Below.refl _ _⟩
      · rcases hu with ⟨hu, q9⟩ | ⟨hu, q9⟩
        · rw [if_pos hu] at hr
          have U1 := Lib.hid (UE.out r hr)
          rw [hn] at h1 hl hi U1 ⊢
          clear CP UE hC hD hd hc hcl hcg hout h3 h2 hn hm hu hok hT h92 hend hr
          go_enter Tryd.func24, Tryd.ntmps24
          go_wp2_with fail
          refine U1.out.mono ?_
          rintro e w' ⟨rfl, rfl⟩
          go_wp2
          go_ret
          exact ⟨rfl, Below.refl _ _⟩
        · rw [if_neg hu, if_neg hm] at hr
          subst hr
          rw [hn] at h1 hl hi ⊢
          clear CP UE hC hD hd hc hcl hcg hout h3 h2 hn hm hu hok hT h92 hend
          go_enter Tryd.func24, Tryd.ntmps24
          go_wp2
          go_ret
          exact ⟨rfl, Below.refl _ _⟩
    · have hd := hout (by omega)
      rw [hd, if_neg (by decide), if_neg (by decide)] at hr
      subst hr
      have t2 : ((i : Int) + 1 == n) = true := by rw [beq_iff_eq]; omega
      rw [hn] at h1 hl hi ⊢
      clear CP UE hC hd hc hcl hcg hout h3 h2 hn hok hT h92 hend
      go_enter Tryd.func24, Tryd.ntmps24
      go_wp2
      go_ret
      exact ⟨rfl, Below.refl _ _⟩
  · have t1 : (C != 92) = true := by rw [bne_iff_ne]; intro hh; apply h92; apply UInt8.toNat_inj.1; show c.toNat = 92; omega
    rw [if_neg h92] at hr
    have C1 := Lib.hid (CP.out r hr)
    rw [hn] at h1 hl hi C1 ⊢
    clear CP UE hC hc hcl hcg hout h3 h2 hn hok hT h92 hr
    go_enter Tryd.func24, Tryd.ntmps24
    go_wp2_with fail
    refine C1.out.mono ?_
    rintro e w' ⟨rfl, hb1⟩
    go_wp2
    go_ret
    exact ⟨rfl, hb1⟩

set_option maxRecDepth 100000 in
set_option maxHeartbeats 4000000 in
theorem text_any (v : Value) (l : List UInt8) (i : Nat) (r : Int × Int) (w : World) (hT : Tabs w) (hv : Bs w v l) (hi : i < l.length) (hl : l.length ≤ 4294967296) (hok : Okv l (i + 1))
    (hr : tokI ((M.jtS ((l.drop i).drop 1)).map fun n => (7, n + 1)) i = r) :
    Calls Tryd.prog 19 #[v, .int .i64 (i : Int)] w fun e w' => e = .returned (pr r) ∧ Below w.heap.size w w' := by
  have hv2 := hv
  obtain ⟨a, cap, rfl, h1, h2, h3⟩ := hv2
  obtain ⟨n, hn⟩ : ∃ n, l.length = n := ⟨_, rfl⟩
  obtain ⟨b, off, rfl, hb, hcl⟩ := h3 (by omega)
  have hcg := @cell_getD w b off l hcl
  obtain ⟨z, hz⟩ : ∃ z, jtI l (i + 1) = z := ⟨_, rfl⟩
  have hrz : (z = -1 → r = (0, 0)) ∧ (∀ k : Nat, z = k → r = (7, (k : Int))) := by
    rw [← hr, ← hz]
    unfold jtI
    rw [List.drop_drop]
    cases M.jtS (l.drop (i + 1)) with
    | none => exact ⟨fun _ => rfl, fun k hk => by simp at hk <;> omega⟩
    | some m => exact ⟨fun h => by simp at h; omega, fun k hk => by simp at hk; simp [tokI]; omega⟩
  have HR := Lib.hid hrz
  have HC := Lib.hid hcg
  have HN := Lib.hid hn
  have HV := Lib.hid hv
  have HT := Lib.hid hT
  have HZ := Lib.hid hz
  have HO := Lib.hid hok
  rw [hn] at h1 hl hi ⊢
  clear h3 hcl hcg hn hv hT hz hrz hr hok h2
  go_enter Tryd.func19, Tryd.ntmps19
  go_wp2
  go_loopw [1, 6] (fun iv _ wr => ∃ j : Nat, iv = .int .i64 (j : Int) ∧ j ≤ n ∧ jtI l j = z ∧ Okv l j ∧ Below w.heap.size w wr) (fun iv _ _ => n - (intOf iv).toNat)
  case atStart => exact ⟨i + 1, by go_num, by omega, HZ.out, HO.out, Below.refl _ _⟩
  case round =>
    obtain ⟨j, rfl, hj, hx, ho, hbl⟩ := hrel
    by_cases hlt : j < n
    · have hjl : j < l.length := by rw [HN.out]; exact hlt
      have hgd : l.getD j 0 = l[j] := by simp [hjl]
      have hcj : wr.cell? ⟨b, off + j, none⟩ = some (.int .u8 ((l.getD j 0).toNat : Int)) := by rw [hbl.cell (p := ⟨b, off + j, none⟩) hb]; exact HC.out j hjl
      have hend := jt_end l j hjl
      rw [← hgd, hx] at hend
      have hef := fun h => elem_facts l j hjl h ho
      have E1 := fun r hr => elem_any _ l j r wr (HT.out.keep hbl) (HV.out.keep hbl) hjl (by rw [HN.out]; exact hl) ho hr
      rw [HN.out] at E1
      obtain ⟨c, hc⟩ : ∃ c, l.getD j 0 = c := ⟨_, rfl⟩
      rw [hc] at hcj hend hef
      obtain ⟨C, hC⟩ : ∃ C : Int, (c.toNat : Int) = C := ⟨_, rfl⟩
      rw [hC] at hcj
      have u1 : (j : Int) < n := by omega
      have u2 : ((j : Int) == n) = false := by rw [beq_eq_false_iff_ne]; omega
      by_cases h34 : c = 34
      · have t1 : (C != 34) = false := by simp [← hC, h34]
        have hz := hend h34
        have hrr := HR.out.2 (j + 1) (by rw [hz]; omega)
        have Hrr := Lib.hid hrr
        clear hend hef E1 hc hC h34 hz hrr hx ho hgd
        go_wp2
        go_ret2
        exact ⟨by rw [Hrr.out]; rfl, hbl⟩
      · have t1 : (C != 34) = true := by rw [bne_iff_ne]; intro hh; apply h34; apply UInt8.toNat_inj.1; show c.toNat = 34; omega
        have hfa := hef h34
        obtain ⟨m, hm⟩ : ∃ m, elemN l j = m := ⟨_, rfl⟩
        have E2 := Lib.hid (E1 m hm)
        rw [hm, hx] at hfa
        rw [HN.out] at hfa
        rcases hfa with ⟨hm0, hz⟩ | ⟨hm0, hle, hz, ho2⟩
        · have hrr := HR.out.1 hz
          have Hrr := Lib.hid hrr
          subst hm0
          clear hend hef E1 hc hC h34 hz hrr hx ho hgd hm
          go_wp2_with fail
          refine E2.out.mono ?_
          rintro e w2 ⟨rfl, hb2⟩
          have hb3 := hbl.trans (hb2.mono hbl.size)
          go_wp2
          go_ret2
          exact ⟨by rw [Hrr.out]; rfl, hb3⟩
        · have t2 : ((m : Int) == 0) = false := by rw [beq_eq_false_iff_ne]; omega
          have Hz := Lib.hid hz
          have Ho2 := Lib.hid ho2
          clear hend hef E1 hc hC h34 hz ho2 hx ho hgd hm
          go_wp2_with fail
          refine E2.out.mono ?_
          rintro e w2 ⟨rfl, hb2⟩
          have hb3 := hbl.trans (hb2.mono hbl.size)
          clear hbl hb2 hcj
          go_wp2
          go_roundw
          case rel => exact ⟨j + m, by go_num, by omega, Hz.out, Ho2.out, hb3⟩
          case measure => simp [intOf]; omega
    · obtain rfl : j = n := by omega
      have hz := hx
      rw [jtI_out l j (by rw [HN.out]; exact Nat.le_refl _)] at hz
      have hrr := HR.out.1 hz.symm
      have Hrr := Lib.hid hrr
      clear hx hz hrr ho hlt
      go_wp2
      go_ret2
      exact ⟨by rw [Hrr.out]; rfl, hbl⟩
end Go.Proofs.YtakgkdgielkieaaDoor
