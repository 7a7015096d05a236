/- Texts of ours in one: ARight2. -/
import Derived.Test.YtbfnlgmhfhaglaaGreatDoorQl18
/- Values of any shape: jmin.rightList. -/
namespace Go.Proofs.YtbfnlgmhfhaglaaGreatDoor
open Go.RowKit
set_option linter.unusedVariables false
set_option linter.unusedSimpArgs false

theorem all_takeB (l : List Int) : l.all (fun z => decide (0 ≤ z)) = true ↔ ∀ j (h : j < l.length), 0 ≤ l[j] := by
  rw [List.all_eq_true]
  constructor
  · intro h j hj; simpa using h _ (List.getElem_mem hj)
  · intro h z hz
    obtain ⟨j, hj, rfl⟩ := List.getElem_of_mem hz
    simpa using h j hj
theorem all_badB (l : List Int) (j : Nat) (hj : j < l.length) (h : l[j] < 0) : l.all (fun z => decide (0 ≤ z)) = false := by
  cases hb : l.all (fun z => decide (0 ≤ z)) with
  | false => rfl
  | true => have := (all_takeB l).1 hb j hj; omega
set_option maxRecDepth 100000 in
set_option maxHeartbeats 4000000 in
theorem rightlist_any (h : Vh) (L : Vo) (RV0 : ∀ j h kids, L.at? j = some (h, kids) → RV h kids) (d : Nat) (hd : d ≤ 1000) (hC : 1 + h.tx.length + h.ms.length + VoC L ≤ 2097152) (hL : VoL 100000 L) (tv v mv : Value) (w : World) (ht : HdS w h tv mv) (hv : VoS w v L) :
    Calls Tryz.prog 72 #[.agg (vv h tv v mv), .int .i64 (d : Int)] w fun e w' => e = .returned (.bool (marksB h L.len && keysB h L && rightVo L d)) ∧ Below w.heap.size w w' := by
  have b0 := Lib.hid ((Below.refl w.heap.size w).alloc (Nat.le_refl _) (.cells (vv h tv v mv) 27))
  have x0 := Lib.hid (VB.new w h tv v mv)
  have KY := Lib.hid (fun W ht hv => rightkeys_any h L tv v mv W ht hv (by have := voC_len L; omega))
  have IT := Lib.hid (fun W ht hv => rightitems_any h L RV0 d hd (by omega) hL tv v mv W ht hv)
  have hS := Lib.hid hv
  have hT := Lib.hid ht
  have hLn : L.len ≤ 2097152 := by have := voC_len L; omega
  have hMn : h.ms.length ≤ 2097152 := by omega
  have hml := ht.m
  obtain ⟨a, cap, rfl, -⟩ := hv
  obtain ⟨ta, tc, htv⟩ := ht.t.slice
  obtain ⟨ma, mc, hmv, -, -, -, hmc⟩ := hml
  subst htv hmv
  obtain ⟨W1, hW1⟩ : ∃ W, w.alloc (.cells (vv h (.slice ta h.tx.length tc) (.slice a L.len cap) (.slice ma h.ms.length mc)) 27) = W := ⟨_, rfl⟩
  rw [hW1] at b0 x0
  have HW1 := Lib.hid hW1
  obtain ⟨n, hn⟩ : ∃ n, L.len = n := ⟨_, rfl⟩
  obtain ⟨mn, hmn⟩ : ∃ n, h.ms.length = n := ⟨_, rfl⟩
  have HN := Lib.hid hn
  have HM := Lib.hid hmn
  have HMC := Lib.hid hmc
  rw [hn] at hLn
  rw [hmn] at hMn
  obtain ⟨g0, g1, g2, g3, g4, g5, g6, g7, g8⟩ := x0.out.cells
  rw [hn] at g5
  rw [hmn] at g8
  obtain ⟨kb, hkb⟩ : ∃ b, keysB h L = b := ⟨_, rfl⟩
  obtain ⟨rb, hrb⟩ : ∃ b, rightVo L d = b := ⟨_, rfl⟩
  obtain ⟨mb, hmb⟩ : ∃ b, marksB h n = b := ⟨_, rfl⟩
  rw [hkb] at KY
  rw [hrb] at IT
  rw [hn, hkb, hrb, hmb]
  have MB : Hid (mb = (decide (0 ≤ h.tt) && decide (mn = n - 1) && h.ms.all (fun z => decide (0 ≤ z)))) := Lib.hid (by rw [← hmb, ← hmn]; rfl)
  have EXP : Hid (vv h (.slice ta h.tx.length tc) (.slice a n cap) (.slice ma mn mc) = #[.int .i64 h.k, .slice ta h.tx.length tc, .bool h.ng, .string (bytes h.dg), .string (bytes h.ex), .slice a n cap, .int .i64 h.fr, .int .i64 h.tt, .slice ma mn mc]) := Lib.hid rfl
  rw [hn, hmn] at HW1 x0 KY IT
  rw [hmn]
  rw [hn] at hS
  rw [hmn] at hT
  obtain ⟨TO, hTO⟩ : ∃ x, h.tt = x := ⟨_, rfl⟩
  rw [hTO] at g7 MB
  rw [EXP.out] at HW1 ⊢
  rw [hTO] at HW1 ⊢
  clear hW1 hn hmn ht hmc g0 g1 g2 g3 g4 g6 hC hL RV0 hkb hrb hmb hTO
  by_cases h1 : TO < 0
  · have hf : mb = false := by rw [MB.out, show decide (0 ≤ TO) = false by simp; omega]; rfl
    subst hf
    clear MB
    go_enter Tryz.func72, Tryz.ntmps72
    go_upto_region 1 with fail
    rw [HW1.out]
    go_wp2
    go_ret
    exact ⟨rfl, b0.out⟩
  by_cases h2 : mn = n - 1
  case neg =>
    have hf : mb = false := by rw [MB.out, show decide (mn = n - 1) = false by simp [h2]]; simp
    subst hf
    clear MB
    rcases Nat.eq_zero_or_pos n with hn0 | hn0
    · subst hn0
      have m1 : ((mn : Int) == 0) = false := by simp; omega
      have m2 : ((mn : Int) != 0) = true := by simp; omega
      clear h2
      go_enter Tryz.func72, Tryz.ntmps72
      go_upto_region 1 with fail
      rw [HW1.out]
      go_wp2
      go_ret
      exact ⟨rfl, b0.out⟩
    · have m0 : ¬ (n : Int) - 1 < 0 := by omega
      have m3 : (0 : Int) ≤ (n : Int) - 1 := by omega
      have m1 : ((mn : Int) == (n : Int) - 1) = false := by simp; omega
      have m2 : ((mn : Int) != (n : Int) - 1) = true := by simp; omega
      clear h2
      go_enter Tryz.func72, Tryz.ntmps72
      go_upto_region 1 with fail
      rw [HW1.out]
      go_wp2
      go_ret
      exact ⟨rfl, b0.out⟩
  have MQ : Hid (decide (mn = n - 1) = true) := Lib.hid (by simp [h2])
  rcases Nat.eq_zero_or_pos n with hn0 | hn0
  · subst hn0
    have m1 : ((mn : Int) == 0) = true := by simp; omega
    have m2 : ((mn : Int) != 0) = false := by simp; omega
    clear h2
    as_aux_lemma =>
      go_enter Tryz.func72, Tryz.ntmps72
      go_upto_region 1 with fail
      rw [HW1.out]
      go_upto_region 4 with fail
      go_loop [6, 24] (fun _ iv => ∃ j : Nat, iv = .int .i64 (j : Int) ∧ j ≤ mn ∧ ∀ i (hi : i < h.ms.length), i < j → 0 ≤ h.ms[i]) (fun _ iv => mn - (intOf iv).toNat)
      case atStart => exact ⟨0, rfl, by omega, fun i _ h => by omega⟩
      case round =>
        obtain ⟨j, rfl, hj, hok⟩ := hrel
        have HOK := Lib.hid hok
        clear hok
        by_cases hlt : j < mn
        · obtain ⟨b, off, rfl, hbk, hcc⟩ := HMC.out (by rw [HM.out]; omega)
          have hjl : j < h.ms.length := by rw [HM.out]; exact hlt
          have c0 := (b0.out.cell (p := ⟨b, off + j, none⟩) hbk).trans (hcc j hjl)
          have HB := Lib.hid (all_badB h.ms j hjl)
          have HOK2 := Lib.hid (fun (hz : 0 ≤ h.ms[j]) i (hi : i < h.ms.length) (hij : i < j + 1) => (by
            rcases Nat.lt_succ_iff_lt_or_eq.1 hij with h' | rfl
            · exact HOK.out i hi h'
            · exact hz : 0 ≤ h.ms[i]))
          obtain ⟨z, hz⟩ : ∃ z, h.ms[j] = z := ⟨_, rfl⟩
          rw [hz] at c0 HB HOK2
          have j0 : (0 : Int) ≤ j := by omega
          have j1 : (j : Int) < mn := by omega
          clear hz hcc hjl
          by_cases hz0 : z < 0
          · have hf : mb = false := by rw [MB.out, HB.out hz0]; simp
            subst hf
            go_wp2
            go_ret
            exact ⟨rfl, b0.out⟩
          · have H3 := Lib.hid (HOK2.out (by omega))
            clear HOK2
            go_wp2
            go_round
            case rel => exact ⟨j + 1, by go_num, by omega, H3.out⟩
            case measure => simp [intOf]; omega
        · obtain rfl : j = mn := by omega
          have hal : h.ms.all (fun z => decide (0 ≤ z)) = true := (all_takeB h.ms).2 fun i hi => HOK.out i hi (by have := HM.out; omega)
          have hf : mb = true := by rw [MB.out, hal, show decide (0 ≤ TO) = true by simp; omega, MQ.out]; rfl
          subst hf
          have K1 := Lib.hid (KY.out W1 (hT.out.below b0.out) (hS.out.below b0.out))
          clear hal
          have t1 : ¬ (j : Int) < j := by omega
          cases kb with
          | false =>
            go_wp2_with (first | (refine wpl_ldV rfl _ rfl w.heap.size 0 h _ _ _ rfl x0.out.range ?_) | fail)
            refine (K1.out).mono ?_
            rintro e w2 ⟨rfl, hb2⟩
            have d2 := b0.out.trans (hb2.mono b0.out.size)
            clear hb2
            go_wp2
            go_ret
            exact ⟨rfl, d2⟩
          | true =>
            go_wp2_with (first | (refine wpl_ldV rfl _ rfl w.heap.size 0 h _ _ _ rfl x0.out.range ?_) | fail)
            refine (K1.out).mono ?_
            rintro e w2 ⟨rfl, hb2⟩
            have d2 := b0.out.trans (hb2.mono b0.out.size)
            have x2 := Lib.hid (x0.out.keep hb2)
            have I1 := Lib.hid (IT.out w2 (hT.out.below d2) (hS.out.below d2))
            clear hb2
            go_wp2_with (first | (refine wpl_ldVg (by rfl) _ rfl w.heap.size 0 h _ _ _ rfl x2.out.range ?_) | fail)
            refine (I1.out).mono ?_
            rintro e w3 ⟨rfl, hb3⟩
            have d3 := d2.trans (hb3.mono d2.size)
            clear hb3
            go_wp2
            go_ret
            exact ⟨rfl, d3⟩
  · have m0 : ¬ (n : Int) - 1 < 0 := by omega
    have m3 : (0 : Int) ≤ (n : Int) - 1 := by omega
    have m1 : ((mn : Int) == (n : Int) - 1) = true := by simp; omega
    have m2 : ((mn : Int) != (n : Int) - 1) = false := by simp; omega
    clear h2
    as_aux_lemma =>
      go_enter Tryz.func72, Tryz.ntmps72
      go_upto_region 1 with fail
      rw [HW1.out]
      go_upto_region 4 with fail
      go_loop [6, 24] (fun _ iv => ∃ j : Nat, iv = .int .i64 (j : Int) ∧ j ≤ mn ∧ ∀ i (hi : i < h.ms.length), i < j → 0 ≤ h.ms[i]) (fun _ iv => mn - (intOf iv).toNat)
      case atStart => exact ⟨0, rfl, by omega, fun i _ h => by omega⟩
      case round =>
        obtain ⟨j, rfl, hj, hok⟩ := hrel
        have HOK := Lib.hid hok
        clear hok
        by_cases hlt : j < mn
        · obtain ⟨b, off, rfl, hbk, hcc⟩ := HMC.out (by rw [HM.out]; omega)
          have hjl : j < h.ms.length := by rw [HM.out]; exact hlt
          have c0 := (b0.out.cell (p := ⟨b, off + j, none⟩) hbk).trans (hcc j hjl)
          have HB := Lib.hid (all_badB h.ms j hjl)
          have HOK2 := Lib.hid (fun (hz : 0 ≤ h.ms[j]) i (hi : i < h.ms.length) (hij : i < j + 1) => (by
            rcases Nat.lt_succ_iff_lt_or_eq.1 hij with h' | rfl
            · exact HOK.out i hi h'
            · exact hz : 0 ≤ h.ms[i]))
          obtain ⟨z, hz⟩ : ∃ z, h.ms[j] = z := ⟨_, rfl⟩
          rw [hz] at c0 HB HOK2
          have j0 : (0 : Int) ≤ j := by omega
          have j1 : (j : Int) < mn := by omega
          clear hz hcc hjl
          by_cases hz0 : z < 0
          · have hf : mb = false := by rw [MB.out, HB.out hz0]; simp
            subst hf
            go_wp2
            go_ret
            exact ⟨rfl, b0.out⟩
          · have H3 := Lib.hid (HOK2.out (by omega))
            clear HOK2
            go_wp2
            go_round
            case rel => exact ⟨j + 1, by go_num, by omega, H3.out⟩
            case measure => simp [intOf]; omega
        · obtain rfl : j = mn := by omega
          have hal : h.ms.all (fun z => decide (0 ≤ z)) = true := (all_takeB h.ms).2 fun i hi => HOK.out i hi (by have := HM.out; omega)
          have hf : mb = true := by rw [MB.out, hal, show decide (0 ≤ TO) = true by simp; omega, MQ.out]; rfl
          subst hf
          have K1 := Lib.hid (KY.out W1 (hT.out.below b0.out) (hS.out.below b0.out))
          clear hal
          have t1 : ¬ (j : Int) < j := by omega
          cases kb with
          | false =>
            go_wp2_with (first | (refine wpl_ldV rfl _ rfl w.heap.size 0 h _ _ _ rfl x0.out.range ?_) | fail)
            refine (K1.out).mono ?_
            rintro e w2 ⟨rfl, hb2⟩
            have d2 := b0.out.trans (hb2.mono b0.out.size)
            clear hb2
            go_wp2
            go_ret
            exact ⟨rfl, d2⟩
          | true =>
            go_wp2_with (first | (refine wpl_ldV rfl _ rfl w.heap.size 0 h _ _ _ rfl x0.out.range ?_) | fail)
            refine (K1.out).mono ?_
            rintro e w2 ⟨rfl, hb2⟩
            have d2 := b0.out.trans (hb2.mono b0.out.size)
            have x2 := Lib.hid (x0.out.keep hb2)
            have I1 := Lib.hid (IT.out w2 (hT.out.below d2) (hS.out.below d2))
            clear hb2
            go_wp2_with (first | (refine wpl_ldVg (by rfl) _ rfl w.heap.size 0 h _ _ _ rfl x2.out.range ?_) | fail)
            refine (I1.out).mono ?_
            rintro e w3 ⟨rfl, hb3⟩
            have d3 := d2.trans (hb3.mono d2.size)
            clear hb3
            go_wp2
            go_ret
            exact ⟨rfl, d3⟩
end Go.Proofs.YtbfnlgmhfhaglaaGreatDoor
