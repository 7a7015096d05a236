/- Tokens of CSS, the page's own: url. -/
import Derived.Test.YtilndlifmpbfnaaDoorBgF
namespace Go.Proofs.YtilndlifmpbfnaaDoor
open Go.RowKit
set_option linter.unusedVariables false
set_option linter.unusedSimpArgs false

theorem inU_no (y : Int) (h : y = 34 ∨ y = 39 ∨ y = 40 ∨ y < 9 ∨ y = 11 ∨ (14 ≤ y ∧ y < 32) ∨ y = 127 ∨ y = 92) : M.inU y = false := by
  cases hh : M.inU y with
  | false => rfl
  | true => unfold M.inU at hh; simp at hh; omega
set_option maxRecDepth 100000 in
set_option maxHeartbeats 8000000 in
theorem rurl_any (v : Value) (L : List (Int × Int)) (c : List Int) (i a0 k : Nat) (t : M.CT) (K : Nat) (w : World) (hv : Rs w v L) (hc : cps L = c) (hl : L.length ≤ 40000) (hi : i < L.length) (hia : i ≤ a0) (ha : a0 ≤ L.length) (hk : a0 + M.blN (c.drop a0) = k)
    (ht : (if (M.urlT false false (c.drop k)).1 = true then { kind := 8, text := M.encZs ((c.drop i).take (K - i)) } else { kind := 7, text := M.encZs (M.urlT false false (c.drop k)).2.1 } : M.CT) = t) (hK : k + (M.urlT false false (c.drop k)).2.2 = K) :
    Calls Tryd.prog 40 #[v, .int .i64 (i : Int), .int .i64 (a0 : Int)] w (TkR w t K) := by
  have hlc := hv.lc
  rw [hc] at hlc
  have hcl : c.length = L.length := by rw [← hc, cps_len]
  have hkl : k ≤ L.length := by
    have := M.blN_le (c.drop a0)
    rw [List.length_drop, hcl] at this; omega
  have hKn : K ≤ L.length := by
    have := (M.urlT_le _ false false (c.drop k) (Nat.le_refl _)).1
    rw [List.length_drop, hcl] at this; omega
  obtain ⟨n, hn⟩ : ∃ n, L.length = n := ⟨_, rfl⟩
  have RW := Lib.hid (fun (W : World) (hW : Below w.heap.size w W) (j : Nat) (h1 : i ≤ j) (h2 : j ≤ n) => rraw_any v L c i j W (rs_keep hv hW) hc (by omega) (by omega) h1 (by omega))
  have ES := Lib.hid (fun (W : World) (hW : Below w.heap.size w W) (j : Nat) (hj : j < n) (r : Int) (k : Nat) (hr : M.escV (c.drop (j + 1)) = (r, k)) => rescaped_any v c j r k W (hlc.keep hW) (by omega) (by omega) hr)
  have EB := Lib.hid (fun (W : World) (hW : Below w.heap.size w W) (j : Nat) (hj : j ≤ n) (b : Bool) (hb : M.esB (c.drop j) = b) => rescape_any v c j b W (hlc.keep hW) (by omega) (by omega) hb)
  have BU := Lib.hid (fun (W : World) (hW : Below w.heap.size w W) (j m : Nat) (hj : j ≤ n) (hm : j + badN (c.drop j) = m) => rbadurl_any v c j m W (hlc.keep hW) (by omega) (by omega) hm)
  have AT := Lib.hid (fun (W : World) (hW : Below w.heap.size w W) (j : Nat) (y : Int) (hy : c.getD j (-1) = y) => rat_any v c j y W (hlc.keep hW) (by omega) hy)
  rw [hn] at hl hi hcl ha hkl hKn
  obtain ⟨a, cap, rfl, h1, h2, h3⟩ := rs_at hv hn
  rw [hc] at h3
  obtain ⟨p, off, rfl, hp, -⟩ := h3 i hi
  have hcell : ∀ j, j < n → w.cell? ⟨p, off + j * 2, none⟩ = some (.int .i64 (c.getD j (-1))) := by
    intro j hj
    obtain ⟨b, off', e, _, g1, g2⟩ := h3 j hj
    simp only [Option.some.injEq, Addr.mk.injEq, and_true] at e
    obtain ⟨rfl, rfl⟩ := e
    exact g1
  have HCL := Lib.hid hcl
  have HCE := Lib.hid hcell
  obtain ⟨W0, hW0, cb0, b0, z0⟩ := w0_facts w
  have HW0 := Lib.hid hW0
  have Z0 := Lib.hid z0
  have C0 := Lib.hid b0
  have CB0 := Lib.hid cb0
  have HT := Lib.hid ht
  have HK := Lib.hid hK
  have HKK := Lib.hid hk
  have HKN := Lib.hid hKn
  have HIK := Lib.hid (show i ≤ K by omega)
  have i1 : (0 : Int) ≤ i := by omega
  have i2 : (i : Int) < n := by omega
  have i3 : (n : Int) ≤ 40000 := by omega
  unfold maxLen at h2
  clear hW0 z0 hv hc hn h3 hlc hcl b0 cb0 ht hK hcell hk hKn
  go_enter Tryd.func40, Tryd.ntmps40
  go_wp2
  rw [HW0.out]
  go_loop [2] (fun iv => ∃ j : Nat, iv = .int .i64 (j : Int) ∧ j ≤ k ∧ j + M.blN (c.drop j) = k) (fun iv => n - (intOf iv).toNat)
  case atStart => exact ⟨a0, rfl, by have := HKK.out; omega, HKK.out⟩
  case round =>
    obtain ⟨j, rfl, hj, hjk⟩ := hrel
    have j0 : (0 : Int) ≤ j := by omega
    have j9 : (j : Int) ≤ 40000 := by omega
    obtain ⟨y, hy⟩ : ∃ y, c.getD j (-1) = y := ⟨_, rfl⟩
    have A1 := Lib.hid (AT.out W0 C0.out j y hy)
    cases hbl : M.isBl y with
    | true =>
      have X1 := Lib.hid (rbl_any y true W0 hbl)
      rw [← hy] at hbl
      rw [blN_at c j hbl] at hjk
      have hjn : j < n := by
        rcases Nat.lt_or_ge j n with h | h
        · exact h
        · rw [getD_end c n j HCL.out h] at hbl; exact absurd hbl (by decide)
      have HJ := Lib.hid (show (j + 1) + M.blN (c.drop (j + 1)) = k by omega)
      have hj1 : j + 1 ≤ k := by omega
      clear hy hbl hjk
      as_aux_lemma =>
        go_wp2_with fail
        refine (A1.out).mono ?_
        rintro e w' ⟨rfl, rfl⟩
        go_wp2_with fail
        refine (X1.out).mono ?_
        rintro e w' ⟨rfl, rfl⟩
        go_wp2
        go_round
        case rel => exact ⟨j + 1, by go_num, hj1, HJ.out⟩
        case measure => simp [intOf]; omega
    | false =>
      have X1 := Lib.hid (rbl_any y false W0 hbl)
      rw [← hy] at hbl
      rw [blN_out c j hbl] at hjk
      obtain rfl : j = k := by omega
      clear hy hbl hjk hj
      go_wp2_with fail
      refine (A1.out).mono ?_
      rintro e w' ⟨rfl, rfl⟩
      go_wp2_with fail
      refine (X1.out).mono ?_
      rintro e w' ⟨rfl, rfl⟩
      clear A1 X1 j9
      go_wp2
      go_loopw [2, 8, 9, 10, 11, 12, 13] (fun ev bv _ _ _ _ _ wr => ∃ (j' : Nat) (pre : List Int) (s : Bool), ev = .int .i64 (j' : Int) ∧ j' ≤ n ∧ UtAt c j j' pre false s ∧ (s = true → j' = n ∨ c.getD j' (-1) = 41) ∧ pre.length ≤ j' ∧ OwnB W0.heap.size wr bv (M.encZs pre) ∧ Below W0.heap.size W0 wr) (fun ev _ _ _ _ _ _ _ => n - (intOf ev).toNat)
      case atStart => exact ⟨j, [], false, rfl, hkl, ⟨by simp, Nat.le_refl _⟩, by simp, by simp, World.ownsRow_nil _ _ _ _, Below.refl _ _⟩
      case round =>
        obtain ⟨m, pre, s, rfl, hm2, hst, hs41, hpl, ho, hb⟩ := hrel
        have hsz := hb.size
        have hel := encZs_le4 pre
        have HST := Lib.hid hst
        have hij := hst.2
        have hw := C0.out.trans (hb.mono (by rw [Z0.out]; omega))
        have HWR := Lib.hid hw
        have CBR := Lib.hid (CB0.out.keep hb (by rw [Z0.out]; omega))
        have m0 : (0 : Int) ≤ m := by omega
        have m2 : (m : Int) ≤ n := by omega
        clear hst hw
        by_cases hmn : m < n
        · have t1 : decide ((m : Int) < n) = true := by simp; omega
          have m3 : (m : Int) < n := by omega
          have ca := HCE.out m hmn
          have ra := HWR.out.cell (p := ⟨p, off + m * 2, none⟩) hp
          rw [ca] at ra
          obtain ⟨y, hy⟩ : ∃ y, c.getD m (-1) = y := ⟨_, rfl⟩
          rw [hy] at ra hs41
          have HY := Lib.hid hy
          clear ca hy
          by_cases hyq : y = 41
          · have hs := urlT_atp false s c m (by rw [HCL.out]; exact hmn) (by rw [HY.out]; exact hyq)
            have hfin := HST.out.1
            rw [hs] at hfin
            simp only [List.append_nil] at hfin
            have ht := HT.out
            have hK := HK.out
            rw [hfin] at ht hK
            simp only [Bool.false_eq_true, if_false] at ht hK
            have HT2 := Lib.hid ht
            have HK2 := Lib.hid (show (m : Int) + 1 = K by omega)
            have hcv := conv_own ho
            subst hyq
            clear hs hfin ht hK ho hel hs41
            as_aux_lemma =>
              go_wp2_with (refine wpl_stT rfl _ _ rfl w.heap.size _ (ctv ({ kind := 7, text := M.encZs pre }) 0) rfl rfl CBR.out rfl rfl (ctv_one _ _) ?_)
              go_wp2
              (try simp only [Exit.inBlock, Exit.then])
              refine bodyPost_ret (res_tok rfl _ _ w.heap.size _ _ rfl rfl (CB.set CBR.out _) rfl) rfl ⟨(by rw [← HT2.out]; exact etup_ai HK2.out), below_setRow HWR.out (Nat.le_refl _) _⟩
          · have hsf : s = false := by
              cases s with
              | false => rfl
              | true => rcases hs41 rfl with h | h; exact absurd h (by omega); exact absurd h hyq
            subst hsf
            have t41 : (y == 41) = false := by simpa using hyq
            clear hs41
            cases hbl : M.isBl y with
            | true =>
              have X1 := Lib.hid (rbl_any y true wr hbl)
              have hblc : M.isBl (c.getD m (-1)) = true := by rw [HY.out]; exact hbl
              obtain ⟨d, hd⟩ : ∃ d, M.blN (c.drop m) = d := ⟨_, rfl⟩
              have hd1 : 0 < d := by rw [← hd, blN_at c m hblc]; omega
              have hub := urlT_blanks d false c false m hd hd1
              have hend := M.blN_end (c.drop m)
              rw [hd, List.drop_drop, getD_drop, Nat.add_zero] at hend
              obtain ⟨q, hq⟩ : ∃ q, m + d = q := ⟨_, rfl⟩
              rw [hq] at hub hend
              have hqn : q ≤ n := by have := M.blN_le (c.drop m); rw [List.length_drop, HCL.out, hd] at this; omega
              have hnew := HST.out.go d [] false true (by rw [hub, hq]; rfl)
              rw [hq, List.append_nil] at hnew
              have HNEW := Lib.hid hnew
              have HUB := Lib.hid hub
              have HEND := Lib.hid hend
              have HQ := Lib.hid (show m + M.blN (c.drop m) = q by omega)
              have hmq : m < q := by omega
              clear hblc hbl hd hub hend hq hnew hd1
              go_wp2_with fail
              refine (X1.out).mono ?_
              rintro e w' ⟨rfl, rfl⟩
              go_wp2
              go_loop [10] (fun iv => ∃ z : Nat, iv = .int .i64 (z : Int) ∧ z ≤ q ∧ z + M.blN (c.drop z) = q) (fun iv => n - (intOf iv).toNat)
              case atStart => exact ⟨m, rfl, by omega, HQ.out⟩
              case round =>
                obtain ⟨z, rfl, hz, hzk⟩ := hrel
                have z0 : (0 : Int) ≤ z := by omega
                have z9 : (z : Int) ≤ 40000 := by omega
                obtain ⟨yz, hyz⟩ : ∃ y, c.getD z (-1) = y := ⟨_, rfl⟩
                have A1 := Lib.hid (AT.out wr HWR.out z yz hyz)
                cases hblz : M.isBl yz with
                | true =>
                  have X2 := Lib.hid (rbl_any yz true wr hblz)
                  rw [← hyz] at hblz
                  rw [blN_at c z hblz] at hzk
                  have hzn : z < n := by
                    rcases Nat.lt_or_ge z n with h | h
                    · exact h
                    · rw [getD_end c n z HCL.out h] at hblz; exact absurd hblz (by decide)
                  have HJ := Lib.hid (show (z + 1) + M.blN (c.drop (z + 1)) = q by omega)
                  have hz1 : z + 1 ≤ q := by omega
                  clear hyz hblz hzk
                  as_aux_lemma =>
                    go_wp2_with fail
                    refine (A1.out).mono ?_
                    rintro e w' ⟨rfl, rfl⟩
                    go_wp2_with fail
                    refine (X2.out).mono ?_
                    rintro e w' ⟨rfl, rfl⟩
                    go_wp2
                    go_round
                    case rel => exact ⟨z + 1, by go_num, hz1, HJ.out⟩
                    case measure => simp [intOf]; omega
                | false =>
                  have X2 := Lib.hid (rbl_any yz false wr hblz)
                  rw [← hyz] at hblz
                  rw [blN_out c z hblz] at hzk
                  obtain rfl : z = q := by omega
                  clear hblz hzk hz
                  by_cases hzn : z < n
                  · have tz : decide ((z : Int) < n) = true := by simp; omega
                    have z3 : (z : Int) < n := by omega
                    have ca2 := HCE.out z hzn
                    have ra2 := HWR.out.cell (p := ⟨p, off + z * 2, none⟩) hp
                    rw [ca2, hyz] at ra2
                    have HYZ := Lib.hid hyz
                    clear ca2 hyz
                    by_cases hz41 : yz = 41
                    · subst hz41
                      clear ra
                      as_aux_lemma =>
                        go_wp2_with fail
                        refine (A1.out).mono ?_
                        rintro e w' ⟨rfl, rfl⟩
                        go_wp2_with fail
                        refine (X2.out).mono ?_
                        rintro e w' ⟨rfl, rfl⟩
                        go_wp2
                        go_roundw
                        case rel => exact ⟨z, pre, true, rfl, by omega, HNEW.out, fun _ => .inr HYZ.out, by omega, ho, hb⟩
                        case measure => simp [intOf]; omega
                    · have tz41 : (yz != 41) = true := by simpa [bne] using hz41
                      have hsb := urlT_sbad false c z (by rw [HCL.out]; exact hzn) (by rw [HYZ.out]; exact hz41) HEND.out
                      have hfin := HNEW.out.1
                      rw [badN_any, hsb] at hfin
                      have ht := HT.out
                      have hK := HK.out
                      rw [hfin] at ht hK
                      simp only [if_true] at ht hK
                      have hz' := HNEW.out.2
                      have B1 := Lib.hid (BU.out wr HWR.out z K (by omega) (by omega))
                      have HT2 := Lib.hid ht
                      clear hsb hfin ht hK hz41 ho hb ra
                      as_aux_lemma =>
                        go_wp2_with fail
                        refine (A1.out).mono ?_
                        rintro e w' ⟨rfl, rfl⟩
                        go_wp2_with fail
                        refine (X2.out).mono ?_
                        rintro e w' ⟨rfl, rfl⟩
                        go_wp2_with fail
                        refine (B1.out).mono ?_
                        rintro e w' ⟨rfl, rfl⟩
                        go_wp2_with fail
                        refine (RW.out _ HWR.out K HIK.out HKN.out).mono ?_
                        rintro e w2 ⟨rfl, hb2⟩
                        have c2 := HWR.out.trans (hb2.mono HWR.out.size)
                        have cb2 := CBR.out.keep hb2 CBR.out.lt
                        clear hb2
                        go_wp2_with (refine wpl_stT rfl _ _ rfl w.heap.size _ (ctv ({ kind := 8, text := M.encZs ((c.drop i).take (K - i)) }) 0) rfl rfl cb2 rfl rfl (ctv_one _ _) ?_)
                        go_wp2
                        (try simp only [Exit.inBlock, Exit.then])
                        refine bodyPost_ret (res_tok rfl _ _ w.heap.size _ _ rfl rfl (CB.set cb2 _) rfl) rfl ⟨(by rw [← HT2.out]), below_setRow c2 (Nat.le_refl _) _⟩
                  · obtain rfl : z = n := by omega
                    have tz : decide ((z : Int) < z) = false := by simp
                    clear hzn ra
                    as_aux_lemma =>
                      go_wp2_with fail
                      refine (A1.out).mono ?_
                      rintro e w' ⟨rfl, rfl⟩
                      go_wp2_with fail
                      refine (X2.out).mono ?_
                      rintro e w' ⟨rfl, rfl⟩
                      go_wp2
                      go_roundw
                      case rel => exact ⟨z, pre, true, rfl, by omega, HNEW.out, fun _ => .inl rfl, by omega, ho, hb⟩
                      case measure => simp [intOf]; omega
            | false =>
              have X1 := Lib.hid (rbl_any y false wr hbl)
              have hblc : M.isBl (c.getD m (-1)) = false := by rw [HY.out]; exact hbl
              have h41c : c.getD m (-1) ≠ 41 := by rw [HY.out]; exact hyq
              have hnbl : ¬ (y = 32 ∨ y = 9 ∨ y = 10) := by rw [← M.isBl_iff, hbl]; simp
              have BAD : Hid (M.esB (c.drop m) = false → M.inU y = false → (8 : Int) = t.kind ∧ { kind := 8, text := M.encZs ((c.drop i).take (K - i)) } = t ∧ m + badN (c.drop m) = K) := Lib.hid (fun he hu => by
                have hcb := urlT_cbad false c m (by rw [HCL.out]; exact hmn) h41c he hblc (by rw [HY.out]; exact hu)
                have hfin := HST.out.1
                rw [badN_any, hcb] at hfin
                have ht := HT.out
                have hK := HK.out
                rw [hfin] at ht hK
                simp only [if_true] at ht hK
                have := HST.out.2
                exact ⟨by rw [← ht], ht, by omega⟩)
              have HH41 := Lib.hid h41c
              have HBLC := Lib.hid hblc
              clear hbl hblc h41c
              have w10 : (y == 10) = false := by rw [beq_eq_false_iff_ne]; omega
              by_cases k34 : y = 34
              · have he : M.esB (c.drop m) = false := by rw [esB_two, HY.out, decide_eq_false (show ¬ y = 92 by omega)]; rfl
                obtain ⟨-, hbt, hbK⟩ := BAD.out he (inU_no y (by omega))
                have B1 := Lib.hid (BU.out wr HWR.out m K (by omega) hbK)
                have HT2 := Lib.hid hbt
                subst k34
                clear hbt hbK he ho hb hel hnbl hyq w10
                as_aux_lemma =>
                  go_wp2_with fail
                  refine (X1.out).mono ?_
                  rintro e w' ⟨rfl, rfl⟩
                  go_wp2_with fail
                  refine (B1.out).mono ?_
                  rintro e w' ⟨rfl, rfl⟩
                  go_wp2_with fail
                  refine (RW.out _ HWR.out K HIK.out HKN.out).mono ?_
                  rintro e w2 ⟨rfl, hb2⟩
                  have c2 := HWR.out.trans (hb2.mono HWR.out.size)
                  have cb2 := CBR.out.keep hb2 CBR.out.lt
                  clear hb2
                  go_wp2_with (refine wpl_stT rfl _ _ rfl w.heap.size _ (ctv ({ kind := 8, text := M.encZs ((c.drop i).take (K - i)) }) 0) rfl rfl cb2 rfl rfl (ctv_one _ _) ?_)
                  go_wp2
                  (try simp only [Exit.inBlock, Exit.then])
                  refine bodyPost_ret (res_tok rfl _ _ w.heap.size _ _ rfl rfl (CB.set cb2 _) rfl) rfl ⟨(by rw [← HT2.out]), below_setRow c2 (Nat.le_refl _) _⟩
              by_cases k39 : y = 39
              · have he : M.esB (c.drop m) = false := by rw [esB_two, HY.out, decide_eq_false (show ¬ y = 92 by omega)]; rfl
                obtain ⟨-, hbt, hbK⟩ := BAD.out he (inU_no y (by omega))
                have B1 := Lib.hid (BU.out wr HWR.out m K (by omega) hbK)
                have HT2 := Lib.hid hbt
                subst k39
                clear hbt hbK he ho hb hel hnbl hyq w10
                as_aux_lemma =>
                  go_wp2_with fail
                  refine (X1.out).mono ?_
                  rintro e w' ⟨rfl, rfl⟩
                  go_wp2_with fail
                  refine (B1.out).mono ?_
                  rintro e w' ⟨rfl, rfl⟩
                  go_wp2_with fail
                  refine (RW.out _ HWR.out K HIK.out HKN.out).mono ?_
                  rintro e w2 ⟨rfl, hb2⟩
                  have c2 := HWR.out.trans (hb2.mono HWR.out.size)
                  have cb2 := CBR.out.keep hb2 CBR.out.lt
                  clear hb2
                  go_wp2_with (refine wpl_stT rfl _ _ rfl w.heap.size _ (ctv ({ kind := 8, text := M.encZs ((c.drop i).take (K - i)) }) 0) rfl rfl cb2 rfl rfl (ctv_one _ _) ?_)
                  go_wp2
                  (try simp only [Exit.inBlock, Exit.then])
                  refine bodyPost_ret (res_tok rfl _ _ w.heap.size _ _ rfl rfl (CB.set cb2 _) rfl) rfl ⟨(by rw [← HT2.out]), below_setRow c2 (Nat.le_refl _) _⟩
              by_cases k40 : y = 40
              · have he : M.esB (c.drop m) = false := by rw [esB_two, HY.out, decide_eq_false (show ¬ y = 92 by omega)]; rfl
                obtain ⟨-, hbt, hbK⟩ := BAD.out he (inU_no y (by omega))
                have B1 := Lib.hid (BU.out wr HWR.out m K (by omega) hbK)
                have HT2 := Lib.hid hbt
                subst k40
                clear hbt hbK he ho hb hel hnbl hyq w10
                as_aux_lemma =>
                  go_wp2_with fail
                  refine (X1.out).mono ?_
                  rintro e w' ⟨rfl, rfl⟩
                  go_wp2_with fail
                  refine (B1.out).mono ?_
                  rintro e w' ⟨rfl, rfl⟩
                  go_wp2_with fail
                  refine (RW.out _ HWR.out K HIK.out HKN.out).mono ?_
                  rintro e w2 ⟨rfl, hb2⟩
                  have c2 := HWR.out.trans (hb2.mono HWR.out.size)
                  have cb2 := CBR.out.keep hb2 CBR.out.lt
                  clear hb2
                  go_wp2_with (refine wpl_stT rfl _ _ rfl w.heap.size _ (ctv ({ kind := 8, text := M.encZs ((c.drop i).take (K - i)) }) 0) rfl rfl cb2 rfl rfl (ctv_one _ _) ?_)
                  go_wp2
                  (try simp only [Exit.inBlock, Exit.then])
                  refine bodyPost_ret (res_tok rfl _ _ w.heap.size _ _ rfl rfl (CB.set cb2 _) rfl) rfl ⟨(by rw [← HT2.out]), below_setRow c2 (Nat.le_refl _) _⟩
              by_cases k9 : y < 9
              · have he : M.esB (c.drop m) = false := by rw [esB_two, HY.out, decide_eq_false (show ¬ y = 92 by omega)]; rfl
                obtain ⟨-, hbt, hbK⟩ := BAD.out he (inU_no y (by omega))
                have B1 := Lib.hid (BU.out wr HWR.out m K (by omega) hbK)
                have HT2 := Lib.hid hbt
                have z34 : (y == 34) = false := by rw [beq_eq_false_iff_ne]; omega
                have z39 : (y == 39) = false := by rw [beq_eq_false_iff_ne]; omega
                have z40 : (y == 40) = false := by rw [beq_eq_false_iff_ne]; omega
                have g1 : y < 9 := k9
                clear hbt hbK he ho hb hel hnbl hyq w10
                as_aux_lemma =>
                  go_wp2_with fail
                  refine (X1.out).mono ?_
                  rintro e w' ⟨rfl, rfl⟩
                  go_wp2_with fail
                  refine (B1.out).mono ?_
                  rintro e w' ⟨rfl, rfl⟩
                  go_wp2_with fail
                  refine (RW.out _ HWR.out K HIK.out HKN.out).mono ?_
                  rintro e w2 ⟨rfl, hb2⟩
                  have c2 := HWR.out.trans (hb2.mono HWR.out.size)
                  have cb2 := CBR.out.keep hb2 CBR.out.lt
                  clear hb2
                  go_wp2_with (refine wpl_stT rfl _ _ rfl w.heap.size _ (ctv ({ kind := 8, text := M.encZs ((c.drop i).take (K - i)) }) 0) rfl rfl cb2 rfl rfl (ctv_one _ _) ?_)
                  go_wp2
                  (try simp only [Exit.inBlock, Exit.then])
                  refine bodyPost_ret (res_tok rfl _ _ w.heap.size _ _ rfl rfl (CB.set cb2 _) rfl) rfl ⟨(by rw [← HT2.out]), below_setRow c2 (Nat.le_refl _) _⟩
              by_cases k11 : y = 11
              · have he : M.esB (c.drop m) = false := by rw [esB_two, HY.out, decide_eq_false (show ¬ y = 92 by omega)]; rfl
                obtain ⟨-, hbt, hbK⟩ := BAD.out he (inU_no y (by omega))
                have B1 := Lib.hid (BU.out wr HWR.out m K (by omega) hbK)
                have HT2 := Lib.hid hbt
                subst k11
                clear hbt hbK he ho hb hel hnbl hyq w10
                as_aux_lemma =>
                  go_wp2_with fail
                  refine (X1.out).mono ?_
                  rintro e w' ⟨rfl, rfl⟩
                  go_wp2_with fail
                  refine (B1.out).mono ?_
                  rintro e w' ⟨rfl, rfl⟩
                  go_wp2_with fail
                  refine (RW.out _ HWR.out K HIK.out HKN.out).mono ?_
                  rintro e w2 ⟨rfl, hb2⟩
                  have c2 := HWR.out.trans (hb2.mono HWR.out.size)
                  have cb2 := CBR.out.keep hb2 CBR.out.lt
                  clear hb2
                  go_wp2_with (refine wpl_stT rfl _ _ rfl w.heap.size _ (ctv ({ kind := 8, text := M.encZs ((c.drop i).take (K - i)) }) 0) rfl rfl cb2 rfl rfl (ctv_one _ _) ?_)
                  go_wp2
                  (try simp only [Exit.inBlock, Exit.then])
                  refine bodyPost_ret (res_tok rfl _ _ w.heap.size _ _ rfl rfl (CB.set cb2 _) rfl) rfl ⟨(by rw [← HT2.out]), below_setRow c2 (Nat.le_refl _) _⟩
              by_cases k14 : 14 ≤ y ∧ y < 32
              · have he : M.esB (c.drop m) = false := by rw [esB_two, HY.out, decide_eq_false (show ¬ y = 92 by omega)]; rfl
                obtain ⟨-, hbt, hbK⟩ := BAD.out he (inU_no y (by omega))
                have B1 := Lib.hid (BU.out wr HWR.out m K (by omega) hbK)
                have HT2 := Lib.hid hbt
                have z34 : (y == 34) = false := by rw [beq_eq_false_iff_ne]; omega
                have z39 : (y == 39) = false := by rw [beq_eq_false_iff_ne]; omega
                have z40 : (y == 40) = false := by rw [beq_eq_false_iff_ne]; omega
                have z11 : (y == 11) = false := by rw [beq_eq_false_iff_ne]; omega
                have n9 : ¬ y < 9 := k9
                obtain ⟨g1, g2⟩ := k14
                clear hbt hbK he ho hb hel hnbl hyq w10
                as_aux_lemma =>
                  go_wp2_with fail
                  refine (X1.out).mono ?_
                  rintro e w' ⟨rfl, rfl⟩
                  go_wp2_with fail
                  refine (B1.out).mono ?_
                  rintro e w' ⟨rfl, rfl⟩
                  go_wp2_with fail
                  refine (RW.out _ HWR.out K HIK.out HKN.out).mono ?_
                  rintro e w2 ⟨rfl, hb2⟩
                  have c2 := HWR.out.trans (hb2.mono HWR.out.size)
                  have cb2 := CBR.out.keep hb2 CBR.out.lt
                  clear hb2
                  go_wp2_with (refine wpl_stT rfl _ _ rfl w.heap.size _ (ctv ({ kind := 8, text := M.encZs ((c.drop i).take (K - i)) }) 0) rfl rfl cb2 rfl rfl (ctv_one _ _) ?_)
                  go_wp2
                  (try simp only [Exit.inBlock, Exit.then])
                  refine bodyPost_ret (res_tok rfl _ _ w.heap.size _ _ rfl rfl (CB.set cb2 _) rfl) rfl ⟨(by rw [← HT2.out]), below_setRow c2 (Nat.le_refl _) _⟩
              by_cases k127 : y = 127
              · have he : M.esB (c.drop m) = false := by rw [esB_two, HY.out, decide_eq_false (show ¬ y = 92 by omega)]; rfl
                obtain ⟨-, hbt, hbK⟩ := BAD.out he (inU_no y (by omega))
                have B1 := Lib.hid (BU.out wr HWR.out m K (by omega) hbK)
                have HT2 := Lib.hid hbt
                subst k127
                clear hbt hbK he ho hb hel hnbl hyq w10
                as_aux_lemma =>
                  go_wp2_with fail
                  refine (X1.out).mono ?_
                  rintro e w' ⟨rfl, rfl⟩
                  go_wp2_with fail
                  refine (B1.out).mono ?_
                  rintro e w' ⟨rfl, rfl⟩
                  go_wp2_with fail
                  refine (RW.out _ HWR.out K HIK.out HKN.out).mono ?_
                  rintro e w2 ⟨rfl, hb2⟩
                  have c2 := HWR.out.trans (hb2.mono HWR.out.size)
                  have cb2 := CBR.out.keep hb2 CBR.out.lt
                  clear hb2
                  go_wp2_with (refine wpl_stT rfl _ _ rfl w.heap.size _ (ctv ({ kind := 8, text := M.encZs ((c.drop i).take (K - i)) }) 0) rfl rfl cb2 rfl rfl (ctv_one _ _) ?_)
                  go_wp2
                  (try simp only [Exit.inBlock, Exit.then])
                  refine bodyPost_ret (res_tok rfl _ _ w.heap.size _ _ rfl rfl (CB.set cb2 _) rfl) rfl ⟨(by rw [← HT2.out]), below_setRow c2 (Nat.le_refl _) _⟩
              have n34 : (y == 34) = false := by rw [beq_eq_false_iff_ne]; exact k34
              have n39 : (y == 39) = false := by rw [beq_eq_false_iff_ne]; exact k39
              have n40 : (y == 40) = false := by rw [beq_eq_false_iff_ne]; exact k40
              have n11 : (y == 11) = false := by rw [beq_eq_false_iff_ne]; exact k11
              have n127 : (y == 127) = false := by rw [beq_eq_false_iff_ne]; exact k127
              by_cases k92 : y = 92
              · cases he : M.esB (c.drop m) with
                | false =>
                  obtain ⟨-, hbt, hbK⟩ := BAD.out he (inU_no y (by omega))
                  have E1 := Lib.hid (EB.out wr HWR.out m (by omega) false he)
                  have B1 := Lib.hid (BU.out wr HWR.out m K (by omega) hbK)
                  have HT2 := Lib.hid hbt
                  subst k92
                  clear hbt hbK he ho hb k34 k39 k40 k9 k11 k14 k127 hel hnbl hyq
                  as_aux_lemma =>
                    go_wp2_with fail
                    refine (X1.out).mono ?_
                    rintro e w' ⟨rfl, rfl⟩
                    go_wp2_with fail
                    refine (E1.out).mono ?_
                    rintro e w' ⟨rfl, rfl⟩
                    go_wp2_with fail
                    refine (B1.out).mono ?_
                    rintro e w' ⟨rfl, rfl⟩
                    go_wp2_with fail
                    refine (RW.out _ HWR.out K HIK.out HKN.out).mono ?_
                    rintro e w2 ⟨rfl, hb2⟩
                    have c2 := HWR.out.trans (hb2.mono HWR.out.size)
                    have cb2 := CBR.out.keep hb2 CBR.out.lt
                    clear hb2
                    go_wp2_with (refine wpl_stT rfl _ _ rfl w.heap.size _ (ctv ({ kind := 8, text := M.encZs ((c.drop i).take (K - i)) }) 0) rfl rfl cb2 rfl rfl (ctv_one _ _) ?_)
                    go_wp2
                    (try simp only [Exit.inBlock, Exit.then])
                    refine bodyPost_ret (res_tok rfl _ _ w.heap.size _ _ rfl rfl (CB.set cb2 _) rfl) rfl ⟨(by rw [← HT2.out]), below_setRow c2 (Nat.le_refl _) _⟩
                | true =>
                  have E1 := Lib.hid (EB.out wr HWR.out m (by omega) true he)
                  obtain ⟨r, x0, hr⟩ : ∃ r k, M.escV (c.drop (m + 1)) = (r, k) := ⟨_, _, rfl⟩
                  have hs := urlT_ate false false c m (by rw [HCL.out]; exact hmn) HH41.out he r x0 hr
                  have hnew := HST.out.go (1 + x0) [r] false false (by rw [hs, Nat.add_assoc]; rfl)
                  have hle := M.escV_le_at c m (by rw [HCL.out]; exact hmn)
                  rw [hr, HCL.out] at hle
                  simp only at hle
                  have E2 := Lib.hid (ES.out wr HWR.out m hmn r x0 hr)
                  obtain ⟨z, hz⟩ : ∃ z, m + 1 + x0 = z := ⟨_, rfl⟩
                  rw [hz] at hle E2
                  rw [show m + (1 + x0) = z by omega] at hnew
                  have hz2 : m + 1 ≤ z := by omega
                  have HNEW := Lib.hid hnew
                  have PT := Lib.hid (refput_any W0.heap.size u8 (M.encZs pre) (M.encZs (pre ++ [r])) r wr ho (by omega) hsz (by rw [M.encZs_append, M.encZs_cons, M.encZs_nil, List.append_nil]))
                  subst k92
                  clear hs hnew hr hz he ho k34 k39 k40 k9 k11 k14 k127 hel hnbl hyq
                  as_aux_lemma =>
                    go_wp2_with fail
                    refine (X1.out).mono ?_
                    rintro e w' ⟨rfl, rfl⟩
                    go_wp2_with fail
                    refine (E1.out).mono ?_
                    rintro e w' ⟨rfl, rfl⟩
                    go_wp2_with fail
                    refine (E2.out).mono ?_
                    rintro e w' ⟨rfl, rfl⟩
                    go_wp2_with fail
                    refine (PT.out).mono ?_
                    rintro e w3 ⟨v3, rfl, ho3, hb4⟩
                    have hb5 := hb.trans hb4
                    clear hb hb4
                    go_wp2
                    go_roundw
                    case rel => exact ⟨z, pre ++ [r], false, by first | rfl | go_num, by omega, HNEW.out, by simp, by simp; omega, ho3, hb5⟩
                    case measure => simp [intOf]; omega
              · have n92 : (y == 92) = false := by rw [beq_eq_false_iff_ne]; exact k92
                have he : M.esB (c.drop m) = false := by rw [esB_two, HY.out, decide_eq_false k92]; rfl
                have hin : M.inU y = true := by unfold M.inU; simp; omega
                have hs := urlT_ato false false c m (by rw [HCL.out]; exact hmn) HH41.out he HBLC.out
                rw [HY.out, hin] at hs
                have hnew := Lib.hid (HST.out.go 1 [y] false false (by rw [hs]; rfl))
                have PT := Lib.hid (refput_any W0.heap.size u8 (M.encZs pre) (M.encZs (pre ++ [y])) y wr ho (by omega) hsz (by rw [M.encZs_append, M.encZs_cons, M.encZs_nil, List.append_nil]))
                have n9 : ¬ y < 9 := k9
                have hway : y < 14 ∨ (14 ≤ y ∧ 32 ≤ y) := by omega
                clear hs he hin ho k34 k39 k40 k9 k11 k14 k127 k92 hel hnbl hyq
                rcases hway with g | ⟨g, g2⟩
                · have n14 : ¬ 14 ≤ y := by omega
                  as_aux_lemma =>
                    go_wp2_with fail
                    refine (X1.out).mono ?_
                    rintro e w' ⟨rfl, rfl⟩
                    go_wp2_with fail
                    refine (PT.out).mono ?_
                    rintro e w3 ⟨v3, rfl, ho3, hb4⟩
                    have hb5 := hb.trans hb4
                    clear hb hb4
                    go_wp2
                    go_roundw
                    case rel => exact ⟨m + 1, pre ++ [y], false, by go_num, by omega, hnew.out, by simp, by simp; omega, ho3, hb5⟩
                    case measure => simp [intOf]; omega
                · have n32 : ¬ y < 32 := by omega
                  as_aux_lemma =>
                    go_wp2_with fail
                    refine (X1.out).mono ?_
                    rintro e w' ⟨rfl, rfl⟩
                    go_wp2_with fail
                    refine (PT.out).mono ?_
                    rintro e w3 ⟨v3, rfl, ho3, hb4⟩
                    have hb5 := hb.trans hb4
                    clear hb hb4
                    go_wp2
                    go_roundw
                    case rel => exact ⟨m + 1, pre ++ [y], false, by go_num, by omega, hnew.out, by simp, by simp; omega, ho3, hb5⟩
                    case measure => simp [intOf]; omega
        · obtain rfl : m = n := by omega
          have t1 : decide ((m : Int) < m) = false := by simp
          have hs := urlT_atx false s c m (by rw [HCL.out]; exact Nat.le_refl _)
          have hfin := HST.out.1
          rw [hs] at hfin
          simp only [List.append_nil] at hfin
          have ht := HT.out
          have hK := HK.out
          rw [hfin] at ht hK
          simp only [Bool.false_eq_true, if_false] at ht hK
          have HT2 := Lib.hid ht
          have HK2 := Lib.hid (show (m : Int) = K by omega)
          have hcv := conv_own ho
          clear hs hfin ht hK ho hmn hel hs41
          as_aux_lemma =>
            go_wp2_with (refine wpl_stT rfl _ _ rfl w.heap.size _ (ctv ({ kind := 7, text := M.encZs pre }) 0) rfl rfl CBR.out rfl rfl (ctv_one _ _) ?_)
            go_wp2
            (try simp only [Exit.inBlock, Exit.then])
            refine bodyPost_ret (res_tok rfl _ _ w.heap.size _ _ rfl rfl (CB.set CBR.out _) rfl) rfl ⟨(by rw [← HT2.out]; exact etup_ai HK2.out), below_setRow HWR.out (Nat.le_refl _) _⟩
end Go.Proofs.YtilndlifmpbfnaaDoor
