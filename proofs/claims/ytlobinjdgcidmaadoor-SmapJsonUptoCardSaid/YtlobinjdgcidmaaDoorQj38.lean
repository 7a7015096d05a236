/- Texts of ours in one: QR311. -/
import Derived.Test.YtlobinjdgcidmaaDoorQj37
import Derived.Test.YtlobinjdgcidmaaDoorQj12
/- Tokens of JSON as the reference reads them: jnumber, for any bytes. -/
namespace Go.Proofs.YtlobinjdgcidmaaDoor
open Go.RowKit
set_option linter.unusedVariables false
set_option linter.unusedSimpArgs false

set_option maxRecDepth 100000 in
set_option maxHeartbeats 40000000 in
theorem refjn_11 (v : Value) (l : List UInt8) (i : Nat) (z : Int) (w : World) (hv : Bs w v l) (hi : i < l.length) (hl : l.length ≤ 1048576) (hr : jnI (M.numL (l.drop i)) i = z) (hsg : l.getD i 0 = 45) (hzr : l.getD (i + 1) 0 = 48) :
    Calls Tryd.prog 40 #[v, .int .i64 (i : Int)] w fun e w' => e = .returned (.int .i64 z) ∧ w = w' := by
  rw [numZ_eq] at hr
  have G := Lib.hid (fun q r hq hr => refgoes_any v l q r w hv hq (by omega) hr)
  have hv2 := hv
  obtain ⟨a, cap, rfl, h1, h2, h3⟩ := hv2
  obtain ⟨n, hn⟩ : ∃ n, l.length = n := ⟨_, rfl⟩
  obtain ⟨b, off, rfl, hb, hcl⟩ := h3 (by omega)
  have hcv := conv_bs hv
  have hSB := stB l
  generalize bytes l = S at hcv hSB
  have R := Lib.hid (fun q r hq hr => refrun_any S l q r w hSB hq (by omega) hr)
  have HI := Lib.hid (fun j (h : j < S.size) => (show ((S[j]'h).toNat : Int) = ((l.getD j 0).toNat : Int) by rw [hSB.2 j h]))
  have hSz := hSB.1
  rw [hn] at hSz h1 hl hi G hcv ⊢
  have sz1 : S.size ≤ n := by omega
  have sz2 : n ≤ S.size := by omega
  have HN := Lib.hid hn
  have hneg : M.neg (l.drop i) = if l.getD i 0 = 45 then 1 else 0 := by unfold M.neg; rw [M.drop_getD, Nat.add_zero]
  rw [hneg] at hr
  have hsi : i < S.size := by omega
  have ixi := HI.out i hsi
  obtain ⟨ci, hci⟩ : ∃ c, l.getD i 0 = c := ⟨_, rfl⟩
  rw [hci] at ixi
  obtain ⟨Ci, hCi⟩ : ∃ C : Int, (ci.toNat : Int) = C := ⟨_, rfl⟩
  rw [hCi] at ixi
  have vi : (i : Int) < S.size := by omega
  rw [hci] at hr
  obtain ⟨q, hq, hq5, hsign⟩ : ∃ q : Nat, numZ l q = z ∧ q ≤ i + 1 ∧ (((Ci == 45) = true ∧ q = i + 1) ∨ ((Ci == 45) = false ∧ q = i)) := by
    by_cases h45 : ci = 45
    · rw [if_pos h45] at hr
      exact ⟨i + 1, hr, by omega, .inl ⟨eq_c ci Ci hCi 45 45 rfl h45, rfl⟩⟩
    · rw [if_neg h45] at hr
      exact ⟨i, hr, by omega, .inr ⟨ne_c ci Ci hCi 45 45 rfl h45, rfl⟩⟩
  have hsf : (Ci == 45) = true := eq_c ci Ci hCi 45 45 rfl (by rw [← hci]; exact hsg)
  have hqq : q = i + 1 := by rcases hsign with ⟨h, e⟩ | ⟨h, e⟩ <;> (rw [hsf] at h; first | exact e | exact absurd h (by simp))
  rw [← hqq] at hzr
  have Hzf := Lib.hid (fun (h : q < S.size) (D : Int) (hD : ((S[q]'h).toNat : Int) = D) => eq_c (l.getD q 0) D (by rw [← HI.out q h]; exact hD) 48 48 rfl hzr)
  have Hsf := Lib.hid hsf
  clear hsf hqq hzr hsg
  obtain ⟨k, hk⟩ : ∃ k, q + M.run (l.drop q) = k := ⟨_, rfl⟩
  have hkb := M.run_le (l.drop q)
  rw [List.length_drop, HN.out] at hkb
  have kb : k ≤ n + 5 := by omega
  have RQ := Lib.hid (R.out q k (by omega) hk)
  have hno := num_no l q
  have hin := M.dg_in l q
  have hnou := num_nought l q k
  have hgo := num_go l q k
  have hru := (run_at l q).1
  rw [hk] at hno hru
  rw [hq] at hno hnou hgo
  rw [HN.out] at hin
  have hway : (k = q ∧ z = -1) ∨ (∃ (h : q < S.size) (D : Int), ((S[q]'h).toNat : Int) = D ∧ k ≠ q ∧ (((D == 48) = true ∧ q + 1 < k ∧ z = -1) ∨ (st2 l k = z ∧ (((D == 48) = true ∧ k ≤ q + 1) ∨ (D == 48) = false)))) := by
    cases hd : M.dgB (l.getD q 0) with
    | false => left; have := hno hd; exact ⟨this.2, this.1⟩
    | true =>
      right
      have hqn := hin hd
      have hkq := hru hd
      have hqs : q < S.size := by omega
      refine ⟨hqs, ((l.getD q 0).toNat : Int), HI.out q hqs, by omega, ?_⟩
      by_cases h48 : l.getD q 0 = 48
      · have e48 := eq_c (l.getD q 0) _ rfl 48 48 rfl h48
        by_cases hlt : q + 1 < k
        · left; exact ⟨e48, hlt, hnou h48 hk hlt⟩
        · right; exact ⟨(hgo hd hk (.inr (by omega))).symm, .inl ⟨e48, by omega⟩⟩
      · right; exact ⟨(hgo hd hk (.inl h48)).symm, .inr (ne_c (l.getD q 0) _ rfl 48 48 rfl h48)⟩
  clear hr hneg hno hin hnou hgo hru hq hk hci hCi hcl h3 h2 hv hn hSB
  have hq1 : (Ci == 45) = true → (i : Int) + 1 = (q : Int) := by
    intro h
    rcases hsign with ⟨_, h2⟩ | ⟨h2, _⟩
    · omega
    · rw [h] at h2; exact absurd h2 (by simp)
  rcases hway with ⟨hkq, hz⟩ | ⟨hqs, D, hD, hkq, hway⟩
  · have Hzz := Lib.hid hz
    have e7 : ((k : Int) == (q : Int)) = true := by rw [beq_iff_eq]; omega
    clear hz hkq
    rcases hsign with ⟨t0, hs⟩ | ⟨t0, hs⟩
    · have hq2 := hq1 t0
      clear hq1 hs
      go_enter Tryd.func40, Tryd.ntmps40
      go_wp2_with fail
      refine RQ.out.mono ?_
      rintro e w' ⟨rfl, rfl⟩
      go_wp2
      go_ret
      exact ⟨by rw [Hzz.out]; rfl, rfl⟩
    · obtain rfl : i = q := hs.symm
      clear hq1
      go_enter Tryd.func40, Tryd.ntmps40
      go_wp2_with fail
      refine RQ.out.mono ?_
      rintro e w' ⟨rfl, rfl⟩
      go_wp2
      go_ret
      exact ⟨by rw [Hzz.out]; rfl, rfl⟩
  · have e7 : ((k : Int) == (q : Int)) = false := by rw [beq_eq_false_iff_ne]; omega
    have vq : (q : Int) < S.size := by omega
    have Hz8 := Lib.hid (Hzf.out hqs D hD)
    rcases hway with ⟨t48, hlt, hz⟩ | ⟨hz2, hway⟩
    · have Hzz := Lib.hid hz
      have t9 : decide ((q : Int) + 1 < k) = true := by simp; omega
      clear hz
      rcases hsign with ⟨t0, hs⟩ | ⟨t0, hs⟩
      · have hq2 := hq1 t0
        clear hq1 hs
        go_enter Tryd.func40, Tryd.ntmps40
        go_wp2_with fail
        refine RQ.out.mono ?_
        rintro e w' ⟨rfl, rfl⟩
        go_wp2
        go_ret
        exact ⟨by rw [Hzz.out]; rfl, rfl⟩
      · obtain rfl : i = q := hs.symm
        obtain rfl : Ci = D := ixi.symm.trans hD
        clear hq1 hD
        go_enter Tryd.func40, Tryd.ntmps40
        go_wp2_with fail
        refine RQ.out.mono ?_
        rintro e w' ⟨rfl, rfl⟩
        go_wp2
        go_ret
        exact ⟨by rw [Hzz.out]; rfl, rfl⟩
    · have HZ2 := Lib.hid hz2
      clear hz2
      rcases hsign with ⟨t0, hs⟩ | ⟨t0, hs⟩
      · have hq2 := hq1 t0
        clear hq1 hs
        rcases hway with ⟨t48, hle⟩ | t48
        · have t9 : decide ((q : Int) + 1 < k) = false := by simp; omega
          go_enter Tryd.func40, Tryd.ntmps40
          go_wp2_with fail
          refine RQ.out.mono ?_
          rintro e w' ⟨rfl, rfl⟩
          by_cases hsk : k < S.size
          · skip
            have ixk := HI.out k hsk
            obtain ⟨ck, hck⟩ : ∃ c, l.getD k 0 = c := ⟨_, rfl⟩
            rw [hck] at ixk
            obtain ⟨Ck, hCk⟩ : ∃ C : Int, (ck.toNat : Int) = C := ⟨_, rfl⟩
            rw [hCk] at ixk
            have vk : (k : Int) < S.size := by omega
            by_cases h46 : ck = 46
            · have t46 := eq_c ck Ck hCk 46 46 rfl h46
              obtain ⟨y, hy⟩ : ∃ y, y = k + 1 := ⟨_, rfl⟩
              have hy1 : (k : Int) + 1 = (y : Int) := by omega
              obtain ⟨j, hj⟩ : ∃ j, y + M.run (l.drop y) = j := ⟨_, rfl⟩
              have hjb := M.run_le (l.drop y)
              rw [List.length_drop, HN.out] at hjb
              have jb : j ≤ n + 6 := by omega
              have yb : y ≤ n + 6 := by omega
              have RY := Lib.hid (R.out y j (by omega) hj)
              have hkl : l.getD k 0 = 46 := by rw [hck]; exact h46
              have HjB : Hid (j = y → z = -1) := Lib.hid (fun h => by rw [← HZ2.out]; exact st2_bad l k j hkl (by rw [← hy]; exact hj) (by omega))
              have HjG : Hid (j ≠ y → st3 l j = z) := Lib.hid (fun h => by rw [← HZ2.out]; exact (st2_go l k j hkl (by rw [← hy]; exact hj) (by omega)).symm)
              clear hy hj hkl hck hCk h46 hjb
              by_cases hjy : j = y
              · have Hzz := Lib.hid (HjB.out hjy)
                have e8 : ((j : Int) == (y : Int)) = true := by rw [beq_iff_eq]; omega
                clear hjy
                go_wp2_with fail
                refine RY.out.mono ?_
                rintro e w' ⟨rfl, rfl⟩
                go_wp2
                go_ret
                exact ⟨by rw [Hzz.out]; rfl, rfl⟩
              · have HZ3 := Lib.hid (HjG.out hjy)
                have e8 : ((j : Int) == (y : Int)) = false := by rw [beq_eq_false_iff_ne]; omega
                clear hjy
                go_wp2_with fail
                refine RY.out.mono ?_
                rintro e w' ⟨rfl, rfl⟩
                by_cases hsb : j < S.size
                · skip
                  have ixb := HI.out j hsb
                  obtain ⟨cb, hcb⟩ : ∃ c, l.getD j 0 = c := ⟨_, rfl⟩
                  rw [hcb] at ixb
                  obtain ⟨Cb, hCb⟩ : ∃ C : Int, (cb.toNat : Int) = C := ⟨_, rfl⟩
                  rw [hCb] at ixb
                  have vb : (j : Int) < S.size := by omega
                  by_cases hE : cb = 101 ∨ cb = 69
                  · have tE : (Cb == 101) = true ∨ ((Cb == 101) = false ∧ (Cb == 69) = true) := by
                        rcases hE with h | h
                        · left; exact eq_c cb Cb hCb 101 101 rfl h
                        · right; exact ⟨ne_c cb Cb hCb 101 101 rfl (by rw [h]; decide), eq_c cb Cb hCb 69 69 rfl h⟩
                    have hEl : l.getD j 0 = 101 ∨ l.getD j 0 = 69 := by rw [hcb]; exact hE
                    obtain ⟨p, hp⟩ : ∃ p, p = j + 1 := ⟨_, rfl⟩
                    have hp1 : (j : Int) + 1 = (p : Int) := by omega
                    obtain ⟨x, hx⟩ : ∃ x, expQ l j = x := ⟨_, rfl⟩
                    obtain ⟨c, hcx⟩ : ∃ c, x + M.run (l.drop x) = c := ⟨_, rfl⟩
                    have hxc := M.run_le (l.drop x)
                    rw [List.length_drop, HN.out] at hxc
                    have Hcbad : Hid (c = x → z = -1) := Lib.hid fun h => by rw [← HZ3.out]; exact st3_bad l j c hEl (by rw [hx]; exact hcx) (by rw [hx]; exact h)
                    have Hcgo : Hid (c ≠ x → st4 l c = z) := Lib.hid fun h => by rw [← HZ3.out]; exact (st3_go l j c hEl (by rw [hx]; exact hcx) (by rw [hx]; exact h)).symm
                    have hxv := hx
                    unfold expQ at hxv
                    rw [← hp] at hxv
                    clear hp
                    by_cases hsp : p < S.size
                    · skip
                      have ixp := HI.out p hsp
                      obtain ⟨cp, hcp⟩ : ∃ c, l.getD p 0 = c := ⟨_, rfl⟩
                      rw [hcp] at ixp
                      obtain ⟨Cp, hCp⟩ : ∃ C : Int, (cp.toNat : Int) = C := ⟨_, rfl⟩
                      rw [hCp] at ixp
                      have vp : (p : Int) < S.size := by omega
                      by_cases hS : cp = 43 ∨ cp = 45
                      · have tS : (Cp == 43) = true ∨ ((Cp == 43) = false ∧ (Cp == 45) = true) := by
                            rcases hS with h | h
                            · left; exact eq_c cp Cp hCp 43 43 rfl h
                            · right; exact ⟨ne_c cp Cp hCp 43 43 rfl (by rw [h]; decide), eq_c cp Cp hCp 45 45 rfl h⟩
                        rw [hcp, if_pos hS] at hxv
                        have hp2 : (p : Int) + 1 = (x : Int) := by omega
                        have xb : x ≤ n + 9 := by omega
                        clear hxv
                        have RX := Lib.hid (R.out x c (by omega) hcx)
                        have cbd : c ≤ n + 9 := by omega
                        clear hxc
                        clear hcx hx hEl hE hcb hCb hS hcp hCp
                        by_cases hcq : c = x
                        · have Hzz := Lib.hid (Hcbad.out hcq)
                          have e9 : ((c : Int) == (x : Int)) = true := by rw [beq_iff_eq]; omega
                          clear hcq
                          rcases tE with tE1 | ⟨tE1, tE2⟩
                          all_goals
                            rcases tS with tS1 | ⟨tS1, tS2⟩
                            all_goals
                              go_wp2_with fail
                              refine RX.out.mono ?_
                              rintro e w' ⟨rfl, rfl⟩
                              go_wp2
                              go_ret
                              exact ⟨by rw [Hzz.out]; rfl, rfl⟩
                        · have HZ4c : Hid (st4 l c = z) := Lib.hid (Hcgo.out hcq)
                          have e9 : ((c : Int) == (x : Int)) = false := by rw [beq_eq_false_iff_ne]; omega
                          clear hcq
                          rcases tE with tE1 | ⟨tE1, tE2⟩
                          all_goals
                            rcases tS with tS1 | ⟨tS1, tS2⟩
                            all_goals
                              go_wp2_with fail
                              refine RX.out.mono ?_
                              rintro e w' ⟨rfl, rfl⟩
                              obtain ⟨gc, hgc⟩ : ∃ g, M.goB (l.getD c 0) = g := ⟨_, rfl⟩
                              have GGc := Lib.hid (G.out c gc (by omega) hgc)
                              have hz4c := st4_of l c
                              rw [hgc, HZ4c.out] at hz4c
                              have Hz4c := Lib.hid hz4c
                              clear hz4c hgc
                              cases gc with
                              | true =>
                                have Hzz := Lib.hid (Hz4c.out.1 rfl)
                                go_wp2_with fail
                                refine GGc.out.mono ?_
                                rintro e w' ⟨rfl, rfl⟩
                                go_wp2
                                go_ret
                                exact ⟨by rw [Hzz.out]; rfl, rfl⟩
                              | false =>
                                have Hzz := Lib.hid (Hz4c.out.2 rfl)
                                go_wp2_with fail
                                refine GGc.out.mono ?_
                                rintro e w' ⟨rfl, rfl⟩
                                go_wp2
                                go_ret
                                exact ⟨by rw [Hzz.out]; rfl, rfl⟩
                      · have tS1 := ne_c cp Cp hCp 43 43 rfl (fun h => hS (.inl h))
                        have tS2 := ne_c cp Cp hCp 45 45 rfl (fun h => hS (.inr h))
                        rw [hcp, if_neg hS] at hxv
                        obtain rfl : x = p := hxv.symm
                        have xb : x ≤ n + 9 := by omega
                        have RX := Lib.hid (R.out x c (by omega) hcx)
                        have cbd : c ≤ n + 9 := by omega
                        clear hxc
                        clear hcx hx hEl hE hcb hCb hS hcp hCp
                        by_cases hcq : c = x
                        · have Hzz := Lib.hid (Hcbad.out hcq)
                          have e9 : ((c : Int) == (x : Int)) = true := by rw [beq_iff_eq]; omega
                          clear hcq
                          rcases tE with tE1 | ⟨tE1, tE2⟩
                          all_goals
                            go_wp2_with fail
                            refine RX.out.mono ?_
                            rintro e w' ⟨rfl, rfl⟩
                            go_wp2
                            go_ret
                            exact ⟨by rw [Hzz.out]; rfl, rfl⟩
                        · have HZ4c : Hid (st4 l c = z) := Lib.hid (Hcgo.out hcq)
                          have e9 : ((c : Int) == (x : Int)) = false := by rw [beq_eq_false_iff_ne]; omega
                          clear hcq
                          rcases tE with tE1 | ⟨tE1, tE2⟩
                          all_goals
                            go_wp2_with fail
                            refine RX.out.mono ?_
                            rintro e w' ⟨rfl, rfl⟩
                            obtain ⟨gc, hgc⟩ : ∃ g, M.goB (l.getD c 0) = g := ⟨_, rfl⟩
                            have GGc := Lib.hid (G.out c gc (by omega) hgc)
                            have hz4c := st4_of l c
                            rw [hgc, HZ4c.out] at hz4c
                            have Hz4c := Lib.hid hz4c
                            clear hz4c hgc
                            cases gc with
                            | true =>
                              have Hzz := Lib.hid (Hz4c.out.1 rfl)
                              go_wp2_with fail
                              refine GGc.out.mono ?_
                              rintro e w' ⟨rfl, rfl⟩
                              go_wp2
                              go_ret
                              exact ⟨by rw [Hzz.out]; rfl, rfl⟩
                            | false =>
                              have Hzz := Lib.hid (Hz4c.out.2 rfl)
                              go_wp2_with fail
                              refine GGc.out.mono ?_
                              rintro e w' ⟨rfl, rfl⟩
                              go_wp2
                              go_ret
                              exact ⟨by rw [Hzz.out]; rfl, rfl⟩
                    · have hz0 : l.getD p 0 = 0 := getD_out l p (by rw [HN.out]; omega)
                      have tP : decide ((p : Int) < S.size) = false := by simp; omega
                      have vP : ¬ (p : Int) < S.size := by omega
                      rw [hz0, if_neg (by decide)] at hxv
                      obtain rfl : x = p := hxv.symm
                      have xb : x ≤ n + 9 := by omega
                      have RX := Lib.hid (R.out x c (by omega) hcx)
                      have cbd : c ≤ n + 9 := by omega
                      clear hxc
                      clear hcx hx hEl hE hcb hCb hz0
                      by_cases hcq : c = x
                      · have Hzz := Lib.hid (Hcbad.out hcq)
                        have e9 : ((c : Int) == (x : Int)) = true := by rw [beq_iff_eq]; omega
                        clear hcq
                        rcases tE with tE1 | ⟨tE1, tE2⟩
                        all_goals
                          go_wp2_with fail
                          refine RX.out.mono ?_
                          rintro e w' ⟨rfl, rfl⟩
                          go_wp2
                          go_ret
                          exact ⟨by rw [Hzz.out]; rfl, rfl⟩
                      · have HZ4c : Hid (st4 l c = z) := Lib.hid (Hcgo.out hcq)
                        have e9 : ((c : Int) == (x : Int)) = false := by rw [beq_eq_false_iff_ne]; omega
                        clear hcq
                        rcases tE with tE1 | ⟨tE1, tE2⟩
                        all_goals
                          go_wp2_with fail
                          refine RX.out.mono ?_
                          rintro e w' ⟨rfl, rfl⟩
                          obtain ⟨gc, hgc⟩ : ∃ g, M.goB (l.getD c 0) = g := ⟨_, rfl⟩
                          have GGc := Lib.hid (G.out c gc (by omega) hgc)
                          have hz4c := st4_of l c
                          rw [hgc, HZ4c.out] at hz4c
                          have Hz4c := Lib.hid hz4c
                          clear hz4c hgc
                          cases gc with
                          | true =>
                            have Hzz := Lib.hid (Hz4c.out.1 rfl)
                            go_wp2_with fail
                            refine GGc.out.mono ?_
                            rintro e w' ⟨rfl, rfl⟩
                            go_wp2
                            go_ret
                            exact ⟨by rw [Hzz.out]; rfl, rfl⟩
                          | false =>
                            have Hzz := Lib.hid (Hz4c.out.2 rfl)
                            go_wp2_with fail
                            refine GGc.out.mono ?_
                            rintro e w' ⟨rfl, rfl⟩
                            go_wp2
                            go_ret
                            exact ⟨by rw [Hzz.out]; rfl, rfl⟩
                  · have tE1 := ne_c cb Cb hCb 101 101 rfl (fun h => hE (.inl h))
                    have tE2 := ne_c cb Cb hCb 69 69 rfl (fun h => hE (.inr h))
                    have HZ4a : Hid (st4 l j = z) := Lib.hid (by rw [← HZ3.out]; exact (st3_no l j (by rw [hcb]; exact fun h => hE (.inl h)) (by rw [hcb]; exact fun h => hE (.inr h))).symm)
                    clear hE hcb hCb
                    obtain ⟨ga, hga⟩ : ∃ g, M.goB (l.getD j 0) = g := ⟨_, rfl⟩
                    have GGa := Lib.hid (G.out j ga (by omega) hga)
                    have hz4a := st4_of l j
                    rw [hga, HZ4a.out] at hz4a
                    have Hz4a := Lib.hid hz4a
                    clear hz4a hga
                    cases ga with
                    | true =>
                      have Hzz := Lib.hid (Hz4a.out.1 rfl)
                      go_wp2_with fail
                      refine GGa.out.mono ?_
                      rintro e w' ⟨rfl, rfl⟩
                      go_wp2
                      go_ret
                      exact ⟨by rw [Hzz.out]; rfl, rfl⟩
                    | false =>
                      have Hzz := Lib.hid (Hz4a.out.2 rfl)
                      go_wp2_with fail
                      refine GGa.out.mono ?_
                      rintro e w' ⟨rfl, rfl⟩
                      go_wp2
                      go_ret
                      exact ⟨by rw [Hzz.out]; rfl, rfl⟩
                · have hz0 : l.getD j 0 = 0 := getD_out l j (by rw [HN.out]; omega)
                  have tB : decide ((j : Int) < S.size) = false := by simp; omega
                  have vB : ¬ (j : Int) < S.size := by omega
                  have HZ4b : Hid (st4 l j = z) := Lib.hid (by rw [← HZ3.out]; exact (st3_no l j (by rw [hz0]; decide) (by rw [hz0]; decide)).symm)
                  clear hz0
                  obtain ⟨gb, hgb⟩ : ∃ g, M.goB (l.getD j 0) = g := ⟨_, rfl⟩
                  have GGb := Lib.hid (G.out j gb (by omega) hgb)
                  have hz4b := st4_of l j
                  rw [hgb, HZ4b.out] at hz4b
                  have Hz4b := Lib.hid hz4b
                  clear hz4b hgb
                  cases gb with
                  | true =>
                    have Hzz := Lib.hid (Hz4b.out.1 rfl)
                    go_wp2_with fail
                    refine GGb.out.mono ?_
                    rintro e w' ⟨rfl, rfl⟩
                    go_wp2
                    go_ret
                    exact ⟨by rw [Hzz.out]; rfl, rfl⟩
                  | false =>
                    have Hzz := Lib.hid (Hz4b.out.2 rfl)
                    go_wp2_with fail
                    refine GGb.out.mono ?_
                    rintro e w' ⟨rfl, rfl⟩
                    go_wp2
                    go_ret
                    exact ⟨by rw [Hzz.out]; rfl, rfl⟩
            · have t46 := ne_c ck Ck hCk 46 46 rfl h46
              have HZ3 : Hid (st3 l k = z) := Lib.hid (by rw [← HZ2.out]; exact (st2_no l k (by rw [hck]; exact h46)).symm)
              clear h46
              by_cases hE : ck = 101 ∨ ck = 69
              · have tE : (Ck == 101) = true ∨ ((Ck == 101) = false ∧ (Ck == 69) = true) := by
                    rcases hE with h | h
                    · left; exact eq_c ck Ck hCk 101 101 rfl h
                    · right; exact ⟨ne_c ck Ck hCk 101 101 rfl (by rw [h]; decide), eq_c ck Ck hCk 69 69 rfl h⟩
                have hEl : l.getD k 0 = 101 ∨ l.getD k 0 = 69 := by rw [hck]; exact hE
                obtain ⟨p, hp⟩ : ∃ p, p = k + 1 := ⟨_, rfl⟩
                have hp1 : (k : Int) + 1 = (p : Int) := by omega
                obtain ⟨x, hx⟩ : ∃ x, expQ l k = x := ⟨_, rfl⟩
                obtain ⟨c, hcx⟩ : ∃ c, x + M.run (l.drop x) = c := ⟨_, rfl⟩
                have hxc := M.run_le (l.drop x)
                rw [List.length_drop, HN.out] at hxc
                have Hcbad : Hid (c = x → z = -1) := Lib.hid fun h => by rw [← HZ3.out]; exact st3_bad l k c hEl (by rw [hx]; exact hcx) (by rw [hx]; exact h)
                have Hcgo : Hid (c ≠ x → st4 l c = z) := Lib.hid fun h => by rw [← HZ3.out]; exact (st3_go l k c hEl (by rw [hx]; exact hcx) (by rw [hx]; exact h)).symm
                have hxv := hx
                unfold expQ at hxv
                rw [← hp] at hxv
                clear hp
                by_cases hsp : p < S.size
                · skip
                  have ixp := HI.out p hsp
                  obtain ⟨cp, hcp⟩ : ∃ c, l.getD p 0 = c := ⟨_, rfl⟩
                  rw [hcp] at ixp
                  obtain ⟨Cp, hCp⟩ : ∃ C : Int, (cp.toNat : Int) = C := ⟨_, rfl⟩
                  rw [hCp] at ixp
                  have vp : (p : Int) < S.size := by omega
                  by_cases hS : cp = 43 ∨ cp = 45
                  · have tS : (Cp == 43) = true ∨ ((Cp == 43) = false ∧ (Cp == 45) = true) := by
                        rcases hS with h | h
                        · left; exact eq_c cp Cp hCp 43 43 rfl h
                        · right; exact ⟨ne_c cp Cp hCp 43 43 rfl (by rw [h]; decide), eq_c cp Cp hCp 45 45 rfl h⟩
                    rw [hcp, if_pos hS] at hxv
                    have hp2 : (p : Int) + 1 = (x : Int) := by omega
                    have xb : x ≤ n + 9 := by omega
                    clear hxv
                    have RX := Lib.hid (R.out x c (by omega) hcx)
                    have cbd : c ≤ n + 9 := by omega
                    clear hxc
                    clear hcx hx hEl hE hck hCk hS hcp hCp
                    by_cases hcq : c = x
                    · have Hzz := Lib.hid (Hcbad.out hcq)
                      have e9 : ((c : Int) == (x : Int)) = true := by rw [beq_iff_eq]; omega
                      clear hcq
                      rcases tE with tE1 | ⟨tE1, tE2⟩
                      all_goals
                        rcases tS with tS1 | ⟨tS1, tS2⟩
                        all_goals
                          go_wp2_with fail
                          refine RX.out.mono ?_
                          rintro e w' ⟨rfl, rfl⟩
                          go_wp2
                          go_ret
                          exact ⟨by rw [Hzz.out]; rfl, rfl⟩
                    · have HZ4c : Hid (st4 l c = z) := Lib.hid (Hcgo.out hcq)
                      have e9 : ((c : Int) == (x : Int)) = false := by rw [beq_eq_false_iff_ne]; omega
                      clear hcq
                      rcases tE with tE1 | ⟨tE1, tE2⟩
                      all_goals
                        rcases tS with tS1 | ⟨tS1, tS2⟩
                        all_goals
                          go_wp2_with fail
                          refine RX.out.mono ?_
                          rintro e w' ⟨rfl, rfl⟩
                          obtain ⟨gc, hgc⟩ : ∃ g, M.goB (l.getD c 0) = g := ⟨_, rfl⟩
                          have GGc := Lib.hid (G.out c gc (by omega) hgc)
                          have hz4c := st4_of l c
                          rw [hgc, HZ4c.out] at hz4c
                          have Hz4c := Lib.hid hz4c
                          clear hz4c hgc
                          cases gc with
                          | true =>
                            have Hzz := Lib.hid (Hz4c.out.1 rfl)
                            go_wp2_with fail
                            refine GGc.out.mono ?_
                            rintro e w' ⟨rfl, rfl⟩
                            go_wp2
                            go_ret
                            exact ⟨by rw [Hzz.out]; rfl, rfl⟩
                          | false =>
                            have Hzz := Lib.hid (Hz4c.out.2 rfl)
                            go_wp2_with fail
                            refine GGc.out.mono ?_
                            rintro e w' ⟨rfl, rfl⟩
                            go_wp2
                            go_ret
                            exact ⟨by rw [Hzz.out]; rfl, rfl⟩
                  · have tS1 := ne_c cp Cp hCp 43 43 rfl (fun h => hS (.inl h))
                    have tS2 := ne_c cp Cp hCp 45 45 rfl (fun h => hS (.inr h))
                    rw [hcp, if_neg hS] at hxv
                    obtain rfl : x = p := hxv.symm
                    have xb : x ≤ n + 9 := by omega
                    have RX := Lib.hid (R.out x c (by omega) hcx)
                    have cbd : c ≤ n + 9 := by omega
                    clear hxc
                    clear hcx hx hEl hE hck hCk hS hcp hCp
                    by_cases hcq : c = x
                    · have Hzz := Lib.hid (Hcbad.out hcq)
                      have e9 : ((c : Int) == (x : Int)) = true := by rw [beq_iff_eq]; omega
                      clear hcq
                      rcases tE with tE1 | ⟨tE1, tE2⟩
                      all_goals
                        go_wp2_with fail
                        refine RX.out.mono ?_
                        rintro e w' ⟨rfl, rfl⟩
                        go_wp2
                        go_ret
                        exact ⟨by rw [Hzz.out]; rfl, rfl⟩
                    · have HZ4c : Hid (st4 l c = z) := Lib.hid (Hcgo.out hcq)
                      have e9 : ((c : Int) == (x : Int)) = false := by rw [beq_eq_false_iff_ne]; omega
                      clear hcq
                      rcases tE with tE1 | ⟨tE1, tE2⟩
                      all_goals
                        go_wp2_with fail
                        refine RX.out.mono ?_
                        rintro e w' ⟨rfl, rfl⟩
                        obtain ⟨gc, hgc⟩ : ∃ g, M.goB (l.getD c 0) = g := ⟨_, rfl⟩
                        have GGc := Lib.hid (G.out c gc (by omega) hgc)
                        have hz4c := st4_of l c
                        rw [hgc, HZ4c.out] at hz4c
                        have Hz4c := Lib.hid hz4c
                        clear hz4c hgc
                        cases gc with
                        | true =>
                          have Hzz := Lib.hid (Hz4c.out.1 rfl)
                          go_wp2_with fail
                          refine GGc.out.mono ?_
                          rintro e w' ⟨rfl, rfl⟩
                          go_wp2
                          go_ret
                          exact ⟨by rw [Hzz.out]; rfl, rfl⟩
                        | false =>
                          have Hzz := Lib.hid (Hz4c.out.2 rfl)
                          go_wp2_with fail
                          refine GGc.out.mono ?_
                          rintro e w' ⟨rfl, rfl⟩
                          go_wp2
                          go_ret
                          exact ⟨by rw [Hzz.out]; rfl, rfl⟩
                · have hz0 : l.getD p 0 = 0 := getD_out l p (by rw [HN.out]; omega)
                  have tP : decide ((p : Int) < S.size) = false := by simp; omega
                  have vP : ¬ (p : Int) < S.size := by omega
                  rw [hz0, if_neg (by decide)] at hxv
                  obtain rfl : x = p := hxv.symm
                  have xb : x ≤ n + 9 := by omega
                  have RX := Lib.hid (R.out x c (by omega) hcx)
                  have cbd : c ≤ n + 9 := by omega
                  clear hxc
                  clear hcx hx hEl hE hck hCk hz0
                  by_cases hcq : c = x
                  · have Hzz := Lib.hid (Hcbad.out hcq)
                    have e9 : ((c : Int) == (x : Int)) = true := by rw [beq_iff_eq]; omega
                    clear hcq
                    rcases tE with tE1 | ⟨tE1, tE2⟩
                    all_goals
                      go_wp2_with fail
                      refine RX.out.mono ?_
                      rintro e w' ⟨rfl, rfl⟩
                      go_wp2
                      go_ret
                      exact ⟨by rw [Hzz.out]; rfl, rfl⟩
                  · have HZ4c : Hid (st4 l c = z) := Lib.hid (Hcgo.out hcq)
                    have e9 : ((c : Int) == (x : Int)) = false := by rw [beq_eq_false_iff_ne]; omega
                    clear hcq
                    rcases tE with tE1 | ⟨tE1, tE2⟩
                    all_goals
                      go_wp2_with fail
                      refine RX.out.mono ?_
                      rintro e w' ⟨rfl, rfl⟩
                      obtain ⟨gc, hgc⟩ : ∃ g, M.goB (l.getD c 0) = g := ⟨_, rfl⟩
                      have GGc := Lib.hid (G.out c gc (by omega) hgc)
                      have hz4c := st4_of l c
                      rw [hgc, HZ4c.out] at hz4c
                      have Hz4c := Lib.hid hz4c
                      clear hz4c hgc
                      cases gc with
                      | true =>
                        have Hzz := Lib.hid (Hz4c.out.1 rfl)
                        go_wp2_with fail
                        refine GGc.out.mono ?_
                        rintro e w' ⟨rfl, rfl⟩
                        go_wp2
                        go_ret
                        exact ⟨by rw [Hzz.out]; rfl, rfl⟩
                      | false =>
                        have Hzz := Lib.hid (Hz4c.out.2 rfl)
                        go_wp2_with fail
                        refine GGc.out.mono ?_
                        rintro e w' ⟨rfl, rfl⟩
                        go_wp2
                        go_ret
                        exact ⟨by rw [Hzz.out]; rfl, rfl⟩
              · have tE1 := ne_c ck Ck hCk 101 101 rfl (fun h => hE (.inl h))
                have tE2 := ne_c ck Ck hCk 69 69 rfl (fun h => hE (.inr h))
                have HZ4a : Hid (st4 l k = z) := Lib.hid (by rw [← HZ3.out]; exact (st3_no l k (by rw [hck]; exact fun h => hE (.inl h)) (by rw [hck]; exact fun h => hE (.inr h))).symm)
                clear hE hck hCk
                obtain ⟨ga, hga⟩ : ∃ g, M.goB (l.getD k 0) = g := ⟨_, rfl⟩
                have GGa := Lib.hid (G.out k ga (by omega) hga)
                have hz4a := st4_of l k
                rw [hga, HZ4a.out] at hz4a
                have Hz4a := Lib.hid hz4a
                clear hz4a hga
                cases ga with
                | true =>
                  have Hzz := Lib.hid (Hz4a.out.1 rfl)
                  go_wp2_with fail
                  refine GGa.out.mono ?_
                  rintro e w' ⟨rfl, rfl⟩
                  go_wp2
                  go_ret
                  exact ⟨by rw [Hzz.out]; rfl, rfl⟩
                | false =>
                  have Hzz := Lib.hid (Hz4a.out.2 rfl)
                  go_wp2_with fail
                  refine GGa.out.mono ?_
                  rintro e w' ⟨rfl, rfl⟩
                  go_wp2
                  go_ret
                  exact ⟨by rw [Hzz.out]; rfl, rfl⟩
          · have hzk : l.getD k 0 = 0 := getD_out l k (by rw [HN.out]; omega)
            have tK : decide ((k : Int) < S.size) = false := by simp; omega
            have vK : ¬ (k : Int) < S.size := by omega
            have HZ4k : Hid (st4 l k = z) := Lib.hid (by rw [← HZ2.out, st2_no l k (by rw [hzk]; decide)]; exact (st3_no l k (by rw [hzk]; decide) (by rw [hzk]; decide)).symm)
            clear hzk
            obtain ⟨gk, hgk⟩ : ∃ g, M.goB (l.getD k 0) = g := ⟨_, rfl⟩
            have GGk := Lib.hid (G.out k gk (by omega) hgk)
            have hz4k := st4_of l k
            rw [hgk, HZ4k.out] at hz4k
            have Hz4k := Lib.hid hz4k
            clear hz4k hgk
            cases gk with
            | true =>
              have Hzz := Lib.hid (Hz4k.out.1 rfl)
              go_wp2_with fail
              refine GGk.out.mono ?_
              rintro e w' ⟨rfl, rfl⟩
              go_wp2
              go_ret
              exact ⟨by rw [Hzz.out]; rfl, rfl⟩
            | false =>
              have Hzz := Lib.hid (Hz4k.out.2 rfl)
              go_wp2_with fail
              refine GGk.out.mono ?_
              rintro e w' ⟨rfl, rfl⟩
              go_wp2
              go_ret
              exact ⟨by rw [Hzz.out]; rfl, rfl⟩
        · skip
          rw [Hz8.out] at t48
          exact absurd t48 (by simp)
      · obtain rfl : i = q := hs.symm
        obtain rfl : Ci = D := ixi.symm.trans hD
        clear hq1 hD
        rcases hway with ⟨t48, hle⟩ | t48
        · have t9 : decide ((i : Int) + 1 < k) = false := by simp; omega
          rw [Hsf.out] at t0
          exact absurd t0 (by simp)
        · skip
          rw [Hsf.out] at t0
          exact absurd t0 (by simp)
end Go.Proofs.YtlobinjdgcidmaaDoor
