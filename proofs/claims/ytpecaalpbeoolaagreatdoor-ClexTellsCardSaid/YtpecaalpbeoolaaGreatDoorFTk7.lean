/- Tokens of CSS: the program's function of what begins with a name. -/
import Derived.Test.YtpecaalpbeoolaaGreatDoorFTk5
import Derived.Test.YtpecaalpbeoolaaGreatDoorFLow
namespace Go.Proofs.YtpecaalpbeoolaaGreatDoor
open Go.RowKit
set_option linter.unusedVariables false
set_option linter.unusedSimpArgs false

theorem str_eqF (l k : List UInt8) (b : Bool) (h : decide (l = k) = b) : ((bytes l).toList == k) = b := by
  rw [← h, ByteArray.toList_eq, bytes_list]
  by_cases e : l = k
  · subst e; simp
  · simp [e]
set_option maxRecDepth 100000 in
set_option maxHeartbeats 8000000 in
theorem fnamed_any (v : Value) (L : List (Int × Int)) (c : List Int) (i : Nat) (t : M.CT) (K : Nat) (w : World) (hv : Rs w v L) (hc : cps L = c) (hl : L.length ≤ 20000) (hi : i < L.length)
    (ht : (M.namT (c.drop i)).1 = t) (hK : i + (M.namT (c.drop i)).2 = K) :
    Calls Tryz.prog 43 #[v, .int .i64 (i : Int)] w (TkR w t K) := by
  have hlc := hv.lc
  rw [hc] at hlc
  have hcl : c.length = L.length := by rw [← hc, cps_len]
  have htl := (M.takeN_le _ (c.drop i) (Nat.le_refl _)).1
  rw [List.length_drop, hcl] at htl
  have hUl := (M.takeN_le _ (c.drop i) (Nat.le_refl _)).2
  have hcl2 : clampN (i : Int) c.length = i := by unfold clampN; omega
  obtain ⟨U, hU⟩ : ∃ U, (M.takeN (c.drop i)).1 = U := ⟨_, rfl⟩
  obtain ⟨e1, he1⟩ : ∃ U, i + (M.takeN (c.drop i)).2 = U := ⟨_, rfl⟩
  have TK := Lib.hid (fun W (hW : Below w.heap.size w W) => ntake_core v c (i : Int) U e1 W (hlc.keep hW) (by omega) (by rw [hcl2]; exact hU) (by rw [hcl2]; exact he1))
  have ST := fst_one 40 v c e1 _ w hlc (by omega) (by omega) rfl
  have hsl : (M.encZs U).length ≤ 80000 := by
    have := (M.encZs_len U).2
    rw [← hU] at this ⊢; omega
  unfold M.namT at ht hK
  have hg1 : (c.drop i).getD (M.takeN (c.drop i)).2 (-1) = c.getD e1 (-1) := by rw [getD_drop, he1]
  have LW := Lib.hid (fun W => flower_any (M.encZs U) W (by omega))
  obtain ⟨W0, hW0, cb0, b0, z0⟩ := w0_facts w
  have HW0 := Lib.hid hW0
  have HE1 := Lib.hid he1
  have i5 : (e1 : Int) ≤ 20000 := by omega
  clear z0 hW0
  by_cases h40 : c.getD e1 (-1) = 40
  · have he1n := M.getD_lt_of c e1 40 (by decide) h40
    rw [if_pos (by rw [hg1]; exact h40)] at ht hK
    have hnl := M.nameE_le (c.drop i) (by rw [hg1]; exact h40)
    rw [List.length_drop, hcl] at hnl
    obtain ⟨b, hb⟩ : ∃ b, i + M.nameE (c.drop i) = b := ⟨_, rfl⟩
    have hb' : (e1 + 1) + M.blN (c.drop (e1 + 1)) = b := by
      rw [← hb, ← he1]; unfold M.nameE
      rw [List.drop_drop, ← Nat.add_assoc i, Nat.add_assoc i, Nat.add_assoc]
      try omega
    have hg2 : (c.drop i).getD (M.nameE (c.drop i)) (-1) = c.getD b (-1) := by rw [getD_drop, hb]
    rw [hg2, hU] at ht hK
    have SB := Lib.hid (fun (W : World) (hW : Below w.heap.size w W) => fskipb_any v c (e1 + 1) b W (hlc.keep hW) (by omega) (by omega) hb')
    rw [show ((e1 + 1 : Nat) : Int) = (e1 : Int) + 1 by omega] at SB
    have S34 := fst_one 34 v c b _ w hlc (by omega) (by omega) rfl
    have S39 := fst_one 39 v c b _ w hlc (by omega) (by omega) rfl
    have tp : decide (c.getD e1 (-1) = ((40 : UInt8).toNat : Int)) = true := by simpa using h40
    rw [tp] at ST
    have S40 := Lib.hid ST
    have UR := Lib.hid (fun (W : World) (hW : Below w.heap.size w W) => furl_any v L c i b _ _ W (rs_keep hv hW) hc (by omega) hi (by omega) (by omega) rfl rfl)
    obtain ⟨T, hTT⟩ : ∃ T, M.encZs U = T := ⟨_, rfl⟩
    obtain ⟨y, hy⟩ : ∃ y, c.getD b (-1) = y := ⟨_, rfl⟩
    rw [hy] at ht hK S34 S39
    rw [hTT] at ht hK LW
    have HTT := Lib.hid hTT
    have HB := Lib.hid hb
    clear ST tp h40 hv hc hl hi hlc hcl htl hUl hcl2 hU he1 hsl hg1 hnl hb' hg2 he1n hy
    by_cases hurl : M.lowL T = [117, 114, 108]
    · have tu := str_eqF (M.lowL T) [117, 114, 108] true (by simpa using hurl)
      by_cases h34 : y = 34
      · rw [if_neg (fun h => h.2.1 h34)] at ht hK
        have tp : decide (y = ((34 : UInt8).toNat : Int)) = true := by simpa using h34
        rw [tp] at S34
        have S1 := Lib.hid S34
        have HT := Lib.hid ht
        have HK := Lib.hid (show (e1 : Int) + 1 = K by have := HE1.out; simp only at hK; omega)
        clear ht hK h34 tp S34 S39 hurl hTT hb UR
        as_aux_lemma =>
          go_enter Tryz.func43, Tryz.ntmps43
          go_wp2_with fail
          rw [HW0.out]
          refine (TK.out _ b0).mono ?_
          rintro e w1 ⟨rfl, hb1⟩
          have c1 := b0.trans (hb1.mono b0.size)
          have cb1 := cb0.keep hb1 cb0.lt
          clear hb1 b0 cb0
          rw [HTT.out]
          go_wp2_with fail
          refine (S40.out _ c1).mono ?_
          rintro e w2 ⟨rfl, hb2⟩
          have c2 := c1.trans (hb2.mono c1.size)
          have cb2 := cb1.keep hb2 cb1.lt
          clear hb2 c1 cb1
          go_wp2_with fail
          refine (SB.out _ c2).mono ?_
          rintro e w' ⟨rfl, rfl⟩
          go_wp2_with fail
          refine (LW.out _).mono ?_
          rintro e w3 ⟨rfl, hb3⟩
          have c3 := c2.trans (hb3.mono c2.size)
          have cb3 := cb2.keep hb3 cb2.lt
          clear hb3 c2 cb2
          go_wp2_with fail
          refine (S1.out _ c3).mono ?_
          rintro e w4 ⟨rfl, hb4⟩
          have c4 := c3.trans (hb4.mono c3.size)
          have cb4 := cb3.keep hb4 cb3.lt
          clear hb4 c3 cb3
          go_wp2_with (refine wpl_stT rfl _ _ rfl w.heap.size _ (ctv ({ kind := 2, text := T }) 0) rfl rfl cb4 rfl rfl (ctv_one _ _) ?_)
          go_wp2
          (try simp only [Exit.inBlock, Exit.then])
          refine bodyPost_ret (res_tok rfl _ _ w.heap.size _ _ rfl rfl (CB.set cb4 _) rfl) rfl ⟨(by rw [← HT.out]; exact etup_ai HK.out), below_setRow c4 (Nat.le_refl _) _⟩
      · have tp : decide (y = ((34 : UInt8).toNat : Int)) = false := by simpa using h34
        rw [tp] at S34
        have S1 := Lib.hid S34
        by_cases h39 : y = 39
        · rw [if_neg (fun h => h.2.2 h39)] at ht hK
          have tp2 : decide (y = ((39 : UInt8).toNat : Int)) = true := by simpa using h39
          rw [tp2] at S39
          have S2 := Lib.hid S39
          have HT := Lib.hid ht
          have HK := Lib.hid (show (e1 : Int) + 1 = K by have := HE1.out; simp only at hK; omega)
          clear ht hK h34 h39 tp tp2 S34 S39 hurl hTT hb UR
          as_aux_lemma =>
            go_enter Tryz.func43, Tryz.ntmps43
            go_wp2_with fail
            rw [HW0.out]
            refine (TK.out _ b0).mono ?_
            rintro e w1 ⟨rfl, hb1⟩
            have c1 := b0.trans (hb1.mono b0.size)
            have cb1 := cb0.keep hb1 cb0.lt
            clear hb1 b0 cb0
            rw [HTT.out]
            go_wp2_with fail
            refine (S40.out _ c1).mono ?_
            rintro e w2 ⟨rfl, hb2⟩
            have c2 := c1.trans (hb2.mono c1.size)
            have cb2 := cb1.keep hb2 cb1.lt
            clear hb2 c1 cb1
            go_wp2_with fail
            refine (SB.out _ c2).mono ?_
            rintro e w' ⟨rfl, rfl⟩
            go_wp2_with fail
            refine (LW.out _).mono ?_
            rintro e w3 ⟨rfl, hb3⟩
            have c3 := c2.trans (hb3.mono c2.size)
            have cb3 := cb2.keep hb3 cb2.lt
            clear hb3 c2 cb2
            go_wp2_with fail
            refine (S1.out _ c3).mono ?_
            rintro e w4 ⟨rfl, hb4⟩
            have c4 := c3.trans (hb4.mono c3.size)
            have cb4 := cb3.keep hb4 cb3.lt
            clear hb4 c3 cb3
            go_wp2_with fail
            refine (S2.out _ c4).mono ?_
            rintro e w5 ⟨rfl, hb5⟩
            have c5 := c4.trans (hb5.mono c4.size)
            have cb5 := cb4.keep hb5 cb4.lt
            clear hb5 c4 cb4
            go_wp2_with (refine wpl_stT rfl _ _ rfl w.heap.size _ (ctv ({ kind := 2, text := T }) 0) rfl rfl cb5 rfl rfl (ctv_one _ _) ?_)
            go_wp2
            (try simp only [Exit.inBlock, Exit.then])
            refine bodyPost_ret (res_tok rfl _ _ w.heap.size _ _ rfl rfl (CB.set cb5 _) rfl) rfl ⟨(by rw [← HT.out]; exact etup_ai HK.out), below_setRow c5 (Nat.le_refl _) _⟩
        · rw [if_pos ⟨hurl, h34, h39⟩] at ht hK
          have tp2 : decide (y = ((39 : UInt8).toNat : Int)) = false := by simpa using h39
          rw [tp2] at S39
          have S2 := Lib.hid S39
          unfold M.urlK at ht hK
          rw [List.drop_drop, hb] at ht hK
          have ht' : (if (M.urlT false false (c.drop b)).1 = true then { kind := 8, text := M.encZs ((c.drop i).take (b + (M.urlT false false (c.drop b)).2.2 - i)) } else { kind := 7, text := M.encZs (M.urlT false false (c.drop b)).2.1 } : M.CT) = t := by
            rw [← ht, show b + (M.urlT false false (c.drop b)).2.2 - i = M.nameE (c.drop i) + (M.urlT false false (c.drop b)).2.2 by omega]
            split <;> rfl
          have hK' : b + (M.urlT false false (c.drop b)).2.2 = K := by
            rw [← hK, ← hb]; split <;> simp only [Nat.add_assoc]
          rw [ht', hK'] at UR
          clear ht hK h34 h39 tp tp2 S34 S39 hurl hTT hb ht' hK'
          as_aux_lemma =>
            go_enter Tryz.func43, Tryz.ntmps43
            go_wp2_with fail
            rw [HW0.out]
            refine (TK.out _ b0).mono ?_
            rintro e w1 ⟨rfl, hb1⟩
            have c1 := b0.trans (hb1.mono b0.size)
            have cb1 := cb0.keep hb1 cb0.lt
            clear hb1 b0 cb0
            rw [HTT.out]
            go_wp2_with fail
            refine (S40.out _ c1).mono ?_
            rintro e w2 ⟨rfl, hb2⟩
            have c2 := c1.trans (hb2.mono c1.size)
            have cb2 := cb1.keep hb2 cb1.lt
            clear hb2 c1 cb1
            go_wp2_with fail
            refine (SB.out _ c2).mono ?_
            rintro e w' ⟨rfl, rfl⟩
            go_wp2_with fail
            refine (LW.out _).mono ?_
            rintro e w3 ⟨rfl, hb3⟩
            have c3 := c2.trans (hb3.mono c2.size)
            have cb3 := cb2.keep hb3 cb2.lt
            clear hb3 c2 cb2
            go_wp2_with fail
            refine (S1.out _ c3).mono ?_
            rintro e w4 ⟨rfl, hb4⟩
            have c4 := c3.trans (hb4.mono c3.size)
            have cb4 := cb3.keep hb4 cb3.lt
            clear hb4 c3 cb3
            go_wp2_with fail
            refine (S2.out _ c4).mono ?_
            rintro e w5 ⟨rfl, hb5⟩
            have c5 := c4.trans (hb5.mono c4.size)
            have cb5 := cb4.keep hb5 cb4.lt
            clear hb5 c4 cb4
            go_wp2_with fail
            refine (UR.out _ c5).mono ?_
            rintro e w6 ⟨rfl, hb6⟩
            have c6 := c5.trans (hb6.mono c5.size)
            have cb6 := cb5.keep hb6 cb5.lt
            clear hb6 c5 cb5
            go_wp2_with (refine wpl_stT rfl _ _ rfl w.heap.size _ (ctv (t) 0) rfl rfl cb6 rfl rfl (ctv_one _ _) ?_)
            go_wp2
            (try simp only [Exit.inBlock, Exit.then])
            refine bodyPost_ret (res_tok rfl _ _ w.heap.size _ _ rfl rfl (CB.set cb6 _) rfl) rfl ⟨rfl, below_setRow c6 (Nat.le_refl _) _⟩
    · have tu := str_eqF (M.lowL T) [117, 114, 108] false (by simpa using hurl)
      rw [if_neg (fun h => hurl h.1)] at ht hK
      have HT := Lib.hid ht
      have HK := Lib.hid (show (e1 : Int) + 1 = K by have := HE1.out; simp only at hK; omega)
      clear ht hK S34 S39 hurl hTT hb UR
      as_aux_lemma =>
        go_enter Tryz.func43, Tryz.ntmps43
        go_wp2_with fail
        rw [HW0.out]
        refine (TK.out _ b0).mono ?_
        rintro e w1 ⟨rfl, hb1⟩
        have c1 := b0.trans (hb1.mono b0.size)
        have cb1 := cb0.keep hb1 cb0.lt
        clear hb1 b0 cb0
        rw [HTT.out]
        go_wp2_with fail
        refine (S40.out _ c1).mono ?_
        rintro e w2 ⟨rfl, hb2⟩
        have c2 := c1.trans (hb2.mono c1.size)
        have cb2 := cb1.keep hb2 cb1.lt
        clear hb2 c1 cb1
        go_wp2_with fail
        refine (SB.out _ c2).mono ?_
        rintro e w' ⟨rfl, rfl⟩
        go_wp2_with fail
        refine (LW.out _).mono ?_
        rintro e w3 ⟨rfl, hb3⟩
        have c3 := c2.trans (hb3.mono c2.size)
        have cb3 := cb2.keep hb3 cb2.lt
        clear hb3 c2 cb2
        go_wp2_with (refine wpl_stT rfl _ _ rfl w.heap.size _ (ctv ({ kind := 2, text := T }) 0) rfl rfl cb3 rfl rfl (ctv_one _ _) ?_)
        go_wp2
        (try simp only [Exit.inBlock, Exit.then])
        refine bodyPost_ret (res_tok rfl _ _ w.heap.size _ _ rfl rfl (CB.set cb3 _) rfl) rfl ⟨(by rw [← HT.out]; exact etup_ai HK.out), below_setRow c3 (Nat.le_refl _) _⟩
  · have tp : decide (c.getD e1 (-1) = ((40 : UInt8).toNat : Int)) = false := by simpa using h40
    rw [tp] at ST
    have S40 := Lib.hid ST
    rw [if_neg (by rw [hg1]; exact h40), hU] at ht hK
    have HT := Lib.hid ht
    have HK := Lib.hid (show (e1 : Int) = K by have := HE1.out; simp only at hK; omega)
    clear ST tp h40 hv hc hl hi hlc hcl htl hUl hcl2 hU he1 hsl hg1 ht hK
    as_aux_lemma =>
      go_enter Tryz.func43, Tryz.ntmps43
      go_wp2_with fail
      rw [HW0.out]
      refine (TK.out _ b0).mono ?_
      rintro e w1 ⟨rfl, hb1⟩
      have c1 := b0.trans (hb1.mono b0.size)
      have cb1 := cb0.keep hb1 cb0.lt
      clear hb1 b0 cb0
      go_wp2_with fail
      refine (S40.out _ c1).mono ?_
      rintro e w2 ⟨rfl, hb2⟩
      have c2 := c1.trans (hb2.mono c1.size)
      have cb2 := cb1.keep hb2 cb1.lt
      clear hb2 c1 cb1
      go_wp2_with (refine wpl_stT rfl _ _ rfl w.heap.size _ (ctv ({ kind := 1, text := M.encZs U }) 0) rfl rfl cb2 rfl rfl (ctv_one _ _) ?_)
      go_wp2
      (try simp only [Exit.inBlock, Exit.then])
      refine bodyPost_ret (res_tok rfl _ _ w.heap.size _ _ rfl rfl (CB.set cb2 _) rfl) rfl ⟨(by rw [← HT.out]; exact etup_ai HK.out), below_setRow c2 (Nat.le_refl _) _⟩
end Go.Proofs.YtpecaalpbeoolaaGreatDoor
