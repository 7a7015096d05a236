/- Tokens of CSS: the program's function of one token. -/
import Derived.Test.YtpecaalpbeoolaaGreatDoorFTk2
import Derived.Test.YtpecaalpbeoolaaGreatDoorFTk3
import Derived.Test.YtpecaalpbeoolaaGreatDoorFTk6
import Derived.Test.YtpecaalpbeoolaaGreatDoorFTk7
namespace Go.Proofs.YtpecaalpbeoolaaGreatDoor
open Go.RowKit
set_option linter.unusedVariables false
set_option linter.unusedSimpArgs false

theorem tk_1 (D : List Int) (h1 : M.stC [47, 42] D = true) : M.tkC D = M.tokW 1 D := by
  unfold M.tkC
  rw [show M.wayT D = 1 by unfold M.wayT; rw [if_pos h1]]
theorem tk_2 (D : List Int) (h1 : ¬ (M.stC [47, 42] D = true)) (h2 : M.isBl (D.getD 0 (-1)) = true) : M.tkC D = M.tokW 2 D := by
  unfold M.tkC
  rw [show M.wayT D = 2 by unfold M.wayT; rw [if_neg h1, if_pos h2]]
theorem tk_3 (D : List Int) (h1 : ¬ (M.stC [47, 42] D = true)) (h2 : ¬ (M.isBl (D.getD 0 (-1)) = true)) (h3 : D.getD 0 (-1) = 34 ∨ D.getD 0 (-1) = 39) : M.tkC D = M.tokW 3 D := by
  unfold M.tkC
  rw [show M.wayT D = 3 by unfold M.wayT; rw [if_neg h1, if_neg h2, if_pos h3]]
theorem tk_4 (D : List Int) (h1 : ¬ (M.stC [47, 42] D = true)) (h2 : ¬ (M.isBl (D.getD 0 (-1)) = true)) (h3 : ¬ (D.getD 0 (-1) = 34 ∨ D.getD 0 (-1) = 39)) (h4 : D.getD 0 (-1) = 35 ∧ M.inNm (D.drop 1) = true) : M.tkC D = M.tokW 4 D := by
  unfold M.tkC
  rw [show M.wayT D = 4 by unfold M.wayT; rw [if_neg h1, if_neg h2, if_neg h3, if_pos h4]]
theorem tk_5 (D : List Int) (h1 : ¬ (M.stC [47, 42] D = true)) (h2 : ¬ (M.isBl (D.getD 0 (-1)) = true)) (h3 : ¬ (D.getD 0 (-1) = 34 ∨ D.getD 0 (-1) = 39)) (h4 : ¬ (D.getD 0 (-1) = 35 ∧ M.inNm (D.drop 1) = true)) (h5 : M.numB D = true) : M.tkC D = M.tokW 5 D := by
  unfold M.tkC
  rw [show M.wayT D = 5 by unfold M.wayT; rw [if_neg h1, if_neg h2, if_neg h3, if_neg h4, if_pos h5]]
theorem tk_6 (D : List Int) (h1 : ¬ (M.stC [47, 42] D = true)) (h2 : ¬ (M.isBl (D.getD 0 (-1)) = true)) (h3 : ¬ (D.getD 0 (-1) = 34 ∨ D.getD 0 (-1) = 39)) (h4 : ¬ (D.getD 0 (-1) = 35 ∧ M.inNm (D.drop 1) = true)) (h5 : ¬ (M.numB D = true)) (h6 : M.stC [45, 45, 62] D = true) : M.tkC D = M.tokW 6 D := by
  unfold M.tkC
  rw [show M.wayT D = 6 by unfold M.wayT; rw [if_neg h1, if_neg h2, if_neg h3, if_neg h4, if_neg h5, if_pos h6]]
theorem tk_7 (D : List Int) (h1 : ¬ (M.stC [47, 42] D = true)) (h2 : ¬ (M.isBl (D.getD 0 (-1)) = true)) (h3 : ¬ (D.getD 0 (-1) = 34 ∨ D.getD 0 (-1) = 39)) (h4 : ¬ (D.getD 0 (-1) = 35 ∧ M.inNm (D.drop 1) = true)) (h5 : ¬ (M.numB D = true)) (h6 : ¬ (M.stC [45, 45, 62] D = true)) (h7 : M.stC [60, 33, 45, 45] D = true) : M.tkC D = M.tokW 7 D := by
  unfold M.tkC
  rw [show M.wayT D = 7 by unfold M.wayT; rw [if_neg h1, if_neg h2, if_neg h3, if_neg h4, if_neg h5, if_neg h6, if_pos h7]]
theorem tk_8 (D : List Int) (h1 : ¬ (M.stC [47, 42] D = true)) (h2 : ¬ (M.isBl (D.getD 0 (-1)) = true)) (h3 : ¬ (D.getD 0 (-1) = 34 ∨ D.getD 0 (-1) = 39)) (h4 : ¬ (D.getD 0 (-1) = 35 ∧ M.inNm (D.drop 1) = true)) (h5 : ¬ (M.numB D = true)) (h6 : ¬ (M.stC [45, 45, 62] D = true)) (h7 : ¬ (M.stC [60, 33, 45, 45] D = true)) (h8 : M.begN D = true) : M.tkC D = M.tokW 8 D := by
  unfold M.tkC
  rw [show M.wayT D = 8 by unfold M.wayT; rw [if_neg h1, if_neg h2, if_neg h3, if_neg h4, if_neg h5, if_neg h6, if_neg h7, if_pos h8]]
theorem tk_9 (D : List Int) (h1 : ¬ (M.stC [47, 42] D = true)) (h2 : ¬ (M.isBl (D.getD 0 (-1)) = true)) (h3 : ¬ (D.getD 0 (-1) = 34 ∨ D.getD 0 (-1) = 39)) (h4 : ¬ (D.getD 0 (-1) = 35 ∧ M.inNm (D.drop 1) = true)) (h5 : ¬ (M.numB D = true)) (h6 : ¬ (M.stC [45, 45, 62] D = true)) (h7 : ¬ (M.stC [60, 33, 45, 45] D = true)) (h8 : ¬ (M.begN D = true)) (h9 : D.getD 0 (-1) = 64 ∧ M.begN (D.drop 1) = true) : M.tkC D = M.tokW 9 D := by
  unfold M.tkC
  rw [show M.wayT D = 9 by unfold M.wayT; rw [if_neg h1, if_neg h2, if_neg h3, if_neg h4, if_neg h5, if_neg h6, if_neg h7, if_neg h8, if_pos h9]]
theorem tk_10 (D : List Int) (h1 : ¬ (M.stC [47, 42] D = true)) (h2 : ¬ (M.isBl (D.getD 0 (-1)) = true)) (h3 : ¬ (D.getD 0 (-1) = 34 ∨ D.getD 0 (-1) = 39)) (h4 : ¬ (D.getD 0 (-1) = 35 ∧ M.inNm (D.drop 1) = true)) (h5 : ¬ (M.numB D = true)) (h6 : ¬ (M.stC [45, 45, 62] D = true)) (h7 : ¬ (M.stC [60, 33, 45, 45] D = true)) (h8 : ¬ (M.begN D = true)) (h9 : ¬ (D.getD 0 (-1) = 64 ∧ M.begN (D.drop 1) = true)) : M.tkC D = M.tokW 10 D := by
  unfold M.tkC
  rw [show M.wayT D = 10 by unfold M.wayT; rw [if_neg h1, if_neg h2, if_neg h3, if_neg h4, if_neg h5, if_neg h6, if_neg h7, if_neg h8, if_neg h9]]
set_option maxRecDepth 100000 in
set_option maxHeartbeats 8000000 in
theorem ftoken_any (v : Value) (L : List (Int × Int)) (c : List Int) (i : Nat) (t : M.CT) (k : Nat) (w : World) (hT : Tabs w) (hv : Rs w v L) (hc : cps L = c) (hl : L.length ≤ 20000) (hi : i < L.length)
    (ht : M.tkC (c.drop i) = (t, k)) :
    Calls Tryz.prog 22 #[v, .int .i64 (i : Int)] w (TkR w t (i + k)) := by
  have hlc := hv.lc
  rw [hc] at hlc
  have hcl : c.length = L.length := by rw [← hc, cps_len]
  obtain ⟨n, hn⟩ : ∃ n, L.length = n := ⟨_, rfl⟩
  rw [hn] at hl hi hcl
  have hcn : c.length ≤ 100000 := by omega
  obtain ⟨a, cap, hvv, h1, h2, h3⟩ := rs_open hv hn
  obtain ⟨p, off, rfl, hp, h4⟩ := h3 (by omega)
  have c00 := (h4 i (by omega)).1
  have e0 : (L[i]'(by omega)).1 = c.getD i (-1) := by rw [← hc]; simp [cps, List.getD, show i < L.length by omega]
  rw [e0] at c00
  obtain ⟨y, hy⟩ : ∃ y, c.getD i (-1) = y := ⟨_, rfl⟩
  have hD0 : (c.drop i).getD 0 (-1) = y := by rw [getD_drop, Nat.add_zero]; exact hy
  have hD1 : (c.drop i).drop 1 = c.drop (i + 1) := by rw [List.drop_drop]
  rw [hy] at c00
  have KV := Lib.hid (fun W (hW : Below w.heap.size w W) => rs_keep hv hW)
  have KL := Lib.hid (fun W (hW : Below w.heap.size w W) => hlc.keep hW)
  have S1 := Lib.hid (fun W (hW : Below w.heap.size w W) => fstands_any v c i [47, 42] _ W (hlc.keep hW) (by omega) (by omega) (by simp) (by simp) rfl)
  have X2 := Lib.hid (fun W => isbl_any y _ W rfl)
  have X4 := Lib.hid (fun W (hW : Below w.heap.size w W) => finn_any v c (i + 1) _ W (hlc.keep hW) (by omega) (by omega) rfl)
  rw [show ((i + 1 : Nat) : Int) = (i : Int) + 1 by omega] at X4
  have S5 := Lib.hid (fun W (hW : Below w.heap.size w W) => fnumb_any v c i _ W (hlc.keep hW) (by omega) (by omega) rfl)
  have S6 := Lib.hid (fun W (hW : Below w.heap.size w W) => fstands_any v c i [45, 45, 62] _ W (hlc.keep hW) (by omega) (by omega) (by simp) (by simp) rfl)
  have S7 := Lib.hid (fun W (hW : Below w.heap.size w W) => fstands_any v c i [60, 33, 45, 45] _ W (hlc.keep hW) (by omega) (by omega) (by simp) (by simp) rfl)
  have X8 := fun W (hW : Below w.heap.size w W) => nbegins_any v c (i : Int) _ W (hlc.keep hW) (by omega) rfl
  rw [if_neg (by omega), Int.toNat_natCast] at X8
  have X9 := fun W (hW : Below w.heap.size w W) => nbegins_any v c ((i : Int) + 1) _ W (hlc.keep hW) (by omega) rfl
  rw [if_neg (by omega), show ((i : Int) + 1).toNat = i + 1 by omega] at X9
  have F1 := Lib.hid (fun W (hW : Below w.heap.size w W) (h : i + 2 ≤ n) => fcomment_any v L c i _ _ W (rs_keep hv hW) hc (by omega) (by omega) rfl rfl)
  have F2 := Lib.hid (fun W (hW : Below w.heap.size w W) => fspace_any v c i _ W (hlc.keep hW) hcn (by omega) rfl)
  have F3 := Lib.hid (fun W (hW : Below w.heap.size w W) (h : y = 34 ∨ y = 39) => ftext_any v L c i y _ _ W (rs_keep hv hW) hc (by omega) (by omega) hy h rfl rfl)
  have F4 := Lib.hid (fun W (hW : Below w.heap.size w W) => fhash_any v c i W (hlc.keep hW) hcn (by omega))
  have F5 := Lib.hid (fun W (hW : Below w.heap.size w W) (h : M.numB (c.drop i) = true) => fnumeric_any v L c i _ _ W (hT.keep hW) (rs_keep hv hW) hc (by omega) (by omega) h rfl rfl)
  have F8 := Lib.hid (fun W (hW : Below w.heap.size w W) => fnamed_any v L c i _ _ W (rs_keep hv hW) hc (by omega) (by omega) rfl rfl)
  have hcl9 : clampN ((i : Int) + 1) c.length = i + 1 := by unfold clampN; omega
  obtain ⟨U9, hU9⟩ : ∃ U, (M.takeN (c.drop (i + 1))).1 = U := ⟨_, rfl⟩
  obtain ⟨e9, he9⟩ : ∃ U, i + 1 + (M.takeN (c.drop (i + 1))).2 = U := ⟨_, rfl⟩
  have F9 := Lib.hid (fun W (hW : Below w.heap.size w W) => ntake_core v c ((i : Int) + 1) U9 e9 W (hlc.keep hW) hcn (by rw [hcl9]; exact hU9) (by rw [hcl9]; exact he9))
  have F10 := Lib.hid (fun W (hW : Below w.heap.size w W) => fsingle_any v L c i W (rs_keep hv hW) hc (by omega) (by omega))
  obtain ⟨b1, hb1⟩ : ∃ b, M.stC (asI [47, 42]) (c.drop i) = b := ⟨_, rfl⟩
  obtain ⟨b2, hb2⟩ : ∃ b, M.isBl y = b := ⟨_, rfl⟩
  obtain ⟨b4, hb4⟩ : ∃ b, M.inNm (c.drop (i + 1)) = b := ⟨_, rfl⟩
  obtain ⟨b5, hb5⟩ : ∃ b, M.numB (c.drop i) = b := ⟨_, rfl⟩
  obtain ⟨b6, hb6⟩ : ∃ b, M.stC (asI [45, 45, 62]) (c.drop i) = b := ⟨_, rfl⟩
  obtain ⟨b7, hb7⟩ : ∃ b, M.stC (asI [60, 33, 45, 45]) (c.drop i) = b := ⟨_, rfl⟩
  obtain ⟨b8, hb8⟩ : ∃ b, M.begN (c.drop i) = b := ⟨_, rfl⟩
  obtain ⟨b9, hb9⟩ : ∃ b, M.begN (c.drop (i + 1)) = b := ⟨_, rfl⟩
  rw [hb1] at S1
  rw [hb2] at X2
  rw [hb4] at X4
  rw [hb5] at S5
  rw [hb6] at S6
  rw [hb7] at S7
  rw [hb8] at X8
  rw [hb9] at X9
  have X8 := Lib.hid X8
  have X9 := Lib.hid X9
  have hasc1 : asI [47, 42] = [47, 42] := rfl
  have hasc6 : asI [45, 45, 62] = [45, 45, 62] := rfl
  have hasc7 : asI [60, 33, 45, 45] = [60, 33, 45, 45] := rfl
  rw [hasc1] at hb1
  rw [hasc6] at hb6
  rw [hasc7] at hb7
  have B1 := Lib.hid hb1
  have B2 := Lib.hid (show M.isBl ((c.drop i).getD 0 (-1)) = b2 by rw [hD0]; exact hb2)
  have B4 := Lib.hid (show M.inNm ((c.drop i).drop 1) = b4 by rw [hD1]; exact hb4)
  have B5 := Lib.hid hb5
  have B6 := Lib.hid hb6
  have B7 := Lib.hid hb7
  have B8 := Lib.hid hb8
  have B9 := Lib.hid (show M.begN ((c.drop i).drop 1) = b9 by rw [hD1]; exact hb9)
  have HD0 := Lib.hid hD0
  have HD1 := Lib.hid hD1
  have HT := Lib.hid ht
  have HU9 := Lib.hid hU9
  have HE9 := Lib.hid he9
  have HY := Lib.hid hy
  obtain ⟨W0, hW0, cb0, b0, z0⟩ := w0_facts w
  have cr : (w.alloc (.cells #[.int .i64 0, .string ⟨#[]⟩, .string ⟨#[]⟩, .bool false, .string ⟨#[]⟩, .string ⟨#[]⟩, .bool false, .bool false, .int .i64 0, .int .i64 0, .int .i64 0, .int .i64 0, .int .i64 0] 36)).cell? ⟨p, off + i * 2, none⟩ = some (.int .i64 y) := by rw [hW0, b0.cell (p := ⟨p, off + i * 2, none⟩) hp]; exact c00
  have HW0 := Lib.hid hW0
  have i1 : (0 : Int) ≤ i := by omega
  have i2 : (i : Int) < n := by omega
  have i3 : (n : Int) ≤ 20000 := by omega
  have HLN := Lib.hid hcl
  subst hvv
  unfold maxLen at h2
  clear hW0 z0 hT hc hl h3 h4 hlc hcl hcn hcl9 hU9 he9 hb1 hb2 hb4 hb5 hb6 hb7 hb8 hb9 hasc1 hasc6 hasc7 hD0 hD1 ht c00 e0 hy hn hv
  go_enter Tryz.func22, Tryz.ntmps22
  go_wp2_with fail
  rw [HW0.out]
  clear cr
  refine (S1.out _ b0).mono ?_
  rintro e w1 ⟨rfl, hb1⟩
  have c1 := b0.trans (hb1.mono b0.size)
  have cb1 := cb0.keep hb1 cb0.lt
  clear hb1 b0 cb0
  cases b1 with
  | true =>
    have e := tk_1 (c.drop i)  B1.out
    rw [HT.out] at e
    simp only [M.tokW, Nat.reduceEqDiff, if_true, if_false] at e
    rw [show (c.drop i).drop 2 = c.drop (i + 2) from List.drop_drop] at e
    have ET := Lib.hid (Prod.mk.inj e).1.symm
    have hin : i + 2 ≤ n := by have := M.stC_len _ _ B1.out; rw [List.length_drop, HLN.out] at this; simp at this; omega
    have R := F1.out _ c1 hin
    have RR := Lib.hid R
    obtain ⟨q1, hq1⟩ : ∃ q, i + 2 + (M.cmT (c.drop (i + 2))).2 = q := ⟨_, rfl⟩
    rw [hq1] at RR
    have EK := Lib.hid (show (q1 : Int) = ((i + k : Nat) : Int) by have := (Prod.mk.inj e).2; omega)
    clear e R hq1
    as_aux_lemma =>
      go_wp2_with fail
      refine (RR.out).mono ?_
      rintro e w9 ⟨rfl, hb9⟩
      have c9 := c1.trans (hb9.mono c1.size)
      have cb9 := cb1.keep hb9 cb1.lt
      clear hb9 c1 cb1
      go_wp2_with (refine wpl_stT rfl _ _ rfl w.heap.size _ (ctv ({ kind := 25, text := M.encZs (M.cmT (c.drop (i + 2))).1 }) 0) rfl rfl cb9 rfl rfl (ctv_one _ _) ?_)
      go_wp2
      (try simp only [Exit.inBlock, Exit.then])
      refine bodyPost_ret (res_tok rfl _ _ w.heap.size _ _ rfl rfl (CB.set cb9 _) rfl) rfl ⟨(by rw [← ET.out]; exact etup_ai EK.out), below_setRow c9 (Nat.le_refl _) _⟩
  | false =>
    go_wp2_with fail
    refine (X2.out _).mono ?_
    rintro e w' ⟨rfl, rfl⟩
    cases b2 with
    | true =>
      have e := tk_2 (c.drop i) (by rw [B1.out]; simp) B2.out
      rw [HT.out] at e
      simp only [M.tokW, Nat.reduceEqDiff, if_true, if_false] at e
      have R := F2.out _ c1
      rw [HY.out] at R
      rw [HD0.out] at e
      have RR := Lib.hid R
      obtain ⟨q1, hq1⟩ : ∃ q, i + M.blN (c.drop i) = q := ⟨_, rfl⟩
      rw [hq1] at RR
      obtain ⟨q2, hq2⟩ : ∃ q, (if y = 10 then [10] else [32] : List UInt8) = q := ⟨_, rfl⟩
      rw [hq2] at RR e
      have ET := Lib.hid (Prod.mk.inj e).1.symm
      have EK := Lib.hid (show (q1 : Int) = ((i + k : Nat) : Int) by have := (Prod.mk.inj e).2; omega)
      clear e R hq1 hq2
      as_aux_lemma =>
        go_wp2_with fail
        refine (RR.out).mono ?_
        rintro e w9 ⟨rfl, hb9⟩
        have c9 := c1.trans (hb9.mono c1.size)
        have cb9 := cb1.keep hb9 cb1.lt
        clear hb9 c1 cb1
        go_wp2_with (refine wpl_stT rfl _ _ rfl w.heap.size _ (ctv ({ kind := 13, text := q2 }) 0) rfl rfl cb9 rfl rfl (ctv_one _ _) ?_)
        go_wp2
        (try simp only [Exit.inBlock, Exit.then])
        refine bodyPost_ret (res_tok rfl _ _ w.heap.size _ _ rfl rfl (CB.set cb9 _) rfl) rfl ⟨(by rw [← ET.out]; exact etup_ai EK.out), below_setRow c9 (Nat.le_refl _) _⟩
    | false =>
      by_cases N3 : y = 34 ∨ y = 39
      · have e := tk_3 (c.drop i) (by rw [B1.out]; simp) (by rw [B2.out]; simp) (by rw [HD0.out]; exact N3)
        rw [HT.out] at e
        simp only [M.tokW, Nat.reduceEqDiff, if_true, if_false] at e
        unfold M.txtT at e
        rw [HD0.out, HD1.out] at e
        have R := F3.out _ c1 N3
        have hk1 : i + k = i + (1 + (M.strT y (c.drop (i + 1))).2.2) := by
          have := congrArg Prod.snd e
          rw [show k = (t, k).2 from rfl, this]
          split <;> rfl
        have ht1 : (if (M.strT y (c.drop (i + 1))).1 = true then { kind := 6, text := M.encZs ((c.drop i).take (1 + (M.strT y (c.drop (i + 1))).2.2)) } else { kind := 5, text := M.encZs (M.strT y (c.drop (i + 1))).2.1 } : M.CT) = t := by
          have := congrArg Prod.fst e
          rw [show t = (t, k).1 from rfl, this]
          split <;> rfl
        rw [ht1, ← hk1] at R
        have RR := Lib.hid R
        obtain ⟨q1, hq1⟩ : ∃ q, i + k = q := ⟨_, rfl⟩
        have EK := Lib.hid (show (q1 : Int) = ((i + k : Nat) : Int) by rw [hq1])
        rw [hq1] at RR
        have hy3 : y = 34 ∨ (y ≠ 34 ∧ y = 39) := by omega
        clear e R hq1 hk1 ht1 N3
        rcases hy3 with h34 | ⟨h34, h39⟩
        · have tp : (y == 34) = true := by simpa using h34
          clear h34
          as_aux_lemma =>
            go_wp2_with fail
            refine (RR.out).mono ?_
            rintro e w9 ⟨rfl, hb9⟩
            have c9 := c1.trans (hb9.mono c1.size)
            have cb9 := cb1.keep hb9 cb1.lt
            clear hb9 c1 cb1
            go_wp2_with (refine wpl_stT rfl _ _ rfl w.heap.size _ (ctv (t) 0) rfl rfl cb9 rfl rfl (ctv_one _ _) ?_)
            go_wp2
            (try simp only [Exit.inBlock, Exit.then])
            refine bodyPost_ret (res_tok rfl _ _ w.heap.size _ _ rfl rfl (CB.set cb9 _) rfl) rfl ⟨(etup_ai EK.out), below_setRow c9 (Nat.le_refl _) _⟩
        · have tp : (y == 34) = false := by simpa using h34
          have tp2 : (y == 39) = true := by simpa using h39
          clear h34 h39
          as_aux_lemma =>
            go_wp2_with fail
            refine (RR.out).mono ?_
            rintro e w9 ⟨rfl, hb9⟩
            have c9 := c1.trans (hb9.mono c1.size)
            have cb9 := cb1.keep hb9 cb1.lt
            clear hb9 c1 cb1
            go_wp2_with (refine wpl_stT rfl _ _ rfl w.heap.size _ (ctv (t) 0) rfl rfl cb9 rfl rfl (ctv_one _ _) ?_)
            go_wp2
            (try simp only [Exit.inBlock, Exit.then])
            refine bodyPost_ret (res_tok rfl _ _ w.heap.size _ _ rfl rfl (CB.set cb9 _) rfl) rfl ⟨(etup_ai EK.out), below_setRow c9 (Nat.le_refl _) _⟩
      · have tp : (y == 34) = false := by rw [beq_eq_false_iff_ne]; omega
        have tp2 : (y == 39) = false := by rw [beq_eq_false_iff_ne]; omega
        have N3 := Lib.hid N3
        by_cases h35 : y = 35 ∧ b4 = true
        · obtain ⟨h35, rfl⟩ := h35
          have N4 := h35
          have tp3 : (y == 35) = true := by simpa using h35
          have e := tk_4 (c.drop i) (by rw [B1.out]; simp) (by rw [B2.out]; simp) (by rw [HD0.out]; exact N3.out) (by rw [HD0.out, B4.out]; exact ⟨N4, rfl⟩)
          rw [HT.out] at e
          simp only [M.tokW, Nat.reduceEqDiff, if_true, if_false] at e
          rw [HD1.out] at e
          have ET := Lib.hid (Prod.mk.inj e).1.symm
          have R := F4.out _ c1
          have RR := Lib.hid R
          obtain ⟨q1, hq1⟩ : ∃ q, i + 1 + (M.takeN (c.drop (i + 1))).2 = q := ⟨_, rfl⟩
          rw [hq1] at RR
          have EK := Lib.hid (show (q1 : Int) = ((i + k : Nat) : Int) by have := (Prod.mk.inj e).2; omega)
          clear e R hq1 h35 N4
          go_wp2_with fail
          refine (X4.out _ c1).mono ?_
          rintro e w' ⟨rfl, rfl⟩
          as_aux_lemma =>
            go_wp2_with fail
            refine (RR.out).mono ?_
            rintro e w9 ⟨rfl, hb9⟩
            have c9 := c1.trans (hb9.mono c1.size)
            have cb9 := cb1.keep hb9 cb1.lt
            clear hb9 c1 cb1
            go_wp2_with (refine wpl_stT rfl _ _ rfl w.heap.size _ (ctv ({ kind := 4, text := M.encZs (M.takeN (c.drop (i + 1))).1, flag := M.begN (c.drop (i + 1)) }) 0) rfl rfl cb9 rfl rfl (ctv_one _ _) ?_)
            go_wp2
            (try simp only [Exit.inBlock, Exit.then])
            refine bodyPost_ret (res_tok rfl _ _ w.heap.size _ _ rfl rfl (CB.set cb9 _) rfl) rfl ⟨(by rw [← ET.out]; exact etup_ai EK.out), below_setRow c9 (Nat.le_refl _) _⟩
        · have N4 : Hid (¬ (y = 35 ∧ b4 = true)) := Lib.hid h35
          have h35' : (y = 35 ∧ b4 = false) ∨ ¬ y = 35 := by
            cases b4
            · by_cases h : y = 35
              · exact .inl ⟨h, rfl⟩
              · exact .inr h
            · exact .inr (fun h => h35 ⟨h, rfl⟩)
          clear h35
          rcases h35' with ⟨h35, hb4⟩ | h35
          · subst hb4
            have tp3 : (y == 35) = true := by simpa using h35
            clear h35
            go_wp2_with fail
            refine (X4.out _ c1).mono ?_
            rintro e w' ⟨rfl, rfl⟩
            go_wp2_with fail
            refine (S5.out _ c1).mono ?_
            rintro e w2 ⟨rfl, hb2⟩
            have c2 := c1.trans (hb2.mono c1.size)
            have cb2 := cb1.keep hb2 cb1.lt
            clear hb2 c1 cb1
            cases b5 with
            | true =>
              have e := tk_5 (c.drop i) (by rw [B1.out]; simp) (by rw [B2.out]; simp) (by rw [HD0.out]; exact N3.out) (by rw [HD0.out, B4.out]; exact N4.out) B5.out
              rw [HT.out] at e
              simp only [M.tokW, Nat.reduceEqDiff, if_true, if_false] at e
              have R := F5.out _ c2 B5.out
              have ht1 : (M.numT (c.drop i)).1 = t := (congrArg Prod.fst e).symm
              have hk1 : (M.numT (c.drop i)).2 = k := (congrArg Prod.snd e).symm
              rw [ht1, hk1] at R
              have RR := Lib.hid R
              obtain ⟨q1, hq1⟩ : ∃ q, i + k = q := ⟨_, rfl⟩
              have EK := Lib.hid (show (q1 : Int) = ((i + k : Nat) : Int) by rw [hq1])
              rw [hq1] at RR
              clear e R hq1 ht1 hk1
              as_aux_lemma =>
                go_wp2_with fail
                refine (RR.out).mono ?_
                rintro e w9 ⟨rfl, hb9⟩
                have c9 := c2.trans (hb9.mono c2.size)
                have cb9 := cb2.keep hb9 cb2.lt
                clear hb9 c2 cb2
                go_wp2_with (refine wpl_stT rfl _ _ rfl w.heap.size _ (ctv (t) 0) rfl rfl cb9 rfl rfl (ctv_one _ _) ?_)
                go_wp2
                (try simp only [Exit.inBlock, Exit.then])
                refine bodyPost_ret (res_tok rfl _ _ w.heap.size _ _ rfl rfl (CB.set cb9 _) rfl) rfl ⟨(etup_ai EK.out), below_setRow c9 (Nat.le_refl _) _⟩
            | false =>
              go_wp2_with fail
              refine (S6.out _ c2).mono ?_
              rintro e w3 ⟨rfl, hb3⟩
              have c3 := c2.trans (hb3.mono c2.size)
              have cb3 := cb2.keep hb3 cb2.lt
              clear hb3 c2 cb2
              cases b6 with
              | true =>
                have e := tk_6 (c.drop i) (by rw [B1.out]; simp) (by rw [B2.out]; simp) (by rw [HD0.out]; exact N3.out) (by rw [HD0.out, B4.out]; exact N4.out) (by rw [B5.out]; simp) B6.out
                rw [HT.out] at e
                simp only [M.tokW, Nat.reduceEqDiff, if_true, if_false] at e
                have ET := Lib.hid (Prod.mk.inj e).1.symm
                have EK := Lib.hid (show (i : Int) + 3 = ((i + k : Nat) : Int) by have := (Prod.mk.inj e).2; omega)
                clear e
                as_aux_lemma =>
                  go_wp2_with (refine wpl_stT rfl _ _ rfl w.heap.size _ (ctv ({ kind := 15 }) 0) rfl rfl cb3 rfl rfl (ctv_one _ _) ?_)
                  go_wp2
                  (try simp only [Exit.inBlock, Exit.then])
                  refine bodyPost_ret (res_tok rfl _ _ w.heap.size _ _ rfl rfl (CB.set cb3 _) rfl) rfl ⟨(by rw [← ET.out]; exact etup_ai EK.out), below_setRow c3 (Nat.le_refl _) _⟩
              | false =>
                go_wp2_with fail
                refine (S7.out _ c3).mono ?_
                rintro e w4 ⟨rfl, hb4⟩
                have c4 := c3.trans (hb4.mono c3.size)
                have cb4 := cb3.keep hb4 cb3.lt
                clear hb4 c3 cb3
                cases b7 with
                | true =>
                  have e := tk_7 (c.drop i) (by rw [B1.out]; simp) (by rw [B2.out]; simp) (by rw [HD0.out]; exact N3.out) (by rw [HD0.out, B4.out]; exact N4.out) (by rw [B5.out]; simp) (by rw [B6.out]; simp) B7.out
                  rw [HT.out] at e
                  simp only [M.tokW, Nat.reduceEqDiff, if_true, if_false] at e
                  have ET := Lib.hid (Prod.mk.inj e).1.symm
                  have EK := Lib.hid (show (i : Int) + 4 = ((i + k : Nat) : Int) by have := (Prod.mk.inj e).2; omega)
                  clear e
                  as_aux_lemma =>
                    go_wp2_with (refine wpl_stT rfl _ _ rfl w.heap.size _ (ctv ({ kind := 14 }) 0) rfl rfl cb4 rfl rfl (ctv_one _ _) ?_)
                    go_wp2
                    (try simp only [Exit.inBlock, Exit.then])
                    refine bodyPost_ret (res_tok rfl _ _ w.heap.size _ _ rfl rfl (CB.set cb4 _) rfl) rfl ⟨(by rw [← ET.out]; exact etup_ai EK.out), below_setRow c4 (Nat.le_refl _) _⟩
                | false =>
                  go_wp2_with fail
                  refine (X8.out _ c4).mono ?_
                  rintro e w' ⟨rfl, rfl⟩
                  cases b8 with
                  | true =>
                    have e := tk_8 (c.drop i) (by rw [B1.out]; simp) (by rw [B2.out]; simp) (by rw [HD0.out]; exact N3.out) (by rw [HD0.out, B4.out]; exact N4.out) (by rw [B5.out]; simp) (by rw [B6.out]; simp) (by rw [B7.out]; simp) B8.out
                    rw [HT.out] at e
                    simp only [M.tokW, Nat.reduceEqDiff, if_true, if_false] at e
                    have R := F8.out _ c4
                    have ht1 : (M.namT (c.drop i)).1 = t := (congrArg Prod.fst e).symm
                    have hk1 : (M.namT (c.drop i)).2 = k := (congrArg Prod.snd e).symm
                    rw [ht1, hk1] at R
                    have RR := Lib.hid R
                    obtain ⟨q1, hq1⟩ : ∃ q, i + k = q := ⟨_, rfl⟩
                    have EK := Lib.hid (show (q1 : Int) = ((i + k : Nat) : Int) by rw [hq1])
                    rw [hq1] at RR
                    clear e R hq1 ht1 hk1
                    as_aux_lemma =>
                      go_wp2_with fail
                      refine (RR.out).mono ?_
                      rintro e w9 ⟨rfl, hb9⟩
                      have c9 := c4.trans (hb9.mono c4.size)
                      have cb9 := cb4.keep hb9 cb4.lt
                      clear hb9 c4 cb4
                      go_wp2_with (refine wpl_stT rfl _ _ rfl w.heap.size _ (ctv (t) 0) rfl rfl cb9 rfl rfl (ctv_one _ _) ?_)
                      go_wp2
                      (try simp only [Exit.inBlock, Exit.then])
                      refine bodyPost_ret (res_tok rfl _ _ w.heap.size _ _ rfl rfl (CB.set cb9 _) rfl) rfl ⟨(etup_ai EK.out), below_setRow c9 (Nat.le_refl _) _⟩
                  | false =>
                    by_cases h64 : y = 64 ∧ b9 = true
                    · obtain ⟨h64, rfl⟩ := h64
                      have N9 := h64
                      have tp4 : (y == 64) = true := by simpa using h64
                      have e := tk_9 (c.drop i) (by rw [B1.out]; simp) (by rw [B2.out]; simp) (by rw [HD0.out]; exact N3.out) (by rw [HD0.out, B4.out]; exact N4.out) (by rw [B5.out]; simp) (by rw [B6.out]; simp) (by rw [B7.out]; simp) (by rw [B8.out]; simp) (by rw [HD0.out, B9.out]; exact ⟨N9, rfl⟩)
                      rw [HT.out] at e
                      simp only [M.tokW, Nat.reduceEqDiff, if_true, if_false] at e
                      rw [HD1.out, HU9.out] at e
                      have ET := Lib.hid (Prod.mk.inj e).1.symm
                      have EK := Lib.hid (show (e9 : Int) = ((i + k : Nat) : Int) by have := HE9.out; have := (Prod.mk.inj e).2; omega)
                      clear e h64 N9
                      go_wp2_with fail
                      refine (X9.out _ c4).mono ?_
                      rintro e w' ⟨rfl, rfl⟩
                      as_aux_lemma =>
                        go_wp2_with fail
                        refine (F9.out _ c4).mono ?_
                        rintro e w9 ⟨rfl, hb9⟩
                        have c9 := c4.trans (hb9.mono c4.size)
                        have cb9 := cb4.keep hb9 cb4.lt
                        clear hb9 c4 cb4
                        go_wp2_with (refine wpl_stT rfl _ _ rfl w.heap.size _ (ctv ({ kind := 3, text := M.encZs U9 }) 0) rfl rfl cb9 rfl rfl (ctv_one _ _) ?_)
                        go_wp2
                        (try simp only [Exit.inBlock, Exit.then])
                        refine bodyPost_ret (res_tok rfl _ _ w.heap.size _ _ rfl rfl (CB.set cb9 _) rfl) rfl ⟨(by rw [← ET.out]; exact etup_ai EK.out), below_setRow c9 (Nat.le_refl _) _⟩
                    · have N9 : Hid (¬ (y = 64 ∧ b9 = true)) := Lib.hid h64
                      have e := tk_10 (c.drop i) (by rw [B1.out]; simp) (by rw [B2.out]; simp) (by rw [HD0.out]; exact N3.out) (by rw [HD0.out, B4.out]; exact N4.out) (by rw [B5.out]; simp) (by rw [B6.out]; simp) (by rw [B7.out]; simp) (by rw [B8.out]; simp) (by rw [HD0.out, B9.out]; exact N9.out)
                      rw [HT.out] at e
                      simp only [M.tokW, Nat.reduceEqDiff, if_true, if_false] at e
                      rw [HD0.out] at e
                      have R := F10.out _ c4
                      rw [HY.out] at R
                      have ht1 : (if M.oneK y = 9 then { kind := 9, text := M.enc y } else { kind := M.oneK y } : M.CT) = t := by
                        have := congrArg Prod.fst e
                        rw [show t = (t, k).1 from rfl, this]
                        split <;> rfl
                      have hk1 : k = 1 := by
                        have := congrArg Prod.snd e
                        rw [show k = (t, k).2 from rfl, this]
                        split <;> rfl
                      rw [ht1, ← hk1] at R
                      have RR := Lib.hid R
                      obtain ⟨q1, hq1⟩ : ∃ q, i + k = q := ⟨_, rfl⟩
                      have EK := Lib.hid (show (q1 : Int) = ((i + k : Nat) : Int) by rw [hq1])
                      rw [hq1] at RR
                      have h64' : (y = 64 ∧ b9 = false) ∨ ¬ y = 64 := by
                        cases b9
                        · by_cases h : y = 64
                          · exact .inl ⟨h, rfl⟩
                          · exact .inr h
                        · exact .inr (fun h => h64 ⟨h, rfl⟩)
                      clear e R hq1 ht1 hk1 h64
                      rcases h64' with ⟨h64, hb9⟩ | h64
                      · subst hb9
                        have tp4 : (y == 64) = true := by simpa using h64
                        clear h64
                        go_wp2_with fail
                        refine (X9.out _ c4).mono ?_
                        rintro e w' ⟨rfl, rfl⟩
                        as_aux_lemma =>
                          go_wp2_with fail
                          refine (RR.out).mono ?_
                          rintro e w9 ⟨rfl, hb9⟩
                          have c9 := c4.trans (hb9.mono c4.size)
                          have cb9 := cb4.keep hb9 cb4.lt
                          clear hb9 c4 cb4
                          go_wp2_with (refine wpl_stT rfl _ _ rfl w.heap.size _ (ctv (t) 0) rfl rfl cb9 rfl rfl (ctv_one _ _) ?_)
                          go_wp2
                          (try simp only [Exit.inBlock, Exit.then])
                          refine bodyPost_ret (res_tok rfl _ _ w.heap.size _ _ rfl rfl (CB.set cb9 _) rfl) rfl ⟨(etup_ai EK.out), below_setRow c9 (Nat.le_refl _) _⟩
                      · have tp4 : (y == 64) = false := by simpa using h64
                        clear h64
                        as_aux_lemma =>
                          go_wp2_with fail
                          refine (RR.out).mono ?_
                          rintro e w9 ⟨rfl, hb9⟩
                          have c9 := c4.trans (hb9.mono c4.size)
                          have cb9 := cb4.keep hb9 cb4.lt
                          clear hb9 c4 cb4
                          go_wp2_with (refine wpl_stT rfl _ _ rfl w.heap.size _ (ctv (t) 0) rfl rfl cb9 rfl rfl (ctv_one _ _) ?_)
                          go_wp2
                          (try simp only [Exit.inBlock, Exit.then])
                          refine bodyPost_ret (res_tok rfl _ _ w.heap.size _ _ rfl rfl (CB.set cb9 _) rfl) rfl ⟨(etup_ai EK.out), below_setRow c9 (Nat.le_refl _) _⟩
          · have tp3 : (y == 35) = false := by simpa using h35
            clear h35
            go_wp2_with fail
            refine (S5.out _ c1).mono ?_
            rintro e w2 ⟨rfl, hb2⟩
            have c2 := c1.trans (hb2.mono c1.size)
            have cb2 := cb1.keep hb2 cb1.lt
            clear hb2 c1 cb1
            cases b5 with
            | true =>
              have e := tk_5 (c.drop i) (by rw [B1.out]; simp) (by rw [B2.out]; simp) (by rw [HD0.out]; exact N3.out) (by rw [HD0.out, B4.out]; exact N4.out) B5.out
              rw [HT.out] at e
              simp only [M.tokW, Nat.reduceEqDiff, if_true, if_false] at e
              have R := F5.out _ c2 B5.out
              have ht1 : (M.numT (c.drop i)).1 = t := (congrArg Prod.fst e).symm
              have hk1 : (M.numT (c.drop i)).2 = k := (congrArg Prod.snd e).symm
              rw [ht1, hk1] at R
              have RR := Lib.hid R
              obtain ⟨q1, hq1⟩ : ∃ q, i + k = q := ⟨_, rfl⟩
              have EK := Lib.hid (show (q1 : Int) = ((i + k : Nat) : Int) by rw [hq1])
              rw [hq1] at RR
              clear e R hq1 ht1 hk1
              as_aux_lemma =>
                go_wp2_with fail
                refine (RR.out).mono ?_
                rintro e w9 ⟨rfl, hb9⟩
                have c9 := c2.trans (hb9.mono c2.size)
                have cb9 := cb2.keep hb9 cb2.lt
                clear hb9 c2 cb2
                go_wp2_with (refine wpl_stT rfl _ _ rfl w.heap.size _ (ctv (t) 0) rfl rfl cb9 rfl rfl (ctv_one _ _) ?_)
                go_wp2
                (try simp only [Exit.inBlock, Exit.then])
                refine bodyPost_ret (res_tok rfl _ _ w.heap.size _ _ rfl rfl (CB.set cb9 _) rfl) rfl ⟨(etup_ai EK.out), below_setRow c9 (Nat.le_refl _) _⟩
            | false =>
              go_wp2_with fail
              refine (S6.out _ c2).mono ?_
              rintro e w3 ⟨rfl, hb3⟩
              have c3 := c2.trans (hb3.mono c2.size)
              have cb3 := cb2.keep hb3 cb2.lt
              clear hb3 c2 cb2
              cases b6 with
              | true =>
                have e := tk_6 (c.drop i) (by rw [B1.out]; simp) (by rw [B2.out]; simp) (by rw [HD0.out]; exact N3.out) (by rw [HD0.out, B4.out]; exact N4.out) (by rw [B5.out]; simp) B6.out
                rw [HT.out] at e
                simp only [M.tokW, Nat.reduceEqDiff, if_true, if_false] at e
                have ET := Lib.hid (Prod.mk.inj e).1.symm
                have EK := Lib.hid (show (i : Int) + 3 = ((i + k : Nat) : Int) by have := (Prod.mk.inj e).2; omega)
                clear e
                as_aux_lemma =>
                  go_wp2_with (refine wpl_stT rfl _ _ rfl w.heap.size _ (ctv ({ kind := 15 }) 0) rfl rfl cb3 rfl rfl (ctv_one _ _) ?_)
                  go_wp2
                  (try simp only [Exit.inBlock, Exit.then])
                  refine bodyPost_ret (res_tok rfl _ _ w.heap.size _ _ rfl rfl (CB.set cb3 _) rfl) rfl ⟨(by rw [← ET.out]; exact etup_ai EK.out), below_setRow c3 (Nat.le_refl _) _⟩
              | false =>
                go_wp2_with fail
                refine (S7.out _ c3).mono ?_
                rintro e w4 ⟨rfl, hb4⟩
                have c4 := c3.trans (hb4.mono c3.size)
                have cb4 := cb3.keep hb4 cb3.lt
                clear hb4 c3 cb3
                cases b7 with
                | true =>
                  have e := tk_7 (c.drop i) (by rw [B1.out]; simp) (by rw [B2.out]; simp) (by rw [HD0.out]; exact N3.out) (by rw [HD0.out, B4.out]; exact N4.out) (by rw [B5.out]; simp) (by rw [B6.out]; simp) B7.out
                  rw [HT.out] at e
                  simp only [M.tokW, Nat.reduceEqDiff, if_true, if_false] at e
                  have ET := Lib.hid (Prod.mk.inj e).1.symm
                  have EK := Lib.hid (show (i : Int) + 4 = ((i + k : Nat) : Int) by have := (Prod.mk.inj e).2; omega)
                  clear e
                  as_aux_lemma =>
                    go_wp2_with (refine wpl_stT rfl _ _ rfl w.heap.size _ (ctv ({ kind := 14 }) 0) rfl rfl cb4 rfl rfl (ctv_one _ _) ?_)
                    go_wp2
                    (try simp only [Exit.inBlock, Exit.then])
                    refine bodyPost_ret (res_tok rfl _ _ w.heap.size _ _ rfl rfl (CB.set cb4 _) rfl) rfl ⟨(by rw [← ET.out]; exact etup_ai EK.out), below_setRow c4 (Nat.le_refl _) _⟩
                | false =>
                  go_wp2_with fail
                  refine (X8.out _ c4).mono ?_
                  rintro e w' ⟨rfl, rfl⟩
                  cases b8 with
                  | true =>
                    have e := tk_8 (c.drop i) (by rw [B1.out]; simp) (by rw [B2.out]; simp) (by rw [HD0.out]; exact N3.out) (by rw [HD0.out, B4.out]; exact N4.out) (by rw [B5.out]; simp) (by rw [B6.out]; simp) (by rw [B7.out]; simp) B8.out
                    rw [HT.out] at e
                    simp only [M.tokW, Nat.reduceEqDiff, if_true, if_false] at e
                    have R := F8.out _ c4
                    have ht1 : (M.namT (c.drop i)).1 = t := (congrArg Prod.fst e).symm
                    have hk1 : (M.namT (c.drop i)).2 = k := (congrArg Prod.snd e).symm
                    rw [ht1, hk1] at R
                    have RR := Lib.hid R
                    obtain ⟨q1, hq1⟩ : ∃ q, i + k = q := ⟨_, rfl⟩
                    have EK := Lib.hid (show (q1 : Int) = ((i + k : Nat) : Int) by rw [hq1])
                    rw [hq1] at RR
                    clear e R hq1 ht1 hk1
                    as_aux_lemma =>
                      go_wp2_with fail
                      refine (RR.out).mono ?_
                      rintro e w9 ⟨rfl, hb9⟩
                      have c9 := c4.trans (hb9.mono c4.size)
                      have cb9 := cb4.keep hb9 cb4.lt
                      clear hb9 c4 cb4
                      go_wp2_with (refine wpl_stT rfl _ _ rfl w.heap.size _ (ctv (t) 0) rfl rfl cb9 rfl rfl (ctv_one _ _) ?_)
                      go_wp2
                      (try simp only [Exit.inBlock, Exit.then])
                      refine bodyPost_ret (res_tok rfl _ _ w.heap.size _ _ rfl rfl (CB.set cb9 _) rfl) rfl ⟨(etup_ai EK.out), below_setRow c9 (Nat.le_refl _) _⟩
                  | false =>
                    by_cases h64 : y = 64 ∧ b9 = true
                    · obtain ⟨h64, rfl⟩ := h64
                      have N9 := h64
                      have tp4 : (y == 64) = true := by simpa using h64
                      have e := tk_9 (c.drop i) (by rw [B1.out]; simp) (by rw [B2.out]; simp) (by rw [HD0.out]; exact N3.out) (by rw [HD0.out, B4.out]; exact N4.out) (by rw [B5.out]; simp) (by rw [B6.out]; simp) (by rw [B7.out]; simp) (by rw [B8.out]; simp) (by rw [HD0.out, B9.out]; exact ⟨N9, rfl⟩)
                      rw [HT.out] at e
                      simp only [M.tokW, Nat.reduceEqDiff, if_true, if_false] at e
                      rw [HD1.out, HU9.out] at e
                      have ET := Lib.hid (Prod.mk.inj e).1.symm
                      have EK := Lib.hid (show (e9 : Int) = ((i + k : Nat) : Int) by have := HE9.out; have := (Prod.mk.inj e).2; omega)
                      clear e h64 N9
                      go_wp2_with fail
                      refine (X9.out _ c4).mono ?_
                      rintro e w' ⟨rfl, rfl⟩
                      as_aux_lemma =>
                        go_wp2_with fail
                        refine (F9.out _ c4).mono ?_
                        rintro e w9 ⟨rfl, hb9⟩
                        have c9 := c4.trans (hb9.mono c4.size)
                        have cb9 := cb4.keep hb9 cb4.lt
                        clear hb9 c4 cb4
                        go_wp2_with (refine wpl_stT rfl _ _ rfl w.heap.size _ (ctv ({ kind := 3, text := M.encZs U9 }) 0) rfl rfl cb9 rfl rfl (ctv_one _ _) ?_)
                        go_wp2
                        (try simp only [Exit.inBlock, Exit.then])
                        refine bodyPost_ret (res_tok rfl _ _ w.heap.size _ _ rfl rfl (CB.set cb9 _) rfl) rfl ⟨(by rw [← ET.out]; exact etup_ai EK.out), below_setRow c9 (Nat.le_refl _) _⟩
                    · have N9 : Hid (¬ (y = 64 ∧ b9 = true)) := Lib.hid h64
                      have e := tk_10 (c.drop i) (by rw [B1.out]; simp) (by rw [B2.out]; simp) (by rw [HD0.out]; exact N3.out) (by rw [HD0.out, B4.out]; exact N4.out) (by rw [B5.out]; simp) (by rw [B6.out]; simp) (by rw [B7.out]; simp) (by rw [B8.out]; simp) (by rw [HD0.out, B9.out]; exact N9.out)
                      rw [HT.out] at e
                      simp only [M.tokW, Nat.reduceEqDiff, if_true, if_false] at e
                      rw [HD0.out] at e
                      have R := F10.out _ c4
                      rw [HY.out] at R
                      have ht1 : (if M.oneK y = 9 then { kind := 9, text := M.enc y } else { kind := M.oneK y } : M.CT) = t := by
                        have := congrArg Prod.fst e
                        rw [show t = (t, k).1 from rfl, this]
                        split <;> rfl
                      have hk1 : k = 1 := by
                        have := congrArg Prod.snd e
                        rw [show k = (t, k).2 from rfl, this]
                        split <;> rfl
                      rw [ht1, ← hk1] at R
                      have RR := Lib.hid R
                      obtain ⟨q1, hq1⟩ : ∃ q, i + k = q := ⟨_, rfl⟩
                      have EK := Lib.hid (show (q1 : Int) = ((i + k : Nat) : Int) by rw [hq1])
                      rw [hq1] at RR
                      have h64' : (y = 64 ∧ b9 = false) ∨ ¬ y = 64 := by
                        cases b9
                        · by_cases h : y = 64
                          · exact .inl ⟨h, rfl⟩
                          · exact .inr h
                        · exact .inr (fun h => h64 ⟨h, rfl⟩)
                      clear e R hq1 ht1 hk1 h64
                      rcases h64' with ⟨h64, hb9⟩ | h64
                      · subst hb9
                        have tp4 : (y == 64) = true := by simpa using h64
                        clear h64
                        go_wp2_with fail
                        refine (X9.out _ c4).mono ?_
                        rintro e w' ⟨rfl, rfl⟩
                        as_aux_lemma =>
                          go_wp2_with fail
                          refine (RR.out).mono ?_
                          rintro e w9 ⟨rfl, hb9⟩
                          have c9 := c4.trans (hb9.mono c4.size)
                          have cb9 := cb4.keep hb9 cb4.lt
                          clear hb9 c4 cb4
                          go_wp2_with (refine wpl_stT rfl _ _ rfl w.heap.size _ (ctv (t) 0) rfl rfl cb9 rfl rfl (ctv_one _ _) ?_)
                          go_wp2
                          (try simp only [Exit.inBlock, Exit.then])
                          refine bodyPost_ret (res_tok rfl _ _ w.heap.size _ _ rfl rfl (CB.set cb9 _) rfl) rfl ⟨(etup_ai EK.out), below_setRow c9 (Nat.le_refl _) _⟩
                      · have tp4 : (y == 64) = false := by simpa using h64
                        clear h64
                        as_aux_lemma =>
                          go_wp2_with fail
                          refine (RR.out).mono ?_
                          rintro e w9 ⟨rfl, hb9⟩
                          have c9 := c4.trans (hb9.mono c4.size)
                          have cb9 := cb4.keep hb9 cb4.lt
                          clear hb9 c4 cb4
                          go_wp2_with (refine wpl_stT rfl _ _ rfl w.heap.size _ (ctv (t) 0) rfl rfl cb9 rfl rfl (ctv_one _ _) ?_)
                          go_wp2
                          (try simp only [Exit.inBlock, Exit.then])
                          refine bodyPost_ret (res_tok rfl _ _ w.heap.size _ _ rfl rfl (CB.set cb9 _) rfl) rfl ⟨(etup_ai EK.out), below_setRow c9 (Nat.le_refl _) _⟩
end Go.Proofs.YtpecaalpbeoolaaGreatDoor
