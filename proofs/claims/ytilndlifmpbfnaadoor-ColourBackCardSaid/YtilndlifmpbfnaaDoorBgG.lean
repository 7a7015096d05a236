/- Several texts of ours in one: FR5 FR6 FR7. -/
import Derived.Test.YtilndlifmpbfnaaDoorFR3
import Derived.Test.YtilndlifmpbfnaaDoorBgF
import Derived.Test.YtilndlifmpbfnaaDoorFR4
import Derived.Deep.DeepCutAuto
import Derived.Test.YtilndlifmpbfnaaDoorFLex
import Derived.Test.YtilndlifmpbfnaaDoorBgC
/- Tokens of CSS, the page's own: named. -/
namespace Go.Proofs.YtilndlifmpbfnaaDoor
open Go.RowKit
set_option linter.unusedVariables false
set_option linter.unusedSimpArgs false

set_option maxRecDepth 100000 in
set_option maxHeartbeats 8000000 in
theorem rnamed_any (v : Value) (L : List (Int × Int)) (c : List Int) (i : Nat) (t : M.CT) (K : Nat) (w : World) (hv : Rs w v L) (hc : cps L = c) (hl : L.length ≤ 40000) (hi : i < L.length)
    (ht : (M.namT (c.drop i)).1 = t) (hK : i + (M.namT (c.drop i)).2 = K) :
    Calls Tryd.prog 28 #[v, .int .i64 (i : Int)] w (TkR w t K) := by
  have hlc := hv.lc
  rw [hc] at hlc
  have hcl : c.length = L.length := by rw [← hc, cps_len]
  have htl := (M.takeN_le _ (c.drop i) (Nat.le_refl _)).1
  rw [List.length_drop, hcl] at htl
  have hUl := (M.takeN_le _ (c.drop i) (Nat.le_refl _)).2
  have hcl2 : clampN (i : Int) c.length = i := by unfold clampN; omega
  obtain ⟨U, hU⟩ : ∃ U, (M.takeN (c.drop i)).1 = U := ⟨_, rfl⟩
  obtain ⟨e1, he1⟩ : ∃ U, i + (M.takeN (c.drop i)).2 = U := ⟨_, rfl⟩
  have TK := Lib.hid (fun W (hW : Below w.heap.size w W) => rtake_any v c (i : Int) U e1 W (hlc.keep hW) (by omega) (by rw [hcl2]; exact hU) (by rw [hcl2]; exact he1))
  have AT := Lib.hid (fun (W : World) (hW : Below w.heap.size w W) (j : Nat) (y : Int) (hy : c.getD j (-1) = y) => rat_any v c j y W (hlc.keep hW) (by omega) hy)
  have hsl : (M.encZs U).length ≤ 160000 := by
    have := (M.encZs_len U).2
    rw [← hU] at this ⊢; omega
  unfold M.namT at ht hK
  have hg1 : (c.drop i).getD (M.takeN (c.drop i)).2 (-1) = c.getD e1 (-1) := by rw [getD_drop, he1]
  have LW := Lib.hid (fun W => rlower_any (M.encZs U) W (by omega))
  obtain ⟨W0, hW0, cb0, b0, z0⟩ := w0_facts w
  have HW0 := Lib.hid hW0
  have HE1 := Lib.hid he1
  have HNL := Lib.hid hcl
  have i5 : (e1 : Int) ≤ 40000 := by omega
  have i6 : (0 : Int) ≤ e1 := by omega
  clear z0 hW0
  obtain ⟨y1, hy1⟩ : ∃ y, c.getD e1 (-1) = y := ⟨_, rfl⟩
  by_cases h40 : y1 = 40
  · have he1n := M.getD_lt_of c e1 40 (by decide) (by rw [hy1]; exact h40)
    rw [if_pos (by rw [hg1, hy1]; exact h40)] at ht hK
    have hnl := M.nameE_le (c.drop i) (by rw [hg1, hy1]; exact h40)
    rw [List.length_drop, hcl] at hnl
    obtain ⟨b, hb⟩ : ∃ b, i + M.nameE (c.drop i) = b := ⟨_, rfl⟩
    have hb' : (e1 + 1) + M.blN (c.drop (e1 + 1)) = b := by
      rw [← hb, ← he1]; unfold M.nameE
      rw [List.drop_drop, ← Nat.add_assoc i, Nat.add_assoc i, Nat.add_assoc]
      try omega
    have hg2 : (c.drop i).getD (M.nameE (c.drop i)) (-1) = c.getD b (-1) := by rw [getD_drop, hb]
    rw [hg2, hU] at ht hK
    have UR := Lib.hid (fun (W : World) (hW : Below w.heap.size w W) t K => rurl_any v L c i (e1 + 1) b t K W (rs_keep hv hW) hc (by omega) hi (by omega) (by omega) hb')
    rw [show ((e1 + 1 : Nat) : Int) = (e1 : Int) + 1 by omega] at UR
    obtain ⟨T, hTT⟩ : ∃ T, M.encZs U = T := ⟨_, rfl⟩
    obtain ⟨y, hy⟩ : ∃ y, c.getD b (-1) = y := ⟨_, rfl⟩
    rw [hy] at ht hK
    rw [hTT] at ht hK LW
    have HTT := Lib.hid hTT
    have HB := Lib.hid hb
    have HB2 := Lib.hid hb'
    have HY := Lib.hid hy
    have HY1 := Lib.hid hy1
    have HT := Lib.hid ht
    have HK := Lib.hid hK
    have hbe : e1 + 1 ≤ b := by omega
    have hbL : b ≤ 40000 := by omega
    subst h40
    clear hv hc hl hi hlc hcl htl hUl hcl2 hU he1 hsl hg1 hnl hb' hg2 he1n hy hy1 hb ht hK hTT
    go_enter Tryd.func28, Tryd.ntmps28
    go_wp2_with fail
    rw [HW0.out]
    refine (TK.out _ b0).mono ?_
    rintro e w1 ⟨rfl, hb1⟩
    have c1 := b0.trans (hb1.mono b0.size)
    have cb1 := cb0.keep hb1 cb0.lt
    clear hb1 b0 cb0
    rw [HTT.out]
    have A1 := Lib.hid (AT.out w1 c1 e1 40 HY1.out)
    go_wp2_with fail
    refine (A1.out).mono ?_
    rintro e w' ⟨rfl, rfl⟩
    go_wp2
    go_loop [8] (fun iv => ∃ j : Nat, iv = .int .i64 (j : Int) ∧ j ≤ b ∧ j + M.blN (c.drop j) = b) (fun iv => b - (intOf iv).toNat)
    case atStart => exact ⟨e1 + 1, by go_num, hbe, HB2.out⟩
    case round =>
      obtain ⟨j, rfl, hj, hjk⟩ := hrel
      have j0 : (0 : Int) ≤ j := by omega
      have j9 : (j : Int) ≤ 40000 := by omega
      obtain ⟨yj, hyj⟩ : ∃ y, c.getD j (-1) = y := ⟨_, rfl⟩
      have AJ := Lib.hid (AT.out w1 c1 j yj hyj)
      by_cases hbl : M.isBl yj = true
      · have X1 := Lib.hid (rbl_any yj true w1 hbl)
        rw [← hyj] at hbl
        rw [blN_at c j hbl] at hjk
        have HJ := Lib.hid (show (j + 1) + M.blN (c.drop (j + 1)) = b by omega)
        have hj1 : j + 1 ≤ b := by omega
        clear hyj hbl hjk
        as_aux_lemma =>
          go_wp2_with fail
          refine (AJ.out).mono ?_
          rintro e w' ⟨rfl, rfl⟩
          go_wp2_with fail
          refine (X1.out).mono ?_
          rintro e w' ⟨rfl, rfl⟩
          go_wp2
          go_round
          case rel => exact ⟨j + 1, by go_num, hj1, HJ.out⟩
          case measure => simp [intOf]; omega
      rw [Bool.not_eq_true] at hbl
      have X1 := Lib.hid (rbl_any yj false w1 hbl)
      rw [← hyj] at hbl
      rw [blN_out c j hbl, Nat.add_zero] at hjk
      subst hjk
      have hjy := HY.out
      rw [hyj] at hjy
      subst hjy
      clear hyj hbl hj
      go_wp2_with fail
      refine (AJ.out).mono ?_
      rintro e w' ⟨rfl, rfl⟩
      go_wp2_with fail
      refine (X1.out).mono ?_
      rintro e w' ⟨rfl, rfl⟩
      go_wp2_with fail
      refine (LW.out _).mono ?_
      rintro e w3 ⟨rfl, hb3⟩
      have c3 := c1.trans (hb3.mono c1.size)
      have cb3 := cb1.keep hb3 cb1.lt
      clear hb3 c1 cb1 AJ X1 A1
      have A3 := Lib.hid (AT.out w3 c3 j yj HY.out)
      have ht := HT.out
      have hK := HK.out
      by_cases hurl : M.lowL T = [117, 114, 108]
      · have tu := str_eqF (M.lowL T) [117, 114, 108] true (by simpa using hurl)
        by_cases h34 : yj = 34
        · rw [if_neg (fun h => h.2.1 h34)] at ht hK
          have HT2 := Lib.hid ht
          have HK2 := Lib.hid (show (e1 : Int) + 1 = K by have := HE1.out; simp only at hK; omega)
          subst h34
          clear ht hK hurl
          as_aux_lemma =>
            go_wp2_with fail
            refine (A3.out).mono ?_
            rintro e w' ⟨rfl, rfl⟩
            go_wp2_with (refine wpl_stT rfl _ _ rfl w.heap.size _ (ctv ({ kind := 2, text := T }) 0) rfl rfl cb3 rfl rfl (ctv_one _ _) ?_)
            go_wp2
            (try simp only [Exit.inBlock, Exit.then])
            refine bodyPost_ret (res_tok rfl _ _ w.heap.size _ _ rfl rfl (CB.set cb3 _) rfl) rfl ⟨(by rw [← HT2.out]; exact etup_ai HK2.out), below_setRow c3 (Nat.le_refl _) _⟩
        have t34 : (yj != 34) = true := by simpa [bne] using h34
        by_cases h39 : yj = 39
        · rw [if_neg (fun h => h.2.2 h39)] at ht hK
          have HT2 := Lib.hid ht
          have HK2 := Lib.hid (show (e1 : Int) + 1 = K by have := HE1.out; simp only at hK; omega)
          subst h39
          clear ht hK hurl h34
          as_aux_lemma =>
            go_wp2_with fail
            refine (A3.out).mono ?_
            rintro e w' ⟨rfl, rfl⟩
            go_wp2_with fail
            refine (A3.out).mono ?_
            rintro e w' ⟨rfl, rfl⟩
            go_wp2_with (refine wpl_stT rfl _ _ rfl w.heap.size _ (ctv ({ kind := 2, text := T }) 0) rfl rfl cb3 rfl rfl (ctv_one _ _) ?_)
            go_wp2
            (try simp only [Exit.inBlock, Exit.then])
            refine bodyPost_ret (res_tok rfl _ _ w.heap.size _ _ rfl rfl (CB.set cb3 _) rfl) rfl ⟨(by rw [← HT2.out]; exact etup_ai HK2.out), below_setRow c3 (Nat.le_refl _) _⟩
        have t39 : (yj != 39) = true := by simpa [bne] using h39
        rw [if_pos ⟨hurl, h34, h39⟩] at ht hK
        unfold M.urlK at ht hK
        have hbb := HB.out
        rw [List.drop_drop, hbb] at ht hK
        have hK2 : j + (M.urlT false false (c.drop j)).2.2 = K := by
          rw [← hK]
          split <;> (simp only; omega)
        have ht2 : (if (M.urlT false false (c.drop j)).1 = true then { kind := 8, text := M.encZs ((c.drop i).take (K - i)) } else { kind := 7, text := M.encZs (M.urlT false false (c.drop j)).2.1 } : M.CT) = t := by
          rw [← ht]
          split
          · simp only
            rw [show M.nameE (c.drop i) + (M.urlT false false (c.drop j)).2.2 = K - i by omega]
          · rfl
        have U1 := Lib.hid (UR.out w3 c3 t K ht2 hK2)
        clear ht hK hurl h34 h39 hbb hK2 ht2
        as_aux_lemma =>
          go_wp2_with fail
          refine (A3.out).mono ?_
          rintro e w' ⟨rfl, rfl⟩
          go_wp2_with fail
          refine (A3.out).mono ?_
          rintro e w' ⟨rfl, rfl⟩
          go_wp2_with fail
          refine (U1.out).mono ?_
          rintro e w5 ⟨rfl, hb5⟩
          have c5 := c3.trans (hb5.mono c3.size)
          have cb5 := cb3.keep hb5 cb3.lt
          go_wp2_with (refine wpl_stT rfl _ _ rfl w.heap.size _ (ctv (t) 0) rfl rfl cb5 rfl rfl (ctv_one _ _) ?_)
          go_wp2
          (try simp only [Exit.inBlock, Exit.then])
          refine bodyPost_ret (res_tok rfl _ _ w.heap.size _ _ rfl rfl (CB.set cb5 _) rfl) rfl ⟨(by first | rfl | exact etup_ai rfl), below_setRow c5 (Nat.le_refl _) _⟩
      · have tu := str_eqF (M.lowL T) [117, 114, 108] false (by simpa using hurl)
        rw [if_neg (fun h => hurl h.1)] at ht hK
        have HT2 := Lib.hid ht
        have HK2 := Lib.hid (show (e1 : Int) + 1 = K by have := HE1.out; simp only at hK; omega)
        clear ht hK hurl
        as_aux_lemma =>
          go_wp2_with (refine wpl_stT rfl _ _ rfl w.heap.size _ (ctv ({ kind := 2, text := T }) 0) rfl rfl cb3 rfl rfl (ctv_one _ _) ?_)
          go_wp2
          (try simp only [Exit.inBlock, Exit.then])
          refine bodyPost_ret (res_tok rfl _ _ w.heap.size _ _ rfl rfl (CB.set cb3 _) rfl) rfl ⟨(by rw [← HT2.out]; exact etup_ai HK2.out), below_setRow c3 (Nat.le_refl _) _⟩
  · have t40 : (y1 != 40) = true := by simpa [bne] using h40
    rw [if_neg (by rw [hg1, hy1]; exact h40)] at ht hK
    rw [hU] at ht
    simp only at ht hK
    have HT2 := Lib.hid ht
    have HK2 := Lib.hid (show (e1 : Int) = K by omega)
    have HY1 := Lib.hid hy1
    clear hv hc hl hi hlc hcl htl hUl hcl2 hU he1 hsl hg1 h40 ht hK hy1
    go_enter Tryd.func28, Tryd.ntmps28
    go_wp2_with fail
    rw [HW0.out]
    refine (TK.out _ b0).mono ?_
    rintro e w1 ⟨rfl, hb1⟩
    have c1 := b0.trans (hb1.mono b0.size)
    have cb1 := cb0.keep hb1 cb0.lt
    clear hb1 b0 cb0
    have A1 := Lib.hid (AT.out w1 c1 e1 y1 HY1.out)
    go_wp2_with fail
    refine (A1.out).mono ?_
    rintro e w' ⟨rfl, rfl⟩
    go_wp2_with (refine wpl_stT rfl _ _ rfl w.heap.size _ (ctv ({ kind := 1, text := M.encZs U }) 0) rfl rfl cb1 rfl rfl (ctv_one _ _) ?_)
    go_wp2
    (try simp only [Exit.inBlock, Exit.then])
    refine bodyPost_ret (res_tok rfl _ _ w.heap.size _ _ rfl rfl (CB.set cb1 _) rfl) rfl ⟨(by rw [← HT2.out]; exact etup_ai HK2.out), below_setRow c1 (Nat.le_refl _) _⟩
end Go.Proofs.YtilndlifmpbfnaaDoor

/- Tokens of CSS, the page's own: one. -/
namespace Go.Proofs.YtilndlifmpbfnaaDoor
open Go.RowKit
set_option linter.unusedVariables false
set_option linter.unusedSimpArgs false

/-- The signs that are tokens by themselves, in the page's order. -/
def sgnI (k : Nat) : Int := [58, 59, 44, 123, 125, 40, 41, 91, 93].getD k 0
theorem sgn_kind (k : Nat) (h : k < 9) : M.oneK (sgnI k) = 16 + (k : Int) := by
  have : ∀ k : Fin 9, M.oneK (sgnI k.val) = 16 + (k.val : Int) := by decide +kernel
  exact this ⟨k, h⟩
theorem sgn_none (y : Int) (h : ∀ k, k < 9 → sgnI k ≠ y) : M.oneK y = 9 := by
  have h0 := h 0 (by omega)
  have h1 := h 1 (by omega)
  have h2 := h 2 (by omega)
  have h3 := h 3 (by omega)
  have h4 := h 4 (by omega)
  have h5 := h 5 (by omega)
  have h6 := h 6 (by omega)
  have h7 := h 7 (by omega)
  have h8 := h 8 (by omega)
  simp only [sgnI, List.getD, List.getElem?_cons_zero, List.getElem?_cons_succ, Option.getD_some] at h0 h1 h2 h3 h4 h5 h6 h7 h8
  unfold M.oneK
  repeat (first | rw [if_neg (by omega)] | rfl)
set_option maxRecDepth 100000 in
set_option maxHeartbeats 16000000 in
theorem rone_any (v : Value) (L : List (Int × Int)) (c : List Int) (i : Nat) (t : M.CT) (k K : Nat) (w : World) (hv : Rs w v L) (hc : cps L = c) (hl : L.length ≤ 40000) (hi : i < L.length)
    (ht : M.tkC (c.drop i) = (t, k)) (hk : i + k = K) :
    Calls Tryd.prog 11 #[v, .int .i64 (i : Int)] w (TkR w t K) := by
  have hlc := hv.lc
  rw [hc] at hlc
  have hcl : c.length = L.length := by rw [← hc, cps_len]
  obtain ⟨n, hn⟩ : ∃ n, L.length = n := ⟨_, rfl⟩
  have RW := Lib.hid (fun (W : World) (hW : Below w.heap.size w W) (a b : Nat) (h1 : a ≤ b) (h2 : b ≤ n) => rraw_any v L c a b W (rs_keep hv hW) hc (by omega) (by omega) h1 (by omega))
  have AT := Lib.hid (fun (W : World) (hW : Below w.heap.size w W) (j : Nat) (y : Int) (hy : c.getD j (-1) = y) => rat_any v c j y W (hlc.keep hW) (by omega) hy)
  have F1 := Lib.hid (fun (W : World) (hW : Below w.heap.size w W) (b : Bool) (hb : M.stC [47, 42] (c.drop i) = b) => (rfollows_any v c i [47, 42] b W (hlc.keep hW) (by omega) (by omega) (by simp) hb : Calls Tryd.prog 17 #[v, .int .i64 (i : Int), .string ⟨#[47, 42]⟩] W _))
  have F2 := Lib.hid (fun (W : World) (hW : Below w.heap.size w W) (j : Nat) (hj : j ≤ n) (b : Bool) (hb : M.stC [42, 47] (c.drop j) = b) => (rfollows_any v c j [42, 47] b W (hlc.keep hW) (by omega) (by omega) (by simp) hb : Calls Tryd.prog 17 #[v, .int .i64 (j : Int), .string ⟨#[42, 47]⟩] W _))
  have F3 := Lib.hid (fun (W : World) (hW : Below w.heap.size w W) (b : Bool) (hb : M.stC [45, 45, 62] (c.drop i) = b) => (rfollows_any v c i [45, 45, 62] b W (hlc.keep hW) (by omega) (by omega) (by simp) hb : Calls Tryd.prog 17 #[v, .int .i64 (i : Int), .string ⟨#[45, 45, 62]⟩] W _))
  have F4 := Lib.hid (fun (W : World) (hW : Below w.heap.size w W) (b : Bool) (hb : M.stC [60, 33, 45, 45] (c.drop i) = b) => (rfollows_any v c i [60, 33, 45, 45] b W (hlc.keep hW) (by omega) (by omega) (by simp) hb : Calls Tryd.prog 17 #[v, .int .i64 (i : Int), .string ⟨#[60, 33, 45, 45]⟩] W _))
  have QT := Lib.hid (fun (W : World) (hW : Below w.heap.size w W) => rqtok_any v L c i (c.getD i (-1)) t K W (rs_keep hv hW) hc (by omega) hi rfl)
  have ESC := Lib.hid (fun (W : World) (hW : Below w.heap.size w W) (b : Bool) (hb : M.esB (c.drop (i + 1)) = b) => rescape_any v c (i + 1) b W (hlc.keep hW) (by omega) (by omega) hb)
  have NL := Lib.hid (fun (W : World) (hW : Below w.heap.size w W) (b : Bool) (hb : M.numB (c.drop i) = b) => rnumeral_any v c i b W (hlc.keep hW) (by omega) (by omega) hb)
  have NB := Lib.hid (fun (W : World) (hW : Below w.heap.size w W) (hb : M.numB (c.drop i) = true) => rnumbers_any v L c i t K W (rs_keep hv hW) hc (by omega) hi hb)
  have NM := Lib.hid (fun (W : World) (hW : Below w.heap.size w W) => rnamed_any v L c i t K W (rs_keep hv hW) hc (by omega) hi)
  have BG := Lib.hid (fun (W : World) (hW : Below w.heap.size w W) (j : Nat) (b : Bool) (hb : M.begN (c.drop j) = b) => rbegins_any v c (j : Int) b W (hlc.keep hW) (by omega) (by rw [if_neg (by omega), Int.toNat_natCast]; exact hb))
  have TK := Lib.hid (fun (W : World) (hW : Below w.heap.size w W) (T : List Int) (K : Nat) (h1 : (M.takeN (c.drop (i + 1))).1 = T) (h2 : i + 1 + (M.takeN (c.drop (i + 1))).2 = K) => rtake_any v c ((i + 1 : Nat) : Int) T K W (hlc.keep hW) (by omega) (by rw [show clampN ((i + 1 : Nat) : Int) c.length = i + 1 by unfold clampN; omega]; exact h1) (by rw [show clampN ((i + 1 : Nat) : Int) c.length = i + 1 by unfold clampN; omega]; exact h2))
  rw [show ((i + 1 : Nat) : Int) = (i : Int) + 1 by omega] at ESC TK
  rw [hn] at hl hi hcl
  obtain ⟨a, cap, rfl, h1, h2, h3⟩ := rs_at hv hn
  rw [hc] at h3
  obtain ⟨p, off, rfl, hp, ci, -⟩ := h3 i hi
  obtain ⟨y, hy⟩ : ∃ y, c.getD i (-1) = y := ⟨_, rfl⟩
  rw [hy] at ci QT
  obtain ⟨W0, hW0, cb0, b0, z0⟩ := w0_facts w
  have cr := b0.cell (p := ⟨p, off + i * 2, none⟩) hp
  rw [ci] at cr
  have cr' : (w.alloc (.cells #[.int .i64 0, .string ⟨#[]⟩, .string ⟨#[]⟩, .bool false, .string ⟨#[]⟩, .string ⟨#[]⟩, .bool false, .bool false, .int .i64 0, .int .i64 0, .int .i64 0, .int .i64 0, .int .i64 0] 36)).cell? ⟨p, off + i * 2, none⟩ = some (.int .i64 y) := by rw [hW0]; exact cr
  have hD0 : (c.drop i).getD 0 (-1) = y := by rw [getD_drop, Nat.add_zero]; exact hy
  have hD1 : (c.drop i).drop 1 = c.drop (i + 1) := by rw [List.drop_drop]
  have HW0 := Lib.hid hW0
  have HY := Lib.hid hy
  have HCL := Lib.hid hcl
  have HT := Lib.hid ht
  have HK := Lib.hid hk
  have HD0 := Lib.hid hD0
  have HD1 := Lib.hid hD1
  have C0 := Lib.hid b0
  have CB0 := Lib.hid cb0
  have i1 : (0 : Int) ≤ i := by omega
  have i2 : (i : Int) < n := by omega
  have i3 : (n : Int) ≤ 40000 := by omega
  unfold maxLen at h2
  have hNI : M.inNm (c.drop (i + 1)) = (M.nIn (c.getD (i + 1) (-1)) || M.esB (c.drop (i + 1))) := by unfold M.inNm; rw [getD_drop, Nat.add_zero]
  have HNI := Lib.hid hNI
  clear hW0 z0 hv hc hn h3 hlc hcl b0 cb0 ht hk hy hD0 hD1 ci cr hNI
  go_enter Tryd.func11, Tryd.ntmps11
  go_wp2_with fail
  rw [HW0.out]
  clear cr'
  by_cases w1 : M.stC [47, 42] (c.drop i) = true
  · have S1 := Lib.hid (F1.out W0 C0.out true w1)
    have hlen := M.stC_len _ _ w1
    rw [List.length_drop, HCL.out] at hlen
    simp at hlen
    have ht := HT.out
    rw [tk_1 _ w1] at ht
    simp only [M.tokW, if_true, Prod.mk.injEq, List.drop_drop] at ht
    obtain ⟨ht1, ht2⟩ := ht
    have HT1 := Lib.hid ht1
    have HT2 := Lib.hid (show i + 2 + (M.cmT (c.drop (i + 2))).2 = K by have := HK.out; omega)
    have hi2 : i + 2 ≤ n := by omega
    clear w1 ht1 ht2 hlen
    as_aux_lemma =>
      refine (S1.out).mono ?_
      rintro e w1 ⟨rfl, hb1⟩
      have d1 := Lib.hid (C0.out.trans (hb1.mono C0.out.size))
      have e1 := Lib.hid (CB0.out.keep hb1 CB0.out.lt)
      clear hb1
      go_wp2
      go_loopw [8] (fun ev wr => ∃ j : Nat, ev = .int .i64 (j : Int) ∧ i + 2 ≤ j ∧ j ≤ n ∧ M.cmT (c.drop (i + 2)) = ((c.drop (i + 2)).take (j - (i + 2)) ++ (M.cmT (c.drop j)).1, (j - (i + 2)) + (M.cmT (c.drop j)).2) ∧ Below w1.heap.size w1 wr) (fun ev _ => n - (intOf ev).toNat)
      case atStart => exact ⟨i + 2, by go_num, by omega, hi2, by simp, Below.refl _ _⟩
      case round =>
        obtain ⟨j, rfl, hj1, hj2, hcm, hb⟩ := hrel
        have HCM := Lib.hid hcm
        have HB := Lib.hid hb
        have HWR := Lib.hid (d1.out.trans (hb.mono d1.out.size))
        have CBR := Lib.hid (e1.out.keep hb e1.out.lt)
        have j0 : (0 : Int) ≤ j := by omega
        have j1 : (i : Int) + 2 ≤ j := by omega
        have j2 : (j : Int) ≤ n := by omega
        clear hcm hb
        by_cases hjn : j < n
        · have t1 : decide ((j : Int) < n) = true := by simp; omega
          have j3 : (j : Int) < n := by omega
          cases hst : M.stC [42, 47] (c.drop j) with
          | true =>
            have S2 := Lib.hid (F2.out wr HWR.out j hj2 true hst)
            have cj := cmT_at c j (by rw [HCL.out]; exact hjn)
            rw [if_pos hst] at cj
            have hfin := HCM.out
            rw [cj] at hfin
            simp only [List.append_nil] at hfin
            have ht := HT1.out
            have hK := HT2.out
            rw [hfin] at ht hK
            simp only at ht hK
            have HT3 := Lib.hid ht
            have HK3 := Lib.hid (show (j : Int) + 2 = K by omega)
            clear hst cj hfin ht hK
            as_aux_lemma =>
              go_wp2_with fail
              refine (S2.out).mono ?_
              rintro e w2 ⟨rfl, hb2⟩
              have d2 := HWR.out.trans (hb2.mono HWR.out.size)
              have e2 := CBR.out.keep hb2 CBR.out.lt
              have R1 := RW.out w2 d2 (i + 2) j hj1 hj2
              rw [show ((i + 2 : Nat) : Int) = (i : Int) + 2 by omega] at R1
              have R2 := Lib.hid R1
              clear hb2 R1
              go_wp2_with fail
              refine (R2.out).mono ?_
              rintro e w3 ⟨rfl, hb3⟩
              have d3 := d2.trans (hb3.mono d2.size)
              have e3 := e2.keep hb3 e2.lt
              clear hb3 d2 e2
              go_wp2_with (refine wpl_stT rfl _ _ rfl w.heap.size _ (ctv ({ kind := 25, text := M.encZs ((c.drop (i + 2)).take (j - (i + 2))) }) 0) rfl rfl e3 rfl rfl (ctv_one _ _) ?_)
              go_wp2
              (try simp only [Exit.inBlock, Exit.then])
              refine bodyPost_ret (res_tok rfl _ _ w.heap.size _ _ rfl rfl (CB.set e3 _) rfl) rfl ⟨(by rw [← HT3.out]; exact etup_ai HK3.out), below_setRow d3 (Nat.le_refl _) _⟩
          | false =>
            have S2 := Lib.hid (F2.out wr HWR.out j hj2 false hst)
            have cj := cmT_at c j (by rw [HCL.out]; exact hjn)
            rw [if_neg (by rw [hst]; simp)] at cj
            have hfin := HCM.out
            rw [cj] at hfin
            have hfin2 : M.cmT (c.drop (i + 2)) = ((c.drop (i + 2)).take (j + 1 - (i + 2)) ++ (M.cmT (c.drop (j + 1))).1, (j + 1 - (i + 2)) + (M.cmT (c.drop (j + 1))).2) := by
              rw [hfin, take_more c (i + 2) j hj1 (by rw [HCL.out]; exact hjn)]
              simp
              omega
            have HF := Lib.hid hfin2
            clear hst cj hfin hfin2
            as_aux_lemma =>
              go_wp2_with fail
              refine (S2.out).mono ?_
              rintro e w2 ⟨rfl, hb2⟩
              have hb3 := HB.out.trans (hb2.mono HB.out.size)
              go_wp2
              go_roundw
              case rel => exact ⟨j + 1, by go_num, by omega, by omega, HF.out, hb3⟩
              case measure => simp [intOf]; omega
        · obtain rfl : j = n := by omega
          have t1 : decide ((j : Int) < j) = false := by simp
          have hfin := HCM.out
          rw [cmT_end c j (by rw [HCL.out]; exact Nat.le_refl _)] at hfin
          simp only [List.append_nil] at hfin
          have ht := HT1.out
          have hK := HT2.out
          rw [hfin] at ht hK
          simp only at ht hK
          have HT3 := Lib.hid ht
          have HK3 := Lib.hid (show (j : Int) = K by omega)
          have R1 := RW.out wr HWR.out (i + 2) j hj1 hj2
          rw [show ((i + 2 : Nat) : Int) = (i : Int) + 2 by omega] at R1
          have R2 := Lib.hid R1
          clear hfin ht hK hjn R1
          as_aux_lemma =>
            go_wp2_with fail
            refine (R2.out).mono ?_
            rintro e w3 ⟨rfl, hb3⟩
            have d3 := HWR.out.trans (hb3.mono HWR.out.size)
            have e3 := CBR.out.keep hb3 CBR.out.lt
            clear hb3
            go_wp2_with (refine wpl_stT rfl _ _ rfl w.heap.size _ (ctv ({ kind := 25, text := M.encZs ((c.drop (i + 2)).take (j - (i + 2))) }) 0) rfl rfl e3 rfl rfl (ctv_one _ _) ?_)
            go_wp2
            (try simp only [Exit.inBlock, Exit.then])
            refine bodyPost_ret (res_tok rfl _ _ w.heap.size _ _ rfl rfl (CB.set e3 _) rfl) rfl ⟨(by rw [← HT3.out]; exact etup_ai HK3.out), below_setRow d3 (Nat.le_refl _) _⟩
  have S1 := Lib.hid (F1.out W0 C0.out false (by simpa using w1))
  refine (S1.out).mono ?_
  rintro e w1' ⟨rfl, hb1⟩
  have D1 := Lib.hid (C0.out.trans (hb1.mono C0.out.size))
  have E1 := Lib.hid (CB0.out.keep hb1 CB0.out.lt)
  clear hb1 S1
  by_cases w2 : M.isBl y = true
  · have X1 := Lib.hid (rbl_any y true w1' w2)
    have ht := HT.out
    rw [tk_2 _ w1 (by rw [HD0.out]; exact w2)] at ht
    have ht' : (({ kind := 13, text := if y = 10 then [10] else [32] } : M.CT), M.blN (c.drop i)) = (t, k) := by rw [← HD0.out]; simpa [M.tokW] using ht
    simp only [Prod.mk.injEq] at ht'
    obtain ⟨ht1, ht2⟩ := ht'
    have HQ := Lib.hid (show i + M.blN (c.drop i) = K by have := HK.out; rw [← ht2] at this; exact this)
    have HT1 := Lib.hid ht1
    clear w1 w2 ht1 ht2 ht
    as_aux_lemma =>
      go_wp2_with fail
      refine (X1.out).mono ?_
      rintro e w' ⟨rfl, rfl⟩
      go_wp2
      go_loop [10] (fun iv => ∃ z : Nat, iv = .int .i64 (z : Int) ∧ z ≤ K ∧ z + M.blN (c.drop z) = K) (fun iv => K - (intOf iv).toNat)
      case atStart => exact ⟨i, rfl, by have := HQ.out; omega, HQ.out⟩
      case round =>
        obtain ⟨z, rfl, hz, hzk⟩ := hrel
        have z0 : (0 : Int) ≤ z := by omega
        obtain ⟨yz, hyz⟩ : ∃ y, c.getD z (-1) = y := ⟨_, rfl⟩
        have A1 := Lib.hid (AT.out w1' D1.out z yz hyz)
        by_cases hblz : M.isBl yz = true
        · have X2 := Lib.hid (rbl_any yz true w1' hblz)
          rw [← hyz] at hblz
          rw [blN_at c z hblz] at hzk
          have hzn : z < n := by
            rcases Nat.lt_or_ge z n with h | h
            · exact h
            · rw [getD_end c n z HCL.out h] at hblz; exact absurd hblz (by decide)
          have HJ := Lib.hid (show (z + 1) + M.blN (c.drop (z + 1)) = K by omega)
          have hz1 : z + 1 ≤ K := by omega
          clear hyz hblz hzk
          as_aux_lemma =>
            go_wp2_with fail
            refine (A1.out).mono ?_
            rintro e w' ⟨rfl, rfl⟩
            go_wp2_with fail
            refine (X2.out).mono ?_
            rintro e w' ⟨rfl, rfl⟩
            go_wp2
            go_round
            case rel => exact ⟨z + 1, by go_num, hz1, HJ.out⟩
            case measure => simp [intOf]; omega
        rw [Bool.not_eq_true] at hblz
        have X2 := Lib.hid (rbl_any yz false w1' hblz)
        rw [← hyz] at hblz
        rw [blN_out c z hblz, Nat.add_zero] at hzk
        subst hzk
        clear hyz hblz hz
        have lt8 := E1.out.lt
        have cb8 : CB (w1'.alloc (.cells #[.int .i64 13, .string ⟨#[32]⟩, .string ⟨#[]⟩, .bool false, .string ⟨#[]⟩, .string ⟨#[]⟩, .bool false, .bool false, .int .i64 0, .int .i64 0, .int .i64 0, .int .i64 0, .int .i64 0] 36)) w1'.heap.size (ctv { kind := 13, text := [32] } 0) := CB.new w1' _
        have cb5 : CB (w1'.alloc (.cells #[.int .i64 13, .string ⟨#[32]⟩, .string ⟨#[]⟩, .bool false, .string ⟨#[]⟩, .string ⟨#[]⟩, .bool false, .bool false, .int .i64 0, .int .i64 0, .int .i64 0, .int .i64 0, .int .i64 0] 36)) w.heap.size (ctv {} 0) := E1.out.keep ((Below.refl w1'.heap.size w1').alloc (Nat.le_refl _) _) lt8
        have c5 : Below w.heap.size w (w1'.alloc (.cells #[.int .i64 13, .string ⟨#[32]⟩, .string ⟨#[]⟩, .bool false, .string ⟨#[]⟩, .string ⟨#[]⟩, .bool false, .bool false, .int .i64 0, .int .i64 0, .int .i64 0, .int .i64 0, .int .i64 0] 36)) := D1.out.alloc D1.out.size _
        go_wp2_with fail
        refine (A1.out).mono ?_
        rintro e w' ⟨rfl, rfl⟩
        go_wp2_with fail
        refine (X2.out).mono ?_
        rintro e w' ⟨rfl, rfl⟩
        go_upto_region 17 with fail
        obtain ⟨W5, hW5⟩ : ∃ W, w1'.alloc (.cells #[.int .i64 13, .string ⟨#[32]⟩, .string ⟨#[]⟩, .bool false, .string ⟨#[]⟩, .string ⟨#[]⟩, .bool false, .bool false, .int .i64 0, .int .i64 0, .int .i64 0, .int .i64 0, .int .i64 0] 36) = W := ⟨_, rfl⟩
        rw [hW5] at cb8 cb5 c5 ⊢
        obtain ⟨b8, hb8⟩ : ∃ b, w1'.heap.size = b := ⟨_, rfl⟩
        rw [hb8] at cb8 lt8 ⊢
        have g1 := cb8.cell 1
        have f1 := cb8.free 1
        rw [show (ctv _ _)[1]? = some (.string ⟨#[32]⟩) from rfl] at g1
        clear hW5 hb8
        by_cases h10 : y = 10
        · subst h10
          have HT2 := Lib.hid (show ({ kind := 13, text := [10] } : M.CT) = t by rw [← HT1.out]; rfl)
          have cb8X : CB (W5.setCell ⟨b8, 1, none⟩ (.string ⟨#[10]⟩)) b8 (ctv { kind := 13, text := [10] } 0) := cb8.put 1 _
          have cb4X : CB (W5.setCell ⟨b8, 1, none⟩ (.string ⟨#[10]⟩)) w.heap.size (ctv {} 0) := cb5.other (Nat.ne_of_lt lt8) _ _
          have cX : Below w.heap.size w (W5.setCell ⟨b8, 1, none⟩ (.string ⟨#[10]⟩)) := c5.setCell (Nat.le_of_lt lt8) _
          as_aux_lemma =>
            go_wp2_with (first | (refine wpl_ldT rfl _ rfl b8 _ rfl cb8X rfl ?_) | (refine wpl_stT rfl _ _ rfl w.heap.size (ctv {} 0) (ctv { kind := 13, text := [10] } 0) rfl rfl cb4X rfl rfl (ctv_one _ _) ?_))
            (try simp only [Exit.inBlock, Exit.then])
            exact bodyPost_ret (res_tok rfl _ _ w.heap.size _ _ rfl rfl (CB.set cb4X _) rfl) rfl ⟨(by rw [← HT2.out]), below_setRow cX (Nat.le_refl _) _⟩
        · have t10 : (y == 10) = false := by simpa using h10
          have HT2 := Lib.hid (show ({ kind := 13, text := [32] } : M.CT) = t by rw [← HT1.out]; simp [h10])
          clear h10
          as_aux_lemma =>
            go_wp2_with (first | (refine wpl_ldT rfl _ rfl b8 _ rfl cb8 rfl ?_) | (refine wpl_stT rfl _ _ rfl w.heap.size (ctv {} 0) (ctv { kind := 13, text := [32] } 0) rfl rfl cb5 rfl rfl (ctv_one _ _) ?_))
            (try simp only [Exit.inBlock, Exit.then])
            exact bodyPost_ret (res_tok rfl _ _ w.heap.size _ _ rfl rfl (CB.set cb5 _) rfl) rfl ⟨(by rw [← HT2.out]), below_setRow c5 (Nat.le_refl _) _⟩
  have X1 := Lib.hid (rbl_any y false w1' (by simpa using w2))
  go_wp2_with fail
  refine (X1.out).mono ?_
  rintro e w' ⟨rfl, rfl⟩
  clear X1
  by_cases w3 : y = 34 ∨ y = 39
  · have ht := HT.out
    rw [tk_3 _ w1 (by rw [HD0.out]; exact w2) (by rw [HD0.out]; exact w3)] at ht
    have ht' : M.txtT (c.drop i) = (t, k) := by simpa [M.tokW] using ht
    unfold M.txtT at ht'
    rw [HD0.out, HD1.out] at ht'
    have Q1 := Lib.hid (QT.out w1' D1.out w3 (by split at ht' <;> (rename_i hh; simp only [Prod.mk.injEq] at ht'; (first | rw [if_pos hh] | rw [if_neg hh]); exact ht'.1)) (by have := HK.out; split at ht' <;> (simp only [Prod.mk.injEq] at ht'; omega)))
    clear w1 w2 ht ht'
    rcases w3 with rfl | rfl
    all_goals
     as_aux_lemma =>
      go_wp2_with fail
      refine (Q1.out).mono ?_
      rintro e wz ⟨rfl, hbz⟩
      have dZ := D1.out.trans (hbz.mono D1.out.size)
      have eZ := E1.out.keep hbz E1.out.lt
      clear hbz
      go_wp2_with (refine wpl_stT rfl _ _ rfl w.heap.size _ (ctv (t) 0) rfl rfl eZ rfl rfl (ctv_one _ _) ?_)
      go_wp2
      (try simp only [Exit.inBlock, Exit.then])
      refine bodyPost_ret (res_tok rfl _ _ w.heap.size _ _ rfl rfl (CB.set eZ _) rfl) rfl ⟨(by first | rfl | exact etup_ai rfl), below_setRow dZ (Nat.le_refl _) _⟩
  have n34 : (y == 34) = false := by rw [beq_eq_false_iff_ne]; omega
  have n39 : (y == 39) = false := by rw [beq_eq_false_iff_ne]; omega
  obtain ⟨b4, hb4⟩ : ∃ b, decide (y = 35 ∧ M.inNm (c.drop (i + 1)) = true) = b := ⟨_, rfl⟩
  have HB4 := Lib.hid hb4
  clear hb4
  go_upto_region 22 with fail
  go_cut [84] (fun q wx => q = .bool b4 ∧ w1' = wx)
  case first =>
   as_aux_lemma =>
    have hb4 := HB4.out
    rw [HNI.out] at hb4
    by_cases h35 : y = 35
    · subst h35
      obtain ⟨y1, hy1⟩ : ∃ y, c.getD (i + 1) (-1) = y := ⟨_, rfl⟩
      have A1 := AT.out w1' D1.out (i + 1) y1 hy1
      rw [show ((i + 1 : Nat) : Int) = (i : Int) + 1 by omega] at A1
      have A2 := Lib.hid A1
      rw [hy1] at hb4
      cases hin : M.nIn y1 with
      | true =>
        have N1 := Lib.hid (rnin_any y1 true w1' hin)
        have hbt : b4 = true := by rw [← hb4, hin]; simp
        subst hbt
        clear hb4 hy1 A1 hin
        go_wp2_with fail
        refine (A2.out).mono ?_
        rintro e w' ⟨rfl, rfl⟩
        go_wp2_with fail
        refine (N1.out).mono ?_
        rintro e w' ⟨rfl, rfl⟩
        go_wp2_with fail
        go_meet
        exact ⟨rfl, rfl⟩
      | false =>
        have N1 := Lib.hid (rnin_any y1 false w1' hin)
        have E2 := Lib.hid (ESC.out w1' D1.out b4 (by rw [← hb4, hin]; simp))
        clear hb4 hy1 A1 hin
        go_wp2_with fail
        refine (A2.out).mono ?_
        rintro e w' ⟨rfl, rfl⟩
        go_wp2_with fail
        refine (N1.out).mono ?_
        rintro e w' ⟨rfl, rfl⟩
        go_wp2_with fail
        refine (E2.out).mono ?_
        rintro e w' ⟨rfl, rfl⟩
        go_wp2_with fail
        go_meet
        exact ⟨rfl, rfl⟩
    · have n35 : (y == 35) = false := by simpa using h35
      have hbf : b4 = false := by rw [← hb4]; simp [h35]
      subst hbf
      clear hb4 h35
      go_wp2_with fail
      go_meet
      exact ⟨rfl, rfl⟩
  case rest =>
  obtain ⟨rfl, rfl⟩ := hcut
  by_cases w4 : y = 35 ∧ M.inNm (c.drop (i + 1)) = true
  · have hbt : b4 = true := by rw [← HB4.out]; exact decide_eq_true w4
    subst hbt
    have ht := HT.out
    rw [tk_4 _ w1 (by rw [HD0.out]; exact w2) (by rw [HD0.out]; exact w3) (by rw [HD0.out, HD1.out]; exact w4)] at ht
    have ht' : ({ kind := 4, text := M.encZs (M.takeN (c.drop (i + 1))).1, flag := M.begN (c.drop (i + 1)) }, 1 + (M.takeN (c.drop (i + 1))).2) = (t, k) := by rw [← HD1.out]; simpa [M.tokW] using ht
    simp only [Prod.mk.injEq] at ht'
    obtain ⟨ht1, ht2⟩ := ht'
    obtain ⟨U, hU⟩ : ∃ U, (M.takeN (c.drop (i + 1))).1 = U := ⟨_, rfl⟩
    obtain ⟨bg, hbg⟩ : ∃ U, M.begN (c.drop (i + 1)) = U := ⟨_, rfl⟩
    have T1 := Lib.hid (TK.out w1' D1.out U K hU (by have := HK.out; omega))
    have BB := Lib.hid (fun (W : World) (hW : Below w.heap.size w W) => BG.out W hW (i + 1) bg hbg)
    rw [show ((i + 1 : Nat) : Int) = (i : Int) + 1 by omega] at BB
    rw [hU, hbg] at ht1
    have HT1 := Lib.hid ht1
    clear w1 w2 w3 w4 ht ht1 ht2 hU hbg
    as_aux_lemma =>
      go_wp2_with fail
      refine (T1.out).mono ?_
      rintro e wz ⟨rfl, hbz⟩
      have dZ := D1.out.trans (hbz.mono D1.out.size)
      have eZ := E1.out.keep hbz E1.out.lt
      clear hbz
      go_wp2_with fail
      refine (BB.out _ dZ).mono ?_
      rintro e w' ⟨rfl, rfl⟩
      go_wp2_with (refine wpl_stT rfl _ _ rfl w.heap.size _ (ctv ({ kind := 4, text := M.encZs U, flag := bg }) 0) rfl rfl eZ rfl rfl (ctv_one _ _) ?_)
      go_wp2
      (try simp only [Exit.inBlock, Exit.then])
      refine bodyPost_ret (res_tok rfl _ _ w.heap.size _ _ rfl rfl (CB.set eZ _) rfl) rfl ⟨(by rw [← HT1.out]), below_setRow dZ (Nat.le_refl _) _⟩
  have hbf : b4 = false := by rw [← HB4.out]; exact decide_eq_false w4
  subst hbf
  by_cases w5 : M.numB (c.drop i) = true
  · have L1 := Lib.hid (NL.out w1' D1.out true w5)
    have ht := HT.out
    rw [tk_5 _ w1 (by rw [HD0.out]; exact w2) (by rw [HD0.out]; exact w3) (by rw [HD0.out, HD1.out]; exact w4) w5] at ht
    have ht' : M.numT (c.drop i) = (t, k) := by simpa [M.tokW] using ht
    have N1 := Lib.hid (NB.out w1' D1.out w5 (by rw [ht']) (by rw [ht']; exact HK.out))
    clear w1 w2 w3 w4 w5 ht ht'
    as_aux_lemma =>
      go_wp2_with fail
      refine (L1.out).mono ?_
      rintro e w' ⟨rfl, rfl⟩
      go_wp2_with fail
      refine (N1.out).mono ?_
      rintro e wz ⟨rfl, hbz⟩
      have dZ := D1.out.trans (hbz.mono D1.out.size)
      have eZ := E1.out.keep hbz E1.out.lt
      clear hbz
      go_wp2_with (refine wpl_stT rfl _ _ rfl w.heap.size _ (ctv (t) 0) rfl rfl eZ rfl rfl (ctv_one _ _) ?_)
      go_wp2
      (try simp only [Exit.inBlock, Exit.then])
      refine bodyPost_ret (res_tok rfl _ _ w.heap.size _ _ rfl rfl (CB.set eZ _) rfl) rfl ⟨(by first | rfl | exact etup_ai rfl), below_setRow dZ (Nat.le_refl _) _⟩
  have L1 := Lib.hid (NL.out w1' D1.out false (by simpa using w5))
  go_wp2_with fail
  refine (L1.out).mono ?_
  rintro e w' ⟨rfl, rfl⟩
  go_wp2_with fail
  by_cases w6 : M.stC [45, 45, 62] (c.drop i) = true
  · have S3 := Lib.hid (F3.out w1' D1.out true w6)
    have ht := HT.out
    rw [tk_6 _ w1 (by rw [HD0.out]; exact w2) (by rw [HD0.out]; exact w3) (by rw [HD0.out, HD1.out]; exact w4) w5 w6] at ht
    have ht' : (({ kind := 15 } : M.CT), 3) = (t, k) := by simpa [M.tokW] using ht
    simp only [Prod.mk.injEq] at ht'
    obtain ⟨ht1, ht2⟩ := ht'
    have HT1 := Lib.hid ht1
    have HK1 := Lib.hid (show (i : Int) + 3 = K by have := HK.out; omega)
    clear w1 w2 w3 w4 w5 w6 ht ht1 ht2
    as_aux_lemma =>
      refine (S3.out).mono ?_
      rintro e wz ⟨rfl, hbz⟩
      have dZ := D1.out.trans (hbz.mono D1.out.size)
      have eZ := E1.out.keep hbz E1.out.lt
      clear hbz
      go_wp2_with (refine wpl_stT rfl _ _ rfl w.heap.size _ (ctv ({ kind := 15 }) 0) rfl rfl eZ rfl rfl (ctv_one _ _) ?_)
      go_wp2
      (try simp only [Exit.inBlock, Exit.then])
      refine bodyPost_ret (res_tok rfl _ _ w.heap.size _ _ rfl rfl (CB.set eZ _) rfl) rfl ⟨(by rw [← HT1.out]; exact etup_ai HK1.out), below_setRow dZ (Nat.le_refl _) _⟩
  have S3 := Lib.hid (F3.out w1' D1.out false (by simpa using w6))
  refine (S3.out).mono ?_
  rintro e w2' ⟨rfl, hb2⟩
  have D2 := Lib.hid (D1.out.trans (hb2.mono D1.out.size))
  have E2 := Lib.hid (E1.out.keep hb2 E1.out.lt)
  clear hb2 S3 D1 E1 L1
  go_wp2_with fail
  by_cases w7 : M.stC [60, 33, 45, 45] (c.drop i) = true
  · have S4 := Lib.hid (F4.out w2' D2.out true w7)
    have ht := HT.out
    rw [tk_7 _ w1 (by rw [HD0.out]; exact w2) (by rw [HD0.out]; exact w3) (by rw [HD0.out, HD1.out]; exact w4) w5 w6 w7] at ht
    have ht' : (({ kind := 14 } : M.CT), 4) = (t, k) := by simpa [M.tokW] using ht
    simp only [Prod.mk.injEq] at ht'
    obtain ⟨ht1, ht2⟩ := ht'
    have HT1 := Lib.hid ht1
    have HK1 := Lib.hid (show (i : Int) + 4 = K by have := HK.out; omega)
    clear w1 w2 w3 w4 w5 w6 w7 ht ht1 ht2
    as_aux_lemma =>
      refine (S4.out).mono ?_
      rintro e wz ⟨rfl, hbz⟩
      have dZ := D2.out.trans (hbz.mono D2.out.size)
      have eZ := E2.out.keep hbz E2.out.lt
      clear hbz
      go_wp2_with (refine wpl_stT rfl _ _ rfl w.heap.size _ (ctv ({ kind := 14 }) 0) rfl rfl eZ rfl rfl (ctv_one _ _) ?_)
      go_wp2
      (try simp only [Exit.inBlock, Exit.then])
      refine bodyPost_ret (res_tok rfl _ _ w.heap.size _ _ rfl rfl (CB.set eZ _) rfl) rfl ⟨(by rw [← HT1.out]; exact etup_ai HK1.out), below_setRow dZ (Nat.le_refl _) _⟩
  have S4 := Lib.hid (F4.out w2' D2.out false (by simpa using w7))
  refine (S4.out).mono ?_
  rintro e w3' ⟨rfl, hb3⟩
  have D3 := Lib.hid (D2.out.trans (hb3.mono D2.out.size))
  have E3 := Lib.hid (E2.out.keep hb3 E2.out.lt)
  clear hb3 S4 D2 E2
  by_cases w8 : M.begN (c.drop i) = true
  · have B1 := Lib.hid (BG.out w3' D3.out i true w8)
    have ht := HT.out
    rw [tk_8 _ w1 (by rw [HD0.out]; exact w2) (by rw [HD0.out]; exact w3) (by rw [HD0.out, HD1.out]; exact w4) w5 w6 w7 w8] at ht
    have ht' : M.namT (c.drop i) = (t, k) := by simpa [M.tokW] using ht
    have N1 := Lib.hid (NM.out w3' D3.out (by rw [ht']) (by rw [ht']; exact HK.out))
    clear w1 w2 w3 w4 w5 w6 w7 w8 ht ht'
    as_aux_lemma =>
      go_wp2_with fail
      refine (B1.out).mono ?_
      rintro e w' ⟨rfl, rfl⟩
      go_wp2_with fail
      refine (N1.out).mono ?_
      rintro e wz ⟨rfl, hbz⟩
      have dZ := D3.out.trans (hbz.mono D3.out.size)
      have eZ := E3.out.keep hbz E3.out.lt
      clear hbz
      go_wp2_with (refine wpl_stT rfl _ _ rfl w.heap.size _ (ctv (t) 0) rfl rfl eZ rfl rfl (ctv_one _ _) ?_)
      go_wp2
      (try simp only [Exit.inBlock, Exit.then])
      refine bodyPost_ret (res_tok rfl _ _ w.heap.size _ _ rfl rfl (CB.set eZ _) rfl) rfl ⟨(by first | rfl | exact etup_ai rfl), below_setRow dZ (Nat.le_refl _) _⟩
  have B1 := Lib.hid (BG.out w3' D3.out i false (by simpa using w8))
  go_wp2_with fail
  refine (B1.out).mono ?_
  rintro e w' ⟨rfl, rfl⟩
  obtain ⟨b9, hb9⟩ : ∃ b, decide (y = 64 ∧ M.begN (c.drop (i + 1)) = true) = b := ⟨_, rfl⟩
  have HB9 := Lib.hid hb9
  clear hb9 B1
  go_upto_region 33 with fail
  go_cut [146] (fun q wx => q = .bool b9 ∧ w3' = wx)
  case first =>
   as_aux_lemma =>
    have hb9 := HB9.out
    by_cases h64 : y = 64
    · subst h64
      have B2 := BG.out w3' D3.out (i + 1) b9 (by rw [← hb9]; simp)
      rw [show ((i + 1 : Nat) : Int) = (i : Int) + 1 by omega] at B2
      have B3 := Lib.hid B2
      clear hb9 B2
      go_wp2_with fail
      refine (B3.out).mono ?_
      rintro e w' ⟨rfl, rfl⟩
      go_wp2_with fail
      go_meet
      exact ⟨rfl, rfl⟩
    · have n64 : (y == 64) = false := by simpa using h64
      have hbf : b9 = false := by rw [← hb9]; simp [h64]
      subst hbf
      clear hb9 h64
      go_wp2_with fail
      go_meet
      exact ⟨rfl, rfl⟩
  case rest =>
  obtain ⟨rfl, rfl⟩ := hcut
  by_cases w9 : y = 64 ∧ M.begN (c.drop (i + 1)) = true
  · have hbt : b9 = true := by rw [← HB9.out]; exact decide_eq_true w9
    subst hbt
    have ht := HT.out
    rw [tk_9 _ w1 (by rw [HD0.out]; exact w2) (by rw [HD0.out]; exact w3) (by rw [HD0.out, HD1.out]; exact w4) w5 w6 w7 w8 (by rw [HD0.out, HD1.out]; exact w9)] at ht
    have ht' : (({ kind := 3, text := M.encZs (M.takeN (c.drop (i + 1))).1 } : M.CT), 1 + (M.takeN (c.drop (i + 1))).2) = (t, k) := by rw [← HD1.out]; simpa [M.tokW] using ht
    simp only [Prod.mk.injEq] at ht'
    obtain ⟨ht1, ht2⟩ := ht'
    obtain ⟨U, hU⟩ : ∃ U, (M.takeN (c.drop (i + 1))).1 = U := ⟨_, rfl⟩
    have T1 := Lib.hid (TK.out w3' D3.out U K hU (by have := HK.out; omega))
    rw [hU] at ht1
    have HT1 := Lib.hid ht1
    clear w1 w2 w3 w4 w5 w6 w7 w8 w9 ht ht1 ht2 hU
    as_aux_lemma =>
      go_wp2_with fail
      refine (T1.out).mono ?_
      rintro e wz ⟨rfl, hbz⟩
      have dZ := D3.out.trans (hbz.mono D3.out.size)
      have eZ := E3.out.keep hbz E3.out.lt
      clear hbz
      go_wp2_with (refine wpl_stT rfl _ _ rfl w.heap.size _ (ctv ({ kind := 3, text := M.encZs U }) 0) rfl rfl eZ rfl rfl (ctv_one _ _) ?_)
      go_wp2
      (try simp only [Exit.inBlock, Exit.then])
      refine bodyPost_ret (res_tok rfl _ _ w.heap.size _ _ rfl rfl (CB.set eZ _) rfl) rfl ⟨(by rw [← HT1.out]), below_setRow dZ (Nat.le_refl _) _⟩
  have hbf : b9 = false := by rw [← HB9.out]; exact decide_eq_false w9
  subst hbf
  have ht := HT.out
  rw [tk_10 _ w1 (by rw [HD0.out]; exact w2) (by rw [HD0.out]; exact w3) (by rw [HD0.out, HD1.out]; exact w4) w5 w6 w7 w8 (by rw [HD0.out, HD1.out]; exact w9)] at ht
  have ht' : (if M.oneK y = 9 then (({ kind := 9, text := M.enc y } : M.CT), 1) else ({ kind := M.oneK y }, 1)) = (t, k) := by rw [← HD0.out]; simpa [M.tokW] using ht
  have HT1 := Lib.hid ht'
  have HK1 := Lib.hid (show (i : Int) + 1 = K by have := HK.out; split at ht' <;> (simp only [Prod.mk.injEq] at ht'; omega))
  clear w1 w2 w3 w4 w5 w6 w7 w8 w9 ht ht' n34 n39
  obtain ⟨S, hS⟩ : ∃ S, (ByteArray.mk #[58, 59, 44, 123, 125, 40, 41, 91, 93]) = S := ⟨_, rfl⟩
  have hS9 : S.size = 9 := by rw [← hS]; rfl
  have hSg : ∀ (z : Nat) (h : z < S.size), ((S[z]'h).toNat : Int) = sgnI z := by
    intro z h
    subst hS
    have : z = 0 ∨ z = 1 ∨ z = 2 ∨ z = 3 ∨ z = 4 ∨ z = 5 ∨ z = 6 ∨ z = 7 ∨ z = 8 := by omega
    rcases this with rfl | rfl | rfl | rfl | rfl | rfl | rfl | rfl | rfl <;> rfl
  have HS := Lib.hid hS
  have HS9 := Lib.hid hS9
  have HSG := Lib.hid hSg
  clear hS hS9 hSg
  go_upto_region 36 with fail
  rw [HS.out]
  go_wp2
  go_loop [16] (fun iv => ∃ z : Nat, iv = .int .i64 (z : Int) ∧ z ≤ 9 ∧ ∀ q, q < z → sgnI q ≠ y) (fun iv => 9 - (intOf iv).toNat)
  case atStart => exact ⟨0, rfl, by omega, fun q hq => by omega⟩
  case round =>
    obtain ⟨z, rfl, hz, hall⟩ := hrel
    have HA := Lib.hid hall
    clear hall
    by_cases hz9 : z = 9
    · subst hz9
      have h9 := sgn_none y HA.out
      have ht := HT1.out
      rw [if_pos h9] at ht
      simp only [Prod.mk.injEq] at ht
      have HT2 := Lib.hid ht.1
      have hinn : i < n := by omega
      have R1 := RW.out w3' D3.out i (i + 1) (by omega) (by omega)
      rw [show ((i + 1 : Nat) : Int) = (i : Int) + 1 by omega, Nat.add_sub_cancel_left, show (c.drop i).take 1 = [y] by rw [drop_cons c i (by rw [HCL.out]; exact hinn), ← getD_lt c i (by rw [HCL.out]; exact hinn) (-1), HY.out]; rfl, M.encZs_cons, M.encZs_nil, List.append_nil] at R1
      have R2 := Lib.hid R1
      have zs : ¬ ((9 : Nat) : Int) < S.size := by rw [HS9.out]; omega
      have zs2 : S.size = 9 := HS9.out
      clear ht R1 h9
      as_aux_lemma =>
        go_wp2_with fail
        refine (R2.out).mono ?_
        rintro e wz ⟨rfl, hbz⟩
        have dZ := D3.out.trans (hbz.mono D3.out.size)
        have eZ := E3.out.keep hbz E3.out.lt
        clear hbz
        go_wp2_with (refine wpl_stT rfl _ _ rfl w.heap.size _ (ctv ({ kind := 9, text := M.enc y }) 0) rfl rfl eZ rfl rfl (ctv_one _ _) ?_)
        go_wp2
        (try simp only [Exit.inBlock, Exit.then])
        refine bodyPost_ret (res_tok rfl _ _ w.heap.size _ _ rfl rfl (CB.set eZ _) rfl) rfl ⟨(by rw [← HT2.out]; exact etup_ai HK1.out), below_setRow dZ (Nat.le_refl _) _⟩
    · have z8 : z < 9 := by omega
      have zS : z < S.size := by rw [HS9.out]; exact z8
      have zs : (z : Int) < S.size := by omega
      have z0 : (0 : Int) ≤ z := by omega
      have z7 : (z : Int) ≤ 8 := by omega
      have hg := HSG.out z zS
      obtain ⟨x, hx⟩ : ∃ x, S[z]'zS = x := ⟨_, rfl⟩
      rw [hx] at hg
      have xw : wrap64 (x.toNat : Int) = (x.toNat : Int) := IntWalk.wrap64_in _ (by have := x.toNat_lt; omega)
      by_cases hq : sgnI z = y
      · have tq : (wrap64 (x.toNat : Int) == y) = true := by rw [xw, hg, hq]; simp
        have tq2 : ((x.toNat : Int) == y) = true := by rw [hg, hq]; simp
        have hk9 := sgn_kind z z8
        rw [hq] at hk9
        have ht := HT1.out
        rw [if_neg (by omega)] at ht
        simp only [Prod.mk.injEq] at ht
        have HT2 := Lib.hid (show ({ kind := 16 + (z : Int) } : M.CT) = t by rw [← ht.1, hk9])
        have dZ := D3.out
        have eZ := E3.out
        clear ht hz hz9 hg hq hk9 xw
        as_aux_lemma =>
          go_wp2_with (refine wpl_stT rfl _ _ rfl w.heap.size _ (ctv ({ kind := 16 + (z : Int) }) 0) rfl rfl eZ rfl rfl (ctv_one _ _) ?_)
          go_wp2
          (try simp only [Exit.inBlock, Exit.then])
          refine bodyPost_ret (res_tok rfl _ _ w.heap.size _ _ rfl rfl (CB.set eZ _) rfl) rfl ⟨(by rw [← HT2.out]; exact etup_ai HK1.out), below_setRow dZ (Nat.le_refl _) _⟩
      · have tq : (wrap64 (x.toNat : Int) == y) = false := by rw [xw, hg]; simpa using hq
        have tq2 : ((x.toNat : Int) == y) = false := by rw [hg]; simpa using hq
        have HA2 := Lib.hid (show ∀ q, q < z + 1 → sgnI q ≠ y from fun q hh => by
          by_cases h : q < z
          · exact HA.out q h
          · obtain rfl : q = z := by omega
            exact hq)
        clear hq hz9 hg xw
        as_aux_lemma =>
          go_wp2
          go_round
          case rel => exact ⟨z + 1, by go_num, by omega, HA2.out⟩
          case measure => simp [intOf]; omega
end Go.Proofs.YtilndlifmpbfnaaDoor

/- Tokens of CSS, the page's own: Clex, SameTokens. -/
namespace Go.Proofs.YtilndlifmpbfnaaDoor
open Go.RowKit
set_option linter.unusedVariables false
set_option linter.unusedSimpArgs false

set_option maxRecDepth 100000 in
set_option maxHeartbeats 8000000 in
theorem rclex_any (v : Value) (L : List (Int × Int)) (T : List (M.CT × Int)) (w : World) (hv : Rs w v L) (hl : L.length ≤ 40000) (hr : M.tksC L = T) :
    Calls Tryd.prog 6 #[v] w (ClP w T) := by
  obtain ⟨n, hn⟩ : ∃ n, L.length = n := ⟨_, rfl⟩
  obtain ⟨a, cap, hvv, h1, h2, h3⟩ := rs_at hv hn
  have HV := Lib.hid hv
  have HN := Lib.hid hn
  have HR := Lib.hid hr
  have H3 := Lib.hid h3
  rw [hn] at hl
  have TK := Lib.hid (fun W (hW : Below w.heap.size w W) (i : Nat) (hi : i < n) (t : M.CT) (k : Nat) (e : M.tkC ((cps L).drop i) = (t, k)) => rone_any v L (cps L) i t k (i + k) W (rs_keep hv hW) rfl (by omega) (by omega) e rfl)
  subst hvv
  clear hv hn hr h3
  go_enter Tryd.func6, Tryd.ntmps6
  go_wp2
  go_loopw [3, 4, 5, 6] (fun ov av _ _ wr => ∃ (i : Nat) (pre : List (M.CT × Int)), av = .int .i64 (i : Int) ∧ i ≤ n ∧ T = pre ++ M.tksC (L.drop i) ∧ pre.length ≤ i ∧ OwnC w.heap.size wr ov pre ∧ Below w.heap.size w wr) (fun _ av _ _ _ => n - (intOf av).toNat)
  case atStart => exact ⟨0, [], rfl, by omega, by rw [← HR.out]; simp, by simp, ownC_nil _ _, Below.refl _ _⟩
  case round =>
    obtain ⟨i, pre, rfl, hi, hpre, hpl, ho, hb⟩ := hrel
    have hsz := hb.size
    have i0 : (0 : Int) ≤ i := by omega
    have HP := Lib.hid hpre
    clear hpre
    by_cases hin : i < n
    · obtain ⟨p, off, rfl, hp, ca, cb⟩ := H3.out i hin
      obtain ⟨t, k, htk⟩ : ∃ t k, M.tkC ((cps L).drop i) = (t, k) := ⟨_, _, rfl⟩
      have hlen := M.wayT_len ((cps L).drop i) (by rw [List.length_drop, cps_len, HN.out]; omega)
      rw [htk, List.length_drop, cps_len, HN.out] at hlen
      simp only at hlen
      have hin2 := M.lexC_in L i (by rw [HN.out]; exact hin)
      have hz0 : (L.map Prod.snd).getD i 0 = (L[i]'(by rw [HN.out]; exact hin)).2 := by simp [List.getD, show i < L.length by rw [HN.out]; exact hin]
      rw [show L.map Prod.fst = cps L from rfl, htk, ← hz0] at hin2
      obtain ⟨z, hz⟩ : ∃ z, (L.map Prod.snd).getD i 0 = z := ⟨_, rfl⟩
      rw [hz] at hin2 cb
      have hnew := HP.out
      rw [hin2] at hnew
      have HNEW := Lib.hid (show T = (pre ++ [(t, z)]) ++ M.tksC (L.drop (i + k)) by rw [hnew]; simp)
      have TK1 := Lib.hid (TK.out wr hb i hin t k htk)
      obtain ⟨m, hm⟩ : ∃ m, i + k = m := ⟨_, rfl⟩
      rw [hm] at HNEW TK1
      have hm1 : i + 1 ≤ m := by omega
      have hm2 : m ≤ n := by omega
      have i2 : (i : Int) < n := by omega
      clear htk hlen hin2 hz0 hz hnew hm ca
      go_wp2_with fail
      refine (TK1.out).mono ?_
      rintro e w1 ⟨rfl, hb1⟩
      have hbw := hb.trans (hb1.mono hsz)
      have ho1 := ho.keep hb1
      have cz := hbw.cell (p := ⟨p, off + i * 2 + 1, none⟩) hp
      rw [cb] at cz
      have pz : p < w1.heap.size := Nat.lt_of_lt_of_le hp hbw.size
      have z1 := hbw.size
      have cbA : CB ((w1.alloc (.cells #[.int .i64 0, .string ⟨#[]⟩, .string ⟨#[]⟩, .bool false, .string ⟨#[]⟩, .string ⟨#[]⟩, .bool false, .bool false, .int .i64 0, .int .i64 0, .int .i64 0, .int .i64 0, .int .i64 0] 36)).setRow w1.heap.size (ctv t 0)) w1.heap.size (ctv t 0) := (CB.new w1 _).set _
      have hA : Below w1.heap.size w1 ((w1.alloc (.cells #[.int .i64 0, .string ⟨#[]⟩, .string ⟨#[]⟩, .bool false, .string ⟨#[]⟩, .string ⟨#[]⟩, .bool false, .bool false, .int .i64 0, .int .i64 0, .int .i64 0, .int .i64 0, .int .i64 0] 36)).setRow w1.heap.size (ctv t 0)) := below_setRow ((Below.refl _ _).alloc (Nat.le_refl _) _) (Nat.le_refl _) _
      clear hb1 ho hb
      go_upto_region 5 with (refine wpl_stT rfl _ _ rfl w1.heap.size (ctv {} 0) (ctv t 0) rfl rfl (CB.new w1 _) rfl rfl (ctv_one _ _) ?_)
      obtain ⟨W2, hW2⟩ : ∃ W, (w1.alloc (.cells #[.int .i64 0, .string ⟨#[]⟩, .string ⟨#[]⟩, .bool false, .string ⟨#[]⟩, .string ⟨#[]⟩, .bool false, .bool false, .int .i64 0, .int .i64 0, .int .i64 0, .int .i64 0, .int .i64 0] 36)).setRow w1.heap.size (ctv t 0) = W := ⟨_, rfl⟩
      rw [hW2] at cbA hA ⊢
      have czA := hA.cell (p := ⟨p, off + i * 2 + 1, none⟩) pz
      rw [cz] at czA
      have hbA := hbw.trans (hA.mono z1)
      have hoA := ho1.keep hA
      have hne := ho1.ne (Nat.le_refl w1.heap.size)
      obtain ⟨b8, hb8⟩ : ∃ b, w1.heap.size = b := ⟨_, rfl⟩
      rw [hb8] at cbA z1 hne ⊢
      have g12 : W2.cell? ⟨b8, 12, none⟩ = some (.int .i64 0) := cbA.cell 12
      have f12 := cbA.free 12
      clear hW2 hb8 hA cz ho1 hbw pz
      go_upto_region 6 with (fail)
      have cbB : CB (W2.setCell ⟨b8, 12, none⟩ (.int .i64 z)) b8 (ctv t z) := cbA.put 12 _
      have hbB : Below w.heap.size w (W2.setCell ⟨b8, 12, none⟩ (.int .i64 z)) := hbA.setCell z1 _
      have hoB : OwnC w.heap.size (W2.setCell ⟨b8, 12, none⟩ (.int .i64 z)) u3 pre := hoA.setOther _ _ hne
      obtain ⟨W3, hW3⟩ : ∃ W, W2.setCell ⟨b8, 12, none⟩ (.int .i64 z) = W := ⟨_, rfl⟩
      rw [hW3] at cbB hbB hoB ⊢
      clear hW3 cbA hbA hoA hne g12 f12 czA cb
      have hs3 := hbB.size
      go_wp2_with (first | (refine wpl_ldT rfl _ rfl b8 _ rfl cbB rfl ?_) | (refine wpl_bsT rfl _ rfl t z rfl ?_) | (at_builtin; refine wpl_tokC rfl _ _ rfl w.heap.size _ (.slice (some ⟨W3.heap.size, 0, none⟩) 1 1) pre [(t, z)] (pre ++ [(t, z)]) rfl (hoB.keep ((Below.refl _ _).alloc (Nat.le_refl _) _)) rfl (one_tokC W3 t z) (nnv_some _ _ _) (by simp; omega) (by simp; omega) rfl ?_))
      intro v3 w3 ho3 hb4
      have hb5 := (hbB.alloc hs3 _).trans hb4
      clear hbB hb4 hoB
      go_wp2
      go_roundw
      case rel => exact ⟨m, pre ++ [(t, z)], by first | rfl | go_num, by omega, HNEW.out, by simp; omega, ho3, hb5⟩
      case measure => simp [intOf]; omega
    · obtain rfl : i = n := by omega
      have hfin := HP.out
      rw [List.drop_eq_nil_of_le (by rw [HN.out]; exact Nat.le_refl _), M.lexC_nil, List.append_nil] at hfin
      have HF := Lib.hid hfin
      clear hfin hin
      go_wp2
      go_ret
      exact ⟨_, rfl, by rw [HF.out]; exact ho, hb⟩
end Go.Proofs.YtilndlifmpbfnaaDoor
