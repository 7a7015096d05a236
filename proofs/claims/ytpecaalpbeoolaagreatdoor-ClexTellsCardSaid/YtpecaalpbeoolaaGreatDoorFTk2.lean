/- Tokens of CSS: the program's functions of one token: a comment. -/
import Derived.Test.YtpecaalpbeoolaaGreatDoorFTk1
namespace Go.Proofs.YtpecaalpbeoolaaGreatDoor
open Go.RowKit
set_option linter.unusedVariables false
set_option linter.unusedSimpArgs false

set_option maxRecDepth 100000 in
set_option maxHeartbeats 4000000 in
theorem fcomment_any (v : Value) (L : List (Int × Int)) (c : List Int) (i : Nat) (t : M.CT) (K : Nat) (w : World) (hv : Rs w v L) (hc : cps L = c) (hl : L.length ≤ 100000) (hi : i + 2 ≤ L.length)
    (ht : { kind := 25, text := M.encZs (M.cmT (c.drop (i + 2))).1 } = t) (hK : i + 2 + (M.cmT (c.drop (i + 2))).2 = K) :
    Calls Tryz.prog 34 #[v, .int .i64 (i : Int)] w (TkR w t K) := by
  have hlc := hv.lc
  rw [hc] at hlc
  have hcl : c.length = L.length := by rw [← hc, cps_len]
  obtain ⟨n, hn⟩ : ∃ n, L.length = n := ⟨_, rfl⟩
  rw [hn] at hl hi hcl
  obtain ⟨a, cap, rfl, h1, h2, h3⟩ := rs_open hv hn
  obtain ⟨p, off, rfl, hp, -⟩ := h3 (by omega)
  have hsub := fun (j : Nat) (h1 : i + 2 ≤ j) (h2 : j ≤ n) => rs_sub hv (i + 2) j h1 h2 p off rfl
  have TX := Lib.hid (fun (W : World) (hW : Below w.heap.size w W) (j : Nat) (h1 : i + 2 ≤ j) (h2 : j ≤ n) => ctext_any _ _ (M.encZs ((c.drop (i + 2)).take (j - (i + 2)))) W (rs_keep (hsub j h1 h2) hW) (by simp; omega) (by rw [cps_sub, hc]))
  have TX0 := Lib.hid (fun (W : World) (m : Nat) (hm : m = 0) => ctext_any (.slice (some ⟨p, off, none⟩) m 0) [] (M.encZs []) W (by subst hm; exact ⟨_, 0, rfl, by simp [rvs], by decide, fun h => absurd h (by simp [rvs])⟩) (by simp) rfl)
  have ST := Lib.hid (fun (W : World) (hW : Below w.heap.size w W) (j : Nat) (h : j ≤ n) (b : Bool) (hb : M.stC [42, 47] (c.drop j) = b) => fstands_any _ c j [42, 47] b W (hlc.keep hW) (by omega) (by omega) (by simp) (by simp) hb)
  have CM := Lib.hid (fun j => cmT_at c j)
  have CE := Lib.hid (fun j => cmT_end c j)
  have TM := Lib.hid (fun j => take_more c (i + 2) j)
  have HCL := Lib.hid hcl
  rw [hcl] at CM CE TM
  obtain ⟨W0, hW0, cb0, c0, z0⟩ := w0_facts w
  have HW0 := Lib.hid hW0
  have Z0 := Lib.hid z0
  have C0 := Lib.hid c0
  have CB0 := Lib.hid cb0
  have HT := Lib.hid ht
  have HK := Lib.hid hK
  unfold maxLen at h2
  clear hW0 z0 hv hc hn h3 hsub hlc hcl c0 cb0 ht hK
  go_enter Tryz.func34, Tryz.ntmps34
  go_wp2
  rw [HW0.out]
  go_loopw [7] (fun ev wr => ∃ j : Nat, ev = .int .i64 (j : Int) ∧ i + 2 ≤ j ∧ j ≤ n ∧ M.cmT (c.drop (i + 2)) = ((c.drop (i + 2)).take (j - (i + 2)) ++ (M.cmT (c.drop j)).1, (j - (i + 2)) + (M.cmT (c.drop j)).2) ∧ Below W0.heap.size W0 wr) (fun ev _ => n - (intOf ev).toNat)
  case atStart => exact ⟨i + 2, by go_num, by omega, hi, by simp, Below.refl _ _⟩
  case round =>
    obtain ⟨j, rfl, hj1, hj2, hcm, hb⟩ := hrel
    have HCM := Lib.hid hcm
    have HB := Lib.hid hb
    have hw := C0.out.trans (hb.mono (by rw [Z0.out]; omega))
    have HWR := Lib.hid hw
    have cbr := CB0.out.keep hb (by rw [Z0.out]; omega)
    have CBR := Lib.hid cbr
    have j1 : (i : Int) + 2 ≤ j := by omega
    have j2 : (j : Int) ≤ n := by omega
    clear hcm hb hw cbr
    by_cases hjn : j < n
    · have t1 : decide ((j : Int) < n) = true := by simp; omega
      cases hst : M.stC [42, 47] (c.drop j) with
      | true =>
        have S1 := Lib.hid (ST.out _ HWR.out j hj2 true hst)
        have HST := Lib.hid hst
        have cj := CM.out j hjn
        rw [if_pos hst] at cj
        have hfin := HCM.out
        rw [cj] at hfin
        simp only [List.append_nil] at hfin
        have X1 := TX.out
        have ht := HT.out
        have hK := HK.out
        rw [hfin] at ht hK
        simp only at ht hK
        have HT := Lib.hid ht
        have HK := Lib.hid hK
        clear hst cj hfin X1 ht hK
        go_wp2_with fail
        refine (S1.out).mono ?_
        rintro e w1 ⟨rfl, hb1⟩
        have c1 := HWR.out.trans (hb1.mono HWR.out.size)
        have cb1 := CBR.out.keep hb1 CBR.out.lt
        have hj3 : j + 2 ≤ n := by have := HST.out; have := M.stC_len _ _ this; simp at this; have := HCL.out; omega
        go_wp2_with fail
        refine (TX.out _ c1 j hj1 hj2).mono ?_
        rintro e w2 ⟨rfl, hb2⟩
        have c2 := c1.trans (hb2.mono c1.size)
        have cb2 := cb1.keep hb2 cb1.lt
        have HK2 := Lib.hid (show ((K : Nat) : Int) = min ((j : Int) + 2) n by have := HK.out; omega)
        clear hb1 c1 cb1 hb2
        go_wp2_with (refine wpl_stT rfl _ _ rfl w.heap.size _ (ctv ({ kind := 25, text := M.encZs ((c.drop (i + 2)).take (j - (i + 2))) }) 0) rfl rfl cb2 rfl rfl (ctv_one _ _) ?_)
        go_wp2
        (try simp only [Exit.inBlock, Exit.then])
        refine bodyPost_ret (res_tok rfl _ _ w.heap.size _ _ rfl rfl (CB.set cb2 _) rfl) rfl ⟨(by first | (rw [← HT.out, HK2.out]; done) | (rw [← HT.out]; exact etup_ai (by have := HK2.out; omega))), below_setRow c2 (Nat.le_refl _) _⟩
      | false =>
        have S1 := Lib.hid (ST.out _ HWR.out j hj2 false hst)
        have cj := CM.out j hjn
        rw [if_neg (by rw [hst]; simp)] at cj
        have hfin := HCM.out
        rw [cj] at hfin
        have hfin2 : M.cmT (c.drop (i + 2)) = ((c.drop (i + 2)).take (j + 1 - (i + 2)) ++ (M.cmT (c.drop (j + 1))).1, (j + 1 - (i + 2)) + (M.cmT (c.drop (j + 1))).2) := by
          rw [hfin, TM.out j hj1 hjn]
          simp
          omega
        have HF := Lib.hid hfin2
        clear hst cj hfin hfin2
        go_wp2_with fail
        refine (S1.out).mono ?_
        rintro e w1 ⟨rfl, hb1⟩
        have hb1' := HB.out.trans (hb1.mono HB.out.size)
        go_wp2
        go_roundw
        case rel => exact ⟨j + 1, by go_num, by omega, by omega, HF.out, hb1'⟩
        case measure => simp [intOf]; omega
    · obtain rfl : j = n := by omega
      have t1 : decide ((j : Int) < j) = false := by simp
      have hfin := HCM.out
      rw [CE.out j (Nat.le_refl _)] at hfin
      simp only [List.append_nil] at hfin
      have ht := HT.out
      have hK := HK.out
      rw [hfin] at ht hK
      simp only at ht hK
      have HT := Lib.hid ht
      have HK := Lib.hid hK
      have c1 := HWR.out
      have cb1 := CBR.out
      clear hfin ht hK hjn
      have HK2 := Lib.hid (show ((K : Nat) : Int) = min ((j : Int) + 2) j by have := HK.out; omega)
      by_cases hcap : cap = i + 2
      · have hm0 := Lib.hid (show j - (i + 2) = 0 by omega)
        have HT2 := Lib.hid (show ({ kind := 25, text := M.encZs [] } : M.CT) = t by rw [← HT.out, hm0.out, List.take_zero])
        go_wp2_with fail
        refine (TX0.out _ _ hm0.out).mono ?_
        rintro e w2 ⟨rfl, hb2⟩
        have c2 := c1.trans (hb2.mono c1.size)
        have cb2 := cb1.keep hb2 cb1.lt
        clear c1 cb1 hb2
        go_wp2_with (refine wpl_stT rfl _ _ rfl w.heap.size _ (ctv ({ kind := 25, text := M.encZs [] }) 0) rfl rfl cb2 rfl rfl (ctv_one _ _) ?_)
        go_wp2
        (try simp only [Exit.inBlock, Exit.then])
        refine bodyPost_ret (res_tok rfl _ _ w.heap.size _ _ rfl rfl (CB.set cb2 _) rfl) rfl ⟨(by first | (rw [← HT2.out, HK2.out]; done) | (rw [← HT2.out]; exact etup_ai (by have := HK2.out; omega))), below_setRow c2 (Nat.le_refl _) _⟩
      · go_wp2_with fail
        refine (TX.out _ c1 j hj1 hj2).mono ?_
        rintro e w2 ⟨rfl, hb2⟩
        have c2 := c1.trans (hb2.mono c1.size)
        have cb2 := cb1.keep hb2 cb1.lt
        clear c1 cb1 hb2
        go_wp2_with (refine wpl_stT rfl _ _ rfl w.heap.size _ (ctv ({ kind := 25, text := M.encZs ((c.drop (i + 2)).take (j - (i + 2))) }) 0) rfl rfl cb2 rfl rfl (ctv_one _ _) ?_)
        go_wp2
        (try simp only [Exit.inBlock, Exit.then])
        refine bodyPost_ret (res_tok rfl _ _ w.heap.size _ _ rfl rfl (CB.set cb2 _) rfl) rfl ⟨(by first | (rw [← HT.out, HK2.out]; done) | (rw [← HT.out]; exact etup_ai (by have := HK2.out; omega))), below_setRow c2 (Nat.le_refl _) _⟩
end Go.Proofs.YtpecaalpbeoolaaGreatDoor
