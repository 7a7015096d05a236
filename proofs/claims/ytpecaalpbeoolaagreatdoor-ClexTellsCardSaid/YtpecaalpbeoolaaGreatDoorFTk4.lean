/- Tokens of CSS: the program's function of texts between marks. -/
import Derived.Test.YtpecaalpbeoolaaGreatDoorFTk1
namespace Go.Proofs.YtpecaalpbeoolaaGreatDoor
open Go.RowKit
set_option linter.unusedVariables false
set_option linter.unusedSimpArgs false

theorem strT_atq (q : Int) (c : List Int) (j : Nat) (hj : j < c.length) (h : c.getD j (-1) = q) : M.strT q (c.drop j) = (false, [], 1) := by
  rw [drop_cons c j hj, ← getD_lt c j hj (-1), h]; exact M.strT_end q _
theorem strT_atb (q : Int) (c : List Int) (j : Nat) (hj : j < c.length) (h : c.getD j (-1) = 10) (hq : q ≠ 10) : M.strT q (c.drop j) = (true, [], 0) := by
  rw [drop_cons c j hj, ← getD_lt c j hj (-1), h]; exact M.strT_bad q _ hq
theorem strT_atl (q : Int) (c : List Int) (j : Nat) (hj : j + 1 = c.length) (h : c.getD j (-1) = 92) (hq : q ≠ 92) : M.strT q (c.drop j) = (false, [], 1) := by
  rw [drop_cons c j (by omega), ← getD_lt c j (by omega) (-1), h, List.drop_eq_nil_of_le (by omega)]; exact M.strT_last q hq
theorem strT_atn (q : Int) (c : List Int) (j : Nat) (hj : j + 1 < c.length) (h : c.getD j (-1) = 92) (h2 : c.getD (j + 1) (-1) = 10) (hq : q ≠ 92) : M.strT q (c.drop j) = ((M.strT q (c.drop (j + 2))).1, (M.strT q (c.drop (j + 2))).2.1, 2 + (M.strT q (c.drop (j + 2))).2.2) := by
  rw [drop_cons c j (by omega), ← getD_lt c j (by omega) (-1), h, drop_cons c (j + 1) hj, ← getD_lt c (j + 1) hj (-1), h2]; exact M.strT_line q _ hq
theorem strT_ate (q : Int) (c : List Int) (j : Nat) (hj : j + 1 < c.length) (h : c.getD j (-1) = 92) (h2 : c.getD (j + 1) (-1) ≠ 10) (hq : q ≠ 92) (r : Int) (k : Nat) (hr : M.escV (c.drop (j + 1)) = (r, k)) :
    M.strT q (c.drop j) = ((M.strT q (c.drop (j + 1 + k))).1, r :: (M.strT q (c.drop (j + 1 + k))).2.1, 1 + k + (M.strT q (c.drop (j + 1 + k))).2.2) := by
  have h3 : (c.drop (j + 1)).getD 0 (-1) ≠ 10 := by rw [getD_drop]; exact h2
  have h4 : c.drop (j + 1) ≠ [] := fun e => by have := congrArg List.length e; simp at this; omega
  rw [drop_cons c j (by omega), ← getD_lt c j (by omega) (-1), h, M.strT_esc q _ hq h4 h3, hr, List.drop_drop]
theorem strT_ato (q : Int) (c : List Int) (j : Nat) (hj : j < c.length) (h : c.getD j (-1) ≠ q) (h1 : c.getD j (-1) ≠ 10) (h2 : c.getD j (-1) ≠ 92) :
    M.strT q (c.drop j) = ((M.strT q (c.drop (j + 1))).1, c.getD j (-1) :: (M.strT q (c.drop (j + 1))).2.1, 1 + (M.strT q (c.drop (j + 1))).2.2) := by
  have e := drop_cons c j hj
  rw [← getD_lt c j hj (-1)] at e
  rw [e, M.strT_one q _ _ h h1 h2]
theorem strT_atx (q : Int) (c : List Int) (j : Nat) (hj : c.length ≤ j) : M.strT q (c.drop j) = (false, [], 0) := by rw [List.drop_eq_nil_of_le hj]; exact M.strT_nil q
/-- What is known of a text's tokens on the way. -/
def StAt (q : Int) (c : List Int) (i j : Nat) (pre : List Int) : Prop :=
  M.strT q (c.drop (i + 1)) = ((M.strT q (c.drop j)).1, pre ++ (M.strT q (c.drop j)).2.1, (j - (i + 1)) + (M.strT q (c.drop j)).2.2) ∧ i + 1 ≤ j
theorem StAt.go {q : Int} {c : List Int} {i j : Nat} {pre : List Int} (h : StAt q c i j pre) (m : Nat) (a : List Int) (e : M.strT q (c.drop j) = ((M.strT q (c.drop (j + m))).1, a ++ (M.strT q (c.drop (j + m))).2.1, m + (M.strT q (c.drop (j + m))).2.2)) : StAt q c i (j + m) (pre ++ a) := by
  obtain ⟨h1, h2⟩ := h
  refine ⟨?_, by omega⟩
  rw [h1, e]
  simp
  omega
theorem cps_append (a b : List (Int × Int)) : cps (a ++ b) = cps a ++ cps b := by simp [cps]
theorem encR_cps (l : List (Int × Int)) : M.encR l = M.encZs (cps l) := by unfold M.encR M.encZs cps; rw [List.flatMap_map]
/-- Both cells of code points that lie somewhere. -/
theorem rs_at {w : World} {v : Value} {L : List (Int × Int)} (hv : Rs w v L) {n : Nat} (hn : L.length = n) : ∃ a cap, v = .slice a n cap ∧ n ≤ cap ∧ cap ≤ maxLen ∧ ∀ i, i < n → ∃ b off, a = some ⟨b, off, none⟩ ∧ b < w.heap.size ∧
    w.cell? ⟨b, off + i * 2, none⟩ = some (.int .i64 ((cps L).getD i (-1))) ∧ w.cell? ⟨b, off + i * 2 + 1, none⟩ = some (.int .i64 ((L.map Prod.snd).getD i 0)) := by
  obtain ⟨a, cap, rfl, h1, h2, h3⟩ := rs_open hv hn
  refine ⟨a, cap, rfl, h1, h2, fun i hi => ?_⟩
  obtain ⟨b, off, rfl, hb, hc⟩ := h3 (by omega)
  have := hc i (by omega)
  refine ⟨b, off, rfl, hb, ?_, ?_⟩
  · rw [this.1]; simp [cps, List.getD, show i < L.length by omega]
  · rw [this.2]; simp [List.getD, show i < L.length by omega]
set_option maxRecDepth 100000 in
set_option maxHeartbeats 8000000 in
theorem ftext_any (v : Value) (L : List (Int × Int)) (c : List Int) (i : Nat) (q : Int) (t : M.CT) (K : Nat) (w : World) (hv : Rs w v L) (hc : cps L = c) (hl : L.length ≤ 90000) (hi : i < L.length) (hq : c.getD i (-1) = q) (hq2 : q = 34 ∨ q = 39)
    (ht : (if (M.strT q (c.drop (i + 1))).1 = true then { kind := 6, text := M.encZs ((c.drop i).take (1 + (M.strT q (c.drop (i + 1))).2.2)) } else { kind := 5, text := M.encZs (M.strT q (c.drop (i + 1))).2.1 } : M.CT) = t) (hK : i + (1 + (M.strT q (c.drop (i + 1))).2.2) = K) :
    Calls Tryz.prog 37 #[v, .int .i64 (i : Int)] w (TkR w t K) := by
  have hlc := hv.lc
  rw [hc] at hlc
  have hcl : c.length = L.length := by rw [← hc, cps_len]
  obtain ⟨n, hn⟩ : ∃ n, L.length = n := ⟨_, rfl⟩
  rw [hn] at hl hi hcl
  obtain ⟨a, cap, rfl, h1, h2, h3⟩ := rs_at hv hn
  rw [hc] at h3
  obtain ⟨p, off, rfl, hp, -⟩ := h3 i hi
  have hcell : ∀ j, j < n → w.cell? ⟨p, off + j * 2, none⟩ = some (.int .i64 (c.getD j (-1))) ∧ w.cell? ⟨p, off + j * 2 + 1, none⟩ = some (.int .i64 ((L.map Prod.snd).getD j 0)) := by
    intro j hj
    obtain ⟨b, off', e, _, g1, g2⟩ := h3 j hj
    simp only [Option.some.injEq, Addr.mk.injEq, and_true] at e
    obtain ⟨rfl, rfl⟩ := e
    exact ⟨g1, g2⟩
  have hsub := fun (j : Nat) (h1 : i ≤ j) (h2 : j ≤ n) => rs_sub hv i j h1 h2 p off rfl
  have TX := Lib.hid (fun (W : World) (hW : Below w.heap.size w W) (j : Nat) (h1 : i ≤ j) (h2 : j ≤ n) => ctext_any _ _ (M.encZs ((c.drop i).take (j - i))) W (rs_keep (hsub j h1 h2) hW) (by simp; omega) (by rw [cps_sub, hc]))
  have HLC := Lib.hid hlc
  have HCL := Lib.hid hcl
  have HCE := Lib.hid hcell
  obtain ⟨W0, hW0, cb0, b0, z0⟩ := w0_facts w
  have HW0 := Lib.hid hW0
  have Z0 := Lib.hid z0
  have C0 := Lib.hid b0
  have CB0 := Lib.hid cb0
  have HT := Lib.hid ht
  have HK := Lib.hid hK
  have HQ2 := Lib.hid hq2
  have ci := (hcell i hi).1
  rw [hq] at ci
  have cr := b0.cell (p := ⟨p, off + i * 2, none⟩) hp
  rw [ci] at cr
  have cr' : (w.alloc (.cells #[.int .i64 0, .string ⟨#[]⟩, .string ⟨#[]⟩, .bool false, .string ⟨#[]⟩, .string ⟨#[]⟩, .bool false, .bool false, .int .i64 0, .int .i64 0, .int .i64 0, .int .i64 0, .int .i64 0] 36)).cell? ⟨p, off + i * 2, none⟩ = some (.int .i64 q) := by rw [hW0]; exact cr
  have i1 : (0 : Int) ≤ i := by omega
  have i2 : (i : Int) < n := by omega
  have i3 : (n : Int) ≤ 90000 := by omega
  unfold maxLen at h2
  clear hW0 z0 hv hc hn h3 hsub hlc hcl b0 cb0 ht hK hcell hq hq2 ci cr
  go_enter Tryz.func37, Tryz.ntmps37
  go_wp2
  rw [HW0.out]
  clear cr'
  go_loopw [7, 8, 9, 10] (fun vv ev _ _ wr => ∃ (j : Nat) (pre : List (Int × Int)), ev = .int .i64 (j : Int) ∧ j ≤ n ∧ StAt q c i j (cps pre) ∧ pre.length ≤ j ∧ OwnR W0.heap.size wr vv pre ∧ Below W0.heap.size W0 wr) (fun _ ev _ _ _ => n - (intOf ev).toNat)
  case atStart => exact ⟨i + 1, [], by go_num, by omega, ⟨by simp [cps], Nat.le_refl _⟩, by simp, ownV_nil _ _ _ _, Below.refl _ _⟩
  case round =>
    obtain ⟨j, pre, rfl, hj2, hst, hpl, ho, hb⟩ := hrel
    have hsz := hb.size
    have HST := Lib.hid hst
    have hij := hst.2
    have hw := C0.out.trans (hb.mono (by rw [Z0.out]; omega))
    have HWR := Lib.hid hw
    have CBR := Lib.hid (CB0.out.keep hb (by rw [Z0.out]; omega))
    have j0 : (0 : Int) ≤ j := by omega
    have j1 : (i : Int) ≤ j := by omega
    have j2 : (j : Int) ≤ n := by omega
    clear hst hw
    by_cases hjn : j < n
    · have t1 : decide ((j : Int) < n) = true := by simp; omega
      have j3 : (j : Int) < n := by omega
      obtain ⟨ca, cb⟩ := HCE.out j hjn
      have ra := HWR.out.cell (p := ⟨p, off + j * 2, none⟩) hp
      have rb := HWR.out.cell (p := ⟨p, off + j * 2 + 1, none⟩) hp
      rw [ca] at ra
      rw [cb] at rb
      obtain ⟨y, hy⟩ : ∃ y, c.getD j (-1) = y := ⟨_, rfl⟩
      obtain ⟨z, hz⟩ : ∃ z, (L.map Prod.snd).getD j 0 = z := ⟨_, rfl⟩
      rw [hy] at ra
      rw [hz] at rb
      have HY := Lib.hid hy
      clear ca cb hy hz
      by_cases hyq : y = q
      · have tq : (y != q) = false := by simp [hyq]
        have hs := strT_atq q c j (by rw [HCL.out]; exact hjn) (by rw [HY.out]; exact hyq)
        have hfin := HST.out.1
        rw [hs] at hfin
        simp only [List.append_nil] at hfin
        have ht := HT.out
        have hK := HK.out
        rw [hfin] at ht hK
        simp only [Bool.false_eq_true, if_false] at ht hK
        have HT2 := Lib.hid ht
        have HK2 := Lib.hid (show ((K : Nat) : Int) = min ((j : Int) + 1) n by omega)
        have T1 := Lib.hid (ctext_any u7 pre (M.encZs (cps pre)) wr ho.vs (by omega) (encR_cps pre))
        clear hs hfin ht hK hyq ho hb rb
        as_aux_lemma =>
          go_wp2_with fail
          refine (T1.out).mono ?_
          rintro e w2 ⟨rfl, hb2⟩
          have c2 := HWR.out.trans (hb2.mono HWR.out.size)
          have cb2 := CBR.out.keep hb2 CBR.out.lt
          clear hb2
          go_wp2_with (refine wpl_stT rfl _ _ rfl w.heap.size _ (ctv ({ kind := 5, text := M.encZs (cps pre) }) 0) rfl rfl cb2 rfl rfl (ctv_one _ _) ?_)
          go_wp2
          (try simp only [Exit.inBlock, Exit.then])
          refine bodyPost_ret (res_tok rfl _ _ w.heap.size _ _ rfl rfl (CB.set cb2 _) rfl) rfl ⟨(by first | (rw [← HT2.out, HK2.out]; done) | (rw [← HT2.out]; exact etup_ai (by have := HK2.out; omega))), below_setRow c2 (Nat.le_refl _) _⟩
      · have tq : (y != q) = true := by simpa [bne] using hyq
        by_cases hy10 : y = 10
        · have ta : (y == 10) = true := by simpa using hy10
          have hs := strT_atb q c j (by rw [HCL.out]; exact hjn) (by rw [HY.out]; exact hy10) (by have := HQ2.out; omega)
          have hfin := HST.out.1
          rw [hs] at hfin
          simp only [List.append_nil] at hfin
          have ht := HT.out
          have hK := HK.out
          rw [hfin] at ht hK
          simp only [if_true] at ht hK
          rw [show 1 + (j - (i + 1) + 0) = j - i by omega] at ht
          have HT2 := Lib.hid ht
          obtain rfl : j = K := by omega
          clear hs hfin ht hK hyq ho hb rb hy10
          as_aux_lemma =>
            go_wp2_with fail
            refine (TX.out _ HWR.out j (by omega) hj2).mono ?_
            rintro e w2 ⟨rfl, hb2⟩
            have c2 := HWR.out.trans (hb2.mono HWR.out.size)
            have cb2 := CBR.out.keep hb2 CBR.out.lt
            clear hb2
            go_wp2_with (refine wpl_stT rfl _ _ rfl w.heap.size _ (ctv ({ kind := 6, text := M.encZs ((c.drop i).take (j - i)) }) 0) rfl rfl cb2 rfl rfl (ctv_one _ _) ?_)
            go_wp2
            (try simp only [Exit.inBlock, Exit.then])
            refine bodyPost_ret (res_tok rfl _ _ w.heap.size _ _ rfl rfl (CB.set cb2 _) rfl) rfl ⟨(by rw [← HT2.out]), below_setRow c2 (Nat.le_refl _) _⟩
        · have ta : (y == 10) = false := by simpa using hy10
          by_cases hy92 : y = 92
          · have te : (y == 92) = true := by simpa using hy92
            by_cases hje : j + 1 = n
            · have tl : ((j : Int) + 1 == n) = true := by rw [beq_iff_eq]; omega
              have hs := strT_atl q c j (by rw [HCL.out]; exact hje) (by rw [HY.out]; exact hy92) (by have := HQ2.out; omega)
              have hx := strT_atx q c (j + 1) (by rw [HCL.out]; omega)
              have hnew := Lib.hid (HST.out.go 1 [] (by rw [hs, hx]; rfl))
              have hmn : min ((j : Int) + 2) n = ((j + 1 : Nat) : Int) := by omega
              have HMN := Lib.hid hmn
              clear hs hx hyq hy10 hy92 rb hmn
              as_aux_lemma =>
                go_wp2
                go_roundw
                case rel => exact ⟨j + 1, pre, by first | exact congrArg _ HMN.out | (rw [HMN.out]) | (have := HMN.out; go_num), by omega, by have := hnew.out; simpa using this, by omega, ho, hb⟩
                case measure => (have := HMN.out; simp [intOf]; omega)
            · have tl : ((j : Int) + 1 == n) = false := by rw [beq_eq_false_iff_ne]; omega
              have hj5 : j + 1 < n := by omega
              have j5 : (j : Int) + 1 < n := by omega
              have j6 : ((j : Int) + 1).toNat = j + 1 := by omega
              have ca2 := (HCE.out (j + 1) hj5).1
              have ra2 := HWR.out.cell (p := ⟨p, off + (j + 1) * 2, none⟩) hp
              rw [ca2] at ra2
              obtain ⟨y2, hy2⟩ : ∃ y, c.getD (j + 1) (-1) = y := ⟨_, rfl⟩
              rw [hy2] at ra2
              have HY2 := Lib.hid hy2
              clear ca2 hy2 hje
              by_cases hyn : y2 = 10
              · have tn : (y2 == 10) = true := by simpa using hyn
                have hs := strT_atn q c j (by rw [HCL.out]; exact hj5) (by rw [HY.out]; exact hy92) (by rw [HY2.out]; exact hyn) (by have := HQ2.out; omega)
                have hnew := Lib.hid (HST.out.go 2 [] (by rw [hs]; rfl))
                have hmn : min ((j : Int) + 2) n = ((j + 2 : Nat) : Int) := by omega
                have HMN := Lib.hid hmn
                clear hs hyq hy10 hy92 rb hmn hyn
                as_aux_lemma =>
                  go_wp2
                  go_roundw
                  case rel => exact ⟨j + 2, pre, by first | exact congrArg _ HMN.out | (rw [HMN.out]) | (have := HMN.out; go_num), by omega, by have := hnew.out; simpa using this, by omega, ho, hb⟩
                  case measure => (have := HMN.out; simp [intOf]; omega)
              · have tn : (y2 == 10) = false := by simpa using hyn
                obtain ⟨r, k, hr⟩ : ∃ r k, M.escV (c.drop (j + 1)) = (r, k) := ⟨_, _, rfl⟩
                have hs := strT_ate q c j (by rw [HCL.out]; exact hj5) (by rw [HY.out]; exact hy92) (by rw [HY2.out]; exact hyn) (by have := HQ2.out; omega) r k hr
                have hnew := HST.out.go (1 + k) [r] (by rw [hs, Nat.add_assoc]; rfl)
                have hle := M.escV_le_at c j (by rw [HCL.out]; exact hjn)
                rw [hr, HCL.out] at hle
                simp only at hle
                have E2 := Lib.hid (etake_any _ c j r k wr (HLC.out.keep HWR.out) (by rw [HCL.out]; omega) (by rw [HCL.out]; exact hjn) hr)
                obtain ⟨m, hm⟩ : ∃ m, j + 1 + k = m := ⟨_, rfl⟩
                rw [hm] at hle E2
                rw [show j + (1 + k) = m by omega] at hnew
                have hm2 : j + 1 ≤ m := by omega
                have HNEW := Lib.hid hnew
                clear hs hnew hyq hy10 hy92 rb hyn hr hm
                as_aux_lemma =>
                  go_wp2_with fail
                  refine (E2.out).mono ?_
                  rintro e w' ⟨rfl, rfl⟩
                  go_wp2_with (at_builtin; refine wpl_rune rfl _ _ rfl W0.heap.size _ (.slice (some ⟨wr.heap.size, 0, none⟩) 1 1) pre (pre ++ [(r, 0)]) r 0 rfl (OwnR.keep ho ((Below.refl _ _).alloc (Nat.le_refl _) _)) rfl (one_rune wr r 0) (nnv_some _ _ _) (by omega) (by simp; omega) rfl ?_)
                  intro v3 w3 ho3 hb4
                  have hb5 := (hb.alloc hsz _).trans hb4
                  clear hb hb4 ho
                  go_wp2
                  go_roundw
                  case rel => exact ⟨m, pre ++ [(r, 0)], by first | rfl | go_num, by omega, by have := HNEW.out; rw [cps_append]; exact this, by simp; omega, ho3, hb5⟩
                  case measure => simp [intOf]; omega
          · have te : (y == 92) = false := by simpa using hy92
            have hs := strT_ato q c j (by rw [HCL.out]; exact hjn) (by rw [HY.out]; exact hyq) (by rw [HY.out]; exact hy10) (by rw [HY.out]; exact hy92)
            rw [HY.out] at hs
            have hnew := Lib.hid (HST.out.go 1 [y] (by rw [hs]; rfl))
            clear hs hyq hy10 hy92
            as_aux_lemma =>
              go_wp2_with (at_builtin; refine wpl_rune rfl _ _ rfl W0.heap.size _ (.slice (some ⟨wr.heap.size, 0, none⟩) 1 1) pre (pre ++ [(y, z)]) y z rfl (OwnR.keep ho ((Below.refl _ _).alloc (Nat.le_refl _) _)) rfl (one_rune wr y z) (nnv_some _ _ _) (by omega) (by simp; omega) rfl ?_)
              intro v3 w3 ho3 hb4
              have hb5 := (hb.alloc hsz _).trans hb4
              clear hb hb4 ho
              go_wp2
              go_roundw
              case rel => exact ⟨j + 1, pre ++ [(y, z)], by go_num, by omega, by have := hnew.out; rw [cps_append]; exact this, by simp; omega, ho3, hb5⟩
              case measure => simp [intOf]; omega
    · obtain rfl : j = n := by omega
      have t1 : decide ((j : Int) < j) = false := by simp
      have hs := strT_atx q c j (by rw [HCL.out]; exact Nat.le_refl _)
      have hfin := HST.out.1
      rw [hs] at hfin
      simp only [List.append_nil] at hfin
      have ht := HT.out
      have hK := HK.out
      rw [hfin] at ht hK
      simp only [Bool.false_eq_true, if_false] at ht hK
      have HT2 := Lib.hid ht
      have HK2 := Lib.hid (show ((K : Nat) : Int) = min ((j : Int) + 1) j by omega)
      have T1 := Lib.hid (ctext_any u7 pre (M.encZs (cps pre)) wr ho.vs (by omega) (encR_cps pre))
      clear hs hfin ht hK ho hb hjn
      as_aux_lemma =>
        go_wp2_with fail
        refine (T1.out).mono ?_
        rintro e w2 ⟨rfl, hb2⟩
        have c2 := HWR.out.trans (hb2.mono HWR.out.size)
        have cb2 := CBR.out.keep hb2 CBR.out.lt
        clear hb2
        go_wp2_with (refine wpl_stT rfl _ _ rfl w.heap.size _ (ctv ({ kind := 5, text := M.encZs (cps pre) }) 0) rfl rfl cb2 rfl rfl (ctv_one _ _) ?_)
        go_wp2
        (try simp only [Exit.inBlock, Exit.then])
        refine bodyPost_ret (res_tok rfl _ _ w.heap.size _ _ rfl rfl (CB.set cb2 _) rfl) rfl ⟨(by first | (rw [← HT2.out, HK2.out]; done) | (rw [← HT2.out]; exact etup_ai (by have := HK2.out; omega))), below_setRow c2 (Nat.le_refl _) _⟩
end Go.Proofs.YtpecaalpbeoolaaGreatDoor
