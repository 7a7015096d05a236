/- Tokens of CSS: the program's function of urls. -/
import Derived.Test.YtpecaalpbeoolaaGreatDoorFTk4
namespace Go.Proofs.YtpecaalpbeoolaaGreatDoor
open Go.RowKit
set_option linter.unusedVariables false
set_option linter.unusedSimpArgs false

theorem urlT_atx (b s : Bool) (c : List Int) (j : Nat) (hj : c.length ≤ j) : M.urlT b s (c.drop j) = (b, [], 0) := by rw [List.drop_eq_nil_of_le hj, M.urlT]
theorem urlT_atp (b s : Bool) (c : List Int) (j : Nat) (hj : j < c.length) (h : c.getD j (-1) = 41) : M.urlT b s (c.drop j) = (b, [], 1) := by
  rw [drop_cons c j hj, ← getD_lt c j hj (-1), h, M.urlT, if_pos rfl]
theorem urlT_ate (b s : Bool) (c : List Int) (j : Nat) (hj : j < c.length) (h : c.getD j (-1) ≠ 41) (he : M.esB (c.drop j) = true) (r : Int) (k : Nat) (hr : M.escV (c.drop (j + 1)) = (r, k)) :
    M.urlT b s (c.drop j) = ((M.urlT (b || s) s (c.drop (j + 1 + k))).1, r :: (M.urlT (b || s) s (c.drop (j + 1 + k))).2.1, 1 + k + (M.urlT (b || s) s (c.drop (j + 1 + k))).2.2) := by
  rw [drop_cons c j hj] at he ⊢
  rw [M.urlT, if_neg (by rw [← getD_lt c j hj (-1)]; exact h), if_pos he, hr, List.drop_drop]
theorem urlT_atb (b s : Bool) (c : List Int) (j : Nat) (hj : j < c.length) (h : c.getD j (-1) ≠ 41) (he : M.esB (c.drop j) = false) (hb : M.isBl (c.getD j (-1)) = true) :
    M.urlT b s (c.drop j) = ((M.urlT b true (c.drop (j + 1))).1, (M.urlT b true (c.drop (j + 1))).2.1, 1 + (M.urlT b true (c.drop (j + 1))).2.2) := by
  rw [drop_cons c j hj] at he ⊢
  rw [getD_lt c j hj] at h hb
  rw [M.urlT, if_neg h, if_neg (by rw [he]; simp), if_pos hb]
theorem urlT_ato (b s : Bool) (c : List Int) (j : Nat) (hj : j < c.length) (h : c.getD j (-1) ≠ 41) (he : M.esB (c.drop j) = false) (hb : M.isBl (c.getD j (-1)) = false) :
    M.urlT b s (c.drop j) = ((M.urlT (b || s || !M.inU (c.getD j (-1))) s (c.drop (j + 1))).1, c.getD j (-1) :: (M.urlT (b || s || !M.inU (c.getD j (-1))) s (c.drop (j + 1))).2.1, 1 + (M.urlT (b || s || !M.inU (c.getD j (-1))) s (c.drop (j + 1))).2.2) := by
  rw [drop_cons c j hj] at he ⊢
  rw [getD_lt c j hj] at h hb ⊢
  rw [M.urlT, if_neg h, if_neg (by rw [he]; simp), if_neg (by rw [hb]; simp)]
/-- What is known of a url on the way. -/
def UtAt (c : List Int) (i j : Nat) (pre : List Int) (b s : Bool) : Prop :=
  M.urlT false false (c.drop i) = ((M.urlT b s (c.drop j)).1, pre ++ (M.urlT b s (c.drop j)).2.1, (j - i) + (M.urlT b s (c.drop j)).2.2) ∧ i ≤ j
theorem UtAt.go {c : List Int} {i j : Nat} {pre : List Int} {b s : Bool} (h : UtAt c i j pre b s) (m : Nat) (a : List Int) (b' s' : Bool) (e : M.urlT b s (c.drop j) = ((M.urlT b' s' (c.drop (j + m))).1, a ++ (M.urlT b' s' (c.drop (j + m))).2.1, m + (M.urlT b' s' (c.drop (j + m))).2.2)) : UtAt c i (j + m) (pre ++ a) b' s' := by
  obtain ⟨h1, h2⟩ := h
  refine ⟨?_, by omega⟩
  rw [h1, e]
  simp
  omega
set_option maxRecDepth 100000 in
set_option maxHeartbeats 8000000 in
theorem furl_any (v : Value) (L : List (Int × Int)) (c : List Int) (i k : Nat) (t : M.CT) (K : Nat) (w : World) (hv : Rs w v L) (hc : cps L = c) (hl : L.length ≤ 90000) (hi : i < L.length) (hik : i ≤ k) (hk : k ≤ L.length)
    (ht : (if (M.urlT false false (c.drop k)).1 = true then { kind := 8, text := M.encZs ((c.drop i).take (K - i)) } else { kind := 7, text := M.encZs (M.urlT false false (c.drop k)).2.1 } : M.CT) = t) (hK : k + (M.urlT false false (c.drop k)).2.2 = K) :
    Calls Tryz.prog 77 #[v, .int .i64 (i : Int), .int .i64 (k : Int)] w (TkR w t K) := by
  have hlc := hv.lc
  rw [hc] at hlc
  have hcl : c.length = L.length := by rw [← hc, cps_len]
  have hKn : K ≤ L.length := by
    have := (M.urlT_le _ false false (c.drop k) (Nat.le_refl _)).1
    rw [List.length_drop, hcl] at this; omega
  obtain ⟨n, hn⟩ : ∃ n, L.length = n := ⟨_, rfl⟩
  rw [hn] at hl hi hcl hk hKn
  obtain ⟨a, cap, rfl, h1, h2, h3⟩ := rs_at hv hn
  rw [hc] at h3
  obtain ⟨p, off, rfl, hp, -⟩ := h3 i hi
  have hcell : ∀ j, j < n → w.cell? ⟨p, off + j * 2, none⟩ = some (.int .i64 (c.getD j (-1))) ∧ w.cell? ⟨p, off + j * 2 + 1, none⟩ = some (.int .i64 ((L.map Prod.snd).getD j 0)) := by
    intro j hj
    obtain ⟨b, off', e, _, g1, g2⟩ := h3 j hj
    simp only [Option.some.injEq, Addr.mk.injEq, and_true] at e
    obtain ⟨rfl, rfl⟩ := e
    exact ⟨g1, g2⟩
  have hsub := fun (j : Nat) (h1 : i ≤ j) (h2 : j ≤ n) => rs_sub hv i j h1 h2 p off rfl
  have TX := Lib.hid (fun (W : World) (hW : Below w.heap.size w W) (j : Nat) (h1 : i ≤ j) (h2 : j ≤ n) => ctext_any _ _ (M.encZs ((c.drop i).take (j - i))) W (rs_keep (hsub j h1 h2) hW) (by simp; omega) (by rw [cps_sub, hc]))
  have HLC := Lib.hid hlc
  have HCL := Lib.hid hcl
  have HCE := Lib.hid hcell
  obtain ⟨W0, hW0, cb0, b0, z0⟩ := w0_facts w
  have HW0 := Lib.hid hW0
  have Z0 := Lib.hid z0
  have C0 := Lib.hid b0
  have CB0 := Lib.hid cb0
  have HT := Lib.hid ht
  have HK := Lib.hid hK
  have i1 : (0 : Int) ≤ i := by omega
  have i2 : (i : Int) < n := by omega
  have i3 : (n : Int) ≤ 90000 := by omega
  have HKN := Lib.hid hKn
  have hkI : (k : Int) ≤ n := by omega
  unfold maxLen at h2
  clear hW0 z0 hv hc hn h3 hsub hlc hcl b0 cb0 ht hK hcell hKn
  go_enter Tryz.func77, Tryz.ntmps77
  go_wp2
  rw [HW0.out]
  go_loopw [8, 9, 10, 11, 12, 13] (fun tv bv sv ev _ _ wr => ∃ (j : Nat) (pre : List (Int × Int)) (b s : Bool), bv = .bool b ∧ sv = .bool s ∧ ev = .int .i64 (j : Int) ∧ j ≤ n ∧ UtAt c k j (cps pre) b s ∧ pre.length ≤ j ∧ OwnR W0.heap.size wr tv pre ∧ Below W0.heap.size W0 wr) (fun _ _ _ ev _ _ _ => n - (intOf ev).toNat)
  case atStart => exact ⟨k, [], false, false, rfl, rfl, rfl, hk, ⟨by simp [cps], Nat.le_refl _⟩, by simp, ownV_nil _ _ _ _, Below.refl _ _⟩
  case round =>
    obtain ⟨j, pre, b, s, rfl, rfl, rfl, hj2, hst, hpl, ho, hb⟩ := hrel
    have hsz := hb.size
    have HST := Lib.hid hst
    have hij := hst.2
    have hw := C0.out.trans (hb.mono (by rw [Z0.out]; omega))
    have HWR := Lib.hid hw
    have CBR := Lib.hid (CB0.out.keep hb (by rw [Z0.out]; omega))
    have j0 : (0 : Int) ≤ j := by omega
    have j1 : (i : Int) ≤ j := by omega
    have j2 : (j : Int) ≤ n := by omega
    clear hst hw
    by_cases hjn : j < n
    · have t1 : decide ((j : Int) < n) = true := by simp; omega
      have j3 : (j : Int) < n := by omega
      obtain ⟨ca, cb⟩ := HCE.out j hjn
      have ra := HWR.out.cell (p := ⟨p, off + j * 2, none⟩) hp
      have rb := HWR.out.cell (p := ⟨p, off + j * 2 + 1, none⟩) hp
      rw [ca] at ra
      rw [cb] at rb
      obtain ⟨y, hy⟩ : ∃ y, c.getD j (-1) = y := ⟨_, rfl⟩
      obtain ⟨z, hz⟩ : ∃ z, (L.map Prod.snd).getD j 0 = z := ⟨_, rfl⟩
      rw [hy] at ra
      rw [hz] at rb
      have HY := Lib.hid hy
      clear ca cb hy hz
      by_cases hyq : y = 41
      · have tq : (y != 41) = false := by simp [hyq]
        have hs := urlT_atp b s c j (by rw [HCL.out]; exact hjn) (by rw [HY.out]; exact hyq)
        clear hyq rb
        have hfin := HST.out.1
        rw [hs] at hfin
        simp only [List.append_nil] at hfin
        have ht := HT.out
        have hK := HK.out
        rw [hfin] at ht hK
        simp only at ht hK
        have hmn : min ((j : Int) + 1) (n : Int) = ((K : Nat) : Int) := by omega
        have hiK : i ≤ K := by omega
        have hKn := HKN.out
        have g1 : (i : Int) ≤ K := by omega
        have g2 : (K : Int) ≤ cap := by omega
        have g3 : (j : Int) + 1 ≤ 90001 := by omega
        have T1 := Lib.hid (ctext_any u8 pre (M.encZs (cps pre)) wr ho.vs (by omega) (encR_cps pre))
        clear hs hfin hK ho hb
        cases b with
        | true =>
          simp only [if_true] at ht
          have HT2 := Lib.hid ht
          clear ht
          as_aux_lemma =>
            go_wp2_with fail
            refine (TX.out _ HWR.out K hiK hKn).mono ?_
            rintro e w2 ⟨rfl, hb2⟩
            have c2 := HWR.out.trans (hb2.mono HWR.out.size)
            have cb2 := CBR.out.keep hb2 CBR.out.lt
            clear hb2
            go_wp2_with (refine wpl_stT rfl _ _ rfl w.heap.size _ (ctv ({ kind := 8, text := M.encZs ((c.drop i).take (K - i)) }) 0) rfl rfl cb2 rfl rfl (ctv_one _ _) ?_)
            go_wp2
            (try simp only [Exit.inBlock, Exit.then])
            refine bodyPost_ret (res_tok rfl _ _ w.heap.size _ _ rfl rfl (CB.set cb2 _) rfl) rfl ⟨(by rw [← HT2.out]), below_setRow c2 (Nat.le_refl _) _⟩
        | false =>
          simp only [Bool.false_eq_true, if_false] at ht
          have HT2 := Lib.hid ht
          clear ht
          as_aux_lemma =>
            go_wp2_with fail
            refine (T1.out).mono ?_
            rintro e w2 ⟨rfl, hb2⟩
            have c2 := HWR.out.trans (hb2.mono HWR.out.size)
            have cb2 := CBR.out.keep hb2 CBR.out.lt
            clear hb2
            go_wp2_with (refine wpl_stT rfl _ _ rfl w.heap.size _ (ctv ({ kind := 7, text := M.encZs (cps pre) }) 0) rfl rfl cb2 rfl rfl (ctv_one _ _) ?_)
            go_wp2
            (try simp only [Exit.inBlock, Exit.then])
            refine bodyPost_ret (res_tok rfl _ _ w.heap.size _ _ rfl rfl (CB.set cb2 _) rfl) rfl ⟨(by rw [← HT2.out]), below_setRow c2 (Nat.le_refl _) _⟩
      · have tq : (y != 41) = true := by simpa [bne] using hyq
        have tq2 : (y == 41) = false := by simpa using hyq
        cases he : M.esB (c.drop j) with
        | true =>
          have E1 := Lib.hid (ebegins_any _ c j true wr (HLC.out.keep HWR.out) (by rw [HCL.out]; omega) (by rw [if_neg (by omega)]; simpa using he))
          obtain ⟨r, m0, hr⟩ : ∃ r k, M.escV (c.drop (j + 1)) = (r, k) := ⟨_, _, rfl⟩
          have hs := urlT_ate b s c j (by rw [HCL.out]; exact hjn) (by rw [HY.out]; exact hyq) he r m0 hr
          have hnew := HST.out.go (1 + m0) [r] (b || s) s (by rw [hs, Nat.add_assoc]; rfl)
          have hle := M.escV_le_at c j (by rw [HCL.out]; exact hjn)
          rw [hr, HCL.out] at hle
          simp only at hle
          have E2 := Lib.hid (etake_any _ c j r m0 wr (HLC.out.keep HWR.out) (by rw [HCL.out]; omega) (by rw [HCL.out]; exact hjn) hr)
          obtain ⟨m, hm⟩ : ∃ m, j + 1 + m0 = m := ⟨_, rfl⟩
          rw [hm] at hle E2
          rw [show j + (1 + m0) = m by omega] at hnew
          have hm2 : j + 1 ≤ m := by omega
          have HNEW := Lib.hid hnew
          clear hs hnew hyq rb hr hm he
          cases b with
          | true =>
            cases s with
            | true =>
              as_aux_lemma =>
                go_wp2_with fail
                refine (E1.out).mono ?_
                rintro e w' ⟨rfl, rfl⟩
                go_wp2_with fail
                refine (E2.out).mono ?_
                rintro e w' ⟨rfl, rfl⟩
                go_wp2_with (at_builtin; refine wpl_rune rfl _ _ rfl W0.heap.size _ (.slice (some ⟨wr.heap.size, 0, none⟩) 1 1) pre (pre ++ [(r, 0)]) r 0 rfl (OwnR.keep ho ((Below.refl _ _).alloc (Nat.le_refl _) _)) rfl (one_rune wr r 0) (nnv_some _ _ _) (by omega) (by simp; omega) rfl ?_)
                intro v3 w3 ho3 hb4
                have hb5 := (hb.alloc hsz _).trans hb4
                clear hb hb4 ho
                go_wp2
                go_roundw
                case rel => exact ⟨m, pre ++ [(r, 0)], true, true, rfl, rfl, by first | rfl | go_num, by omega, by have := HNEW.out; rw [cps_append]; exact this, by simp; omega, ho3, hb5⟩
                case measure => simp [intOf]; omega
            | false =>
              as_aux_lemma =>
                go_wp2_with fail
                refine (E1.out).mono ?_
                rintro e w' ⟨rfl, rfl⟩
                go_wp2_with fail
                refine (E2.out).mono ?_
                rintro e w' ⟨rfl, rfl⟩
                go_wp2_with (at_builtin; refine wpl_rune rfl _ _ rfl W0.heap.size _ (.slice (some ⟨wr.heap.size, 0, none⟩) 1 1) pre (pre ++ [(r, 0)]) r 0 rfl (OwnR.keep ho ((Below.refl _ _).alloc (Nat.le_refl _) _)) rfl (one_rune wr r 0) (nnv_some _ _ _) (by omega) (by simp; omega) rfl ?_)
                intro v3 w3 ho3 hb4
                have hb5 := (hb.alloc hsz _).trans hb4
                clear hb hb4 ho
                go_wp2
                go_roundw
                case rel => exact ⟨m, pre ++ [(r, 0)], true, false, rfl, rfl, by first | rfl | go_num, by omega, by have := HNEW.out; rw [cps_append]; exact this, by simp; omega, ho3, hb5⟩
                case measure => simp [intOf]; omega
          | false =>
            cases s with
            | true =>
              as_aux_lemma =>
                go_wp2_with fail
                refine (E1.out).mono ?_
                rintro e w' ⟨rfl, rfl⟩
                go_wp2_with fail
                refine (E2.out).mono ?_
                rintro e w' ⟨rfl, rfl⟩
                go_wp2_with (at_builtin; refine wpl_rune rfl _ _ rfl W0.heap.size _ (.slice (some ⟨wr.heap.size, 0, none⟩) 1 1) pre (pre ++ [(r, 0)]) r 0 rfl (OwnR.keep ho ((Below.refl _ _).alloc (Nat.le_refl _) _)) rfl (one_rune wr r 0) (nnv_some _ _ _) (by omega) (by simp; omega) rfl ?_)
                intro v3 w3 ho3 hb4
                have hb5 := (hb.alloc hsz _).trans hb4
                clear hb hb4 ho
                go_wp2
                go_roundw
                case rel => exact ⟨m, pre ++ [(r, 0)], true, true, rfl, rfl, by first | rfl | go_num, by omega, by have := HNEW.out; rw [cps_append]; exact this, by simp; omega, ho3, hb5⟩
                case measure => simp [intOf]; omega
            | false =>
              as_aux_lemma =>
                go_wp2_with fail
                refine (E1.out).mono ?_
                rintro e w' ⟨rfl, rfl⟩
                go_wp2_with fail
                refine (E2.out).mono ?_
                rintro e w' ⟨rfl, rfl⟩
                go_wp2_with (at_builtin; refine wpl_rune rfl _ _ rfl W0.heap.size _ (.slice (some ⟨wr.heap.size, 0, none⟩) 1 1) pre (pre ++ [(r, 0)]) r 0 rfl (OwnR.keep ho ((Below.refl _ _).alloc (Nat.le_refl _) _)) rfl (one_rune wr r 0) (nnv_some _ _ _) (by omega) (by simp; omega) rfl ?_)
                intro v3 w3 ho3 hb4
                have hb5 := (hb.alloc hsz _).trans hb4
                clear hb hb4 ho
                go_wp2
                go_roundw
                case rel => exact ⟨m, pre ++ [(r, 0)], false, false, rfl, rfl, by first | rfl | go_num, by omega, by have := HNEW.out; rw [cps_append]; exact this, by simp; omega, ho3, hb5⟩
                case measure => simp [intOf]; omega
        | false =>
          have E1 := Lib.hid (ebegins_any _ c j false wr (HLC.out.keep HWR.out) (by rw [HCL.out]; omega) (by rw [if_neg (by omega)]; simpa using he))
          cases hbl : M.isBl (c.getD j (-1)) with
          | true =>
            have hs := urlT_atb b s c j (by rw [HCL.out]; exact hjn) (by rw [HY.out]; exact hyq) he hbl
            have hnew := Lib.hid (HST.out.go 1 [] b true (by rw [hs]; rfl))
            rw [HY.out] at hbl
            have X1 := Lib.hid (isbl_any y true wr hbl)
            clear hs hyq rb he hbl
            as_aux_lemma =>
              go_wp2_with fail
              refine (E1.out).mono ?_
              rintro e w' ⟨rfl, rfl⟩
              go_wp2_with fail
              refine (X1.out).mono ?_
              rintro e w' ⟨rfl, rfl⟩
              go_wp2
              go_roundw
              case rel => exact ⟨j + 1, pre, b, true, rfl, rfl, by go_num, by omega, by have := hnew.out; simpa using this, by omega, ho, hb⟩
              case measure => simp [intOf]; omega
          | false =>
            have hs := urlT_ato b s c j (by rw [HCL.out]; exact hjn) (by rw [HY.out]; exact hyq) he hbl
            rw [HY.out] at hs hbl
            have hnew := HST.out.go 1 [y] (b || s || !M.inU y) s (by rw [hs]; rfl)
            have X1 := Lib.hid (isbl_any y false wr hbl)
            have IU := Lib.hid (finu_any y _ wr rfl)
            obtain ⟨g, hg⟩ : ∃ g, M.inU y = g := ⟨_, rfl⟩
            rw [hg] at hnew IU
            have HNEW := Lib.hid hnew
            clear hs hyq he hbl hg hnew
            cases b with
            | true =>
              cases s with
              | true =>
                as_aux_lemma =>
                  go_wp2_with fail
                  refine (E1.out).mono ?_
                  rintro e w' ⟨rfl, rfl⟩
                  go_wp2_with fail
                  refine (X1.out).mono ?_
                  rintro e w' ⟨rfl, rfl⟩
                  go_wp2_with (at_builtin; refine wpl_rune rfl _ _ rfl W0.heap.size _ (.slice (some ⟨wr.heap.size, 0, none⟩) 1 1) pre (pre ++ [(y, z)]) y z rfl (OwnR.keep ho ((Below.refl _ _).alloc (Nat.le_refl _) _)) rfl (one_rune wr y z) (nnv_some _ _ _) (by omega) (by simp; omega) rfl ?_)
                  intro v3 w3 ho3 hb4
                  have hb5 := (hb.alloc hsz _).trans hb4
                  clear hb hb4 ho
                  go_wp2
                  go_roundw
                  case rel => exact ⟨j + 1, pre ++ [(y, z)], true, true, rfl, rfl, by go_num, by omega, by have := HNEW.out; rw [cps_append]; exact this, by simp; omega, ho3, hb5⟩
                  case measure => simp [intOf]; omega
              | false =>
                as_aux_lemma =>
                  go_wp2_with fail
                  refine (E1.out).mono ?_
                  rintro e w' ⟨rfl, rfl⟩
                  go_wp2_with fail
                  refine (X1.out).mono ?_
                  rintro e w' ⟨rfl, rfl⟩
                  go_wp2_with (at_builtin; refine wpl_rune rfl _ _ rfl W0.heap.size _ (.slice (some ⟨wr.heap.size, 0, none⟩) 1 1) pre (pre ++ [(y, z)]) y z rfl (OwnR.keep ho ((Below.refl _ _).alloc (Nat.le_refl _) _)) rfl (one_rune wr y z) (nnv_some _ _ _) (by omega) (by simp; omega) rfl ?_)
                  intro v3 w3 ho3 hb4
                  have hb5 := (hb.alloc hsz _).trans hb4
                  clear hb hb4 ho
                  go_wp2
                  go_roundw
                  case rel => exact ⟨j + 1, pre ++ [(y, z)], true, false, rfl, rfl, by go_num, by omega, by have := HNEW.out; rw [cps_append]; exact this, by simp; omega, ho3, hb5⟩
                  case measure => simp [intOf]; omega
            | false =>
              cases s with
              | true =>
                as_aux_lemma =>
                  go_wp2_with fail
                  refine (E1.out).mono ?_
                  rintro e w' ⟨rfl, rfl⟩
                  go_wp2_with fail
                  refine (X1.out).mono ?_
                  rintro e w' ⟨rfl, rfl⟩
                  go_wp2_with (at_builtin; refine wpl_rune rfl _ _ rfl W0.heap.size _ (.slice (some ⟨wr.heap.size, 0, none⟩) 1 1) pre (pre ++ [(y, z)]) y z rfl (OwnR.keep ho ((Below.refl _ _).alloc (Nat.le_refl _) _)) rfl (one_rune wr y z) (nnv_some _ _ _) (by omega) (by simp; omega) rfl ?_)
                  intro v3 w3 ho3 hb4
                  have hb5 := (hb.alloc hsz _).trans hb4
                  clear hb hb4 ho
                  go_wp2
                  go_roundw
                  case rel => exact ⟨j + 1, pre ++ [(y, z)], true, true, rfl, rfl, by go_num, by omega, by have := HNEW.out; rw [cps_append]; exact this, by simp; omega, ho3, hb5⟩
                  case measure => simp [intOf]; omega
              | false =>
                cases g with
                | true =>
                  as_aux_lemma =>
                    go_wp2_with fail
                    refine (E1.out).mono ?_
                    rintro e w' ⟨rfl, rfl⟩
                    go_wp2_with fail
                    refine (X1.out).mono ?_
                    rintro e w' ⟨rfl, rfl⟩
                    go_wp2_with fail
                    refine (IU.out).mono ?_
                    rintro e w' ⟨rfl, rfl⟩
                    go_wp2_with (at_builtin; refine wpl_rune rfl _ _ rfl W0.heap.size _ (.slice (some ⟨wr.heap.size, 0, none⟩) 1 1) pre (pre ++ [(y, z)]) y z rfl (OwnR.keep ho ((Below.refl _ _).alloc (Nat.le_refl _) _)) rfl (one_rune wr y z) (nnv_some _ _ _) (by omega) (by simp; omega) rfl ?_)
                    intro v3 w3 ho3 hb4
                    have hb5 := (hb.alloc hsz _).trans hb4
                    clear hb hb4 ho
                    go_wp2
                    go_roundw
                    case rel => exact ⟨j + 1, pre ++ [(y, z)], false, false, rfl, rfl, by go_num, by omega, by have := HNEW.out; rw [cps_append]; exact this, by simp; omega, ho3, hb5⟩
                    case measure => simp [intOf]; omega
                | false =>
                  as_aux_lemma =>
                    go_wp2_with fail
                    refine (E1.out).mono ?_
                    rintro e w' ⟨rfl, rfl⟩
                    go_wp2_with fail
                    refine (X1.out).mono ?_
                    rintro e w' ⟨rfl, rfl⟩
                    go_wp2_with fail
                    refine (IU.out).mono ?_
                    rintro e w' ⟨rfl, rfl⟩
                    go_wp2_with (at_builtin; refine wpl_rune rfl _ _ rfl W0.heap.size _ (.slice (some ⟨wr.heap.size, 0, none⟩) 1 1) pre (pre ++ [(y, z)]) y z rfl (OwnR.keep ho ((Below.refl _ _).alloc (Nat.le_refl _) _)) rfl (one_rune wr y z) (nnv_some _ _ _) (by omega) (by simp; omega) rfl ?_)
                    intro v3 w3 ho3 hb4
                    have hb5 := (hb.alloc hsz _).trans hb4
                    clear hb hb4 ho
                    go_wp2
                    go_roundw
                    case rel => exact ⟨j + 1, pre ++ [(y, z)], true, false, rfl, rfl, by go_num, by omega, by have := HNEW.out; rw [cps_append]; exact this, by simp; omega, ho3, hb5⟩
                    case measure => simp [intOf]; omega
    · obtain rfl : j = n := by omega
      have t1 : decide ((j : Int) < j) = false := by simp
      have hs := urlT_atx b s c j (by rw [HCL.out]; exact Nat.le_refl _)
      clear hjn
      have hfin := HST.out.1
      rw [hs] at hfin
      simp only [List.append_nil] at hfin
      have ht := HT.out
      have hK := HK.out
      rw [hfin] at ht hK
      simp only at ht hK
      have hmn : min ((j : Int) + 1) (j : Int) = ((K : Nat) : Int) := by omega
      have hiK : i ≤ K := by omega
      have hKn := HKN.out
      have g1 : (i : Int) ≤ K := by omega
      have g2 : (K : Int) ≤ cap := by omega
      have g3 : (j : Int) + 1 ≤ 90001 := by omega
      have T1 := Lib.hid (ctext_any u8 pre (M.encZs (cps pre)) wr ho.vs (by omega) (encR_cps pre))
      clear hs hfin hK ho hb
      cases b with
      | true =>
        simp only [if_true] at ht
        have HT2 := Lib.hid ht
        clear ht
        as_aux_lemma =>
          go_wp2_with fail
          refine (TX.out _ HWR.out K hiK hKn).mono ?_
          rintro e w2 ⟨rfl, hb2⟩
          have c2 := HWR.out.trans (hb2.mono HWR.out.size)
          have cb2 := CBR.out.keep hb2 CBR.out.lt
          clear hb2
          go_wp2_with (refine wpl_stT rfl _ _ rfl w.heap.size _ (ctv ({ kind := 8, text := M.encZs ((c.drop i).take (K - i)) }) 0) rfl rfl cb2 rfl rfl (ctv_one _ _) ?_)
          go_wp2
          (try simp only [Exit.inBlock, Exit.then])
          refine bodyPost_ret (res_tok rfl _ _ w.heap.size _ _ rfl rfl (CB.set cb2 _) rfl) rfl ⟨(by rw [← HT2.out]), below_setRow c2 (Nat.le_refl _) _⟩
      | false =>
        simp only [Bool.false_eq_true, if_false] at ht
        have HT2 := Lib.hid ht
        clear ht
        as_aux_lemma =>
          go_wp2_with fail
          refine (T1.out).mono ?_
          rintro e w2 ⟨rfl, hb2⟩
          have c2 := HWR.out.trans (hb2.mono HWR.out.size)
          have cb2 := CBR.out.keep hb2 CBR.out.lt
          clear hb2
          go_wp2_with (refine wpl_stT rfl _ _ rfl w.heap.size _ (ctv ({ kind := 7, text := M.encZs (cps pre) }) 0) rfl rfl cb2 rfl rfl (ctv_one _ _) ?_)
          go_wp2
          (try simp only [Exit.inBlock, Exit.then])
          refine bodyPost_ret (res_tok rfl _ _ w.heap.size _ _ rfl rfl (CB.set cb2 _) rfl) rfl ⟨(by rw [← HT2.out]), below_setRow c2 (Nat.le_refl _) _⟩
end Go.Proofs.YtpecaalpbeoolaaGreatDoor
