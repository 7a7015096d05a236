import Derived.Test.YtimjbjppmhdjnaaGreatDoorMgL
import Derived.Test.YtimjbjppmhdjnaaGreatDoorMgD
import Derived.Test.YtimjbjppmhdjnaaGreatDoorMgM
import Derived.Great.BuildSlice
import Derived.OneCell
set_option maxHeartbeats 8000000
set_option maxRecDepth 100000
namespace Go.Proofs.YtimjbjppmhdjnaaGreatDoor
open Go.RowKit
set_option linter.unusedVariables false
set_option linter.unusedSimpArgs false
theorem urlT_atx (b s : Bool) (c : List Int) (j : Nat) (hj : c.length <= j) : M.urlT b s (c.drop j) = (b, [], 0) := by rw [List.drop_eq_nil_of_le hj, M.urlT]
theorem urlT_atp (b s : Bool) (c : List Int) (j : Nat) (hj : j < c.length) (h : c.getD j (-1) = 41) : M.urlT b s (c.drop j) = (b, [], 1) := by
 rw [drop_cons c j hj, <- getD_lt c j hj (-1), h, M.urlT, if_pos rfl]
theorem urlT_ate (b s : Bool) (c : List Int) (j : Nat) (hj : j < c.length) (h : c.getD j (-1) ≠ 41) (he : M.esB (c.drop j) = true) (r : Int) (k : Nat) (hr : M.escV (c.drop (j + 1)) = (r, k)) :
  M.urlT b s (c.drop j) = ((M.urlT (b || s) s (c.drop (j + 1 + k))).1, r :: (M.urlT (b || s) s (c.drop (j + 1 + k))).2.1, 1 + k + (M.urlT (b || s) s (c.drop (j + 1 + k))).2.2) := by
 rw [drop_cons c j hj] at he ⊢
 rw [M.urlT, if_neg (by rw [<- getD_lt c j hj (-1)]; exact h), if_pos he, hr, List.drop_drop]
theorem urlT_atb (b s : Bool) (c : List Int) (j : Nat) (hj : j < c.length) (h : c.getD j (-1) ≠ 41) (he : M.esB (c.drop j) = false) (hb : M.isBl (c.getD j (-1)) = true) :
  M.urlT b s (c.drop j) = ((M.urlT b true (c.drop (j + 1))).1, (M.urlT b true (c.drop (j + 1))).2.1, 1 + (M.urlT b true (c.drop (j + 1))).2.2) := by
 rw [drop_cons c j hj] at he ⊢
 rw [getD_lt c j hj] at h hb
 rw [M.urlT, if_neg h, if_neg (by rw [he]; simp), if_pos hb]
theorem urlT_ato (b s : Bool) (c : List Int) (j : Nat) (hj : j < c.length) (h : c.getD j (-1) ≠ 41) (he : M.esB (c.drop j) = false) (hb : M.isBl (c.getD j (-1)) = false) :
  M.urlT b s (c.drop j) = ((M.urlT (b || s || !M.inU (c.getD j (-1))) s (c.drop (j + 1))).1, c.getD j (-1) :: (M.urlT (b || s || !M.inU (c.getD j (-1))) s (c.drop (j + 1))).2.1, 1 + (M.urlT (b || s || !M.inU (c.getD j (-1))) s (c.drop (j + 1))).2.2) := by
 rw [drop_cons c j hj] at he ⊢
 rw [getD_lt c j hj] at h hb ⊢
 rw [M.urlT, if_neg h, if_neg (by rw [he]; simp), if_neg (by rw [hb]; simp)]
def UtAt (c : List Int) (i j : Nat) (pre : List Int) (b s : Bool) : Prop :=
 M.urlT false false (c.drop i) = ((M.urlT b s (c.drop j)).1, pre ++ (M.urlT b s (c.drop j)).2.1, (j - i) + (M.urlT b s (c.drop j)).2.2) /\ i <= j
theorem UtAt.go {c : List Int} {i j : Nat} {pre : List Int} {b s : Bool} (h : UtAt c i j pre b s) (m : Nat) (a : List Int) (b' s' : Bool) (e : M.urlT b s (c.drop j) = ((M.urlT b' s' (c.drop (j + m))).1, a ++ (M.urlT b' s' (c.drop (j + m))).2.1, m + (M.urlT b' s' (c.drop (j + m))).2.2)) : UtAt c i (j + m) (pre ++ a) b' s' := by
 obtain ⟨h1, h2⟩ := h
 refine ⟨?_, by omega⟩
 rw [h1, e]
 simp
 omega
theorem furl_any (v : Value) (L : List (Int × Int)) (c : List Int) (i k : Nat) (t : M.CT) (K : Nat) (w : World) (hv : Rs w v L) (hc : cps L = c) (hl : L.length <= 90000) (hi : i < L.length) (hik : i <= k) (hk : k <= L.length)
  (ht : (if (M.urlT false false (c.drop k)).1 = true then { kind := 8, text := M.encZs ((c.drop i).take (K - i)) } else { kind := 7, text := M.encZs (M.urlT false false (c.drop k)).2.1 } : M.CT) = t) (hK : k + (M.urlT false false (c.drop k)).2.2 = K) :
  Calls Tryz.prog 189 #[v, .int .i64 (i : Int), .int .i64 (k : Int)] w (TkR w t K) := by
 have hlc := hv.lc
 rw [hc] at hlc
 have hcl : c.length = L.length := by rw [<- hc, cps_len]
 have hKn : K <= L.length := by
  have := (M.urlT_le _ false false (c.drop k) (Nat.le_refl _)).1
  rw [List.length_drop, hcl] at this; omega
 obtain ⟨n, hn⟩ : ∃ n, L.length = n := ⟨_, rfl⟩
 rw [hn] at hl hi hcl hk hKn
 obtain ⟨a, cap, rfl, h1, h2, h3⟩ := rs_at hv hn
 rw [hc] at h3
 obtain ⟨p, off, rfl, hp, -⟩ := h3 i hi
 have hcell : ∀ j, j < n -> w.cell? ⟨p, off + j * 2, none⟩ = some (.int .i64 (c.getD j (-1))) /\ w.cell? ⟨p, off + j * 2 + 1, none⟩ = some (.int .i64 ((L.map Prod.snd).getD j 0)) := by
  intro j hj
  obtain ⟨b, off', e, _, g1, g2⟩ := h3 j hj
  simp only [Option.some.injEq, Addr.mk.injEq, and_true] at e
  obtain ⟨rfl, rfl⟩ := e
  exact ⟨g1, g2⟩
 have hsub := fun (j : Nat) (h1 : i <= j) (h2 : j <= n) => rs_sub hv i j h1 h2 p off rfl
 have TX := Lib.hid (fun (W : World) (hW : Below w.heap.size w W) (j : Nat) (h1 : i <= j) (h2 : j <= n) => ctext_any _ _ (M.encZs ((c.drop i).take (j - i))) W (rs_keep (hsub j h1 h2) hW) (by simp; omega) (by rw [cps_sub, hc]))
 have HLC := Lib.hid hlc
 have HCL := Lib.hid hcl
 have HCE := Lib.hid hcell
 obtain ⟨W0, hW0, cb0, b0, z0⟩ := w0_facts w
 have HW0 := Lib.hid hW0
 have Z0 := Lib.hid z0
 have C0 := Lib.hid b0
 have CB0 := Lib.hid cb0
 have HT := Lib.hid ht
 have HK := Lib.hid hK
 have i1 : (0 : Int) <= i := by omega
 have i2 : (i : Int) < n := by omega
 have i3 : (n : Int) <= 90000 := by omega
 have HKN := Lib.hid hKn
 have hkI : (k : Int) <= n := by omega
 unfold maxLen at h2
 clear hW0 z0 hv hc hn h3 hsub hlc hcl b0 cb0 ht hK hcell hKn
 go_enter Tryz.func189, Tryz.ntmps189
 go_wp2
 rw [HW0.out]
 go_loopw [8, 9, 10, 11, 12, 13] (fun tv bv sv ev _ _ wr => ∃ (j : Nat) (pre : List (Int × Int)) (b s : Bool), bv = .bool b /\ sv = .bool s /\ ev = .int .i64 (j : Int) /\ j <= n /\ UtAt c k j (cps pre) b s /\ pre.length <= j /\ OwnR W0.heap.size wr tv pre /\ Below W0.heap.size W0 wr) (fun _ _ _ ev _ _ _ => n - (intOf ev).toNat)
 case atStart => exact ⟨k, [], false, false, rfl, rfl, rfl, hk, ⟨by simp [cps], Nat.le_refl _⟩, by simp, ownV_nil _ _ _ _, Below.refl _ _⟩
 case round =>
  obtain ⟨j, pre, b, s, rfl, rfl, rfl, hj2, hst, hpl, ho, hb⟩ := hrel
  have hsz := hb.size
  have HST := Lib.hid hst
  have hij := hst.2
  have hw := C0.out.trans (hb.mono (by rw [Z0.out]; omega))
  have HWR := Lib.hid hw
  have CBR := Lib.hid (CB0.out.keep hb (by rw [Z0.out]; omega))
  have j0 : (0 : Int) <= j := by omega
  have j1 : (i : Int) <= j := by omega
  have j2 : (j : Int) <= n := by omega
  clear hst hw
  by_cases hjn : j < n
  ·have t1 : decide ((j : Int) < n) = true := by simp; omega
   have j3 : (j : Int) < n := by omega
   obtain ⟨ca, cb⟩ := HCE.out j hjn
   have ra := HWR.out.cell (p := ⟨p, off + j * 2, none⟩) hp
   have rb := HWR.out.cell (p := ⟨p, off + j * 2 + 1, none⟩) hp
   rw [ca] at ra
   rw [cb] at rb
   obtain ⟨y, hy⟩ : ∃ y, c.getD j (-1) = y := ⟨_, rfl⟩
   obtain ⟨z, hz⟩ : ∃ z, (L.map Prod.snd).getD j 0 = z := ⟨_, rfl⟩
   rw [hy] at ra
   rw [hz] at rb
   have HY := Lib.hid hy
   clear ca cb hy hz
   by_cases hyq : y = 41
   ·have tq : (y != 41) = false := by simp [hyq]
    have hs := urlT_atp b s c j (by rw [HCL.out]; exact hjn) (by rw [HY.out]; exact hyq)
    clear hyq rb
    have hfin := HST.out.1
    rw [hs] at hfin
    simp only [List.append_nil] at hfin
    have ht := HT.out
    have hK := HK.out
    rw [hfin] at ht hK
    simp only at ht hK
    have hmn : min ((j : Int) + 1) (n : Int) = ((K : Nat) : Int) := by omega
    have hiK : i <= K := by omega
    have hKn := HKN.out
    have g1 : (i : Int) <= K := by omega
    have g2 : (K : Int) <= cap := by omega
    have g3 : (j : Int) + 1 <= 90001 := by omega
    have T1 := Lib.hid (ctext_any u8 pre (M.encZs (cps pre)) wr ho.vs (by omega) (encR_cps pre))
    clear hs hfin hK ho hb
    cases b with
    | true =>
     simp only [if_true] at ht
     have HT2 := Lib.hid ht
     clear ht
     as_aux_lemma =>
      go_wp2_with fail
      refine (TX.out _ HWR.out K hiK hKn).mono ?_
      rintro e w2 ⟨rfl, hb2⟩
      have c2 := HWR.out.trans (hb2.mono HWR.out.size)
      have cb2 := CBR.out.keep hb2 CBR.out.lt
      clear hb2
      go_wp2_with (refine wpl_stT rfl _ _ rfl w.heap.size _ (ctv ({ kind := 8, text := M.encZs ((c.drop i).take (K - i)) }) 0) rfl rfl cb2 rfl rfl (ctv_one _ _) ?_)
      go_wp2
      (try simp only [Exit.inBlock, Exit.then])
      refine bodyPost_ret (res_tok rfl _ _ w.heap.size _ _ rfl rfl (CB.set cb2 _) rfl) rfl ⟨(by rw [<- HT2.out]), below_setRow c2 (Nat.le_refl _) _⟩
    | false =>
     simp only [Bool.false_eq_true, if_false] at ht
     have HT2 := Lib.hid ht
     clear ht
     as_aux_lemma =>
      go_wp2_with fail
      refine (T1.out).mono ?_
      rintro e w2 ⟨rfl, hb2⟩
      have c2 := HWR.out.trans (hb2.mono HWR.out.size)
      have cb2 := CBR.out.keep hb2 CBR.out.lt
      clear hb2
      go_wp2_with (refine wpl_stT rfl _ _ rfl w.heap.size _ (ctv ({ kind := 7, text := M.encZs (cps pre) }) 0) rfl rfl cb2 rfl rfl (ctv_one _ _) ?_)
      go_wp2
      (try simp only [Exit.inBlock, Exit.then])
      refine bodyPost_ret (res_tok rfl _ _ w.heap.size _ _ rfl rfl (CB.set cb2 _) rfl) rfl ⟨(by rw [<- HT2.out]), below_setRow c2 (Nat.le_refl _) _⟩
   ·have tq : (y != 41) = true := by simpa [bne] using hyq
    have tq2 : (y == 41) = false := by simpa using hyq
    cases he : M.esB (c.drop j) with
    | true =>
     have E1 := Lib.hid (ebegins_any _ c j true wr (HLC.out.keep HWR.out) (by rw [HCL.out]; omega) (by rw [if_neg (by omega)]; simpa using he))
     obtain ⟨r, m0, hr⟩ : ∃ r k, M.escV (c.drop (j + 1)) = (r, k) := ⟨_, _, rfl⟩
     have hs := urlT_ate b s c j (by rw [HCL.out]; exact hjn) (by rw [HY.out]; exact hyq) he r m0 hr
     have hnew := HST.out.go (1 + m0) [r] (b || s) s (by rw [hs, Nat.add_assoc]; rfl)
     have hle := M.escV_le_at c j (by rw [HCL.out]; exact hjn)
     rw [hr, HCL.out] at hle
     simp only at hle
     have E2 := Lib.hid (etake_any _ c j r m0 wr (HLC.out.keep HWR.out) (by rw [HCL.out]; omega) (by rw [HCL.out]; exact hjn) hr)
     obtain ⟨m, hm⟩ : ∃ m, j + 1 + m0 = m := ⟨_, rfl⟩
     rw [hm] at hle E2
     rw [show j + (1 + m0) = m by omega] at hnew
     have hm2 : j + 1 <= m := by omega
     have HNEW := Lib.hid hnew
     clear hs hnew hyq rb hr hm he
     cases b with
     | true =>
      cases s with
      | true =>
       as_aux_lemma =>
        go_wp2_with fail
        refine (E1.out).mono ?_
        rintro e w' ⟨rfl, rfl⟩
        go_wp2_with fail
        refine (E2.out).mono ?_
        rintro e w' ⟨rfl, rfl⟩
        go_wp2_with (at_builtin; refine wpl_rune rfl _ _ rfl W0.heap.size _ (.slice (some ⟨wr.heap.size, 0, none⟩) 1 1) pre (pre ++ [(r, 0)]) r 0 rfl (OwnR.keep ho ((Below.refl _ _).alloc (Nat.le_refl _) _)) rfl (one_rune wr r 0) (nnv_some _ _ _) (by omega) (by simp; omega) rfl ?_)
        intro v3 w3 ho3 hb4
        have hb5 := (hb.alloc hsz _).trans hb4
        clear hb hb4 ho
        go_wp2
        go_roundw
        case rel => exact ⟨m, pre ++ [(r, 0)], true, true, rfl, rfl, by first | rfl | go_num, by omega, by have := HNEW.out; rw [cps_append]; exact this, by simp; omega, ho3, hb5⟩
        case measure => simp [intOf]; omega
      | false =>
       as_aux_lemma =>
        go_wp2_with fail
        refine (E1.out).mono ?_
        rintro e w' ⟨rfl, rfl⟩
        go_wp2_with fail
        refine (E2.out).mono ?_
        rintro e w' ⟨rfl, rfl⟩
        go_wp2_with (at_builtin; refine wpl_rune rfl _ _ rfl W0.heap.size _ (.slice (some ⟨wr.heap.size, 0, none⟩) 1 1) pre (pre ++ [(r, 0)]) r 0 rfl (OwnR.keep ho ((Below.refl _ _).alloc (Nat.le_refl _) _)) rfl (one_rune wr r 0) (nnv_some _ _ _) (by omega) (by simp; omega) rfl ?_)
        intro v3 w3 ho3 hb4
        have hb5 := (hb.alloc hsz _).trans hb4
        clear hb hb4 ho
        go_wp2
        go_roundw
        case rel => exact ⟨m, pre ++ [(r, 0)], true, false, rfl, rfl, by first | rfl | go_num, by omega, by have := HNEW.out; rw [cps_append]; exact this, by simp; omega, ho3, hb5⟩
        case measure => simp [intOf]; omega
     | false =>
      cases s with
      | true =>
       as_aux_lemma =>
        go_wp2_with fail
        refine (E1.out).mono ?_
        rintro e w' ⟨rfl, rfl⟩
        go_wp2_with fail
        refine (E2.out).mono ?_
        rintro e w' ⟨rfl, rfl⟩
        go_wp2_with (at_builtin; refine wpl_rune rfl _ _ rfl W0.heap.size _ (.slice (some ⟨wr.heap.size, 0, none⟩) 1 1) pre (pre ++ [(r, 0)]) r 0 rfl (OwnR.keep ho ((Below.refl _ _).alloc (Nat.le_refl _) _)) rfl (one_rune wr r 0) (nnv_some _ _ _) (by omega) (by simp; omega) rfl ?_)
        intro v3 w3 ho3 hb4
        have hb5 := (hb.alloc hsz _).trans hb4
        clear hb hb4 ho
        go_wp2
        go_roundw
        case rel => exact ⟨m, pre ++ [(r, 0)], true, true, rfl, rfl, by first | rfl | go_num, by omega, by have := HNEW.out; rw [cps_append]; exact this, by simp; omega, ho3, hb5⟩
        case measure => simp [intOf]; omega
      | false =>
       as_aux_lemma =>
        go_wp2_with fail
        refine (E1.out).mono ?_
        rintro e w' ⟨rfl, rfl⟩
        go_wp2_with fail
        refine (E2.out).mono ?_
        rintro e w' ⟨rfl, rfl⟩
        go_wp2_with (at_builtin; refine wpl_rune rfl _ _ rfl W0.heap.size _ (.slice (some ⟨wr.heap.size, 0, none⟩) 1 1) pre (pre ++ [(r, 0)]) r 0 rfl (OwnR.keep ho ((Below.refl _ _).alloc (Nat.le_refl _) _)) rfl (one_rune wr r 0) (nnv_some _ _ _) (by omega) (by simp; omega) rfl ?_)
        intro v3 w3 ho3 hb4
        have hb5 := (hb.alloc hsz _).trans hb4
        clear hb hb4 ho
        go_wp2
        go_roundw
        case rel => exact ⟨m, pre ++ [(r, 0)], false, false, rfl, rfl, by first | rfl | go_num, by omega, by have := HNEW.out; rw [cps_append]; exact this, by simp; omega, ho3, hb5⟩
        case measure => simp [intOf]; omega
    | false =>
     have E1 := Lib.hid (ebegins_any _ c j false wr (HLC.out.keep HWR.out) (by rw [HCL.out]; omega) (by rw [if_neg (by omega)]; simpa using he))
     cases hbl : M.isBl (c.getD j (-1)) with
     | true =>
      have hs := urlT_atb b s c j (by rw [HCL.out]; exact hjn) (by rw [HY.out]; exact hyq) he hbl
      have hnew := Lib.hid (HST.out.go 1 [] b true (by rw [hs]; rfl))
      rw [HY.out] at hbl
      have X1 := Lib.hid (isbl_any y true wr hbl)
      clear hs hyq rb he hbl
      as_aux_lemma =>
       go_wp2_with fail
       refine (E1.out).mono ?_
       rintro e w' ⟨rfl, rfl⟩
       go_wp2_with fail
       refine (X1.out).mono ?_
       rintro e w' ⟨rfl, rfl⟩
       go_wp2
       go_roundw
       case rel => exact ⟨j + 1, pre, b, true, rfl, rfl, by go_num, by omega, by have := hnew.out; simpa using this, by omega, ho, hb⟩
       case measure => simp [intOf]; omega
     | false =>
      have hs := urlT_ato b s c j (by rw [HCL.out]; exact hjn) (by rw [HY.out]; exact hyq) he hbl
      rw [HY.out] at hs hbl
      have hnew := HST.out.go 1 [y] (b || s || !M.inU y) s (by rw [hs]; rfl)
      have X1 := Lib.hid (isbl_any y false wr hbl)
      have IU := Lib.hid (finu_any y _ wr rfl)
      obtain ⟨g, hg⟩ : ∃ g, M.inU y = g := ⟨_, rfl⟩
      rw [hg] at hnew IU
      have HNEW := Lib.hid hnew
      clear hs hyq he hbl hg hnew
      cases b with
      | true =>
       cases s with
       | true =>
        as_aux_lemma =>
         go_wp2_with fail
         refine (E1.out).mono ?_
         rintro e w' ⟨rfl, rfl⟩
         go_wp2_with fail
         refine (X1.out).mono ?_
         rintro e w' ⟨rfl, rfl⟩
         go_wp2_with (at_builtin; refine wpl_rune rfl _ _ rfl W0.heap.size _ (.slice (some ⟨wr.heap.size, 0, none⟩) 1 1) pre (pre ++ [(y, z)]) y z rfl (OwnR.keep ho ((Below.refl _ _).alloc (Nat.le_refl _) _)) rfl (one_rune wr y z) (nnv_some _ _ _) (by omega) (by simp; omega) rfl ?_)
         intro v3 w3 ho3 hb4
         have hb5 := (hb.alloc hsz _).trans hb4
         clear hb hb4 ho
         go_wp2
         go_roundw
         case rel => exact ⟨j + 1, pre ++ [(y, z)], true, true, rfl, rfl, by go_num, by omega, by have := HNEW.out; rw [cps_append]; exact this, by simp; omega, ho3, hb5⟩
         case measure => simp [intOf]; omega
       | false =>
        as_aux_lemma =>
         go_wp2_with fail
         refine (E1.out).mono ?_
         rintro e w' ⟨rfl, rfl⟩
         go_wp2_with fail
         refine (X1.out).mono ?_
         rintro e w' ⟨rfl, rfl⟩
         go_wp2_with (at_builtin; refine wpl_rune rfl _ _ rfl W0.heap.size _ (.slice (some ⟨wr.heap.size, 0, none⟩) 1 1) pre (pre ++ [(y, z)]) y z rfl (OwnR.keep ho ((Below.refl _ _).alloc (Nat.le_refl _) _)) rfl (one_rune wr y z) (nnv_some _ _ _) (by omega) (by simp; omega) rfl ?_)
         intro v3 w3 ho3 hb4
         have hb5 := (hb.alloc hsz _).trans hb4
         clear hb hb4 ho
         go_wp2
         go_roundw
         case rel => exact ⟨j + 1, pre ++ [(y, z)], true, false, rfl, rfl, by go_num, by omega, by have := HNEW.out; rw [cps_append]; exact this, by simp; omega, ho3, hb5⟩
         case measure => simp [intOf]; omega
      | false =>
       cases s with
       | true =>
        as_aux_lemma =>
         go_wp2_with fail
         refine (E1.out).mono ?_
         rintro e w' ⟨rfl, rfl⟩
         go_wp2_with fail
         refine (X1.out).mono ?_
         rintro e w' ⟨rfl, rfl⟩
         go_wp2_with (at_builtin; refine wpl_rune rfl _ _ rfl W0.heap.size _ (.slice (some ⟨wr.heap.size, 0, none⟩) 1 1) pre (pre ++ [(y, z)]) y z rfl (OwnR.keep ho ((Below.refl _ _).alloc (Nat.le_refl _) _)) rfl (one_rune wr y z) (nnv_some _ _ _) (by omega) (by simp; omega) rfl ?_)
         intro v3 w3 ho3 hb4
         have hb5 := (hb.alloc hsz _).trans hb4
         clear hb hb4 ho
         go_wp2
         go_roundw
         case rel => exact ⟨j + 1, pre ++ [(y, z)], true, true, rfl, rfl, by go_num, by omega, by have := HNEW.out; rw [cps_append]; exact this, by simp; omega, ho3, hb5⟩
         case measure => simp [intOf]; omega
       | false =>
        cases g with
        | true =>
         as_aux_lemma =>
          go_wp2_with fail
          refine (E1.out).mono ?_
          rintro e w' ⟨rfl, rfl⟩
          go_wp2_with fail
          refine (X1.out).mono ?_
          rintro e w' ⟨rfl, rfl⟩
          go_wp2_with fail
          refine (IU.out).mono ?_
          rintro e w' ⟨rfl, rfl⟩
          go_wp2_with (at_builtin; refine wpl_rune rfl _ _ rfl W0.heap.size _ (.slice (some ⟨wr.heap.size, 0, none⟩) 1 1) pre (pre ++ [(y, z)]) y z rfl (OwnR.keep ho ((Below.refl _ _).alloc (Nat.le_refl _) _)) rfl (one_rune wr y z) (nnv_some _ _ _) (by omega) (by simp; omega) rfl ?_)
          intro v3 w3 ho3 hb4
          have hb5 := (hb.alloc hsz _).trans hb4
          clear hb hb4 ho
          go_wp2
          go_roundw
          case rel => exact ⟨j + 1, pre ++ [(y, z)], false, false, rfl, rfl, by go_num, by omega, by have := HNEW.out; rw [cps_append]; exact this, by simp; omega, ho3, hb5⟩
          case measure => simp [intOf]; omega
        | false =>
         as_aux_lemma =>
          go_wp2_with fail
          refine (E1.out).mono ?_
          rintro e w' ⟨rfl, rfl⟩
          go_wp2_with fail
          refine (X1.out).mono ?_
          rintro e w' ⟨rfl, rfl⟩
          go_wp2_with fail
          refine (IU.out).mono ?_
          rintro e w' ⟨rfl, rfl⟩
          go_wp2_with (at_builtin; refine wpl_rune rfl _ _ rfl W0.heap.size _ (.slice (some ⟨wr.heap.size, 0, none⟩) 1 1) pre (pre ++ [(y, z)]) y z rfl (OwnR.keep ho ((Below.refl _ _).alloc (Nat.le_refl _) _)) rfl (one_rune wr y z) (nnv_some _ _ _) (by omega) (by simp; omega) rfl ?_)
          intro v3 w3 ho3 hb4
          have hb5 := (hb.alloc hsz _).trans hb4
          clear hb hb4 ho
          go_wp2
          go_roundw
          case rel => exact ⟨j + 1, pre ++ [(y, z)], true, false, rfl, rfl, by go_num, by omega, by have := HNEW.out; rw [cps_append]; exact this, by simp; omega, ho3, hb5⟩
          case measure => simp [intOf]; omega
  ·obtain rfl : j = n := by omega
   have t1 : decide ((j : Int) < j) = false := by simp
   have hs := urlT_atx b s c j (by rw [HCL.out]; exact Nat.le_refl _)
   clear hjn
   have hfin := HST.out.1
   rw [hs] at hfin
   simp only [List.append_nil] at hfin
   have ht := HT.out
   have hK := HK.out
   rw [hfin] at ht hK
   simp only at ht hK
   have hmn : min ((j : Int) + 1) (j : Int) = ((K : Nat) : Int) := by omega
   have hiK : i <= K := by omega
   have hKn := HKN.out
   have g1 : (i : Int) <= K := by omega
   have g2 : (K : Int) <= cap := by omega
   have g3 : (j : Int) + 1 <= 90001 := by omega
   have T1 := Lib.hid (ctext_any u8 pre (M.encZs (cps pre)) wr ho.vs (by omega) (encR_cps pre))
   clear hs hfin hK ho hb
   cases b with
   | true =>
    simp only [if_true] at ht
    have HT2 := Lib.hid ht
    clear ht
    as_aux_lemma =>
     go_wp2_with fail
     refine (TX.out _ HWR.out K hiK hKn).mono ?_
     rintro e w2 ⟨rfl, hb2⟩
     have c2 := HWR.out.trans (hb2.mono HWR.out.size)
     have cb2 := CBR.out.keep hb2 CBR.out.lt
     clear hb2
     go_wp2_with (refine wpl_stT rfl _ _ rfl w.heap.size _ (ctv ({ kind := 8, text := M.encZs ((c.drop i).take (K - i)) }) 0) rfl rfl cb2 rfl rfl (ctv_one _ _) ?_)
     go_wp2
     (try simp only [Exit.inBlock, Exit.then])
     refine bodyPost_ret (res_tok rfl _ _ w.heap.size _ _ rfl rfl (CB.set cb2 _) rfl) rfl ⟨(by rw [<- HT2.out]), below_setRow c2 (Nat.le_refl _) _⟩
   | false =>
    simp only [Bool.false_eq_true, if_false] at ht
    have HT2 := Lib.hid ht
    clear ht
    as_aux_lemma =>
     go_wp2_with fail
     refine (T1.out).mono ?_
     rintro e w2 ⟨rfl, hb2⟩
     have c2 := HWR.out.trans (hb2.mono HWR.out.size)
     have cb2 := CBR.out.keep hb2 CBR.out.lt
     clear hb2
     go_wp2_with (refine wpl_stT rfl _ _ rfl w.heap.size _ (ctv ({ kind := 7, text := M.encZs (cps pre) }) 0) rfl rfl cb2 rfl rfl (ctv_one _ _) ?_)
     go_wp2
     (try simp only [Exit.inBlock, Exit.then])
     refine bodyPost_ret (res_tok rfl _ _ w.heap.size _ _ rfl rfl (CB.set cb2 _) rfl) rfl ⟨(by rw [<- HT2.out]), below_setRow c2 (Nat.le_refl _) _⟩
theorem containsF_any (s : List UInt8) (b : Bool) (w : World) (hs : s.length <= 4000000) (ha : ∀ x ∈ s, x.toNat < 128) (hb : M.wholeL s = b) :
  Calls Tryz.prog 61 #[.string (bytes s), .string ⟨#[46, 101, 69]⟩] w fun e w' => e = .returned (.bool (!b)) /\ Below w.heap.size w w' := by
 have := Tryz.strings_ContainsAny_laid (bytes s) ⟨#[46, 101, 69]⟩ w (by rw [bytes_size]; omega) (by decide) (by rw [bytes_list]; intro j b hj; exact ha b (List.mem_of_getElem? hj)) (by
  intro j b hj
  have : b ∈ ([46, 101, 69] : List UInt8) := List.mem_of_getElem? hj
  simp at this
  rcases this with rfl | rfl | rfl <;> decide)
 rw [bytes_list, show (ByteArray.mk #[46, 101, 69]).data.toList = [46, 101, 69] from rfl, M.contains_whole, hb] at this
 exact this
theorem fnumeric_any (v : Value) (L : List (Int × Int)) (c : List Int) (i : Nat) (t : M.CT) (K : Nat) (w : World) (hT : Tabs w) (hv : Rs w v L) (hc : cps L = c) (hl : L.length <= 40000) (hi : i < L.length) (hnb : M.numB (c.drop i) = true)
  (ht : (M.numT (c.drop i)).1 = t) (hK : i + (M.numT (c.drop i)).2 = K) :
  Calls Tryz.prog 151 #[v, .int .i64 (i : Int)] w (TkR w t K) := by
 have hlc := hv.lc
 rw [hc] at hlc
 have hcl : c.length = L.length := by rw [<- hc, cps_len]
 have hle := M.numE_le _ hnb
 rw [List.length_drop, hcl] at hle
 obtain ⟨n, hn⟩ : ∃ n, L.length = n := ⟨_, rfl⟩
 rw [hn] at hl hi hcl hle
 obtain ⟨a, cap, rfl, h1, h2, h3⟩ := rs_open hv hn
 obtain ⟨p, off, rfl, hp, -⟩ := h3 (by omega)
 obtain ⟨m, hm⟩ : ∃ m, i + M.numE (c.drop i) = m := ⟨_, rfl⟩
 have him : i <= m := by omega
 have hmn : m <= n := by omega
 have hsub := rs_sub hv i m him hmn p off rfl
 obtain ⟨s, hs⟩ : ∃ s, M.encZs ((c.drop i).take (M.numE (c.drop i))) = s := ⟨_, rfl⟩
 have hasc := M.num_asc (c.drop i)
 rw [hs] at hasc
 have hsl : s.length <= 80000 := by
  have := (M.encZs_asc ((c.drop i).take (M.numE (c.drop i))) (by
   intro r hr
   obtain ⟨k, hk, e⟩ := M.take_mem _ _ r hr
   have := M.numE_range _ k hk
   rw [e] at this
   unfold M.numC at this
   omega)).2.1
  rw [hs] at this
  have h5 : ((c.drop i).take (M.numE (c.drop i))).length <= n := by simp; omega
  omega
 have NE := Lib.hid (fun W (hW : Below w.heap.size w W) => fnume_any _ c i m W (hlc.keep hW) (by omega) (by omega) hm)
 have TX := Lib.hid (fun (W : World) (hW : Below w.heap.size w W) => ctext_any _ _ s W (rs_keep hsub hW) (by simp; omega) (by rw [cps_sub, hc, show m - i = M.numE (c.drop i) by omega]; exact hs))
 have CA := Lib.hid (fun W => containsF_any s _ W (by omega) hasc rfl)
 have HP := Lib.hid (fun W => pre_any s 43 _ W rfl)
 obtain ⟨r, ok, hr⟩ : ∃ r ok, M.readN s = (r, ok) := ⟨_, _, rfl⟩
 have RD := Lib.hid (fun W (hW : Below w.heap.size w W) => read_any s r ok W (hT.keep hW) (by omega) hr)
 have BG := Lib.hid (fun W (hW : Below w.heap.size w W) => nbegins_any _ c (m : Int) _ W (hlc.keep hW) (by omega) rfl)
 rw [if_neg (by omega), Int.toNat_natCast] at BG
 have hcl2 : clampN (m : Int) c.length = m := by unfold clampN; omega
 obtain ⟨U, hU⟩ : ∃ U, (M.takeN (c.drop m)).1 = U := ⟨_, rfl⟩
 obtain ⟨e2, he2⟩ : ∃ U, m + (M.takeN (c.drop m)).2 = U := ⟨_, rfl⟩
 have TK := Lib.hid (fun W (hW : Below w.heap.size w W) => ntake_core _ c (m : Int) U e2 W (hlc.keep hW) (by omega) (by rw [hcl2]; exact hU) (by rw [hcl2]; exact he2))
 have ST := Lib.hid (fst_one 37 _ c m _ w hlc (by omega) (by omega) rfl)
 unfold M.numT at ht hK
 have hdd : (c.drop i).drop (M.numE (c.drop i)) = c.drop m := by rw [List.drop_drop, hm]
 have hgd : (c.drop i).getD (M.numE (c.drop i)) (-1) = c.getD m (-1) := by rw [getD_drop, hm]
 rw [hdd, hgd, hs, hU] at ht hK
 obtain ⟨bg, hbg⟩ : ∃ b, M.begN (c.drop m) = b := ⟨_, rfl⟩
 rw [hbg] at ht hK BG
 obtain ⟨y, hy⟩ : ∃ y, c.getD m (-1) = y := ⟨_, rfl⟩
 rw [hy] at ht hK ST
 have hT0 : M.numT0 s = { kind := 10, flag := M.wholeL s, sign := s.head? == some 43, num := r } := by unfold M.numT0; rw [hr]
 rw [hT0] at ht hK
 obtain ⟨wh, hwh⟩ : ∃ b, M.wholeL s = b := ⟨_, rfl⟩
 obtain ⟨sg, hsg⟩ : ∃ b, (s.head? == some 43) = b := ⟨_, rfl⟩
 rw [hwh] at ht hK CA
 rw [hsg] at ht hK HP
 obtain ⟨S, hS⟩ : ∃ S, bytes s = S := ⟨_, rfl⟩
 rw [hS] at TX CA HP RD
 obtain ⟨r0, r1, r2⟩ := r
 unfold numV at RD
 simp only at RD
 obtain ⟨W0, hW0, cb0, b0, z0⟩ := w0_facts w
 have HW0 := Lib.hid hW0
 have HT := Lib.hid ht
 have HK := Lib.hid hK
 have HE2 := Lib.hid he2
 have HM := Lib.hid hm
 have i1 : (0 : Int) <= i := by omega
 have i2 : (i : Int) <= m := by omega
 have i3 : (m : Int) <= cap := by omega
 have i4 : (m : Int) <= 40000 := by omega
 have i5 : (i : Int) < cap := by omega
 unfold maxLen at h2
 have wz := b0.size
 clear hW0 z0 hv hc hn h3 hsub hlc hcl hT hnb hle hm hs hasc hsl hr hcl2 hU he2 ht hK hdd hgd hbg hy hT0 hwh hsg hS
 go_enter Tryz.func151, Tryz.ntmps151
 go_wp2_with fail
 rw [HW0.out]
 refine (NE.out _ b0).mono ?_
 rintro e w1 ⟨rfl, hb1⟩
 have c1 := b0.trans (hb1.mono b0.size)
 have cb1 := cb0.keep hb1 cb0.lt
 clear hb1 b0 cb0
 go_wp2_with fail
 refine (TX.out _ c1).mono ?_
 rintro e w2 ⟨rfl, hb2⟩
 have c2 := c1.trans (hb2.mono c1.size)
 have cb2 := cb1.keep hb2 cb1.lt
 clear hb2 c1 cb1
 go_wp2_with fail
 refine (CA.out _).mono ?_
 rintro e w3 ⟨rfl, hb3⟩
 have c3 := c2.trans (hb3.mono c2.size)
 have cb3 := cb2.keep hb3 cb2.lt
 clear hb3 c2 cb2
 go_wp2_with fail
 refine (HP.out _).mono ?_
 rintro e w' ⟨rfl, rfl⟩
 go_wp2_with (refine wpl_stT rfl _ _ rfl w3.heap.size (ctv {} 0) (ctv { kind := 10, flag := wh, sign := sg } 0) (by rfl) (by first | rfl | (simp; rfl)) (CB.new w3 _) rfl rfl (ctv_one _ _) ?_)
 have lt8 := cb3.lt
 have cb8 : CB ((w3.alloc (.cells #[.int .i64 0, .string ⟨#[]⟩, .string ⟨#[]⟩, .bool false, .string ⟨#[]⟩, .string ⟨#[]⟩, .bool false, .bool false, .int .i64 0, .int .i64 0, .int .i64 0, .int .i64 0, .int .i64 0] 33)).setRow w3.heap.size (ctv { kind := 10, flag := wh, sign := sg } 0)) w3.heap.size (ctv { kind := 10, flag := wh, sign := sg } 0) := (CB.new w3 _).set _
 have cb5 : CB ((w3.alloc (.cells #[.int .i64 0, .string ⟨#[]⟩, .string ⟨#[]⟩, .bool false, .string ⟨#[]⟩, .string ⟨#[]⟩, .bool false, .bool false, .int .i64 0, .int .i64 0, .int .i64 0, .int .i64 0, .int .i64 0] 33)).setRow w3.heap.size (ctv { kind := 10, flag := wh, sign := sg } 0)) w.heap.size (ctv {} 0) := by
  unfold CB; rw [setRow_other _ _ _ _ (by omega)]
  exact cb3.keep ((Below.refl w3.heap.size w3).alloc (Nat.le_refl _) _) lt8
 have c5 : Below w.heap.size w ((w3.alloc (.cells #[.int .i64 0, .string ⟨#[]⟩, .string ⟨#[]⟩, .bool false, .string ⟨#[]⟩, .string ⟨#[]⟩, .bool false, .bool false, .int .i64 0, .int .i64 0, .int .i64 0, .int .i64 0, .int .i64 0] 33)).setRow w3.heap.size (ctv { kind := 10, flag := wh, sign := sg } 0)) := below_setRow (c3.alloc c3.size _) c3.size _
 obtain ⟨W5, hW5⟩ : ∃ W, (w3.alloc (.cells #[.int .i64 0, .string ⟨#[]⟩, .string ⟨#[]⟩, .bool false, .string ⟨#[]⟩, .string ⟨#[]⟩, .bool false, .bool false, .int .i64 0, .int .i64 0, .int .i64 0, .int .i64 0, .int .i64 0] 33)).setRow w3.heap.size (ctv { kind := 10, flag := wh, sign := sg } 0) = W := ⟨_, rfl⟩
 rw [hW5] at cb8 cb5 c5 ⊢
 obtain ⟨b8, hb8⟩ : ∃ b, w3.heap.size = b := ⟨_, rfl⟩
 rw [hb8] at cb8 lt8 ⊢
 clear hW5 hb8 c3 cb3
 refine (RD.out _ c5).mono ?_
 rintro e w6 ⟨rfl, hb6⟩
 have c6 := c5.trans (hb6.mono c5.size)
 have cb6 := cb5.keep hb6 cb5.lt
 have cb86 := cb8.keep hb6 cb8.lt
 clear hb6 c5 cb5 cb8
 have g3 := cb86.cell 3
 have f3 := cb86.free 3
 rw [show (ctv _ _)[3]? = some (.bool false) from rfl] at g3
 have g4 := cb86.cell 4
 have f4 := cb86.free 4
 rw [show (ctv _ _)[4]? = some (.string ⟨#[]⟩) from rfl] at g4
 have g5 := cb86.cell 5
 have f5 := cb86.free 5
 rw [show (ctv _ _)[5]? = some (.string ⟨#[]⟩) from rfl] at g5
 go_wp2_with fail
 have cb87 : CB (((w6.setCell ⟨b8, 3, none⟩ (.bool r0)).setCell ⟨b8, 4, none⟩ (.string (bytes r1))).setCell ⟨b8, 5, none⟩ (.string (bytes r2))) b8 (ctv { kind := 10, flag := wh, sign := sg, num := (r0, r1, r2) } 0) := ((cb86.put 3 _).put 4 _).put 5 _
 have cb7 : CB (((w6.setCell ⟨b8, 3, none⟩ (.bool r0)).setCell ⟨b8, 4, none⟩ (.string (bytes r1))).setCell ⟨b8, 5, none⟩ (.string (bytes r2))) w.heap.size (ctv {} 0) := ((cb6.other (Nat.ne_of_lt lt8) _ _).other (Nat.ne_of_lt lt8) _ _).other (Nat.ne_of_lt lt8) _ _
 have c7 : Below w.heap.size w (((w6.setCell ⟨b8, 3, none⟩ (.bool r0)).setCell ⟨b8, 4, none⟩ (.string (bytes r1))).setCell ⟨b8, 5, none⟩ (.string (bytes r2))) := ((c6.setCell (Nat.le_of_lt lt8) _).setCell (Nat.le_of_lt lt8) _).setCell (Nat.le_of_lt lt8) _
 obtain ⟨W7, hW7⟩ : ∃ W, ((w6.setCell ⟨b8, 3, none⟩ (.bool r0)).setCell ⟨b8, 4, none⟩ (.string (bytes r1))).setCell ⟨b8, 5, none⟩ (.string (bytes r2)) = W := ⟨_, rfl⟩
 rw [hW7] at cb87 cb7 c7 ⊢
 clear hW7 c6 cb6 cb86 g3 g4 g5 f3 f4 f5
 refine (BG.out _ c7).mono ?_
 rintro e w' ⟨rfl, rfl⟩
 have g0 := cb87.cell 0
 have f0 := cb87.free 0
 rw [show (ctv _ _)[0]? = some (.int .i64 10) from rfl] at g0
 cases bg with
 | true =>
  as_aux_lemma =>
   have ht := HT.out
   have hK := HK.out
   simp only [if_true] at ht hK
   obtain rfl : e2 = K := by rw [<- hK, <- HE2.out, <- HM.out]; omega
   have HT2 := Lib.hid ht
   clear ht hK
   go_wp2_with fail
   have cb8 : CB (W7.setCell ⟨b8, 0, none⟩ (.int .i64 12)) b8 (ctv { kind := 12, flag := wh, sign := sg, num := (r0, r1, r2) } 0) := cb87.put 0 _
   have cb9 : CB (W7.setCell ⟨b8, 0, none⟩ (.int .i64 12)) w.heap.size (ctv {} 0) := cb7.other (Nat.ne_of_lt lt8) _ _
   have c8 : Below w.heap.size w (W7.setCell ⟨b8, 0, none⟩ (.int .i64 12)) := c7.setCell (Nat.le_of_lt lt8) _
   obtain ⟨W8, hW8⟩ : ∃ W, W7.setCell ⟨b8, 0, none⟩ (.int .i64 12) = W := ⟨_, rfl⟩
   rw [hW8] at cb8 cb9 c8 ⊢
   clear hW8 cb87 cb7 c7 g0 f0
   refine (TK.out _ c8).mono ?_
   rintro e w9 ⟨rfl, hb9⟩
   have c9 := c8.trans (hb9.mono c8.size)
   have cb89 := cb8.keep hb9 cb8.lt
   have cb49 := cb9.keep hb9 cb9.lt
   clear hb9 c8 cb8 cb9
   have g2 := cb89.cell 2
   have f2 := cb89.free 2
   rw [show (ctv _ _)[2]? = some (.string ⟨#[]⟩) from rfl] at g2
   have cb8X : CB (w9.setCell ⟨b8, 2, none⟩ (.string (bytes (M.encZs U)))) b8 (ctv { kind := 12, flag := wh, sign := sg, num := (r0, r1, r2), unit := M.encZs U } 0) := cb89.put 2 _
   have cb4X : CB (w9.setCell ⟨b8, 2, none⟩ (.string (bytes (M.encZs U)))) w.heap.size (ctv {} 0) := cb49.other (Nat.ne_of_lt lt8) _ _
   have cX : Below w.heap.size w (w9.setCell ⟨b8, 2, none⟩ (.string (bytes (M.encZs U)))) := c9.setCell (Nat.le_of_lt lt8) _
   go_wp2_with (first | (refine wpl_ldT rfl _ rfl b8 _ rfl cb8X rfl ?_) | (refine wpl_stT rfl _ _ rfl w.heap.size (ctv {} 0) (ctv { kind := 12, flag := wh, sign := sg, num := (r0, r1, r2), unit := M.encZs U } 0) rfl rfl cb4X rfl rfl (ctv_one _ _) ?_))
   (try simp only [Exit.inBlock, Exit.then])
   exact bodyPost_ret (res_tok rfl _ _ w.heap.size _ _ rfl rfl (CB.set cb4X _) rfl) rfl ⟨(by rw [<- HT2.out]), below_setRow cX (Nat.le_refl _) _⟩
 | false =>
  by_cases h37 : y = 37
  ·have tp : decide (y = ((37 : UInt8).toNat : Int)) = true := by simpa using h37
   have ht := HT.out
   have hK := HK.out
   simp only [Bool.false_eq_true, if_false, h37, if_true] at ht hK
   have HT2 := Lib.hid ht
   have HK2 := Lib.hid (show (m : Int) + 1 = K by have := HM.out; omega)
   clear ht hK h37
   rw [tp] at ST
   as_aux_lemma =>
    go_wp2_with fail
    refine (ST.out _ c7).mono ?_
    rintro e w8 ⟨rfl, hb8⟩
    have c8 := c7.trans (hb8.mono c7.size)
    have cb88 := cb87.keep hb8 cb87.lt
    have cb48 := cb7.keep hb8 cb7.lt
    clear hb8 c7 cb87 cb7 g0 f0
    have g0 := cb88.cell 0
    have f0 := cb88.free 0
    rw [show (ctv _ _)[0]? = some (.int .i64 10) from rfl] at g0
    have cb8X : CB (w8.setCell ⟨b8, 0, none⟩ (.int .i64 11)) b8 (ctv { kind := 11, flag := wh, sign := sg, num := (r0, r1, r2) } 0) := cb88.put 0 _
    have cb4X : CB (w8.setCell ⟨b8, 0, none⟩ (.int .i64 11)) w.heap.size (ctv {} 0) := cb48.other (Nat.ne_of_lt lt8) _ _
    have cX : Below w.heap.size w (w8.setCell ⟨b8, 0, none⟩ (.int .i64 11)) := c8.setCell (Nat.le_of_lt lt8) _
    go_wp2_with (first | (refine wpl_ldT rfl _ rfl b8 _ rfl cb8X rfl ?_) | (refine wpl_stT rfl _ _ rfl w.heap.size (ctv {} 0) (ctv { kind := 11, flag := wh, sign := sg, num := (r0, r1, r2) } 0) rfl rfl cb4X rfl rfl (ctv_one _ _) ?_))
    (try simp only [Exit.inBlock, Exit.then])
    exact bodyPost_ret (res_tok rfl _ _ w.heap.size _ _ rfl rfl (CB.set cb4X _) rfl) rfl ⟨(by rw [<- HT2.out]; exact etup_ai HK2.out), below_setRow cX (Nat.le_refl _) _⟩
  ·have tp : decide (y = ((37 : UInt8).toNat : Int)) = false := by simpa using h37
   have ht := HT.out
   have hK := HK.out
   simp only [Bool.false_eq_true, if_false, h37] at ht hK
   have HT2 := Lib.hid ht
   obtain rfl : m = K := by have := HM.out; omega
   clear ht hK h37
   rw [tp] at ST
   as_aux_lemma =>
    go_wp2_with fail
    refine (ST.out _ c7).mono ?_
    rintro e w8 ⟨rfl, hb8⟩
    have c8 := c7.trans (hb8.mono c7.size)
    have cb88 := cb87.keep hb8 cb87.lt
    have cb48 := cb7.keep hb8 cb7.lt
    clear hb8 c7 cb87 cb7 g0 f0
    go_wp2_with (first | (refine wpl_ldT rfl _ rfl b8 _ rfl cb88 rfl ?_) | (refine wpl_stT rfl _ _ rfl w.heap.size (ctv {} 0) (ctv { kind := 10, flag := wh, sign := sg, num := (r0, r1, r2) } 0) rfl rfl cb48 rfl rfl (ctv_one _ _) ?_))
    (try simp only [Exit.inBlock, Exit.then])
    exact bodyPost_ret (res_tok rfl _ _ w.heap.size _ _ rfl rfl (CB.set cb48 _) rfl) rfl ⟨(by rw [<- HT2.out]), below_setRow c8 (Nat.le_refl _) _⟩
theorem str_eqF (l k : List UInt8) (b : Bool) (h : decide (l = k) = b) : ((bytes l).toList == k) = b := by
 rw [<- h, ByteArray.toList_eq, bytes_list]
 by_cases e : l = k
 ·subst e; simp
 ·simp [e]
theorem fnamed_any (v : Value) (L : List (Int × Int)) (c : List Int) (i : Nat) (t : M.CT) (K : Nat) (w : World) (hv : Rs w v L) (hc : cps L = c) (hl : L.length <= 40000) (hi : i < L.length)
  (ht : (M.namT (c.drop i)).1 = t) (hK : i + (M.namT (c.drop i)).2 = K) :
  Calls Tryz.prog 153 #[v, .int .i64 (i : Int)] w (TkR w t K) := by
 have hlc := hv.lc
 rw [hc] at hlc
 have hcl : c.length = L.length := by rw [<- hc, cps_len]
 have htl := (M.takeN_le _ (c.drop i) (Nat.le_refl _)).1
 rw [List.length_drop, hcl] at htl
 have hUl := (M.takeN_le _ (c.drop i) (Nat.le_refl _)).2
 have hcl2 : clampN (i : Int) c.length = i := by unfold clampN; omega
 obtain ⟨U, hU⟩ : ∃ U, (M.takeN (c.drop i)).1 = U := ⟨_, rfl⟩
 obtain ⟨e1, he1⟩ : ∃ U, i + (M.takeN (c.drop i)).2 = U := ⟨_, rfl⟩
 have TK := Lib.hid (fun W (hW : Below w.heap.size w W) => ntake_core v c (i : Int) U e1 W (hlc.keep hW) (by omega) (by rw [hcl2]; exact hU) (by rw [hcl2]; exact he1))
 have ST := fst_one 40 v c e1 _ w hlc (by omega) (by omega) rfl
 have hsl : (M.encZs U).length <= 160000 := by
  have := (M.encZs_len U).2
  rw [<- hU] at this ⊢; omega
 unfold M.namT at ht hK
 have hg1 : (c.drop i).getD (M.takeN (c.drop i)).2 (-1) = c.getD e1 (-1) := by rw [getD_drop, he1]
 have LW := Lib.hid (fun W => flower_any (M.encZs U) W (by omega))
 obtain ⟨W0, hW0, cb0, b0, z0⟩ := w0_facts w
 have HW0 := Lib.hid hW0
 have HE1 := Lib.hid he1
 have i5 : (e1 : Int) <= 40000 := by omega
 clear z0 hW0
 by_cases h40 : c.getD e1 (-1) = 40
 ·have he1n := M.getD_lt_of c e1 40 (by decide) h40
  rw [if_pos (by rw [hg1]; exact h40)] at ht hK
  have hnl := M.nameE_le (c.drop i) (by rw [hg1]; exact h40)
  rw [List.length_drop, hcl] at hnl
  obtain ⟨b, hb⟩ : ∃ b, i + M.nameE (c.drop i) = b := ⟨_, rfl⟩
  have hb' : (e1 + 1) + M.blN (c.drop (e1 + 1)) = b := by
   rw [<- hb, <- he1]; unfold M.nameE
   rw [List.drop_drop, <- Nat.add_assoc i, Nat.add_assoc i, Nat.add_assoc]
   try omega
  have hg2 : (c.drop i).getD (M.nameE (c.drop i)) (-1) = c.getD b (-1) := by rw [getD_drop, hb]
  rw [hg2, hU] at ht hK
  have SB := Lib.hid (fun (W : World) (hW : Below w.heap.size w W) => fskipb_any v c (e1 + 1) b W (hlc.keep hW) (by omega) (by omega) hb')
  rw [show ((e1 + 1 : Nat) : Int) = (e1 : Int) + 1 by omega] at SB
  have S34 := fst_one 34 v c b _ w hlc (by omega) (by omega) rfl
  have S39 := fst_one 39 v c b _ w hlc (by omega) (by omega) rfl
  have tp : decide (c.getD e1 (-1) = ((40 : UInt8).toNat : Int)) = true := by simpa using h40
  rw [tp] at ST
  have S40 := Lib.hid ST
  have UR := Lib.hid (fun (W : World) (hW : Below w.heap.size w W) => furl_any v L c i b _ _ W (rs_keep hv hW) hc (by omega) hi (by omega) (by omega) rfl rfl)
  obtain ⟨T, hTT⟩ : ∃ T, M.encZs U = T := ⟨_, rfl⟩
  obtain ⟨y, hy⟩ : ∃ y, c.getD b (-1) = y := ⟨_, rfl⟩
  rw [hy] at ht hK S34 S39
  rw [hTT] at ht hK LW
  have HTT := Lib.hid hTT
  have HB := Lib.hid hb
  clear ST tp h40 hv hc hl hi hlc hcl htl hUl hcl2 hU he1 hsl hg1 hnl hb' hg2 he1n hy
  by_cases hurl : M.lowL T = [117, 114, 108]
  ·have tu := str_eqF (M.lowL T) [117, 114, 108] true (by simpa using hurl)
   by_cases h34 : y = 34
   ·rw [if_neg (fun h => h.2.1 h34)] at ht hK
    have tp : decide (y = ((34 : UInt8).toNat : Int)) = true := by simpa using h34
    rw [tp] at S34
    have S1 := Lib.hid S34
    have HT := Lib.hid ht
    have HK := Lib.hid (show (e1 : Int) + 1 = K by have := HE1.out; simp only at hK; omega)
    clear ht hK h34 tp S34 S39 hurl hTT hb UR
    as_aux_lemma =>
     go_enter Tryz.func153, Tryz.ntmps153
     go_wp2_with fail
     rw [HW0.out]
     refine (TK.out _ b0).mono ?_
     rintro e w1 ⟨rfl, hb1⟩
     have c1 := b0.trans (hb1.mono b0.size)
     have cb1 := cb0.keep hb1 cb0.lt
     clear hb1 b0 cb0
     rw [HTT.out]
     go_wp2_with fail
     refine (S40.out _ c1).mono ?_
     rintro e w2 ⟨rfl, hb2⟩
     have c2 := c1.trans (hb2.mono c1.size)
     have cb2 := cb1.keep hb2 cb1.lt
     clear hb2 c1 cb1
     go_wp2_with fail
     refine (SB.out _ c2).mono ?_
     rintro e w' ⟨rfl, rfl⟩
     go_wp2_with fail
     refine (LW.out _).mono ?_
     rintro e w3 ⟨rfl, hb3⟩
     have c3 := c2.trans (hb3.mono c2.size)
     have cb3 := cb2.keep hb3 cb2.lt
     clear hb3 c2 cb2
     go_wp2_with fail
     refine (S1.out _ c3).mono ?_
     rintro e w4 ⟨rfl, hb4⟩
     have c4 := c3.trans (hb4.mono c3.size)
     have cb4 := cb3.keep hb4 cb3.lt
     clear hb4 c3 cb3
     go_wp2_with (refine wpl_stT rfl _ _ rfl w.heap.size _ (ctv ({ kind := 2, text := T }) 0) rfl rfl cb4 rfl rfl (ctv_one _ _) ?_)
     go_wp2
     (try simp only [Exit.inBlock, Exit.then])
     refine bodyPost_ret (res_tok rfl _ _ w.heap.size _ _ rfl rfl (CB.set cb4 _) rfl) rfl ⟨(by rw [<- HT.out]; exact etup_ai HK.out), below_setRow c4 (Nat.le_refl _) _⟩
   ·have tp : decide (y = ((34 : UInt8).toNat : Int)) = false := by simpa using h34
    rw [tp] at S34
    have S1 := Lib.hid S34
    by_cases h39 : y = 39
    ·rw [if_neg (fun h => h.2.2 h39)] at ht hK
     have tp2 : decide (y = ((39 : UInt8).toNat : Int)) = true := by simpa using h39
     rw [tp2] at S39
     have S2 := Lib.hid S39
     have HT := Lib.hid ht
     have HK := Lib.hid (show (e1 : Int) + 1 = K by have := HE1.out; simp only at hK; omega)
     clear ht hK h34 h39 tp tp2 S34 S39 hurl hTT hb UR
     as_aux_lemma =>
      go_enter Tryz.func153, Tryz.ntmps153
      go_wp2_with fail
      rw [HW0.out]
      refine (TK.out _ b0).mono ?_
      rintro e w1 ⟨rfl, hb1⟩
      have c1 := b0.trans (hb1.mono b0.size)
      have cb1 := cb0.keep hb1 cb0.lt
      clear hb1 b0 cb0
      rw [HTT.out]
      go_wp2_with fail
      refine (S40.out _ c1).mono ?_
      rintro e w2 ⟨rfl, hb2⟩
      have c2 := c1.trans (hb2.mono c1.size)
      have cb2 := cb1.keep hb2 cb1.lt
      clear hb2 c1 cb1
      go_wp2_with fail
      refine (SB.out _ c2).mono ?_
      rintro e w' ⟨rfl, rfl⟩
      go_wp2_with fail
      refine (LW.out _).mono ?_
      rintro e w3 ⟨rfl, hb3⟩
      have c3 := c2.trans (hb3.mono c2.size)
      have cb3 := cb2.keep hb3 cb2.lt
      clear hb3 c2 cb2
      go_wp2_with fail
      refine (S1.out _ c3).mono ?_
      rintro e w4 ⟨rfl, hb4⟩
      have c4 := c3.trans (hb4.mono c3.size)
      have cb4 := cb3.keep hb4 cb3.lt
      clear hb4 c3 cb3
      go_wp2_with fail
      refine (S2.out _ c4).mono ?_
      rintro e w5 ⟨rfl, hb5⟩
      have c5 := c4.trans (hb5.mono c4.size)
      have cb5 := cb4.keep hb5 cb4.lt
      clear hb5 c4 cb4
      go_wp2_with (refine wpl_stT rfl _ _ rfl w.heap.size _ (ctv ({ kind := 2, text := T }) 0) rfl rfl cb5 rfl rfl (ctv_one _ _) ?_)
      go_wp2
      (try simp only [Exit.inBlock, Exit.then])
      refine bodyPost_ret (res_tok rfl _ _ w.heap.size _ _ rfl rfl (CB.set cb5 _) rfl) rfl ⟨(by rw [<- HT.out]; exact etup_ai HK.out), below_setRow c5 (Nat.le_refl _) _⟩
    ·rw [if_pos ⟨hurl, h34, h39⟩] at ht hK
     have tp2 : decide (y = ((39 : UInt8).toNat : Int)) = false := by simpa using h39
     rw [tp2] at S39
     have S2 := Lib.hid S39
     unfold M.urlK at ht hK
     rw [List.drop_drop, hb] at ht hK
     have ht' : (if (M.urlT false false (c.drop b)).1 = true then { kind := 8, text := M.encZs ((c.drop i).take (b + (M.urlT false false (c.drop b)).2.2 - i)) } else { kind := 7, text := M.encZs (M.urlT false false (c.drop b)).2.1 } : M.CT) = t := by
      rw [<- ht, show b + (M.urlT false false (c.drop b)).2.2 - i = M.nameE (c.drop i) + (M.urlT false false (c.drop b)).2.2 by omega]
      split <;> rfl
     have hK' : b + (M.urlT false false (c.drop b)).2.2 = K := by
      rw [<- hK, <- hb]; split <;> simp only [Nat.add_assoc]
     rw [ht', hK'] at UR
     clear ht hK h34 h39 tp tp2 S34 S39 hurl hTT hb ht' hK'
     as_aux_lemma =>
      go_enter Tryz.func153, Tryz.ntmps153
      go_wp2_with fail
      rw [HW0.out]
      refine (TK.out _ b0).mono ?_
      rintro e w1 ⟨rfl, hb1⟩
      have c1 := b0.trans (hb1.mono b0.size)
      have cb1 := cb0.keep hb1 cb0.lt
      clear hb1 b0 cb0
      rw [HTT.out]
      go_wp2_with fail
      refine (S40.out _ c1).mono ?_
      rintro e w2 ⟨rfl, hb2⟩
      have c2 := c1.trans (hb2.mono c1.size)
      have cb2 := cb1.keep hb2 cb1.lt
      clear hb2 c1 cb1
      go_wp2_with fail
      refine (SB.out _ c2).mono ?_
      rintro e w' ⟨rfl, rfl⟩
      go_wp2_with fail
      refine (LW.out _).mono ?_
      rintro e w3 ⟨rfl, hb3⟩
      have c3 := c2.trans (hb3.mono c2.size)
      have cb3 := cb2.keep hb3 cb2.lt
      clear hb3 c2 cb2
      go_wp2_with fail
      refine (S1.out _ c3).mono ?_
      rintro e w4 ⟨rfl, hb4⟩
      have c4 := c3.trans (hb4.mono c3.size)
      have cb4 := cb3.keep hb4 cb3.lt
      clear hb4 c3 cb3
      go_wp2_with fail
      refine (S2.out _ c4).mono ?_
      rintro e w5 ⟨rfl, hb5⟩
      have c5 := c4.trans (hb5.mono c4.size)
      have cb5 := cb4.keep hb5 cb4.lt
      clear hb5 c4 cb4
      go_wp2_with fail
      refine (UR.out _ c5).mono ?_
      rintro e w6 ⟨rfl, hb6⟩
      have c6 := c5.trans (hb6.mono c5.size)
      have cb6 := cb5.keep hb6 cb5.lt
      clear hb6 c5 cb5
      go_wp2_with (refine wpl_stT rfl _ _ rfl w.heap.size _ (ctv (t) 0) rfl rfl cb6 rfl rfl (ctv_one _ _) ?_)
      go_wp2
      (try simp only [Exit.inBlock, Exit.then])
      refine bodyPost_ret (res_tok rfl _ _ w.heap.size _ _ rfl rfl (CB.set cb6 _) rfl) rfl ⟨rfl, below_setRow c6 (Nat.le_refl _) _⟩
  ·have tu := str_eqF (M.lowL T) [117, 114, 108] false (by simpa using hurl)
   rw [if_neg (fun h => hurl h.1)] at ht hK
   have HT := Lib.hid ht
   have HK := Lib.hid (show (e1 : Int) + 1 = K by have := HE1.out; simp only at hK; omega)
   clear ht hK S34 S39 hurl hTT hb UR
   as_aux_lemma =>
    go_enter Tryz.func153, Tryz.ntmps153
    go_wp2_with fail
    rw [HW0.out]
    refine (TK.out _ b0).mono ?_
    rintro e w1 ⟨rfl, hb1⟩
    have c1 := b0.trans (hb1.mono b0.size)
    have cb1 := cb0.keep hb1 cb0.lt
    clear hb1 b0 cb0
    rw [HTT.out]
    go_wp2_with fail
    refine (S40.out _ c1).mono ?_
    rintro e w2 ⟨rfl, hb2⟩
    have c2 := c1.trans (hb2.mono c1.size)
    have cb2 := cb1.keep hb2 cb1.lt
    clear hb2 c1 cb1
    go_wp2_with fail
    refine (SB.out _ c2).mono ?_
    rintro e w' ⟨rfl, rfl⟩
    go_wp2_with fail
    refine (LW.out _).mono ?_
    rintro e w3 ⟨rfl, hb3⟩
    have c3 := c2.trans (hb3.mono c2.size)
    have cb3 := cb2.keep hb3 cb2.lt
    clear hb3 c2 cb2
    go_wp2_with (refine wpl_stT rfl _ _ rfl w.heap.size _ (ctv ({ kind := 2, text := T }) 0) rfl rfl cb3 rfl rfl (ctv_one _ _) ?_)
    go_wp2
    (try simp only [Exit.inBlock, Exit.then])
    refine bodyPost_ret (res_tok rfl _ _ w.heap.size _ _ rfl rfl (CB.set cb3 _) rfl) rfl ⟨(by rw [<- HT.out]; exact etup_ai HK.out), below_setRow c3 (Nat.le_refl _) _⟩
 ·have tp : decide (c.getD e1 (-1) = ((40 : UInt8).toNat : Int)) = false := by simpa using h40
  rw [tp] at ST
  have S40 := Lib.hid ST
  rw [if_neg (by rw [hg1]; exact h40), hU] at ht hK
  have HT := Lib.hid ht
  have HK := Lib.hid (show (e1 : Int) = K by have := HE1.out; simp only at hK; omega)
  clear ST tp h40 hv hc hl hi hlc hcl htl hUl hcl2 hU he1 hsl hg1 ht hK
  as_aux_lemma =>
   go_enter Tryz.func153, Tryz.ntmps153
   go_wp2_with fail
   rw [HW0.out]
   refine (TK.out _ b0).mono ?_
   rintro e w1 ⟨rfl, hb1⟩
   have c1 := b0.trans (hb1.mono b0.size)
   have cb1 := cb0.keep hb1 cb0.lt
   clear hb1 b0 cb0
   go_wp2_with fail
   refine (S40.out _ c1).mono ?_
   rintro e w2 ⟨rfl, hb2⟩
   have c2 := c1.trans (hb2.mono c1.size)
   have cb2 := cb1.keep hb2 cb1.lt
   clear hb2 c1 cb1
   go_wp2_with (refine wpl_stT rfl _ _ rfl w.heap.size _ (ctv ({ kind := 1, text := M.encZs U }) 0) rfl rfl cb2 rfl rfl (ctv_one _ _) ?_)
   go_wp2
   (try simp only [Exit.inBlock, Exit.then])
   refine bodyPost_ret (res_tok rfl _ _ w.heap.size _ _ rfl rfl (CB.set cb2 _) rfl) rfl ⟨(by rw [<- HT.out]; exact etup_ai HK.out), below_setRow c2 (Nat.le_refl _) _⟩
theorem tk_1 (D : List Int) (h1 : M.stC [47, 42] D = true) : M.tkC D = M.tokW 1 D := by
 unfold M.tkC
 rw [show M.wayT D = 1 by unfold M.wayT; rw [if_pos h1]]
theorem tk_2 (D : List Int) (h1 : ¬ (M.stC [47, 42] D = true)) (h2 : M.isBl (D.getD 0 (-1)) = true) : M.tkC D = M.tokW 2 D := by
 unfold M.tkC
 rw [show M.wayT D = 2 by unfold M.wayT; rw [if_neg h1, if_pos h2]]
theorem tk_3 (D : List Int) (h1 : ¬ (M.stC [47, 42] D = true)) (h2 : ¬ (M.isBl (D.getD 0 (-1)) = true)) (h3 : D.getD 0 (-1) = 34 \/ D.getD 0 (-1) = 39) : M.tkC D = M.tokW 3 D := by
 unfold M.tkC
 rw [show M.wayT D = 3 by unfold M.wayT; rw [if_neg h1, if_neg h2, if_pos h3]]
theorem tk_4 (D : List Int) (h1 : ¬ (M.stC [47, 42] D = true)) (h2 : ¬ (M.isBl (D.getD 0 (-1)) = true)) (h3 : ¬ (D.getD 0 (-1) = 34 \/ D.getD 0 (-1) = 39)) (h4 : D.getD 0 (-1) = 35 /\ M.inNm (D.drop 1) = true) : M.tkC D = M.tokW 4 D := by
 unfold M.tkC
 rw [show M.wayT D = 4 by unfold M.wayT; rw [if_neg h1, if_neg h2, if_neg h3, if_pos h4]]
theorem tk_5 (D : List Int) (h1 : ¬ (M.stC [47, 42] D = true)) (h2 : ¬ (M.isBl (D.getD 0 (-1)) = true)) (h3 : ¬ (D.getD 0 (-1) = 34 \/ D.getD 0 (-1) = 39)) (h4 : ¬ (D.getD 0 (-1) = 35 /\ M.inNm (D.drop 1) = true)) (h5 : M.numB D = true) : M.tkC D = M.tokW 5 D := by
 unfold M.tkC
 rw [show M.wayT D = 5 by unfold M.wayT; rw [if_neg h1, if_neg h2, if_neg h3, if_neg h4, if_pos h5]]
theorem tk_6 (D : List Int) (h1 : ¬ (M.stC [47, 42] D = true)) (h2 : ¬ (M.isBl (D.getD 0 (-1)) = true)) (h3 : ¬ (D.getD 0 (-1) = 34 \/ D.getD 0 (-1) = 39)) (h4 : ¬ (D.getD 0 (-1) = 35 /\ M.inNm (D.drop 1) = true)) (h5 : ¬ (M.numB D = true)) (h6 : M.stC [45, 45, 62] D = true) : M.tkC D = M.tokW 6 D := by
 unfold M.tkC
 rw [show M.wayT D = 6 by unfold M.wayT; rw [if_neg h1, if_neg h2, if_neg h3, if_neg h4, if_neg h5, if_pos h6]]
theorem tk_7 (D : List Int) (h1 : ¬ (M.stC [47, 42] D = true)) (h2 : ¬ (M.isBl (D.getD 0 (-1)) = true)) (h3 : ¬ (D.getD 0 (-1) = 34 \/ D.getD 0 (-1) = 39)) (h4 : ¬ (D.getD 0 (-1) = 35 /\ M.inNm (D.drop 1) = true)) (h5 : ¬ (M.numB D = true)) (h6 : ¬ (M.stC [45, 45, 62] D = true)) (h7 : M.stC [60, 33, 45, 45] D = true) : M.tkC D = M.tokW 7 D := by
 unfold M.tkC
 rw [show M.wayT D = 7 by unfold M.wayT; rw [if_neg h1, if_neg h2, if_neg h3, if_neg h4, if_neg h5, if_neg h6, if_pos h7]]
theorem tk_8 (D : List Int) (h1 : ¬ (M.stC [47, 42] D = true)) (h2 : ¬ (M.isBl (D.getD 0 (-1)) = true)) (h3 : ¬ (D.getD 0 (-1) = 34 \/ D.getD 0 (-1) = 39)) (h4 : ¬ (D.getD 0 (-1) = 35 /\ M.inNm (D.drop 1) = true)) (h5 : ¬ (M.numB D = true)) (h6 : ¬ (M.stC [45, 45, 62] D = true)) (h7 : ¬ (M.stC [60, 33, 45, 45] D = true)) (h8 : M.begN D = true) : M.tkC D = M.tokW 8 D := by
 unfold M.tkC
 rw [show M.wayT D = 8 by unfold M.wayT; rw [if_neg h1, if_neg h2, if_neg h3, if_neg h4, if_neg h5, if_neg h6, if_neg h7, if_pos h8]]
theorem tk_9 (D : List Int) (h1 : ¬ (M.stC [47, 42] D = true)) (h2 : ¬ (M.isBl (D.getD 0 (-1)) = true)) (h3 : ¬ (D.getD 0 (-1) = 34 \/ D.getD 0 (-1) = 39)) (h4 : ¬ (D.getD 0 (-1) = 35 /\ M.inNm (D.drop 1) = true)) (h5 : ¬ (M.numB D = true)) (h6 : ¬ (M.stC [45, 45, 62] D = true)) (h7 : ¬ (M.stC [60, 33, 45, 45] D = true)) (h8 : ¬ (M.begN D = true)) (h9 : D.getD 0 (-1) = 64 /\ M.begN (D.drop 1) = true) : M.tkC D = M.tokW 9 D := by
 unfold M.tkC
 rw [show M.wayT D = 9 by unfold M.wayT; rw [if_neg h1, if_neg h2, if_neg h3, if_neg h4, if_neg h5, if_neg h6, if_neg h7, if_neg h8, if_pos h9]]
theorem tk_10 (D : List Int) (h1 : ¬ (M.stC [47, 42] D = true)) (h2 : ¬ (M.isBl (D.getD 0 (-1)) = true)) (h3 : ¬ (D.getD 0 (-1) = 34 \/ D.getD 0 (-1) = 39)) (h4 : ¬ (D.getD 0 (-1) = 35 /\ M.inNm (D.drop 1) = true)) (h5 : ¬ (M.numB D = true)) (h6 : ¬ (M.stC [45, 45, 62] D = true)) (h7 : ¬ (M.stC [60, 33, 45, 45] D = true)) (h8 : ¬ (M.begN D = true)) (h9 : ¬ (D.getD 0 (-1) = 64 /\ M.begN (D.drop 1) = true)) : M.tkC D = M.tokW 10 D := by
 unfold M.tkC
 rw [show M.wayT D = 10 by unfold M.wayT; rw [if_neg h1, if_neg h2, if_neg h3, if_neg h4, if_neg h5, if_neg h6, if_neg h7, if_neg h8, if_neg h9]]
theorem ftoken_any (v : Value) (L : List (Int × Int)) (c : List Int) (i : Nat) (t : M.CT) (k : Nat) (w : World) (hT : Tabs w) (hv : Rs w v L) (hc : cps L = c) (hl : L.length <= 40000) (hi : i < L.length)
  (ht : M.tkC (c.drop i) = (t, k)) :
  Calls Tryz.prog 115 #[v, .int .i64 (i : Int)] w (TkR w t (i + k)) := by
 have hlc := hv.lc
 rw [hc] at hlc
 have hcl : c.length = L.length := by rw [<- hc, cps_len]
 obtain ⟨n, hn⟩ : ∃ n, L.length = n := ⟨_, rfl⟩
 rw [hn] at hl hi hcl
 have hcn : c.length <= 100000 := by omega
 obtain ⟨a, cap, hvv, h1, h2, h3⟩ := rs_open hv hn
 obtain ⟨p, off, rfl, hp, h4⟩ := h3 (by omega)
 have c00 := (h4 i (by omega)).1
 have e0 : (L[i]'(by omega)).1 = c.getD i (-1) := by rw [<- hc]; simp [cps, List.getD, show i < L.length by omega]
 rw [e0] at c00
 obtain ⟨y, hy⟩ : ∃ y, c.getD i (-1) = y := ⟨_, rfl⟩
 have hD0 : (c.drop i).getD 0 (-1) = y := by rw [getD_drop, Nat.add_zero]; exact hy
 have hD1 : (c.drop i).drop 1 = c.drop (i + 1) := by rw [List.drop_drop]
 rw [hy] at c00
 have KV := Lib.hid (fun W (hW : Below w.heap.size w W) => rs_keep hv hW)
 have KL := Lib.hid (fun W (hW : Below w.heap.size w W) => hlc.keep hW)
 have S1 := Lib.hid (fun W (hW : Below w.heap.size w W) => fstands_any v c i [47, 42] _ W (hlc.keep hW) (by omega) (by omega) (by simp) (by simp) rfl)
 have X2 := Lib.hid (fun W => isbl_any y _ W rfl)
 have X4 := Lib.hid (fun W (hW : Below w.heap.size w W) => finn_any v c (i + 1) _ W (hlc.keep hW) (by omega) (by omega) rfl)
 rw [show ((i + 1 : Nat) : Int) = (i : Int) + 1 by omega] at X4
 have S5 := Lib.hid (fun W (hW : Below w.heap.size w W) => fnumb_any v c i _ W (hlc.keep hW) (by omega) (by omega) rfl)
 have S6 := Lib.hid (fun W (hW : Below w.heap.size w W) => fstands_any v c i [45, 45, 62] _ W (hlc.keep hW) (by omega) (by omega) (by simp) (by simp) rfl)
 have S7 := Lib.hid (fun W (hW : Below w.heap.size w W) => fstands_any v c i [60, 33, 45, 45] _ W (hlc.keep hW) (by omega) (by omega) (by simp) (by simp) rfl)
 have X8 := fun W (hW : Below w.heap.size w W) => nbegins_any v c (i : Int) _ W (hlc.keep hW) (by omega) rfl
 rw [if_neg (by omega), Int.toNat_natCast] at X8
 have X9 := fun W (hW : Below w.heap.size w W) => nbegins_any v c ((i : Int) + 1) _ W (hlc.keep hW) (by omega) rfl
 rw [if_neg (by omega), show ((i : Int) + 1).toNat = i + 1 by omega] at X9
 have F1 := Lib.hid (fun W (hW : Below w.heap.size w W) (h : i + 2 <= n) => fcomment_any v L c i _ _ W (rs_keep hv hW) hc (by omega) (by omega) rfl rfl)
 have F2 := Lib.hid (fun W (hW : Below w.heap.size w W) => fspace_any v c i _ W (hlc.keep hW) hcn (by omega) rfl)
 have F3 := Lib.hid (fun W (hW : Below w.heap.size w W) (h : y = 34 \/ y = 39) => ftext_any v L c i y _ _ W (rs_keep hv hW) hc (by omega) (by omega) hy h rfl rfl)
 have F4 := Lib.hid (fun W (hW : Below w.heap.size w W) => fhash_any v c i W (hlc.keep hW) hcn (by omega))
 have F5 := Lib.hid (fun W (hW : Below w.heap.size w W) (h : M.numB (c.drop i) = true) => fnumeric_any v L c i _ _ W (hT.keep hW) (rs_keep hv hW) hc (by omega) (by omega) h rfl rfl)
 have F8 := Lib.hid (fun W (hW : Below w.heap.size w W) => fnamed_any v L c i _ _ W (rs_keep hv hW) hc (by omega) (by omega) rfl rfl)
 have hcl9 : clampN ((i : Int) + 1) c.length = i + 1 := by unfold clampN; omega
 obtain ⟨U9, hU9⟩ : ∃ U, (M.takeN (c.drop (i + 1))).1 = U := ⟨_, rfl⟩
 obtain ⟨e9, he9⟩ : ∃ U, i + 1 + (M.takeN (c.drop (i + 1))).2 = U := ⟨_, rfl⟩
 have F9 := Lib.hid (fun W (hW : Below w.heap.size w W) => ntake_core v c ((i : Int) + 1) U9 e9 W (hlc.keep hW) hcn (by rw [hcl9]; exact hU9) (by rw [hcl9]; exact he9))
 have F10 := Lib.hid (fun W (hW : Below w.heap.size w W) => fsingle_any v L c i W (rs_keep hv hW) hc (by omega) (by omega))
 obtain ⟨b1, hb1⟩ : ∃ b, M.stC (asI [47, 42]) (c.drop i) = b := ⟨_, rfl⟩
 obtain ⟨b2, hb2⟩ : ∃ b, M.isBl y = b := ⟨_, rfl⟩
 obtain ⟨b4, hb4⟩ : ∃ b, M.inNm (c.drop (i + 1)) = b := ⟨_, rfl⟩
 obtain ⟨b5, hb5⟩ : ∃ b, M.numB (c.drop i) = b := ⟨_, rfl⟩
 obtain ⟨b6, hb6⟩ : ∃ b, M.stC (asI [45, 45, 62]) (c.drop i) = b := ⟨_, rfl⟩
 obtain ⟨b7, hb7⟩ : ∃ b, M.stC (asI [60, 33, 45, 45]) (c.drop i) = b := ⟨_, rfl⟩
 obtain ⟨b8, hb8⟩ : ∃ b, M.begN (c.drop i) = b := ⟨_, rfl⟩
 obtain ⟨b9, hb9⟩ : ∃ b, M.begN (c.drop (i + 1)) = b := ⟨_, rfl⟩
 rw [hb1] at S1
 rw [hb2] at X2
 rw [hb4] at X4
 rw [hb5] at S5
 rw [hb6] at S6
 rw [hb7] at S7
 rw [hb8] at X8
 rw [hb9] at X9
 have X8 := Lib.hid X8
 have X9 := Lib.hid X9
 have hasc1 : asI [47, 42] = [47, 42] := rfl
 have hasc6 : asI [45, 45, 62] = [45, 45, 62] := rfl
 have hasc7 : asI [60, 33, 45, 45] = [60, 33, 45, 45] := rfl
 rw [hasc1] at hb1
 rw [hasc6] at hb6
 rw [hasc7] at hb7
 have B1 := Lib.hid hb1
 have B2 := Lib.hid (show M.isBl ((c.drop i).getD 0 (-1)) = b2 by rw [hD0]; exact hb2)
 have B4 := Lib.hid (show M.inNm ((c.drop i).drop 1) = b4 by rw [hD1]; exact hb4)
 have B5 := Lib.hid hb5
 have B6 := Lib.hid hb6
 have B7 := Lib.hid hb7
 have B8 := Lib.hid hb8
 have B9 := Lib.hid (show M.begN ((c.drop i).drop 1) = b9 by rw [hD1]; exact hb9)
 have HD0 := Lib.hid hD0
 have HD1 := Lib.hid hD1
 have HT := Lib.hid ht
 have HU9 := Lib.hid hU9
 have HE9 := Lib.hid he9
 have HY := Lib.hid hy
 obtain ⟨W0, hW0, cb0, b0, z0⟩ := w0_facts w
 have cr : (w.alloc (.cells #[.int .i64 0, .string ⟨#[]⟩, .string ⟨#[]⟩, .bool false, .string ⟨#[]⟩, .string ⟨#[]⟩, .bool false, .bool false, .int .i64 0, .int .i64 0, .int .i64 0, .int .i64 0, .int .i64 0] 33)).cell? ⟨p, off + i * 2, none⟩ = some (.int .i64 y) := by rw [hW0, b0.cell (p := ⟨p, off + i * 2, none⟩) hp]; exact c00
 have HW0 := Lib.hid hW0
 have i1 : (0 : Int) <= i := by omega
 have i2 : (i : Int) < n := by omega
 have i3 : (n : Int) <= 40000 := by omega
 have HLN := Lib.hid hcl
 subst hvv
 unfold maxLen at h2
 clear hW0 z0 hT hc hl h3 h4 hlc hcl hcn hcl9 hU9 he9 hb1 hb2 hb4 hb5 hb6 hb7 hb8 hb9 hasc1 hasc6 hasc7 hD0 hD1 ht c00 e0 hy hn hv
 go_enter Tryz.func115, Tryz.ntmps115
 go_wp2_with fail
 rw [HW0.out]
 clear cr
 refine (S1.out _ b0).mono ?_
 rintro e w1 ⟨rfl, hb1⟩
 have c1 := b0.trans (hb1.mono b0.size)
 have cb1 := cb0.keep hb1 cb0.lt
 clear hb1 b0 cb0
 cases b1 with
 | true =>
  have e := tk_1 (c.drop i)  B1.out
  rw [HT.out] at e
  simp only [M.tokW, Nat.reduceEqDiff, if_true, if_false] at e
  rw [show (c.drop i).drop 2 = c.drop (i + 2) from List.drop_drop] at e
  have ET := Lib.hid (Prod.mk.inj e).1.symm
  have hin : i + 2 <= n := by have := M.stC_len _ _ B1.out; rw [List.length_drop, HLN.out] at this; simp at this; omega
  have R := F1.out _ c1 hin
  have RR := Lib.hid R
  obtain ⟨q1, hq1⟩ : ∃ q, i + 2 + (M.cmT (c.drop (i + 2))).2 = q := ⟨_, rfl⟩
  rw [hq1] at RR
  have EK := Lib.hid (show (q1 : Int) = ((i + k : Nat) : Int) by have := (Prod.mk.inj e).2; omega)
  clear e R hq1
  as_aux_lemma =>
   go_wp2_with fail
   refine (RR.out).mono ?_
   rintro e w9 ⟨rfl, hb9⟩
   have c9 := c1.trans (hb9.mono c1.size)
   have cb9 := cb1.keep hb9 cb1.lt
   clear hb9 c1 cb1
   go_wp2_with (refine wpl_stT rfl _ _ rfl w.heap.size _ (ctv ({ kind := 25, text := M.encZs (M.cmT (c.drop (i + 2))).1 }) 0) rfl rfl cb9 rfl rfl (ctv_one _ _) ?_)
   go_wp2
   (try simp only [Exit.inBlock, Exit.then])
   refine bodyPost_ret (res_tok rfl _ _ w.heap.size _ _ rfl rfl (CB.set cb9 _) rfl) rfl ⟨(by rw [<- ET.out]; exact etup_ai EK.out), below_setRow c9 (Nat.le_refl _) _⟩
 | false =>
  go_wp2_with fail
  refine (X2.out _).mono ?_
  rintro e w' ⟨rfl, rfl⟩
  cases b2 with
  | true =>
   have e := tk_2 (c.drop i) (by rw [B1.out]; simp) B2.out
   rw [HT.out] at e
   simp only [M.tokW, Nat.reduceEqDiff, if_true, if_false] at e
   have R := F2.out _ c1
   rw [HY.out] at R
   rw [HD0.out] at e
   have RR := Lib.hid R
   obtain ⟨q1, hq1⟩ : ∃ q, i + M.blN (c.drop i) = q := ⟨_, rfl⟩
   rw [hq1] at RR
   obtain ⟨q2, hq2⟩ : ∃ q, (if y = 10 then [10] else [32] : List UInt8) = q := ⟨_, rfl⟩
   rw [hq2] at RR e
   have ET := Lib.hid (Prod.mk.inj e).1.symm
   have EK := Lib.hid (show (q1 : Int) = ((i + k : Nat) : Int) by have := (Prod.mk.inj e).2; omega)
   clear e R hq1 hq2
   as_aux_lemma =>
    go_wp2_with fail
    refine (RR.out).mono ?_
    rintro e w9 ⟨rfl, hb9⟩
    have c9 := c1.trans (hb9.mono c1.size)
    have cb9 := cb1.keep hb9 cb1.lt
    clear hb9 c1 cb1
    go_wp2_with (refine wpl_stT rfl _ _ rfl w.heap.size _ (ctv ({ kind := 13, text := q2 }) 0) rfl rfl cb9 rfl rfl (ctv_one _ _) ?_)
    go_wp2
    (try simp only [Exit.inBlock, Exit.then])
    refine bodyPost_ret (res_tok rfl _ _ w.heap.size _ _ rfl rfl (CB.set cb9 _) rfl) rfl ⟨(by rw [<- ET.out]; exact etup_ai EK.out), below_setRow c9 (Nat.le_refl _) _⟩
  | false =>
   by_cases N3 : y = 34 \/ y = 39
   ·have e := tk_3 (c.drop i) (by rw [B1.out]; simp) (by rw [B2.out]; simp) (by rw [HD0.out]; exact N3)
    rw [HT.out] at e
    simp only [M.tokW, Nat.reduceEqDiff, if_true, if_false] at e
    unfold M.txtT at e
    rw [HD0.out, HD1.out] at e
    have R := F3.out _ c1 N3
    have hk1 : i + k = i + (1 + (M.strT y (c.drop (i + 1))).2.2) := by
     have := congrArg Prod.snd e
     rw [show k = (t, k).2 from rfl, this]
     split <;> rfl
    have ht1 : (if (M.strT y (c.drop (i + 1))).1 = true then { kind := 6, text := M.encZs ((c.drop i).take (1 + (M.strT y (c.drop (i + 1))).2.2)) } else { kind := 5, text := M.encZs (M.strT y (c.drop (i + 1))).2.1 } : M.CT) = t := by
     have := congrArg Prod.fst e
     rw [show t = (t, k).1 from rfl, this]
     split <;> rfl
    rw [ht1, <- hk1] at R
    have RR := Lib.hid R
    obtain ⟨q1, hq1⟩ : ∃ q, i + k = q := ⟨_, rfl⟩
    have EK := Lib.hid (show (q1 : Int) = ((i + k : Nat) : Int) by rw [hq1])
    rw [hq1] at RR
    have hy3 : y = 34 \/ (y ≠ 34 /\ y = 39) := by omega
    clear e R hq1 hk1 ht1 N3
    rcases hy3 with h34 | ⟨h34, h39⟩
    ·have tp : (y == 34) = true := by simpa using h34
     clear h34
     as_aux_lemma =>
      go_wp2_with fail
      refine (RR.out).mono ?_
      rintro e w9 ⟨rfl, hb9⟩
      have c9 := c1.trans (hb9.mono c1.size)
      have cb9 := cb1.keep hb9 cb1.lt
      clear hb9 c1 cb1
      go_wp2_with (refine wpl_stT rfl _ _ rfl w.heap.size _ (ctv (t) 0) rfl rfl cb9 rfl rfl (ctv_one _ _) ?_)
      go_wp2
      (try simp only [Exit.inBlock, Exit.then])
      refine bodyPost_ret (res_tok rfl _ _ w.heap.size _ _ rfl rfl (CB.set cb9 _) rfl) rfl ⟨(etup_ai EK.out), below_setRow c9 (Nat.le_refl _) _⟩
    ·have tp : (y == 34) = false := by simpa using h34
     have tp2 : (y == 39) = true := by simpa using h39
     clear h34 h39
     as_aux_lemma =>
      go_wp2_with fail
      refine (RR.out).mono ?_
      rintro e w9 ⟨rfl, hb9⟩
      have c9 := c1.trans (hb9.mono c1.size)
      have cb9 := cb1.keep hb9 cb1.lt
      clear hb9 c1 cb1
      go_wp2_with (refine wpl_stT rfl _ _ rfl w.heap.size _ (ctv (t) 0) rfl rfl cb9 rfl rfl (ctv_one _ _) ?_)
      go_wp2
      (try simp only [Exit.inBlock, Exit.then])
      refine bodyPost_ret (res_tok rfl _ _ w.heap.size _ _ rfl rfl (CB.set cb9 _) rfl) rfl ⟨(etup_ai EK.out), below_setRow c9 (Nat.le_refl _) _⟩
   ·have tp : (y == 34) = false := by rw [beq_eq_false_iff_ne]; omega
    have tp2 : (y == 39) = false := by rw [beq_eq_false_iff_ne]; omega
    have N3 := Lib.hid N3
    by_cases h35 : y = 35 /\ b4 = true
    ·obtain ⟨h35, rfl⟩ := h35
     have N4 := h35
     have tp3 : (y == 35) = true := by simpa using h35
     have e := tk_4 (c.drop i) (by rw [B1.out]; simp) (by rw [B2.out]; simp) (by rw [HD0.out]; exact N3.out) (by rw [HD0.out, B4.out]; exact ⟨N4, rfl⟩)
     rw [HT.out] at e
     simp only [M.tokW, Nat.reduceEqDiff, if_true, if_false] at e
     rw [HD1.out] at e
     have ET := Lib.hid (Prod.mk.inj e).1.symm
     have R := F4.out _ c1
     have RR := Lib.hid R
     obtain ⟨q1, hq1⟩ : ∃ q, i + 1 + (M.takeN (c.drop (i + 1))).2 = q := ⟨_, rfl⟩
     rw [hq1] at RR
     have EK := Lib.hid (show (q1 : Int) = ((i + k : Nat) : Int) by have := (Prod.mk.inj e).2; omega)
     clear e R hq1 h35 N4
     go_wp2_with fail
     refine (X4.out _ c1).mono ?_
     rintro e w' ⟨rfl, rfl⟩
     as_aux_lemma =>
      go_wp2_with fail
      refine (RR.out).mono ?_
      rintro e w9 ⟨rfl, hb9⟩
      have c9 := c1.trans (hb9.mono c1.size)
      have cb9 := cb1.keep hb9 cb1.lt
      clear hb9 c1 cb1
      go_wp2_with (refine wpl_stT rfl _ _ rfl w.heap.size _ (ctv ({ kind := 4, text := M.encZs (M.takeN (c.drop (i + 1))).1, flag := M.begN (c.drop (i + 1)) }) 0) rfl rfl cb9 rfl rfl (ctv_one _ _) ?_)
      go_wp2
      (try simp only [Exit.inBlock, Exit.then])
      refine bodyPost_ret (res_tok rfl _ _ w.heap.size _ _ rfl rfl (CB.set cb9 _) rfl) rfl ⟨(by rw [<- ET.out]; exact etup_ai EK.out), below_setRow c9 (Nat.le_refl _) _⟩
    ·have N4 : Hid (¬ (y = 35 /\ b4 = true)) := Lib.hid h35
     have h35' : (y = 35 /\ b4 = false) \/ ¬ y = 35 := by
      cases b4
      ·by_cases h : y = 35
       ·exact .inl ⟨h, rfl⟩
       ·exact .inr h
      ·exact .inr (fun h => h35 ⟨h, rfl⟩)
     clear h35
     rcases h35' with ⟨h35, hb4⟩ | h35
     ·subst hb4
      have tp3 : (y == 35) = true := by simpa using h35
      clear h35
      go_wp2_with fail
      refine (X4.out _ c1).mono ?_
      rintro e w' ⟨rfl, rfl⟩
      go_wp2_with fail
      refine (S5.out _ c1).mono ?_
      rintro e w2 ⟨rfl, hb2⟩
      have c2 := c1.trans (hb2.mono c1.size)
      have cb2 := cb1.keep hb2 cb1.lt
      clear hb2 c1 cb1
      cases b5 with
      | true =>
       have e := tk_5 (c.drop i) (by rw [B1.out]; simp) (by rw [B2.out]; simp) (by rw [HD0.out]; exact N3.out) (by rw [HD0.out, B4.out]; exact N4.out) B5.out
       rw [HT.out] at e
       simp only [M.tokW, Nat.reduceEqDiff, if_true, if_false] at e
       have R := F5.out _ c2 B5.out
       have ht1 : (M.numT (c.drop i)).1 = t := (congrArg Prod.fst e).symm
       have hk1 : (M.numT (c.drop i)).2 = k := (congrArg Prod.snd e).symm
       rw [ht1, hk1] at R
       have RR := Lib.hid R
       obtain ⟨q1, hq1⟩ : ∃ q, i + k = q := ⟨_, rfl⟩
       have EK := Lib.hid (show (q1 : Int) = ((i + k : Nat) : Int) by rw [hq1])
       rw [hq1] at RR
       clear e R hq1 ht1 hk1
       as_aux_lemma =>
        go_wp2_with fail
        refine (RR.out).mono ?_
        rintro e w9 ⟨rfl, hb9⟩
        have c9 := c2.trans (hb9.mono c2.size)
        have cb9 := cb2.keep hb9 cb2.lt
        clear hb9 c2 cb2
        go_wp2_with (refine wpl_stT rfl _ _ rfl w.heap.size _ (ctv (t) 0) rfl rfl cb9 rfl rfl (ctv_one _ _) ?_)
        go_wp2
        (try simp only [Exit.inBlock, Exit.then])
        refine bodyPost_ret (res_tok rfl _ _ w.heap.size _ _ rfl rfl (CB.set cb9 _) rfl) rfl ⟨(etup_ai EK.out), below_setRow c9 (Nat.le_refl _) _⟩
      | false =>
       go_wp2_with fail
       refine (S6.out _ c2).mono ?_
       rintro e w3 ⟨rfl, hb3⟩
       have c3 := c2.trans (hb3.mono c2.size)
       have cb3 := cb2.keep hb3 cb2.lt
       clear hb3 c2 cb2
       cases b6 with
       | true =>
        have e := tk_6 (c.drop i) (by rw [B1.out]; simp) (by rw [B2.out]; simp) (by rw [HD0.out]; exact N3.out) (by rw [HD0.out, B4.out]; exact N4.out) (by rw [B5.out]; simp) B6.out
        rw [HT.out] at e
        simp only [M.tokW, Nat.reduceEqDiff, if_true, if_false] at e
        have ET := Lib.hid (Prod.mk.inj e).1.symm
        have EK := Lib.hid (show (i : Int) + 3 = ((i + k : Nat) : Int) by have := (Prod.mk.inj e).2; omega)
        clear e
        as_aux_lemma =>
         go_wp2_with (refine wpl_stT rfl _ _ rfl w.heap.size _ (ctv ({ kind := 15 }) 0) rfl rfl cb3 rfl rfl (ctv_one _ _) ?_)
         go_wp2
         (try simp only [Exit.inBlock, Exit.then])
         refine bodyPost_ret (res_tok rfl _ _ w.heap.size _ _ rfl rfl (CB.set cb3 _) rfl) rfl ⟨(by rw [<- ET.out]; exact etup_ai EK.out), below_setRow c3 (Nat.le_refl _) _⟩
       | false =>
        go_wp2_with fail
        refine (S7.out _ c3).mono ?_
        rintro e w4 ⟨rfl, hb4⟩
        have c4 := c3.trans (hb4.mono c3.size)
        have cb4 := cb3.keep hb4 cb3.lt
        clear hb4 c3 cb3
        cases b7 with
        | true =>
         have e := tk_7 (c.drop i) (by rw [B1.out]; simp) (by rw [B2.out]; simp) (by rw [HD0.out]; exact N3.out) (by rw [HD0.out, B4.out]; exact N4.out) (by rw [B5.out]; simp) (by rw [B6.out]; simp) B7.out
         rw [HT.out] at e
         simp only [M.tokW, Nat.reduceEqDiff, if_true, if_false] at e
         have ET := Lib.hid (Prod.mk.inj e).1.symm
         have EK := Lib.hid (show (i : Int) + 4 = ((i + k : Nat) : Int) by have := (Prod.mk.inj e).2; omega)
         clear e
         as_aux_lemma =>
          go_wp2_with (refine wpl_stT rfl _ _ rfl w.heap.size _ (ctv ({ kind := 14 }) 0) rfl rfl cb4 rfl rfl (ctv_one _ _) ?_)
          go_wp2
          (try simp only [Exit.inBlock, Exit.then])
          refine bodyPost_ret (res_tok rfl _ _ w.heap.size _ _ rfl rfl (CB.set cb4 _) rfl) rfl ⟨(by rw [<- ET.out]; exact etup_ai EK.out), below_setRow c4 (Nat.le_refl _) _⟩
        | false =>
         go_wp2_with fail
         refine (X8.out _ c4).mono ?_
         rintro e w' ⟨rfl, rfl⟩
         cases b8 with
         | true =>
          have e := tk_8 (c.drop i) (by rw [B1.out]; simp) (by rw [B2.out]; simp) (by rw [HD0.out]; exact N3.out) (by rw [HD0.out, B4.out]; exact N4.out) (by rw [B5.out]; simp) (by rw [B6.out]; simp) (by rw [B7.out]; simp) B8.out
          rw [HT.out] at e
          simp only [M.tokW, Nat.reduceEqDiff, if_true, if_false] at e
          have R := F8.out _ c4
          have ht1 : (M.namT (c.drop i)).1 = t := (congrArg Prod.fst e).symm
          have hk1 : (M.namT (c.drop i)).2 = k := (congrArg Prod.snd e).symm
          rw [ht1, hk1] at R
          have RR := Lib.hid R
          obtain ⟨q1, hq1⟩ : ∃ q, i + k = q := ⟨_, rfl⟩
          have EK := Lib.hid (show (q1 : Int) = ((i + k : Nat) : Int) by rw [hq1])
          rw [hq1] at RR
          clear e R hq1 ht1 hk1
          as_aux_lemma =>
           go_wp2_with fail
           refine (RR.out).mono ?_
           rintro e w9 ⟨rfl, hb9⟩
           have c9 := c4.trans (hb9.mono c4.size)
           have cb9 := cb4.keep hb9 cb4.lt
           clear hb9 c4 cb4
           go_wp2_with (refine wpl_stT rfl _ _ rfl w.heap.size _ (ctv (t) 0) rfl rfl cb9 rfl rfl (ctv_one _ _) ?_)
           go_wp2
           (try simp only [Exit.inBlock, Exit.then])
           refine bodyPost_ret (res_tok rfl _ _ w.heap.size _ _ rfl rfl (CB.set cb9 _) rfl) rfl ⟨(etup_ai EK.out), below_setRow c9 (Nat.le_refl _) _⟩
         | false =>
          by_cases h64 : y = 64 /\ b9 = true
          ·obtain ⟨h64, rfl⟩ := h64
           have N9 := h64
           have tp4 : (y == 64) = true := by simpa using h64
           have e := tk_9 (c.drop i) (by rw [B1.out]; simp) (by rw [B2.out]; simp) (by rw [HD0.out]; exact N3.out) (by rw [HD0.out, B4.out]; exact N4.out) (by rw [B5.out]; simp) (by rw [B6.out]; simp) (by rw [B7.out]; simp) (by rw [B8.out]; simp) (by rw [HD0.out, B9.out]; exact ⟨N9, rfl⟩)
           rw [HT.out] at e
           simp only [M.tokW, Nat.reduceEqDiff, if_true, if_false] at e
           rw [HD1.out, HU9.out] at e
           have ET := Lib.hid (Prod.mk.inj e).1.symm
           have EK := Lib.hid (show (e9 : Int) = ((i + k : Nat) : Int) by have := HE9.out; have := (Prod.mk.inj e).2; omega)
           clear e h64 N9
           go_wp2_with fail
           refine (X9.out _ c4).mono ?_
           rintro e w' ⟨rfl, rfl⟩
           as_aux_lemma =>
            go_wp2_with fail
            refine (F9.out _ c4).mono ?_
            rintro e w9 ⟨rfl, hb9⟩
            have c9 := c4.trans (hb9.mono c4.size)
            have cb9 := cb4.keep hb9 cb4.lt
            clear hb9 c4 cb4
            go_wp2_with (refine wpl_stT rfl _ _ rfl w.heap.size _ (ctv ({ kind := 3, text := M.encZs U9 }) 0) rfl rfl cb9 rfl rfl (ctv_one _ _) ?_)
            go_wp2
            (try simp only [Exit.inBlock, Exit.then])
            refine bodyPost_ret (res_tok rfl _ _ w.heap.size _ _ rfl rfl (CB.set cb9 _) rfl) rfl ⟨(by rw [<- ET.out]; exact etup_ai EK.out), below_setRow c9 (Nat.le_refl _) _⟩
          ·have N9 : Hid (¬ (y = 64 /\ b9 = true)) := Lib.hid h64
           have e := tk_10 (c.drop i) (by rw [B1.out]; simp) (by rw [B2.out]; simp) (by rw [HD0.out]; exact N3.out) (by rw [HD0.out, B4.out]; exact N4.out) (by rw [B5.out]; simp) (by rw [B6.out]; simp) (by rw [B7.out]; simp) (by rw [B8.out]; simp) (by rw [HD0.out, B9.out]; exact N9.out)
           rw [HT.out] at e
           simp only [M.tokW, Nat.reduceEqDiff, if_true, if_false] at e
           rw [HD0.out] at e
           have R := F10.out _ c4
           rw [HY.out] at R
           have ht1 : (if M.oneK y = 9 then { kind := 9, text := M.enc y } else { kind := M.oneK y } : M.CT) = t := by
            have := congrArg Prod.fst e
            rw [show t = (t, k).1 from rfl, this]
            split <;> rfl
           have hk1 : k = 1 := by
            have := congrArg Prod.snd e
            rw [show k = (t, k).2 from rfl, this]
            split <;> rfl
           rw [ht1, <- hk1] at R
           have RR := Lib.hid R
           obtain ⟨q1, hq1⟩ : ∃ q, i + k = q := ⟨_, rfl⟩
           have EK := Lib.hid (show (q1 : Int) = ((i + k : Nat) : Int) by rw [hq1])
           rw [hq1] at RR
           have h64' : (y = 64 /\ b9 = false) \/ ¬ y = 64 := by
            cases b9
            ·by_cases h : y = 64
             ·exact .inl ⟨h, rfl⟩
             ·exact .inr h
            ·exact .inr (fun h => h64 ⟨h, rfl⟩)
           clear e R hq1 ht1 hk1 h64
           rcases h64' with ⟨h64, hb9⟩ | h64
           ·subst hb9
            have tp4 : (y == 64) = true := by simpa using h64
            clear h64
            go_wp2_with fail
            refine (X9.out _ c4).mono ?_
            rintro e w' ⟨rfl, rfl⟩
            as_aux_lemma =>
             go_wp2_with fail
             refine (RR.out).mono ?_
             rintro e w9 ⟨rfl, hb9⟩
             have c9 := c4.trans (hb9.mono c4.size)
             have cb9 := cb4.keep hb9 cb4.lt
             clear hb9 c4 cb4
             go_wp2_with (refine wpl_stT rfl _ _ rfl w.heap.size _ (ctv (t) 0) rfl rfl cb9 rfl rfl (ctv_one _ _) ?_)
             go_wp2
             (try simp only [Exit.inBlock, Exit.then])
             refine bodyPost_ret (res_tok rfl _ _ w.heap.size _ _ rfl rfl (CB.set cb9 _) rfl) rfl ⟨(etup_ai EK.out), below_setRow c9 (Nat.le_refl _) _⟩
           ·have tp4 : (y == 64) = false := by simpa using h64
            clear h64
            as_aux_lemma =>
             go_wp2_with fail
             refine (RR.out).mono ?_
             rintro e w9 ⟨rfl, hb9⟩
             have c9 := c4.trans (hb9.mono c4.size)
             have cb9 := cb4.keep hb9 cb4.lt
             clear hb9 c4 cb4
             go_wp2_with (refine wpl_stT rfl _ _ rfl w.heap.size _ (ctv (t) 0) rfl rfl cb9 rfl rfl (ctv_one _ _) ?_)
             go_wp2
             (try simp only [Exit.inBlock, Exit.then])
             refine bodyPost_ret (res_tok rfl _ _ w.heap.size _ _ rfl rfl (CB.set cb9 _) rfl) rfl ⟨(etup_ai EK.out), below_setRow c9 (Nat.le_refl _) _⟩
     ·have tp3 : (y == 35) = false := by simpa using h35
      clear h35
      go_wp2_with fail
      refine (S5.out _ c1).mono ?_
      rintro e w2 ⟨rfl, hb2⟩
      have c2 := c1.trans (hb2.mono c1.size)
      have cb2 := cb1.keep hb2 cb1.lt
      clear hb2 c1 cb1
      cases b5 with
      | true =>
       have e := tk_5 (c.drop i) (by rw [B1.out]; simp) (by rw [B2.out]; simp) (by rw [HD0.out]; exact N3.out) (by rw [HD0.out, B4.out]; exact N4.out) B5.out
       rw [HT.out] at e
       simp only [M.tokW, Nat.reduceEqDiff, if_true, if_false] at e
       have R := F5.out _ c2 B5.out
       have ht1 : (M.numT (c.drop i)).1 = t := (congrArg Prod.fst e).symm
       have hk1 : (M.numT (c.drop i)).2 = k := (congrArg Prod.snd e).symm
       rw [ht1, hk1] at R
       have RR := Lib.hid R
       obtain ⟨q1, hq1⟩ : ∃ q, i + k = q := ⟨_, rfl⟩
       have EK := Lib.hid (show (q1 : Int) = ((i + k : Nat) : Int) by rw [hq1])
       rw [hq1] at RR
       clear e R hq1 ht1 hk1
       as_aux_lemma =>
        go_wp2_with fail
        refine (RR.out).mono ?_
        rintro e w9 ⟨rfl, hb9⟩
        have c9 := c2.trans (hb9.mono c2.size)
        have cb9 := cb2.keep hb9 cb2.lt
        clear hb9 c2 cb2
        go_wp2_with (refine wpl_stT rfl _ _ rfl w.heap.size _ (ctv (t) 0) rfl rfl cb9 rfl rfl (ctv_one _ _) ?_)
        go_wp2
        (try simp only [Exit.inBlock, Exit.then])
        refine bodyPost_ret (res_tok rfl _ _ w.heap.size _ _ rfl rfl (CB.set cb9 _) rfl) rfl ⟨(etup_ai EK.out), below_setRow c9 (Nat.le_refl _) _⟩
      | false =>
       go_wp2_with fail
       refine (S6.out _ c2).mono ?_
       rintro e w3 ⟨rfl, hb3⟩
       have c3 := c2.trans (hb3.mono c2.size)
       have cb3 := cb2.keep hb3 cb2.lt
       clear hb3 c2 cb2
       cases b6 with
       | true =>
        have e := tk_6 (c.drop i) (by rw [B1.out]; simp) (by rw [B2.out]; simp) (by rw [HD0.out]; exact N3.out) (by rw [HD0.out, B4.out]; exact N4.out) (by rw [B5.out]; simp) B6.out
        rw [HT.out] at e
        simp only [M.tokW, Nat.reduceEqDiff, if_true, if_false] at e
        have ET := Lib.hid (Prod.mk.inj e).1.symm
        have EK := Lib.hid (show (i : Int) + 3 = ((i + k : Nat) : Int) by have := (Prod.mk.inj e).2; omega)
        clear e
        as_aux_lemma =>
         go_wp2_with (refine wpl_stT rfl _ _ rfl w.heap.size _ (ctv ({ kind := 15 }) 0) rfl rfl cb3 rfl rfl (ctv_one _ _) ?_)
         go_wp2
         (try simp only [Exit.inBlock, Exit.then])
         refine bodyPost_ret (res_tok rfl _ _ w.heap.size _ _ rfl rfl (CB.set cb3 _) rfl) rfl ⟨(by rw [<- ET.out]; exact etup_ai EK.out), below_setRow c3 (Nat.le_refl _) _⟩
       | false =>
        go_wp2_with fail
        refine (S7.out _ c3).mono ?_
        rintro e w4 ⟨rfl, hb4⟩
        have c4 := c3.trans (hb4.mono c3.size)
        have cb4 := cb3.keep hb4 cb3.lt
        clear hb4 c3 cb3
        cases b7 with
        | true =>
         have e := tk_7 (c.drop i) (by rw [B1.out]; simp) (by rw [B2.out]; simp) (by rw [HD0.out]; exact N3.out) (by rw [HD0.out, B4.out]; exact N4.out) (by rw [B5.out]; simp) (by rw [B6.out]; simp) B7.out
         rw [HT.out] at e
         simp only [M.tokW, Nat.reduceEqDiff, if_true, if_false] at e
         have ET := Lib.hid (Prod.mk.inj e).1.symm
         have EK := Lib.hid (show (i : Int) + 4 = ((i + k : Nat) : Int) by have := (Prod.mk.inj e).2; omega)
         clear e
         as_aux_lemma =>
          go_wp2_with (refine wpl_stT rfl _ _ rfl w.heap.size _ (ctv ({ kind := 14 }) 0) rfl rfl cb4 rfl rfl (ctv_one _ _) ?_)
          go_wp2
          (try simp only [Exit.inBlock, Exit.then])
          refine bodyPost_ret (res_tok rfl _ _ w.heap.size _ _ rfl rfl (CB.set cb4 _) rfl) rfl ⟨(by rw [<- ET.out]; exact etup_ai EK.out), below_setRow c4 (Nat.le_refl _) _⟩
        | false =>
         go_wp2_with fail
         refine (X8.out _ c4).mono ?_
         rintro e w' ⟨rfl, rfl⟩
         cases b8 with
         | true =>
          have e := tk_8 (c.drop i) (by rw [B1.out]; simp) (by rw [B2.out]; simp) (by rw [HD0.out]; exact N3.out) (by rw [HD0.out, B4.out]; exact N4.out) (by rw [B5.out]; simp) (by rw [B6.out]; simp) (by rw [B7.out]; simp) B8.out
          rw [HT.out] at e
          simp only [M.tokW, Nat.reduceEqDiff, if_true, if_false] at e
          have R := F8.out _ c4
          have ht1 : (M.namT (c.drop i)).1 = t := (congrArg Prod.fst e).symm
          have hk1 : (M.namT (c.drop i)).2 = k := (congrArg Prod.snd e).symm
          rw [ht1, hk1] at R
          have RR := Lib.hid R
          obtain ⟨q1, hq1⟩ : ∃ q, i + k = q := ⟨_, rfl⟩
          have EK := Lib.hid (show (q1 : Int) = ((i + k : Nat) : Int) by rw [hq1])
          rw [hq1] at RR
          clear e R hq1 ht1 hk1
          as_aux_lemma =>
           go_wp2_with fail
           refine (RR.out).mono ?_
           rintro e w9 ⟨rfl, hb9⟩
           have c9 := c4.trans (hb9.mono c4.size)
           have cb9 := cb4.keep hb9 cb4.lt
           clear hb9 c4 cb4
           go_wp2_with (refine wpl_stT rfl _ _ rfl w.heap.size _ (ctv (t) 0) rfl rfl cb9 rfl rfl (ctv_one _ _) ?_)
           go_wp2
           (try simp only [Exit.inBlock, Exit.then])
           refine bodyPost_ret (res_tok rfl _ _ w.heap.size _ _ rfl rfl (CB.set cb9 _) rfl) rfl ⟨(etup_ai EK.out), below_setRow c9 (Nat.le_refl _) _⟩
         | false =>
          by_cases h64 : y = 64 /\ b9 = true
          ·obtain ⟨h64, rfl⟩ := h64
           have N9 := h64
           have tp4 : (y == 64) = true := by simpa using h64
           have e := tk_9 (c.drop i) (by rw [B1.out]; simp) (by rw [B2.out]; simp) (by rw [HD0.out]; exact N3.out) (by rw [HD0.out, B4.out]; exact N4.out) (by rw [B5.out]; simp) (by rw [B6.out]; simp) (by rw [B7.out]; simp) (by rw [B8.out]; simp) (by rw [HD0.out, B9.out]; exact ⟨N9, rfl⟩)
           rw [HT.out] at e
           simp only [M.tokW, Nat.reduceEqDiff, if_true, if_false] at e
           rw [HD1.out, HU9.out] at e
           have ET := Lib.hid (Prod.mk.inj e).1.symm
           have EK := Lib.hid (show (e9 : Int) = ((i + k : Nat) : Int) by have := HE9.out; have := (Prod.mk.inj e).2; omega)
           clear e h64 N9
           go_wp2_with fail
           refine (X9.out _ c4).mono ?_
           rintro e w' ⟨rfl, rfl⟩
           as_aux_lemma =>
            go_wp2_with fail
            refine (F9.out _ c4).mono ?_
            rintro e w9 ⟨rfl, hb9⟩
            have c9 := c4.trans (hb9.mono c4.size)
            have cb9 := cb4.keep hb9 cb4.lt
            clear hb9 c4 cb4
            go_wp2_with (refine wpl_stT rfl _ _ rfl w.heap.size _ (ctv ({ kind := 3, text := M.encZs U9 }) 0) rfl rfl cb9 rfl rfl (ctv_one _ _) ?_)
            go_wp2
            (try simp only [Exit.inBlock, Exit.then])
            refine bodyPost_ret (res_tok rfl _ _ w.heap.size _ _ rfl rfl (CB.set cb9 _) rfl) rfl ⟨(by rw [<- ET.out]; exact etup_ai EK.out), below_setRow c9 (Nat.le_refl _) _⟩
          ·have N9 : Hid (¬ (y = 64 /\ b9 = true)) := Lib.hid h64
           have e := tk_10 (c.drop i) (by rw [B1.out]; simp) (by rw [B2.out]; simp) (by rw [HD0.out]; exact N3.out) (by rw [HD0.out, B4.out]; exact N4.out) (by rw [B5.out]; simp) (by rw [B6.out]; simp) (by rw [B7.out]; simp) (by rw [B8.out]; simp) (by rw [HD0.out, B9.out]; exact N9.out)
           rw [HT.out] at e
           simp only [M.tokW, Nat.reduceEqDiff, if_true, if_false] at e
           rw [HD0.out] at e
           have R := F10.out _ c4
           rw [HY.out] at R
           have ht1 : (if M.oneK y = 9 then { kind := 9, text := M.enc y } else { kind := M.oneK y } : M.CT) = t := by
            have := congrArg Prod.fst e
            rw [show t = (t, k).1 from rfl, this]
            split <;> rfl
           have hk1 : k = 1 := by
            have := congrArg Prod.snd e
            rw [show k = (t, k).2 from rfl, this]
            split <;> rfl
           rw [ht1, <- hk1] at R
           have RR := Lib.hid R
           obtain ⟨q1, hq1⟩ : ∃ q, i + k = q := ⟨_, rfl⟩
           have EK := Lib.hid (show (q1 : Int) = ((i + k : Nat) : Int) by rw [hq1])
           rw [hq1] at RR
           have h64' : (y = 64 /\ b9 = false) \/ ¬ y = 64 := by
            cases b9
            ·by_cases h : y = 64
             ·exact .inl ⟨h, rfl⟩
             ·exact .inr h
            ·exact .inr (fun h => h64 ⟨h, rfl⟩)
           clear e R hq1 ht1 hk1 h64
           rcases h64' with ⟨h64, hb9⟩ | h64
           ·subst hb9
            have tp4 : (y == 64) = true := by simpa using h64
            clear h64
            go_wp2_with fail
            refine (X9.out _ c4).mono ?_
            rintro e w' ⟨rfl, rfl⟩
            as_aux_lemma =>
             go_wp2_with fail
             refine (RR.out).mono ?_
             rintro e w9 ⟨rfl, hb9⟩
             have c9 := c4.trans (hb9.mono c4.size)
             have cb9 := cb4.keep hb9 cb4.lt
             clear hb9 c4 cb4
             go_wp2_with (refine wpl_stT rfl _ _ rfl w.heap.size _ (ctv (t) 0) rfl rfl cb9 rfl rfl (ctv_one _ _) ?_)
             go_wp2
             (try simp only [Exit.inBlock, Exit.then])
             refine bodyPost_ret (res_tok rfl _ _ w.heap.size _ _ rfl rfl (CB.set cb9 _) rfl) rfl ⟨(etup_ai EK.out), below_setRow c9 (Nat.le_refl _) _⟩
           ·have tp4 : (y == 64) = false := by simpa using h64
            clear h64
            as_aux_lemma =>
             go_wp2_with fail
             refine (RR.out).mono ?_
             rintro e w9 ⟨rfl, hb9⟩
             have c9 := c4.trans (hb9.mono c4.size)
             have cb9 := cb4.keep hb9 cb4.lt
             clear hb9 c4 cb4
             go_wp2_with (refine wpl_stT rfl _ _ rfl w.heap.size _ (ctv (t) 0) rfl rfl cb9 rfl rfl (ctv_one _ _) ?_)
             go_wp2
             (try simp only [Exit.inBlock, Exit.then])
             refine bodyPost_ret (res_tok rfl _ _ w.heap.size _ _ rfl rfl (CB.set cb9 _) rfl) rfl ⟨(etup_ai EK.out), below_setRow c9 (Nat.le_refl _) _⟩
def tvC (x : M.CT × Int) : List Value := (ctv x.1 x.2).toList
def tvsC (l : List (M.CT × Int)) : List (List Value) := l.map tvC
theorem tvsC_len (l : List (M.CT × Int)) : (tvsC l).length = l.length := by simp [tvsC]
theorem tvsC_append (k l : List (M.CT × Int)) : tvsC (k ++ l) = tvsC k ++ tvsC l := by simp [tvsC]
theorem tvsC_size (l : List (M.CT × Int)) : ∀ y ∈ tvsC l, y.length = 13 := by
 intro y hy
 simp only [tvsC, List.mem_map] at hy
 obtain ⟨r, _, rfl⟩ := hy
 rfl
theorem tvsC_one (l : List (M.CT × Int)) : ∀ y ∈ tvsC l, ∀ c ∈ y, c.oneCell' = true := by
 intro y hy
 simp only [tvsC, List.mem_map] at hy
 obtain ⟨r, _, rfl⟩ := hy
 intro c hc
 have := ctv_one r.1 r.2
 rw [Array.all_eq_true_iff_forall_mem] at this
 exact this c (by simpa [tvC] using hc)
def OwnC (B : Nat) (w : World) (v : Value) (l : List (M.CT × Int)) : Prop := OwnV 33 13 B w v (tvsC l)
def Cs (w : World) (v : Value) (l : List (M.CT × Int)) : Prop := Vs 13 w v (tvsC l)
theorem OwnC.keep {B : Nat} {w w' : World} {v : Value} {l : List (M.CT × Int)} (h : OwnC B w v l) (hb : Below w.heap.size w w') : OwnC B w' v l := OwnV.keep h hb
theorem OwnC.cs {B : Nat} {w : World} {v : Value} {l : List (M.CT × Int)} (h : OwnC B w v l) : Cs w v l := OwnV.vs h
theorem ownC_nil (B : Nat) (w : World) : OwnC B w (.slice none 0 0) [] := ownV_nil _ _ _ _
theorem one_tokC (w : World) (t : M.CT) (z : Int) : Vs 13 (w.alloc (.cells (ctv t z) 33)) (.slice (some ⟨w.heap.size, 0, none⟩) 1 1) (tvsC [(t, z)]) :=
 vs_cells 13 33 w (tvsC [(t, z)]) _ 1 (by simp [tvsC, tvC]) (tvsC_size _) rfl (by simp [tvsC])
theorem wpl_tokC {w : World} {ops : Array Oper} {rest : List Oper} {o : Oper} {a : Act} {Q : Exit -> Act -> World -> Prop} (hgd : o.guard = none) (s x : Operand)
  (ho : o.op = .call { callee := .builtin .append, args := #[s, x], argTypes := #[24, 24] })
  (B : Nat) (v u : Value) (l k t : List (M.CT × Int)) (hs : a.eval s = v) (hown : OwnC B w v l) (hx : a.eval x = u) (hu : Cs w u k) (hnn : NNv u)
  (hlen : l.length + k.length <= 1000000) (hB : B <= w.heap.size) (ht : l ++ k = t)
  (h : ∀ v' w', OwnC B w' v' t -> Below B w w' -> wpList Tryz.prog ops Q rest (a.put o.dst v') w') : wpList Tryz.prog ops Q (o :: rest) a w :=
 wpl_appendV hgd s x ho Tryz.underlying24 infoC rfl (by decide) B v u (tvsC l) (tvsC k) (tvsC t) hs hown hx hu hnn (tvsC_size _) (tvsC_one _) (by rw [tvsC_len, tvsC_len]; omega) (by decide) hB (by rw [<- ht, tvsC_append]) h
theorem OwnC.setOther {B : Nat} {w : World} {v : Value} {l : List (M.CT × Int)} (h : OwnC B w v l) (a : Addr) (u : Value) (hne : v.ownBlock ≠ some a.block) : OwnC B (w.setCell a u) v l :=
 ⟨ownsRow_setCell_other h.1 hne u, h.2.1, h.2.2⟩
theorem OwnC.ne {B : Nat} {w : World} {v : Value} {l : List (M.CT × Int)} (h : OwnC B w v l) {b : Nat} (hb : w.heap.size <= b) : v.ownBlock ≠ some b := fun e => by
 have := (World.ownsRow.lt h.1 b e).2
 omega
theorem fill_one (t : M.CT) (z : Int) (s : Nat) (hs : s = 13) (zc : Array Value) (hz : zc.size = 13) : Instr.fill (fun i => some (i * s, s)) zc [(0, .agg (ctv t z))] = some (ctv t z) := by
 subst hs
 have e : zc = #[zc[0], zc[1], zc[2], zc[3], zc[4], zc[5], zc[6], zc[7], zc[8], zc[9], zc[10], zc[11], zc[12]] := by
  apply Array.ext
  ·simp [hz]
  ·intro i h1 h2
   have : i = 0 \/ i = 1 \/ i = 2 \/ i = 3 \/ i = 4 \/ i = 5 \/ i = 6 \/ i = 7 \/ i = 8 \/ i = 9 \/ i = 10 \/ i = 11 \/ i = 12 := by omega
   rcases this with rfl | rfl | rfl | rfl | rfl | rfl | rfl | rfl | rfl | rfl | rfl | rfl | rfl <;> rfl
 rw [e]
 simp [Instr.fill, ctv, Value.cells, List.zipIdx]
theorem wpl_bsT {ops : Array Oper} {rest : List Oper} {o : Oper} {a : Act} {w : World} {Q : Exit -> Act -> World -> Prop} (hgd : o.guard = none) (x : Operand) (ho : o.op = .buildSlice 24 1 #[(0, x)])
  (t : M.CT) (z : Int) (hx : a.eval x = .agg (ctv t z))
  (h : wpList Tryz.prog ops Q rest (a.put o.dst (.slice (some ⟨w.heap.size, 0, none⟩) 1 1)) (w.alloc (.cells (ctv t z) 33))) : wpList Tryz.prog ops Q (o :: rest) a w := by
 obtain ⟨i0, hi, hz0, hz1, hz2⟩ := info_parts infoC
 refine wpList_buildSlice hgd 24 33 1 _ ho (ctv t z) i0 _ Tryz.underlying24 hi hz0 (by rw [hz1]; decide) (by rw [hz1]; decide) ?_ h
 simp only [List.map_toArray, List.map_cons, List.map_nil, hx]
 exact fill_one t z _ hz1 _ (by rw [hz1]; simp)
def ClP (w : World) (T : List (M.CT × Int)) (e : Ending) (w' : World) : Prop := ∃ v', e = .returned v' /\ OwnC w.heap.size w' v' T /\ Below w.heap.size w w'
theorem tksC_len (L : List (Int × Int)) (n i : Nat) (hn : L.length - i <= n) : (M.tksC (L.drop i)).length <= L.length - i := by
 induction n generalizing i with
 | zero => rw [List.drop_eq_nil_of_le (by omega), M.lexC_nil]; simp
 | succ n ih =>
  by_cases hi : i < L.length
  ·rw [M.lexC_in L i hi, List.length_cons]
   have h1 := (M.wayT_len ((L.map Prod.fst).drop i) (by simp; omega)).1
   have := ih (i + (M.tkC ((L.map Prod.fst).drop i)).2) (by omega)
   omega
  ·rw [List.drop_eq_nil_of_le (by omega), M.lexC_nil]; simp
theorem csplit_any (v : Value) (L : List (Int × Int)) (T : List (M.CT × Int)) (w : World) (hT : Tabs w) (hv : Rs w v L) (hl : L.length <= 40000) (hr : M.tksC L = T) :
  Calls Tryz.prog 77 #[v] w (ClP w T) := by
 obtain ⟨n, hn⟩ : ∃ n, L.length = n := ⟨_, rfl⟩
 obtain ⟨a, cap, hvv, h1, h2, h3⟩ := rs_at hv hn
 have HV := Lib.hid hv
 have HT := Lib.hid hT
 have HN := Lib.hid hn
 have HR := Lib.hid hr
 have H3 := Lib.hid h3
 rw [hn] at hl
 have TK := Lib.hid (fun W (hW : Below w.heap.size w W) (i : Nat) (hi : i < n) (t : M.CT) (k : Nat) (e : M.tkC ((cps L).drop i) = (t, k)) => ftoken_any v L (cps L) i t k W (hT.keep hW) (rs_keep hv hW) rfl (by omega) (by omega) e)
 subst hvv
 clear hv hT hn hr h3
 go_enter Tryz.func77, Tryz.ntmps77
 go_wp2
 go_loopw [3, 4, 5, 6] (fun ov av _ _ wr => ∃ (i : Nat) (pre : List (M.CT × Int)), av = .int .i64 (i : Int) /\ i <= n /\ T = pre ++ M.tksC (L.drop i) /\ pre.length <= i /\ OwnC w.heap.size wr ov pre /\ Below w.heap.size w wr) (fun _ av _ _ _ => n - (intOf av).toNat)
 case atStart => exact ⟨0, [], rfl, by omega, by rw [<- HR.out]; simp, by simp, ownC_nil _ _, Below.refl _ _⟩
 case round =>
  obtain ⟨i, pre, rfl, hi, hpre, hpl, ho, hb⟩ := hrel
  have hsz := hb.size
  have i0 : (0 : Int) <= i := by omega
  have HP := Lib.hid hpre
  clear hpre
  by_cases hin : i < n
  ·obtain ⟨p, off, rfl, hp, ca, cb⟩ := H3.out i hin
   obtain ⟨t, k, htk⟩ : ∃ t k, M.tkC ((cps L).drop i) = (t, k) := ⟨_, _, rfl⟩
   have hlen := M.wayT_len ((cps L).drop i) (by rw [List.length_drop, cps_len, HN.out]; omega)
   rw [htk, List.length_drop, cps_len, HN.out] at hlen
   simp only at hlen
   have hin2 := M.lexC_in L i (by rw [HN.out]; exact hin)
   have hz0 : (L.map Prod.snd).getD i 0 = (L[i]'(by rw [HN.out]; exact hin)).2 := by simp [List.getD, show i < L.length by rw [HN.out]; exact hin]
   rw [show L.map Prod.fst = cps L from rfl, htk, <- hz0] at hin2
   obtain ⟨z, hz⟩ : ∃ z, (L.map Prod.snd).getD i 0 = z := ⟨_, rfl⟩
   rw [hz] at hin2 cb
   have hnew := HP.out
   rw [hin2] at hnew
   have HNEW := Lib.hid (show T = (pre ++ [(t, z)]) ++ M.tksC (L.drop (i + k)) by rw [hnew]; simp)
   have TK1 := Lib.hid (TK.out wr hb i hin t k htk)
   obtain ⟨m, hm⟩ : ∃ m, i + k = m := ⟨_, rfl⟩
   rw [hm] at HNEW TK1
   have hm1 : i + 1 <= m := by omega
   have hm2 : m <= n := by omega
   have i2 : (i : Int) < n := by omega
   clear htk hlen hin2 hz0 hz hnew hm ca
   go_wp2_with fail
   refine (TK1.out).mono ?_
   rintro e w1 ⟨rfl, hb1⟩
   have hbw := hb.trans (hb1.mono hsz)
   have ho1 := ho.keep hb1
   have cz := hbw.cell (p := ⟨p, off + i * 2 + 1, none⟩) hp
   rw [cb] at cz
   have pz : p < w1.heap.size := Nat.lt_of_lt_of_le hp hbw.size
   have z1 := hbw.size
   have cbA : CB ((w1.alloc (.cells #[.int .i64 0, .string ⟨#[]⟩, .string ⟨#[]⟩, .bool false, .string ⟨#[]⟩, .string ⟨#[]⟩, .bool false, .bool false, .int .i64 0, .int .i64 0, .int .i64 0, .int .i64 0, .int .i64 0] 33)).setRow w1.heap.size (ctv t 0)) w1.heap.size (ctv t 0) := (CB.new w1 _).set _
   have hA : Below w1.heap.size w1 ((w1.alloc (.cells #[.int .i64 0, .string ⟨#[]⟩, .string ⟨#[]⟩, .bool false, .string ⟨#[]⟩, .string ⟨#[]⟩, .bool false, .bool false, .int .i64 0, .int .i64 0, .int .i64 0, .int .i64 0, .int .i64 0] 33)).setRow w1.heap.size (ctv t 0)) := below_setRow ((Below.refl _ _).alloc (Nat.le_refl _) _) (Nat.le_refl _) _
   clear hb1 ho hb
   go_upto_region 5 with (refine wpl_stT rfl _ _ rfl w1.heap.size (ctv {} 0) (ctv t 0) rfl rfl (CB.new w1 _) rfl rfl (ctv_one _ _) ?_)
   obtain ⟨W2, hW2⟩ : ∃ W, (w1.alloc (.cells #[.int .i64 0, .string ⟨#[]⟩, .string ⟨#[]⟩, .bool false, .string ⟨#[]⟩, .string ⟨#[]⟩, .bool false, .bool false, .int .i64 0, .int .i64 0, .int .i64 0, .int .i64 0, .int .i64 0] 33)).setRow w1.heap.size (ctv t 0) = W := ⟨_, rfl⟩
   rw [hW2] at cbA hA ⊢
   have czA := hA.cell (p := ⟨p, off + i * 2 + 1, none⟩) pz
   rw [cz] at czA
   have hbA := hbw.trans (hA.mono z1)
   have hoA := ho1.keep hA
   have hne := ho1.ne (Nat.le_refl w1.heap.size)
   obtain ⟨b8, hb8⟩ : ∃ b, w1.heap.size = b := ⟨_, rfl⟩
   rw [hb8] at cbA z1 hne ⊢
   have g12 : W2.cell? ⟨b8, 12, none⟩ = some (.int .i64 0) := cbA.cell 12
   have f12 := cbA.free 12
   clear hW2 hb8 hA cz ho1 hbw pz
   go_upto_region 6 with (fail)
   have cbB : CB (W2.setCell ⟨b8, 12, none⟩ (.int .i64 z)) b8 (ctv t z) := cbA.put 12 _
   have hbB : Below w.heap.size w (W2.setCell ⟨b8, 12, none⟩ (.int .i64 z)) := hbA.setCell z1 _
   have hoB : OwnC w.heap.size (W2.setCell ⟨b8, 12, none⟩ (.int .i64 z)) u3 pre := hoA.setOther _ _ hne
   obtain ⟨W3, hW3⟩ : ∃ W, W2.setCell ⟨b8, 12, none⟩ (.int .i64 z) = W := ⟨_, rfl⟩
   rw [hW3] at cbB hbB hoB ⊢
   clear hW3 cbA hbA hoA hne g12 f12 czA cb
   have hs3 := hbB.size
   go_wp2_with (first | (refine wpl_ldT rfl _ rfl b8 _ rfl cbB rfl ?_) | (refine wpl_bsT rfl _ rfl t z rfl ?_) | (at_builtin; refine wpl_tokC rfl _ _ rfl w.heap.size _ (.slice (some ⟨W3.heap.size, 0, none⟩) 1 1) pre [(t, z)] (pre ++ [(t, z)]) rfl (hoB.keep ((Below.refl _ _).alloc (Nat.le_refl _) _)) rfl (one_tokC W3 t z) (nnv_some _ _ _) (by simp; omega) (by simp; omega) rfl ?_))
   intro v3 w3 ho3 hb4
   have hb5 := (hbB.alloc hs3 _).trans hb4
   clear hbB hb4 hoB
   go_wp2
   go_roundw
   case rel => exact ⟨m, pre ++ [(t, z)], by first | rfl | go_num, by omega, HNEW.out, by simp; omega, ho3, hb5⟩
   case measure => simp [intOf]; omega
  ·obtain rfl : i = n := by omega
   have hfin := HP.out
   rw [List.drop_eq_nil_of_le (by rw [HN.out]; exact Nat.le_refl _), M.lexC_nil, List.append_nil] at hfin
   have HF := Lib.hid hfin
   clear hfin hin
   go_wp2
   go_ret
   exact ⟨_, rfl, by rw [HF.out]; exact ho, hb⟩
end Go.Proofs.YtimjbjppmhdjnaaGreatDoor
