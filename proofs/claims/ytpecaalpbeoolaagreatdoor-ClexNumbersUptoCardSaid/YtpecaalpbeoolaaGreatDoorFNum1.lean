/- Numbers: the reference's PlainNum. -/
import Derived.Test.YtpecaalpbeoolaaGreatDoorMgR
import Derived.Deep.DeepCutAuto
namespace Go.Proofs.YtpecaalpbeoolaaGreatDoor
open Go.RowKit
set_option linter.unusedVariables false
set_option linter.unusedSimpArgs false

/-- The ways of a number's first spelling. -/
theorem unsc_ways (D E : List UInt8) (h0 : D ≠ []) (x : Int) (okx : Bool) (u : List UInt8) (hx : M.intD E = (x, okx)) (hu : M.unsc D x = u) :
    (okx = false) ∨ (okx = true ∧ u = [] ∧ ((20 < x) ∨ (x < 0 ∧ x < -(D.length : Int) - 20))) ∨ (okx = true ∧ ∃ n : Nat, x = n ∧ n ≤ 20 ∧ u = D ++ List.replicate n 48) ∨
    (okx = true ∧ x < 0 ∧ ∃ k : Nat, (k : Int) = D.length + x ∧ 0 < k ∧ u = D.take k ++ 46 :: D.drop k) ∨ (okx = true ∧ x < 0 ∧ ∃ n : Nat, (n : Int) = -x - D.length ∧ n ≤ 20 ∧ u = 48 :: 46 :: (List.replicate n 48 ++ D)) := by
  have hp := List.length_pos_iff.2 h0
  cases okx with
  | false => exact .inl rfl
  | true =>
    right
    unfold M.unsc at hu
    by_cases c1 : 0 ≤ x ∧ x ≤ 20
    · rw [if_pos c1] at hu
      exact .inr (.inl ⟨rfl, x.toNat, by omega, by omega, hu.symm⟩)
    · rw [if_neg c1] at hu
      by_cases c2 : x < 0 ∧ 0 < (D.length : Int) + x
      · rw [if_pos c2] at hu
        exact .inr (.inr (.inl ⟨rfl, c2.1, ((D.length : Int) + x).toNat, by omega, by omega, hu.symm⟩))
      · rw [if_neg c2] at hu
        by_cases c3 : (D.length : Int) + x ≤ 0 ∧ -20 ≤ (D.length : Int) + x
        · rw [if_pos c3] at hu
          refine .inr (.inr (.inr ⟨rfl, by omega, (-((D.length : Int) + x)).toNat, by omega, by omega, hu.symm⟩))
        · rw [if_neg c3] at hu
          exact .inl ⟨rfl, hu.symm, by omega⟩
set_option maxRecDepth 100000 in
set_option maxHeartbeats 32000000 in
theorem refplain_any (ng : Bool) (D E : List UInt8) (R : List (List UInt8)) (w : World) (h1 : D.length ≤ 1048576) (h2 : E.length ≤ 1048576) (hR : M.plainN ng D E = R) :
    Calls Tryz.prog 20 #[.agg (numV (ng, D, E))] w fun e w' => ∃ v, e = .returned v ∧ Ss w' v R ∧ Below w.heap.size w w' := by
  obtain ⟨rt, hrt⟩ : ∃ r, M.rightN D E = r := ⟨_, rfl⟩
  have RN := Lib.hid (fun w => refrightn_any ng D E rt w (by omega) (by omega) hrt)
  unfold M.plainN at hR
  rw [hrt] at hR
  unfold numV at RN ⊢
  simp only at RN ⊢
  obtain ⟨SD, hSD⟩ : ∃ S, bytes D = S := ⟨_, rfl⟩
  obtain ⟨SE, hSE⟩ : ∃ S, bytes E = S := ⟨_, rfl⟩
  rw [hSD, hSE] at RN ⊢
  have hbb : Below w.heap.size w ((w.alloc (.cells #[.bool ng, .string SD, .string SE] 33)).alloc (.cells #[.bool ng, .string SD, .string SE] 33)) := ((Below.refl _ _).alloc (Nat.le_refl _) _).alloc (by simp) _
  cases rt with
  | false =>
    simp only [Bool.false_eq_true, if_false] at hR
    subst hR
    have HB := Lib.hid hbb
    clear hrt hSD hSE hbb
    go_enter Tryz.func20, Tryz.ntmps20
    go_wp2_with fail
    refine (RN.out _).mono ?_
    rintro e w' ⟨rfl, rfl⟩
    go_wp2
    go_ret
    exact ⟨_, rfl, vs_nil 1 _, HB.out⟩
  | true =>
    simp only [if_true] at hR
    obtain ⟨sg, hsg⟩ : ∃ sg, M.sgl ng = sg := ⟨_, rfl⟩
    have lsg : sg.length ≤ 1 := by rw [← hsg, M.sgl_len]; split <;> simp
    rw [hsg] at hR
    obtain ⟨SG, hSG⟩ : ∃ S, bytes sg = S := ⟨_, rfl⟩
    have hngs : (ng = false ∧ SG = ⟨#[]⟩) ∨ (ng = true ∧ SG = ⟨#[45]⟩) := by
      rw [← hSG, ← hsg]; cases ng <;> simp [M.sgl, bytes]
    obtain ⟨Wp, hWp⟩ : ∃ W, (w.alloc (.cells #[.bool ng, .string SD, .string SE] 33)).alloc (.cells #[.bool ng, .string SD, .string SE] 33) = W := ⟨_, rfl⟩
    have hbox : Box w.heap.size (.bool ng) (.string SD) (.string SE) Wp := by
      rw [← hWp]
      exact ⟨by rw [World.cell?_alloc_past _ _ _ (by simp), World.cell?_alloc_at _ _ _ _ rfl]; rfl, by rw [World.cell?_alloc_past _ _ _ (by simp), World.cell?_alloc_at _ _ _ _ rfl]; rfl, by rw [World.cell?_alloc_past _ _ _ (by simp), World.cell?_alloc_at _ _ _ _ rfl]; rfl⟩
    have hzp : Wp.heap.size = w.heap.size + 2 := by rw [← hWp]; simp
    rw [hWp] at hbb
    have HNG := Lib.hid hngs
    have HWp := Lib.hid hWp
    have Hb0 := Lib.hid hbb
    have HBX := Lib.hid hbox
    have hs0 : w.heap.size < Wp.heap.size := by omega
    clear hngs hWp hbb hbox hzp
    by_cases h0 : D = []
    · rw [if_pos h0] at hR
      subst hR
      obtain ⟨e1, e2, e3⟩ := str_nil SD D hSD h0
      have a1 := cat_run sg [48] _ rfl (by omega) (by simp)
      rw [show bytes [48] = (⟨#[48]⟩ : ByteArray) from rfl, hSG] at a1
      obtain ⟨SC, hSC⟩ : ∃ S, bytes (sg ++ [48]) = S := ⟨_, rfl⟩
      rw [hSC] at a1
      have HSC := Lib.hid hSC
      clear hrt hSD hSE h0 hsg hSG hSC
      go_enter Tryz.func20, Tryz.ntmps20
      go_wp2_with fail
      refine (RN.out _).mono ?_
      rintro e w' ⟨rfl, rfl⟩
      rw [HWp.out]
      obtain ⟨g0, g1, g2⟩ := HBX.out
      go_upto_if 16 with fail
      go_cut [3] (fun s3 wx => s3 = .string SG ∧ Wp = wx)
      case first =>
        rcases HNG.out with ⟨rfl, rfl⟩ | ⟨rfl, rfl⟩
        all_goals
          go_wp2_with fail
          go_meet
          exact ⟨rfl, rfl⟩
      case rest =>
        obtain ⟨rfl, rfl⟩ := hcut
        go_wp2
        go_ret
        exact ⟨_, rfl, one_s _ _ _ HSC.out, Hb0.out.alloc (by omega) _⟩
    · rw [if_neg h0] at hR
      obtain ⟨e1, e2, e3⟩ := str_ne SD D hSD h0
      have hrE : M.rightD E = true := by
        rw [M.right_prog D E h0] at hrt
        simp only [Bool.and_eq_true] at hrt
        exact hrt.2
      have hul := upE_le D E hrE h1 h2
      obtain ⟨x, okx, hx⟩ : ∃ x o, M.intD E = (x, o) := ⟨_, _, rfl⟩
      have hxb : -1000000 ≤ x ∧ x ≤ 1000000 := by
        unfold M.intD at hx
        split at hx
        · rename_i h; simp only [Prod.mk.injEq] at hx; rw [← hx.1]; exact h.2
        · simp only [Prod.mk.injEq] at hx; rw [← hx.1]; exact ⟨by decide, by decide⟩
      have I1 := Lib.hid (fun w => refint_any E _ w (by omega) hx)
      unfold intB at I1
      simp only at I1
      obtain ⟨u, hu⟩ : ∃ u, M.unsc D x = u := ⟨_, rfl⟩
      have hlu : u.length ≤ 1100000 := by
        rw [← hu]; unfold M.unsc
        split
        · simp; omega
        · split
          · simp; omega
          · split
            · simp; omega
            · simp
      have hways := unsc_ways D E h0 x okx u hx hu
      have D1 := Lib.hid (fun w => refdec_any ((D.length : Int) - 1) w (by omega) (by omega))
      have hadd : M.addD E (M.txt ((D.length : Int) - 1)) = (M.upE D E, true) := by
        unfold M.upE; rw [M.add_right _ _ hrE (M.val_txt _).2]
      have hdl : (M.txt ((D.length : Int) - 1)).length ≤ 10 := by have := M.txt_len ((D.length : Int) - 1) 9 (by omega) (by omega); omega
      have A1 := Lib.hid (fun w => refadd_any E (M.txt ((D.length : Int) - 1)) _ w (by omega) (by omega) hadd)
      unfold strB at A1
      simp only at A1
      obtain ⟨SB, hSB⟩ : ∃ S, bytes (M.txt ((D.length : Int) - 1)) = S := ⟨_, rfl⟩
      rw [hSB] at D1 A1
      obtain ⟨up, hupn⟩ : ∃ u, M.upE D E = u := ⟨_, rfl⟩
      unfold M.plain1 M.plain3 at hR
      rw [hx, hupn] at hR
      rw [hsg] at hR
      rw [hupn] at hul A1
      simp only at hR
      rw [hu] at hR
      have b1 := cat_run sg D _ rfl (by omega) (by omega)
      have b2 := cat_run (sg ++ D) [101] _ rfl (by simp; omega) (by simp)
      have b3 := cat_run (sg ++ D ++ [101]) E (sg ++ (D ++ 101 :: E)) (by simp) (by simp; omega) (by omega)
      have x1 := ext_to D 1
      have x2 := ext_from D 1
      have k1 := cat_run sg (D.take 1) _ rfl (by omega) (by simp; omega)
      have k2 := cat_run (sg ++ D.take 1) [46] _ rfl (by simp; omega) (by simp)
      have k3 := cat_run (sg ++ D.take 1 ++ [46]) (D.drop 1) _ rfl (by simp; omega) (by simp; omega)
      have k4 := cat_run (sg ++ D.take 1 ++ [46] ++ D.drop 1) [101] _ rfl (by simp; omega) (by simp)
      have k5 := cat_run (sg ++ D.take 1 ++ [46] ++ D.drop 1 ++ [101]) up (sg ++ (D.take 1 ++ 46 :: (D.drop 1 ++ 101 :: up))) (by simp) (by simp; omega) (by omega)
      rw [← x1] at k1
      rw [← x2] at k3
      rw [show bytes [46] = (⟨#[46]⟩ : ByteArray) from rfl] at k2
      rw [show bytes [101] = (⟨#[101]⟩ : ByteArray) from rfl] at b2 k4
      obtain ⟨SP, hSP⟩ : ∃ S, bytes up = S := ⟨_, rfl⟩
      obtain ⟨C0, hC0⟩ : ∃ S, bytes (sg ++ u) = S := ⟨_, rfl⟩
      obtain ⟨B1, hB1⟩ : ∃ S, bytes (sg ++ D) = S := ⟨_, rfl⟩
      obtain ⟨B2, hB2⟩ : ∃ S, bytes (sg ++ D ++ [101]) = S := ⟨_, rfl⟩
      obtain ⟨B3, hB3⟩ : ∃ S, bytes (sg ++ (D ++ 101 :: E)) = S := ⟨_, rfl⟩
      obtain ⟨K1, hK1⟩ : ∃ S, bytes (sg ++ D.take 1) = S := ⟨_, rfl⟩
      obtain ⟨K2, hK2⟩ : ∃ S, bytes (sg ++ D.take 1 ++ [46]) = S := ⟨_, rfl⟩
      obtain ⟨K3, hK3⟩ : ∃ S, bytes (sg ++ D.take 1 ++ [46] ++ D.drop 1) = S := ⟨_, rfl⟩
      obtain ⟨K4, hK4⟩ : ∃ S, bytes (sg ++ D.take 1 ++ [46] ++ D.drop 1 ++ [101]) = S := ⟨_, rfl⟩
      obtain ⟨K5, hK5⟩ : ∃ S, bytes (sg ++ (D.take 1 ++ 46 :: (D.drop 1 ++ 101 :: up))) = S := ⟨_, rfl⟩
      have hsz := bytes_size D
      rw [hSD] at hsz k1 k3 b1
      rw [← hsz] at k3 D1
      rw [hSE] at A1 I1 b3
      rw [hSG] at b1 k1
      rw [hB1] at b1 b2
      rw [hB2] at b2 b3
      rw [hB3] at b3
      rw [hK1] at k1 k2
      rw [hK2] at k2 k3
      rw [hK3] at k3 k4
      rw [hK4] at k4 k5
      rw [hSP] at k5 A1
      rw [hK5] at k5
      have hqp : (up = [48] ∧ (SP.toList == [48]) = true ∧ SP.toList = [48]) ∨ (up ≠ [48] ∧ (SP.toList == [48]) = false ∧ SP.toList ≠ [48]) := by
        rw [← hSP, toList_bytes]
        by_cases h : up = [48]
        · exact .inl ⟨h, by rw [h]; rfl, h⟩
        · exact .inr ⟨h, by simpa using h, h⟩
      have hlast : ∀ (P : List (List UInt8)) (V : Value) (W : World), True := fun _ _ _ => trivial
      have HC0 := Lib.hid hC0
      have HB3 := Lib.hid hB3
      have HK5 := Lib.hid hK5
      have HQP := Lib.hid hqp
      have HR := Lib.hid hR
      have HSZ := Lib.hid hsz
      have z1 : SD.size ≤ 1048576 := by omega
      have z2 : 1 ≤ SD.size := by omega
      have z3 : (1 : Int) ≤ (SD.size : Int) := by omega
      have hwr : IntKind.i64.wrap ((SD.size : Int) - 1) = (SD.size : Int) - 1 := IntWalk.i64_in _ (by omega)
      have HWR := Lib.hid hwr
      have HSD := Lib.hid hSD
      have HSG := Lib.hid hSG
      have HB1 := Lib.hid hB1
      have HWAY := Lib.hid hways
      clear hrt hSD hSE hsg hSG hrE hul hx hxb hu hupn x1 x2 hSP hC0 hB1 hB2 hB3 hK1 hK2 hK3 hK4 hK5 hqp hlast hR hsz h0 hlu hways hwr hadd hdl hSB
      go_enter Tryz.func20, Tryz.ntmps20
      go_wp2_with fail
      refine (RN.out _).mono ?_
      rintro e w' ⟨rfl, rfl⟩
      rw [HWp.out]
      obtain ⟨g0, g1, g2⟩ := HBX.out
      go_upto_if 16 with fail
      go_cut [3] (fun s3 wx => s3 = .string SG ∧ Wp = wx)
      case first =>
        rcases HNG.out with ⟨rfl, rfl⟩ | ⟨rfl, rfl⟩
        all_goals
          go_wp2_with fail
          go_meet
          exact ⟨rfl, rfl⟩
      case rest =>
      obtain ⟨rfl, rfl⟩ := hcut
      go_wp2_with fail
      refine (I1.out _).mono ?_
      rintro e w2 ⟨rfl, hb2⟩
      have Hbox : Hid (∀ W, Below w2.heap.size w2 W → W.cell? ⟨w.heap.size, 0, none⟩ = some (.bool ng) ∧ W.cell? ⟨w.heap.size, 1, none⟩ = some (.string SD) ∧ W.cell? ⟨w.heap.size, 2, none⟩ = some (.string SE)) := Lib.hid (fun W hW => box_keep (box_keep HBX.out hb2 hs0) hW (by have := hb2.size; omega))
      have HB2 := Lib.hid (Hb0.out.trans (hb2.mono Hb0.out.size))
      have hs2 : w.heap.size < w2.heap.size := by have := hb2.size; omega
      clear g0 g1 g2 hb2
      obtain ⟨g0, g1, g2⟩ := Hbox.out _ (Below.refl _ _)
      have hsz := HSZ.out
      rcases HWAY.out with rfl | ⟨rfl, u0, hw⟩ | ⟨rfl, n, rfl, hn, hun⟩ | ⟨rfl, hx0, k, hk, hk0, hun⟩ | ⟨rfl, hx0, n, hn, hn2, hun⟩
      · as_aux_lemma =>
        have HP : Hid ((if (false = true ∧ u ≠ []) then [sg ++ u] else []) = ([] : List (List UInt8))) := Lib.hid (by simp)
        clear hsz
        have Ho4 : Hid (OwnS w2.heap.size w2 (.slice none 0 0) []) := Lib.hid (ownV_nil _ _ _ _)
        have B22 : Hid (Below w2.heap.size w2 w2) := Lib.hid (Below.refl _ _)

        go_wp2_with (at_builtin; refine wpl_appS rfl _ _ rfl w2.heap.size (.slice none 0 0) (.slice (some ⟨w2.heap.size, 0, none⟩) 1 1) ([] : List (List UInt8)) (([] : List (List UInt8)) ++ [sg ++ (D ++ 101 :: E)]) (sg ++ (D ++ 101 :: E)) rfl (ownV_keep' Ho4.out ((Below.refl _ _).alloc (Nat.le_refl _) _)) rfl (one_s _ _ _ HB3.out) (nnv_some _ _ _) (by simp) (by simp <;> omega) rfl ?_)
        intro v6 w6 ho6 hb6
        have hb7 := B22.out.trans (((Below.refl _ _).alloc (Nat.le_refl _) (.cells #[.string B3] 9)).trans hb6)
        have hs6 := hb7.size
        clear g0 g1 g2
        obtain ⟨g0, g1, g2⟩ := Hbox.out _ hb7
        have Ho6 := Lib.hid ho6
        have HB7 := Lib.hid hb7
        clear hb6 hb7 ho6 Ho4
        by_cases hone : 1 < SD.size
        · go_wp2_with fail
          have BB0 : Hid (Below w2.heap.size w2 w6.drew) := Lib.hid HB7.out.drew
          have BB2 : Hid (∀ (w5 : World), Below w6.drew.heap.size w6.drew w5 → Below w2.heap.size w2 w5) := Lib.hid (fun w5 h => (HB7.out.drew).trans (h.mono (by show _ ≤ w6.heap.size; exact hs6)))
          have HS : Hid (∀ W, Below w2.heap.size w2 W → W.cell? ⟨w.heap.size, 2, none⟩ = some (.string SE)) := Lib.hid (fun W h => (Hbox.out W h).2.2)
          have hwr := HWR.out
          clear g0 g1 g2
          go_region_held3 (fun W : World => W.cell? ⟨w.heap.size, 2, none⟩ = some (.string SE))
            (first
              | with_reducible exact HS.out _ BB0.out
              | with_reducible exact HS.out _ (BB2.out _ hb8))
            (first
              | (go_at_call 31; refine (D1.out _).mono ?_; rintro e w' ⟨rfl, rfl⟩)
              | (go_at_call 30; refine (A1.out _).mono ?_; rintro e w8 ⟨rfl, hb8⟩))
          all_goals
            have hb9 := BB2.out _ hb8
            have ho8 := ownV_keep' (ownV_keep' Ho6.out (Below.refl _ _).drew) hb8
            have hs8 := hb9.size
            have Ho8 := Lib.hid ho8
            have HB9 := Lib.hid hb9
            clear hb8 hb9 ho8 Ho6 HB7 hwr
            go_wp2_with fail
            go_quiet (fail)
            rcases HQP.out with ⟨p0, p1, p2⟩ | ⟨p0, p1, p2⟩
            · have P0 := Lib.hid p0
              clear p0
              go_wp2
              go_ret
              refine ⟨_, rfl, ?_, HB2.out.trans ((below_drewN HB9.out _).mono HB2.out.size)⟩
              rw [← HR.out, HP.out, if_neg (fun hh => hh.2 P0.out), List.append_nil]
              first | exact OwnV.vs (ownV_keep' Ho8.out (below_drewN (Below.refl _ _) _)) | exact OwnV.vs Ho8.out
            · have P0 := Lib.hid p0
              clear p0
              have HBD := Lib.hid (fun n => below_drewN HB9.out n)
              have HOD := Lib.hid (fun n => ownV_keep' (w' := w8.drewN n) Ho8.out (below_drewN (Below.refl _ _) n))
              have HSD2 := Lib.hid (fun n => (show w2.heap.size ≤ ((w8.drewN n).alloc (.cells #[.string K5] 9)).heap.size by have e : (w8.drewN n).heap.size = w8.heap.size := rfl; simp; omega))
              go_wp2_with (at_builtin; refine wpl_appS rfl _ _ rfl w2.heap.size v6 _ (([] : List (List UInt8)) ++ [sg ++ (D ++ 101 :: E)]) (([] : List (List UInt8)) ++ [sg ++ (D ++ 101 :: E)] ++ [sg ++ (D.take 1 ++ 46 :: (D.drop 1 ++ 101 :: up))]) (sg ++ (D.take 1 ++ 46 :: (D.drop 1 ++ 101 :: up))) rfl (ownV_keep' (HOD.out _) ((Below.refl _ _).alloc (Nat.le_refl _) _)) rfl (one_s _ _ _ HK5.out) (nnv_some _ _ _) (by simp) (HSD2.out _) rfl ?_)
              intro v11 w11 ho11 hb11
              have hb12 := (HBD.out _).trans (((Below.refl _ _).alloc (by have e : ∀ n, (w8.drewN n).heap.size = w8.heap.size := fun _ => rfl; rw [e]; exact hs8) (.cells #[.string K5] 9)).trans hb11)
              have Ho11 := Lib.hid ho11
              have HB12 := Lib.hid hb12
              clear ho11 hb11 hb12
              go_wp2
              go_ret
              refine ⟨_, rfl, ?_, HB2.out.trans (HB12.out.mono HB2.out.size)⟩
              have h := OwnV.vs Ho11.out
              rw [← HR.out, HP.out, if_pos ⟨by rw [← HSZ.out]; exact hone, P0.out⟩, ← List.append_assoc]
              first | exact h | (rw [List.drop_one]; exact h)
        · go_wp2
          go_ret
          refine ⟨_, rfl, ?_, HB2.out.trans (HB7.out.mono HB2.out.size)⟩
          have h := OwnV.vs Ho6.out
          rw [← HR.out, HP.out, if_neg (fun hh => hone (by rw [HSZ.out]; exact hh.1)), List.append_nil]
          exact h
      · as_aux_lemma =>
        have HP : Hid ((if (true = true ∧ u ≠ []) then [sg ++ u] else []) = ([] : List (List UInt8))) := Lib.hid (by simp [u0])
        have hw2 : (20 < x) ∨ (x < 0 ∧ x < -(SD.size : Int) - 20) := by rcases hw with h | h; exact .inl h; right; omega
        clear hsz hw u0
        rcases hw2 with y1 | ⟨y1, y2⟩
        all_goals
          have Ho4 : Hid (OwnS w2.heap.size w2 (.slice none 0 0) []) := Lib.hid (ownV_nil _ _ _ _)
          have B22 : Hid (Below w2.heap.size w2 w2) := Lib.hid (Below.refl _ _)

          go_wp2_with (at_builtin; refine wpl_appS rfl _ _ rfl w2.heap.size (.slice none 0 0) (.slice (some ⟨w2.heap.size, 0, none⟩) 1 1) ([] : List (List UInt8)) (([] : List (List UInt8)) ++ [sg ++ (D ++ 101 :: E)]) (sg ++ (D ++ 101 :: E)) rfl (ownV_keep' Ho4.out ((Below.refl _ _).alloc (Nat.le_refl _) _)) rfl (one_s _ _ _ HB3.out) (nnv_some _ _ _) (by simp) (by simp <;> omega) rfl ?_)
          intro v6 w6 ho6 hb6
          have hb7 := B22.out.trans (((Below.refl _ _).alloc (Nat.le_refl _) (.cells #[.string B3] 9)).trans hb6)
          have hs6 := hb7.size
          clear g0 g1 g2
          obtain ⟨g0, g1, g2⟩ := Hbox.out _ hb7
          have Ho6 := Lib.hid ho6
          have HB7 := Lib.hid hb7
          clear hb6 hb7 ho6 Ho4
          by_cases hone : 1 < SD.size
          · go_wp2_with fail
            have BB0 : Hid (Below w2.heap.size w2 w6.drew) := Lib.hid HB7.out.drew
            have BB2 : Hid (∀ (w5 : World), Below w6.drew.heap.size w6.drew w5 → Below w2.heap.size w2 w5) := Lib.hid (fun w5 h => (HB7.out.drew).trans (h.mono (by show _ ≤ w6.heap.size; exact hs6)))
            have HS : Hid (∀ W, Below w2.heap.size w2 W → W.cell? ⟨w.heap.size, 2, none⟩ = some (.string SE)) := Lib.hid (fun W h => (Hbox.out W h).2.2)
            have hwr := HWR.out
            clear g0 g1 g2
            go_region_held3 (fun W : World => W.cell? ⟨w.heap.size, 2, none⟩ = some (.string SE))
              (first
                | with_reducible exact HS.out _ BB0.out
                | with_reducible exact HS.out _ (BB2.out _ hb8))
              (first
                | (go_at_call 31; refine (D1.out _).mono ?_; rintro e w' ⟨rfl, rfl⟩)
                | (go_at_call 30; refine (A1.out _).mono ?_; rintro e w8 ⟨rfl, hb8⟩))
            all_goals
              have hb9 := BB2.out _ hb8
              have ho8 := ownV_keep' (ownV_keep' Ho6.out (Below.refl _ _).drew) hb8
              have hs8 := hb9.size
              have Ho8 := Lib.hid ho8
              have HB9 := Lib.hid hb9
              clear hb8 hb9 ho8 Ho6 HB7 hwr
              go_wp2_with fail
              go_quiet (fail)
              rcases HQP.out with ⟨p0, p1, p2⟩ | ⟨p0, p1, p2⟩
              · have P0 := Lib.hid p0
                clear p0
                go_wp2
                go_ret
                refine ⟨_, rfl, ?_, HB2.out.trans ((below_drewN HB9.out _).mono HB2.out.size)⟩
                rw [← HR.out, HP.out, if_neg (fun hh => hh.2 P0.out), List.append_nil]
                first | exact OwnV.vs (ownV_keep' Ho8.out (below_drewN (Below.refl _ _) _)) | exact OwnV.vs Ho8.out
              · have P0 := Lib.hid p0
                clear p0
                have HBD := Lib.hid (fun n => below_drewN HB9.out n)
                have HOD := Lib.hid (fun n => ownV_keep' (w' := w8.drewN n) Ho8.out (below_drewN (Below.refl _ _) n))
                have HSD2 := Lib.hid (fun n => (show w2.heap.size ≤ ((w8.drewN n).alloc (.cells #[.string K5] 9)).heap.size by have e : (w8.drewN n).heap.size = w8.heap.size := rfl; simp; omega))
                go_wp2_with (at_builtin; refine wpl_appS rfl _ _ rfl w2.heap.size v6 _ (([] : List (List UInt8)) ++ [sg ++ (D ++ 101 :: E)]) (([] : List (List UInt8)) ++ [sg ++ (D ++ 101 :: E)] ++ [sg ++ (D.take 1 ++ 46 :: (D.drop 1 ++ 101 :: up))]) (sg ++ (D.take 1 ++ 46 :: (D.drop 1 ++ 101 :: up))) rfl (ownV_keep' (HOD.out _) ((Below.refl _ _).alloc (Nat.le_refl _) _)) rfl (one_s _ _ _ HK5.out) (nnv_some _ _ _) (by simp) (HSD2.out _) rfl ?_)
                intro v11 w11 ho11 hb11
                have hb12 := (HBD.out _).trans (((Below.refl _ _).alloc (by have e : ∀ n, (w8.drewN n).heap.size = w8.heap.size := fun _ => rfl; rw [e]; exact hs8) (.cells #[.string K5] 9)).trans hb11)
                have Ho11 := Lib.hid ho11
                have HB12 := Lib.hid hb12
                clear ho11 hb11 hb12
                go_wp2
                go_ret
                refine ⟨_, rfl, ?_, HB2.out.trans (HB12.out.mono HB2.out.size)⟩
                have h := OwnV.vs Ho11.out
                rw [← HR.out, HP.out, if_pos ⟨by rw [← HSZ.out]; exact hone, P0.out⟩, ← List.append_assoc]
                first | exact h | (rw [List.drop_one]; exact h)
          · go_wp2
            go_ret
            refine ⟨_, rfl, ?_, HB2.out.trans (HB7.out.mono HB2.out.size)⟩
            have h := OwnV.vs Ho6.out
            rw [← HR.out, HP.out, if_neg (fun hh => hone (by rw [HSZ.out]; exact hh.1)), List.append_nil]
            exact h
      · as_aux_lemma =>
        have HP : Hid ((if (true = true ∧ u ≠ []) then [sg ++ u] else []) = [sg ++ u]) := Lib.hid (by simp [hun]; intro h; rw [h] at HSD; have := HSD.out; intro _; rw [← this] at z2; simp [bytes_size] at z2)
        have NG := Lib.hid (fun w => noughts_any n w (by omega))
        have c1 := cat_run (sg ++ D) (List.replicate n 48) (sg ++ u) (by rw [hun]; simp) (by simp; omega) (by simp; omega)
        obtain ⟨SZ, hSZ⟩ : ∃ S, bytes (List.replicate n 48) = S := ⟨_, rfl⟩
        rw [HB1.out, hSZ, HC0.out] at c1
        rw [hSZ] at NG
        have y1 : (n : Int) ≤ 20 := by omega
        clear hsz hSZ hun
        go_wp2_with fail
        refine (NG.out _).mono ?_
        rintro e w' ⟨rfl, rfl⟩
        go_wp2_with (at_builtin; refine wpl_appS rfl _ _ rfl w2.heap.size (.slice none 0 0) (.slice (some ⟨w2.heap.size, 0, none⟩) 1 1) [] [sg ++ u] (sg ++ u) rfl (ownV_nil _ _ _ _) rfl (one_s _ _ _ HC0.out) (nnv_some _ _ _) (by simp) (by simp) rfl ?_)
        intro v4 w4 ho4 hb4
        have hb5 := ((Below.refl w2.heap.size w2).alloc (Nat.le_refl _) (.cells #[.string C0] 9)).trans hb4
        have hs4 := hb5.size
        have W4 := Lib.hid hb5
        have Ho4 := Lib.hid ho4
        clear g0 g1 g2
        obtain ⟨g0, g1, g2⟩ := Hbox.out _ hb5
        clear hb4 hb5 ho4

        go_wp2_with (at_builtin; refine wpl_appS rfl _ _ rfl w2.heap.size v4 (.slice (some ⟨w4.heap.size, 0, none⟩) 1 1) [sg ++ u] ([sg ++ u] ++ [sg ++ (D ++ 101 :: E)]) (sg ++ (D ++ 101 :: E)) rfl (ownV_keep' Ho4.out ((Below.refl _ _).alloc (Nat.le_refl _) _)) rfl (one_s _ _ _ HB3.out) (nnv_some _ _ _) (by simp) (by simp <;> omega) rfl ?_)
        intro v6 w6 ho6 hb6
        have hb7 := W4.out.trans (((Below.refl _ _).alloc hs4 (.cells #[.string B3] 9)).trans hb6)
        have hs6 := hb7.size
        clear g0 g1 g2
        obtain ⟨g0, g1, g2⟩ := Hbox.out _ hb7
        have Ho6 := Lib.hid ho6
        have HB7 := Lib.hid hb7
        clear hb6 hb7 ho6 Ho4
        by_cases hone : 1 < SD.size
        · go_wp2_with fail
          have BB0 : Hid (Below w2.heap.size w2 w6.drew) := Lib.hid HB7.out.drew
          have BB2 : Hid (∀ (w5 : World), Below w6.drew.heap.size w6.drew w5 → Below w2.heap.size w2 w5) := Lib.hid (fun w5 h => (HB7.out.drew).trans (h.mono (by show _ ≤ w6.heap.size; exact hs6)))
          have HS : Hid (∀ W, Below w2.heap.size w2 W → W.cell? ⟨w.heap.size, 2, none⟩ = some (.string SE)) := Lib.hid (fun W h => (Hbox.out W h).2.2)
          have hwr := HWR.out
          clear g0 g1 g2
          go_region_held3 (fun W : World => W.cell? ⟨w.heap.size, 2, none⟩ = some (.string SE))
            (first
              | with_reducible exact HS.out _ BB0.out
              | with_reducible exact HS.out _ (BB2.out _ hb8))
            (first
              | (go_at_call 31; refine (D1.out _).mono ?_; rintro e w' ⟨rfl, rfl⟩)
              | (go_at_call 30; refine (A1.out _).mono ?_; rintro e w8 ⟨rfl, hb8⟩))
          all_goals
            have hb9 := BB2.out _ hb8
            have ho8 := ownV_keep' (ownV_keep' Ho6.out (Below.refl _ _).drew) hb8
            have hs8 := hb9.size
            have Ho8 := Lib.hid ho8
            have HB9 := Lib.hid hb9
            clear hb8 hb9 ho8 Ho6 HB7 hwr
            go_wp2_with fail
            go_quiet (fail)
            rcases HQP.out with ⟨p0, p1, p2⟩ | ⟨p0, p1, p2⟩
            · have P0 := Lib.hid p0
              clear p0
              go_wp2
              go_ret
              refine ⟨_, rfl, ?_, HB2.out.trans ((below_drewN HB9.out _).mono HB2.out.size)⟩
              rw [← HR.out, HP.out, if_neg (fun hh => hh.2 P0.out), List.append_nil]
              first | exact OwnV.vs (ownV_keep' Ho8.out (below_drewN (Below.refl _ _) _)) | exact OwnV.vs Ho8.out
            · have P0 := Lib.hid p0
              clear p0
              have HBD := Lib.hid (fun n => below_drewN HB9.out n)
              have HOD := Lib.hid (fun n => ownV_keep' (w' := w8.drewN n) Ho8.out (below_drewN (Below.refl _ _) n))
              have HSD2 := Lib.hid (fun n => (show w2.heap.size ≤ ((w8.drewN n).alloc (.cells #[.string K5] 9)).heap.size by have e : (w8.drewN n).heap.size = w8.heap.size := rfl; simp; omega))
              go_wp2_with (at_builtin; refine wpl_appS rfl _ _ rfl w2.heap.size v6 _ ([sg ++ u] ++ [sg ++ (D ++ 101 :: E)]) ([sg ++ u] ++ [sg ++ (D ++ 101 :: E)] ++ [sg ++ (D.take 1 ++ 46 :: (D.drop 1 ++ 101 :: up))]) (sg ++ (D.take 1 ++ 46 :: (D.drop 1 ++ 101 :: up))) rfl (ownV_keep' (HOD.out _) ((Below.refl _ _).alloc (Nat.le_refl _) _)) rfl (one_s _ _ _ HK5.out) (nnv_some _ _ _) (by simp) (HSD2.out _) rfl ?_)
              intro v11 w11 ho11 hb11
              have hb12 := (HBD.out _).trans (((Below.refl _ _).alloc (by have e : ∀ n, (w8.drewN n).heap.size = w8.heap.size := fun _ => rfl; rw [e]; exact hs8) (.cells #[.string K5] 9)).trans hb11)
              have Ho11 := Lib.hid ho11
              have HB12 := Lib.hid hb12
              clear ho11 hb11 hb12
              go_wp2
              go_ret
              refine ⟨_, rfl, ?_, HB2.out.trans (HB12.out.mono HB2.out.size)⟩
              have h := OwnV.vs Ho11.out
              rw [← HR.out, HP.out, if_pos ⟨by rw [← HSZ.out]; exact hone, P0.out⟩, ← List.append_assoc]
              first | exact h | (rw [List.drop_one]; exact h)
        · go_wp2
          go_ret
          refine ⟨_, rfl, ?_, HB2.out.trans (HB7.out.mono HB2.out.size)⟩
          have h := OwnV.vs Ho6.out
          rw [← HR.out, HP.out, if_neg (fun hh => hone (by rw [HSZ.out]; exact hh.1)), List.append_nil]
          exact h
      · as_aux_lemma =>
        have HP : Hid ((if (true = true ∧ u ≠ []) then [sg ++ u] else []) = [sg ++ u]) := Lib.hid (by simp [hun])
        have f1 := ext_to D k
        have f2 := ext_from D k
        have c1 := cat_run sg (D.take k) _ rfl (by omega) (by simp; omega)
        have c2 := cat_run (sg ++ D.take k) [46] _ rfl (by simp; omega) (by simp)
        have c3 := cat_run (sg ++ D.take k ++ [46]) (D.drop k) (sg ++ u) (by rw [hun]; simp) (by simp; omega) (by simp; omega)
        rw [← f1] at c1
        rw [← f2] at c3
        rw [show bytes [46] = (⟨#[46]⟩ : ByteArray) from rfl] at c2
        obtain ⟨Q1, hQ1⟩ : ∃ S, bytes (sg ++ D.take k) = S := ⟨_, rfl⟩
        obtain ⟨Q2, hQ2⟩ : ∃ S, bytes (sg ++ D.take k ++ [46]) = S := ⟨_, rfl⟩
        rw [HSG.out, HSD.out, hQ1] at c1
        rw [hQ1, hQ2] at c2
        rw [hQ2, HSD.out, HC0.out, ← hsz] at c3
        have y0 : IntKind.i64.wrap ((SD.size : Int) + x) = (k : Int) := by rw [IntWalk.i64_in _ (by omega)]; omega
        have y1 : x < 0 := hx0
        have y2 : -(SD.size : Int) < x := by omega
        have y3 : ¬ x ≤ -(SD.size : Int) := by omega
        have y4 : (k : Int) ≤ SD.size := by omega
        have y5 : k ≤ SD.size := by omega
        have BB0 : Hid (∀ o : Obj, w2.heap.size ≤ (w2.alloc o).drew.heap.size) := Lib.hid (fun o => by show _ ≤ (w2.alloc o).heap.size; simp)
        have BB1 : Hid (∀ (o : Obj) (w5 : World), Below w2.heap.size (w2.alloc o).drew w5 → Below w2.heap.size w2 w5) := Lib.hid (fun o w5 h => (((Below.refl _ _).alloc (Nat.le_refl _) o).drew).trans h)
        clear hsz hun f1 f2 hQ1 hQ2 hk hk0 hx0
        go_wp2_with fail
        go_region_held3 (fun _ : World => True) (exact trivial)
          ((refine stepl_str (by rfl) _ _ (by rfl) w2.heap.size (.slice none 0 0) (.slice (some ⟨w2.heap.size, 0, none⟩) 1 1) [] [sg ++ u] (sg ++ u) (by rfl) (ownV_nil _ _ _ _) (by rfl) (one_s w2.drew _ _ HC0.out) (by simp) (BB0.out _) rfl ?_; intro v4 w4 ho4 hb4))
        all_goals
          have hb5 := BB1.out _ _ hb4
          have hs4 := hb5.size
          have W4 := Lib.hid hb5
          have Ho4 := Lib.hid ho4
          clear g0 g1 g2
          obtain ⟨g0, g1, g2⟩ := Hbox.out _ hb5
          clear hb4 hb5 ho4 y0
          go_wp2_with (at_builtin; refine wpl_appS rfl _ _ rfl w2.heap.size v4 (.slice (some ⟨w4.heap.size, 0, none⟩) 1 1) [sg ++ u] ([sg ++ u] ++ [sg ++ (D ++ 101 :: E)]) (sg ++ (D ++ 101 :: E)) rfl (ownV_keep' Ho4.out ((Below.refl _ _).alloc (Nat.le_refl _) _)) rfl (one_s _ _ _ HB3.out) (nnv_some _ _ _) (by simp) (by simp <;> omega) rfl ?_)
          intro v6 w6 ho6 hb6
          have hb7 := W4.out.trans (((Below.refl _ _).alloc hs4 (.cells #[.string B3] 9)).trans hb6)
          have hs6 := hb7.size
          clear g0 g1 g2
          obtain ⟨g0, g1, g2⟩ := Hbox.out _ hb7
          have Ho6 := Lib.hid ho6
          have HB7 := Lib.hid hb7
          clear hb6 hb7 ho6 Ho4
          by_cases hone : 1 < SD.size
          · go_wp2_with fail
            have BB0 : Hid (Below w2.heap.size w2 w6.drew) := Lib.hid HB7.out.drew
            have BB2 : Hid (∀ (w5 : World), Below w6.drew.heap.size w6.drew w5 → Below w2.heap.size w2 w5) := Lib.hid (fun w5 h => (HB7.out.drew).trans (h.mono (by show _ ≤ w6.heap.size; exact hs6)))
            have HS : Hid (∀ W, Below w2.heap.size w2 W → W.cell? ⟨w.heap.size, 2, none⟩ = some (.string SE)) := Lib.hid (fun W h => (Hbox.out W h).2.2)
            have hwr := HWR.out
            clear g0 g1 g2
            go_region_held3 (fun W : World => W.cell? ⟨w.heap.size, 2, none⟩ = some (.string SE))
              (first
                | with_reducible exact HS.out _ BB0.out
                | with_reducible exact HS.out _ (BB2.out _ hb8))
              (first
                | (go_at_call 31; refine (D1.out _).mono ?_; rintro e w' ⟨rfl, rfl⟩)
                | (go_at_call 30; refine (A1.out _).mono ?_; rintro e w8 ⟨rfl, hb8⟩))
            all_goals
              have hb9 := BB2.out _ hb8
              have ho8 := ownV_keep' (ownV_keep' Ho6.out (Below.refl _ _).drew) hb8
              have hs8 := hb9.size
              have Ho8 := Lib.hid ho8
              have HB9 := Lib.hid hb9
              clear hb8 hb9 ho8 Ho6 HB7 hwr
              go_wp2_with fail
              go_quiet (fail)
              rcases HQP.out with ⟨p0, p1, p2⟩ | ⟨p0, p1, p2⟩
              · have P0 := Lib.hid p0
                clear p0
                go_wp2
                go_ret
                refine ⟨_, rfl, ?_, HB2.out.trans ((below_drewN HB9.out _).mono HB2.out.size)⟩
                rw [← HR.out, HP.out, if_neg (fun hh => hh.2 P0.out), List.append_nil]
                first | exact OwnV.vs (ownV_keep' Ho8.out (below_drewN (Below.refl _ _) _)) | exact OwnV.vs Ho8.out
              · have P0 := Lib.hid p0
                clear p0
                have HBD := Lib.hid (fun n => below_drewN HB9.out n)
                have HOD := Lib.hid (fun n => ownV_keep' (w' := w8.drewN n) Ho8.out (below_drewN (Below.refl _ _) n))
                have HSD2 := Lib.hid (fun n => (show w2.heap.size ≤ ((w8.drewN n).alloc (.cells #[.string K5] 9)).heap.size by have e : (w8.drewN n).heap.size = w8.heap.size := rfl; simp; omega))
                go_wp2_with (at_builtin; refine wpl_appS rfl _ _ rfl w2.heap.size v6 _ ([sg ++ u] ++ [sg ++ (D ++ 101 :: E)]) ([sg ++ u] ++ [sg ++ (D ++ 101 :: E)] ++ [sg ++ (D.take 1 ++ 46 :: (D.drop 1 ++ 101 :: up))]) (sg ++ (D.take 1 ++ 46 :: (D.drop 1 ++ 101 :: up))) rfl (ownV_keep' (HOD.out _) ((Below.refl _ _).alloc (Nat.le_refl _) _)) rfl (one_s _ _ _ HK5.out) (nnv_some _ _ _) (by simp) (HSD2.out _) rfl ?_)
                intro v11 w11 ho11 hb11
                have hb12 := (HBD.out _).trans (((Below.refl _ _).alloc (by have e : ∀ n, (w8.drewN n).heap.size = w8.heap.size := fun _ => rfl; rw [e]; exact hs8) (.cells #[.string K5] 9)).trans hb11)
                have Ho11 := Lib.hid ho11
                have HB12 := Lib.hid hb12
                clear ho11 hb11 hb12
                go_wp2
                go_ret
                refine ⟨_, rfl, ?_, HB2.out.trans (HB12.out.mono HB2.out.size)⟩
                have h := OwnV.vs Ho11.out
                rw [← HR.out, HP.out, if_pos ⟨by rw [← HSZ.out]; exact hone, P0.out⟩, ← List.append_assoc]
                first | exact h | (rw [List.drop_one]; exact h)
          · exfalso; omega
      · as_aux_lemma =>
        have HP : Hid ((if (true = true ∧ u ≠ []) then [sg ++ u] else []) = [sg ++ u]) := Lib.hid (by simp [hun])
        have NG := Lib.hid (fun w => noughts_any n w (by omega))
        have c1 := cat_run sg [48, 46] _ rfl (by omega) (by simp)
        have c2 := cat_run (sg ++ [48, 46]) (List.replicate n 48) _ rfl (by simp; omega) (by simp; omega)
        have c3 := cat_run (sg ++ [48, 46] ++ List.replicate n 48) D (sg ++ u) (by rw [hun]; simp) (by simp; omega) (by omega)
        rw [show bytes [48, 46] = (⟨#[48, 46]⟩ : ByteArray) from rfl] at c1
        obtain ⟨SZ, hSZ⟩ : ∃ S, bytes (List.replicate n 48) = S := ⟨_, rfl⟩
        obtain ⟨Q1, hQ1⟩ : ∃ S, bytes (sg ++ [48, 46]) = S := ⟨_, rfl⟩
        obtain ⟨Q2, hQ2⟩ : ∃ S, bytes (sg ++ [48, 46] ++ List.replicate n 48) = S := ⟨_, rfl⟩
        rw [HSG.out, hQ1] at c1
        rw [hQ1, hSZ, hQ2] at c2
        rw [hQ2, HSD.out, HC0.out] at c3
        rw [hSZ, hn, ← hsz] at NG
        have y1 : x < 0 := hx0
        have y2 : ¬ -(SD.size : Int) < x := by omega
        have y3 : x ≤ -(SD.size : Int) := by omega
        have y4 : -(SD.size : Int) - 20 ≤ x := by omega
        clear hsz hSZ hun hQ1 hQ2 hn hn2 hx0
        go_wp2_with fail
        refine (NG.out _).mono ?_
        rintro e w' ⟨rfl, rfl⟩
        go_wp2_with (at_builtin; refine wpl_appS rfl _ _ rfl w2.heap.size (.slice none 0 0) (.slice (some ⟨w2.heap.size, 0, none⟩) 1 1) [] [sg ++ u] (sg ++ u) rfl (ownV_nil _ _ _ _) rfl (one_s _ _ _ HC0.out) (nnv_some _ _ _) (by simp) (by simp) rfl ?_)
        intro v4 w4 ho4 hb4
        have hb5 := ((Below.refl w2.heap.size w2).alloc (Nat.le_refl _) (.cells #[.string C0] 9)).trans hb4
        have hs4 := hb5.size
        have W4 := Lib.hid hb5
        have Ho4 := Lib.hid ho4
        clear g0 g1 g2
        obtain ⟨g0, g1, g2⟩ := Hbox.out _ hb5
        clear hb4 hb5 ho4

        go_wp2_with (at_builtin; refine wpl_appS rfl _ _ rfl w2.heap.size v4 (.slice (some ⟨w4.heap.size, 0, none⟩) 1 1) [sg ++ u] ([sg ++ u] ++ [sg ++ (D ++ 101 :: E)]) (sg ++ (D ++ 101 :: E)) rfl (ownV_keep' Ho4.out ((Below.refl _ _).alloc (Nat.le_refl _) _)) rfl (one_s _ _ _ HB3.out) (nnv_some _ _ _) (by simp) (by simp <;> omega) rfl ?_)
        intro v6 w6 ho6 hb6
        have hb7 := W4.out.trans (((Below.refl _ _).alloc hs4 (.cells #[.string B3] 9)).trans hb6)
        have hs6 := hb7.size
        clear g0 g1 g2
        obtain ⟨g0, g1, g2⟩ := Hbox.out _ hb7
        have Ho6 := Lib.hid ho6
        have HB7 := Lib.hid hb7
        clear hb6 hb7 ho6 Ho4
        by_cases hone : 1 < SD.size
        · go_wp2_with fail
          have BB0 : Hid (Below w2.heap.size w2 w6.drew) := Lib.hid HB7.out.drew
          have BB2 : Hid (∀ (w5 : World), Below w6.drew.heap.size w6.drew w5 → Below w2.heap.size w2 w5) := Lib.hid (fun w5 h => (HB7.out.drew).trans (h.mono (by show _ ≤ w6.heap.size; exact hs6)))
          have HS : Hid (∀ W, Below w2.heap.size w2 W → W.cell? ⟨w.heap.size, 2, none⟩ = some (.string SE)) := Lib.hid (fun W h => (Hbox.out W h).2.2)
          have hwr := HWR.out
          clear g0 g1 g2
          go_region_held3 (fun W : World => W.cell? ⟨w.heap.size, 2, none⟩ = some (.string SE))
            (first
              | with_reducible exact HS.out _ BB0.out
              | with_reducible exact HS.out _ (BB2.out _ hb8))
            (first
              | (go_at_call 31; refine (D1.out _).mono ?_; rintro e w' ⟨rfl, rfl⟩)
              | (go_at_call 30; refine (A1.out _).mono ?_; rintro e w8 ⟨rfl, hb8⟩))
          all_goals
            have hb9 := BB2.out _ hb8
            have ho8 := ownV_keep' (ownV_keep' Ho6.out (Below.refl _ _).drew) hb8
            have hs8 := hb9.size
            have Ho8 := Lib.hid ho8
            have HB9 := Lib.hid hb9
            clear hb8 hb9 ho8 Ho6 HB7 hwr
            go_wp2_with fail
            go_quiet (fail)
            rcases HQP.out with ⟨p0, p1, p2⟩ | ⟨p0, p1, p2⟩
            · have P0 := Lib.hid p0
              clear p0
              go_wp2
              go_ret
              refine ⟨_, rfl, ?_, HB2.out.trans ((below_drewN HB9.out _).mono HB2.out.size)⟩
              rw [← HR.out, HP.out, if_neg (fun hh => hh.2 P0.out), List.append_nil]
              first | exact OwnV.vs (ownV_keep' Ho8.out (below_drewN (Below.refl _ _) _)) | exact OwnV.vs Ho8.out
            · have P0 := Lib.hid p0
              clear p0
              have HBD := Lib.hid (fun n => below_drewN HB9.out n)
              have HOD := Lib.hid (fun n => ownV_keep' (w' := w8.drewN n) Ho8.out (below_drewN (Below.refl _ _) n))
              have HSD2 := Lib.hid (fun n => (show w2.heap.size ≤ ((w8.drewN n).alloc (.cells #[.string K5] 9)).heap.size by have e : (w8.drewN n).heap.size = w8.heap.size := rfl; simp; omega))
              go_wp2_with (at_builtin; refine wpl_appS rfl _ _ rfl w2.heap.size v6 _ ([sg ++ u] ++ [sg ++ (D ++ 101 :: E)]) ([sg ++ u] ++ [sg ++ (D ++ 101 :: E)] ++ [sg ++ (D.take 1 ++ 46 :: (D.drop 1 ++ 101 :: up))]) (sg ++ (D.take 1 ++ 46 :: (D.drop 1 ++ 101 :: up))) rfl (ownV_keep' (HOD.out _) ((Below.refl _ _).alloc (Nat.le_refl _) _)) rfl (one_s _ _ _ HK5.out) (nnv_some _ _ _) (by simp) (HSD2.out _) rfl ?_)
              intro v11 w11 ho11 hb11
              have hb12 := (HBD.out _).trans (((Below.refl _ _).alloc (by have e : ∀ n, (w8.drewN n).heap.size = w8.heap.size := fun _ => rfl; rw [e]; exact hs8) (.cells #[.string K5] 9)).trans hb11)
              have Ho11 := Lib.hid ho11
              have HB12 := Lib.hid hb12
              clear ho11 hb11 hb12
              go_wp2
              go_ret
              refine ⟨_, rfl, ?_, HB2.out.trans (HB12.out.mono HB2.out.size)⟩
              have h := OwnV.vs Ho11.out
              rw [← HR.out, HP.out, if_pos ⟨by rw [← HSZ.out]; exact hone, P0.out⟩, ← List.append_assoc]
              first | exact h | (rw [List.drop_one]; exact h)
        · go_wp2
          go_ret
          refine ⟨_, rfl, ?_, HB2.out.trans (HB7.out.mono HB2.out.size)⟩
          have h := OwnV.vs Ho6.out
          rw [← HR.out, HP.out, if_neg (fun hh => hone (by rw [HSZ.out]; exact hh.1)), List.append_nil]
          exact h
end Go.Proofs.YtpecaalpbeoolaaGreatDoor
