import Derived.Test.YtimjbjppmhdjnaaGreatDoorWTk
import Derived.Test.YtimjbjppmhdjnaaGreatDoorWRight2
set_option maxHeartbeats 8000000
set_option maxRecDepth 100000
namespace Go.Proofs.YtimjbjppmhdjnaaGreatDoor
open Go.RowKit
set_option linter.unusedVariables false
set_option linter.unusedSimpArgs false
def kindG (g : GT) : Bool :=
 if g.1.kind = 1 \/ g.1.kind = 2 \/ g.1.kind = 3 then decide (g.1.text ≠ [])
 else if g.1.kind = 4 then decide (g.1.text ≠ []) && readsG (M.spellT g.1) [g]
 else if g.1.kind = 10 \/ g.1.kind = 11 then numG g
 else if g.1.kind = 12 then decide (g.1.unit ≠ []) && numG g
 else if g.1.kind = 13 then decide (g.1.text = [32]) || decide (g.1.text = [10])
 else if g.1.kind = 6 \/ g.1.kind = 8 \/ g.1.kind = 9 \/ g.1.kind = 25 then readsG (M.spellT g.1) [g]
 else if g.1.kind = 5 \/ g.1.kind = 7 then true
 else decide (M.sigS g.1.kind ≠ [])
def rightG (g : GT) : Bool := decide (0 <= g.2.2) && M.cleanS g.1.text && M.cleanS g.1.unit && decide (g = (M.onlyT g.1, z4, g.2.2)) && kindG g
theorem right_bad (g : GT) (w : World) (hT : Tabs w) (hs : Small g.1) (hr : (decide (0 <= g.2.2) && M.cleanS g.1.text && M.cleanS g.1.unit && decide (g = (M.onlyT g.1, z4, g.2.2))) = false) :
  Calls Tryz.prog 8 #[.agg (gtv g)] w fun e w' => e = .returned (.bool false) /\ Below w.heap.size w w' := by
 have HT := Lib.hid hT
 have L1 := Lib.hid (fun W => listed_any g W)
 have E1 := fun W => neq_gen W g (M.onlyT g.1, z4, g.2.2)
 obtain ⟨cl, hcl⟩ : ∃ b, M.cleanS g.1.text = b := ⟨_, rfl⟩
 obtain ⟨cu, hcu⟩ : ∃ b, M.cleanS g.1.unit = b := ⟨_, rfl⟩
 obtain ⟨ce, hce⟩ : ∃ b, decide (g = (M.onlyT g.1, z4, g.2.2)) = b := ⟨_, rfl⟩
 have T1 := Lib.hid (fun W hW => isclean_any g.1.text cl W hW (by have := hs.1; omega) hcl)
 have U1 := Lib.hid (fun W hW => isclean_any g.1.unit cu W hW (by have := hs.2.1; omega) hcu)
 rw [hcl, hcu, hce] at hr
 rw [hce] at E1
 obtain ⟨ls, hls⟩ : ∃ l, gtv (M.onlyT g.1, z4, g.2.2) = l := ⟨_, rfl⟩
 rw [hls] at E1 L1
 obtain ⟨⟨k, text, unit, ⟨n0, n1, n2⟩, flag, sign⟩, ⟨c0, c1, c2, c3⟩, z⟩ := g
 have e1 := gtv_lit k text unit n0 n1 n2 flag sign c0 c1 c2 c3 z
 simp only at T1 U1 hr
 rw [e1] at L1 E1 ⊢
 obtain ⟨TB, hTB⟩ : ∃ S, bytes text = S := ⟨_, rfl⟩
 obtain ⟨UB, hUB⟩ : ∃ S, bytes unit = S := ⟨_, rfl⟩
 obtain ⟨N1, hN1⟩ : ∃ S, bytes n1 = S := ⟨_, rfl⟩
 obtain ⟨N2, hN2⟩ : ∃ S, bytes n2 = S := ⟨_, rfl⟩
 rw [hTB] at T1
 rw [hUB] at U1
 rw [hTB, hUB, hN1, hN2] at L1 E1 ⊢
 obtain ⟨W0, hW0⟩ : ∃ W, w.alloc (.cells #[.int .i64 k, .string TB, .string UB, .bool n0, .string N1, .string N2, .bool flag, .bool sign, .int .i64 c0, .int .i64 c1, .int .i64 c2, .int .i64 c3, .int .i64 z] 33) = W := ⟨_, rfl⟩
 have hcs : CB W0 w.heap.size #[.int .i64 k, .string TB, .string UB, .bool n0, .string N1, .string N2, .bool flag, .bool sign, .int .i64 c0, .int .i64 c1, .int .i64 c2, .int .i64 c3, .int .i64 z] := by rw [<- hW0]; exact CB.new _ _
 have B1 : Hid (Below w.heap.size w W0) := Lib.hid (by rw [<- hW0]; exact (Below.refl _ _).alloc (Nat.le_refl _) _)
 have HW0 := Lib.hid hW0
 clear hW0
 clear hT hs e1 hTB hUB hN1 hN2 hcl hcu hce hls
 by_cases hz : z < 0
 ·clear hr
  go_enter Tryz.func8, Tryz.ntmps8
  go_upto_region 1 with (fail)
  rw [HW0.out]
  refine wp_region_noPanic ?_
  refine wp_region_held_drew (S := Is13 (w.heap.size) (.int .i64 k) (.string TB) (.string UB) (.bool n0) (.string N1) (.string N2) (.bool flag) (.bool sign) (.int .i64 c0) (.int .i64 c1) (.int .i64 c2) (.int .i64 c3) (.int .i64 z)) (by kernel_rfl) ⟨hcs.cell 0, hcs.cell 1, hcs.cell 2, hcs.cell 3, hcs.cell 4, hcs.cell 5, hcs.cell 6, hcs.cell 7, hcs.cell 8, hcs.cell 9, hcs.cell 10, hcs.cell 11, hcs.cell 12⟩ (fun hS => ?_)
  clear hcs
  refine rtk 0 ?_
  refine rtk 1 ?_
  refine rtk 2 ?_
  refine rtk 3 ?_
  refine rts 4 ?_
  refine rts 5 ?_
  refine rts 6 ?_
  refine rts 7 ?_
  refine rtk 8 ?_
  refine rtk 9 ?_
  refine rts 10 ?_
  refine rts 11 ?_
  refine rts 12 ?_
  refine rts 13 ?_
  refine rtk 14 ?_
  refine rtk 15 ?_
  refine rts 16 ?_
  refine rts 17 ?_
  refine rts 18 ?_
  refine rts 19 ?_
  refine rtk 20 ?_
  refine wpAnyH_done (by kernel_rfl) ?_ _
  refine NoPanic.normal ?_
  go_wp2
  go_ret
  exact ⟨rfl, B1.out.drew⟩
 have hz2 : 0 <= z := by omega
 rw [decide_eq_true hz2] at hr
 have tz : (decide (z < 0)) = false := by simpa using hz2
 clear hz
 cases cl with
 | false =>
  clear hr
  go_enter Tryz.func8, Tryz.ntmps8
  go_upto_region 1 with (fail)
  rw [HW0.out]
  refine wp_region_noPanic ?_
  refine wp_region_held_drew (S := Is13 (w.heap.size) (.int .i64 k) (.string TB) (.string UB) (.bool n0) (.string N1) (.string N2) (.bool flag) (.bool sign) (.int .i64 c0) (.int .i64 c1) (.int .i64 c2) (.int .i64 c3) (.int .i64 z)) (by kernel_rfl) ⟨hcs.cell 0, hcs.cell 1, hcs.cell 2, hcs.cell 3, hcs.cell 4, hcs.cell 5, hcs.cell 6, hcs.cell 7, hcs.cell 8, hcs.cell 9, hcs.cell 10, hcs.cell 11, hcs.cell 12⟩ (fun hS => ?_)
  clear hcs
  refine rtk 0 ?_
  refine rtk 1 ?_
  refine rtk 2 ?_
  refine rtk 3 ?_
  refine rtk 4 ?_
  refine rtk 5 ?_
  refine wpAnyH_ready (rs := [6]) (by kernel_rfl) (by simp) ?_
  refine AllReadyH.cons rfl (fun K hK => ?_) AllReadyH.nil
  go_simp
  refine (T1.out _ (HT.out.keep B1.out.drew)).mono ?_
  rintro e w5 ⟨rfl, hb5⟩
  refine hK.out _ _ (Is13.keep hS hb5) (fun hS => ?_)
  clear hK K
  have HF := Lib.hid (B1.out.drew.trans (hb5.mono B1.out.drew.size))
  clear hb5
  refine rtk 7 ?_
  refine rtk 8 ?_
  refine rtk 9 ?_
  refine rts 10 ?_
  refine rts 11 ?_
  refine rts 12 ?_
  refine rts 13 ?_
  refine rtk 14 ?_
  refine rtk 15 ?_
  refine rts 16 ?_
  refine rts 17 ?_
  refine rts 18 ?_
  refine rts 19 ?_
  refine rtk 20 ?_
  refine wpAnyH_done (by kernel_rfl) ?_ _
  refine NoPanic.normal ?_
  go_wp2
  go_ret
  exact ⟨rfl, HF.out⟩
 | true =>
  cases cu with
  | false =>
   clear hr
   go_enter Tryz.func8, Tryz.ntmps8
   go_upto_region 1 with (fail)
   rw [HW0.out]
   refine wp_region_noPanic ?_
   refine wp_region_held_drew (S := Is13 (w.heap.size) (.int .i64 k) (.string TB) (.string UB) (.bool n0) (.string N1) (.string N2) (.bool flag) (.bool sign) (.int .i64 c0) (.int .i64 c1) (.int .i64 c2) (.int .i64 c3) (.int .i64 z)) (by kernel_rfl) ⟨hcs.cell 0, hcs.cell 1, hcs.cell 2, hcs.cell 3, hcs.cell 4, hcs.cell 5, hcs.cell 6, hcs.cell 7, hcs.cell 8, hcs.cell 9, hcs.cell 10, hcs.cell 11, hcs.cell 12⟩ (fun hS => ?_)
   clear hcs
   refine rtk 0 ?_
   refine rtk 1 ?_
   refine rtk 2 ?_
   refine rtk 3 ?_
   refine rtk 4 ?_
   refine rtk 5 ?_
   refine wpAnyH_ready (rs := [6]) (by kernel_rfl) (by simp) ?_
   refine AllReadyH.cons rfl (fun K hK => ?_) AllReadyH.nil
   go_simp
   refine (T1.out _ (HT.out.keep B1.out.drew)).mono ?_
   rintro e w5 ⟨rfl, hb5⟩
   refine hK.out _ _ (Is13.keep hS hb5) (fun hS => ?_)
   clear hK K
   have B5 := Lib.hid (B1.out.drew.trans (hb5.mono B1.out.drew.size))
   clear hb5
   refine rtk 7 ?_
   refine rtk 8 ?_
   refine rtk 9 ?_
   refine rtk 10 ?_
   refine rtk 11 ?_
   refine wpAnyH_ready (rs := [12]) (by kernel_rfl) (by simp) ?_
   refine AllReadyH.cons rfl (fun K hK => ?_) AllReadyH.nil
   go_simp
   refine (U1.out _ (HT.out.keep B5.out)).mono ?_
   rintro e w6 ⟨rfl, hb6⟩
   refine hK.out _ _ (Is13.keep hS hb6) (fun hS => ?_)
   clear hK K
   have HF := Lib.hid (B5.out.trans (hb6.mono B5.out.size))
   clear hb6
   refine rtk 13 ?_
   refine rtk 14 ?_
   refine rtk 15 ?_
   refine rts 16 ?_
   refine rts 17 ?_
   refine rts 18 ?_
   refine rts 19 ?_
   refine rtk 20 ?_
   refine wpAnyH_done (by kernel_rfl) ?_ _
   refine NoPanic.normal ?_
   go_wp2
   go_ret
   exact ⟨rfl, HF.out⟩
  | true =>
   obtain rfl : ce = false := by simpa using hr
   clear hr
   go_enter Tryz.func8, Tryz.ntmps8
   go_upto_region 1 with (fail)
   rw [HW0.out]
   refine wp_region_noPanic ?_
   refine wp_region_held_drew (S := Is13 (w.heap.size) (.int .i64 k) (.string TB) (.string UB) (.bool n0) (.string N1) (.string N2) (.bool flag) (.bool sign) (.int .i64 c0) (.int .i64 c1) (.int .i64 c2) (.int .i64 c3) (.int .i64 z)) (by kernel_rfl) ⟨hcs.cell 0, hcs.cell 1, hcs.cell 2, hcs.cell 3, hcs.cell 4, hcs.cell 5, hcs.cell 6, hcs.cell 7, hcs.cell 8, hcs.cell 9, hcs.cell 10, hcs.cell 11, hcs.cell 12⟩ (fun hS => ?_)
   clear hcs
   refine rtk 0 ?_
   refine rtk 1 ?_
   refine rtk 2 ?_
   refine rtk 3 ?_
   refine rtk 4 ?_
   refine rtk 5 ?_
   refine wpAnyH_ready (rs := [6]) (by kernel_rfl) (by simp) ?_
   refine AllReadyH.cons rfl (fun K hK => ?_) AllReadyH.nil
   go_simp
   refine (T1.out _ (HT.out.keep B1.out.drew)).mono ?_
   rintro e w5 ⟨rfl, hb5⟩
   refine hK.out _ _ (Is13.keep hS hb5) (fun hS => ?_)
   clear hK K
   have B5 := Lib.hid (B1.out.drew.trans (hb5.mono B1.out.drew.size))
   clear hb5
   refine rtk 7 ?_
   refine rtk 8 ?_
   refine rtk 9 ?_
   refine rtk 10 ?_
   refine rtk 11 ?_
   refine wpAnyH_ready (rs := [12]) (by kernel_rfl) (by simp) ?_
   refine AllReadyH.cons rfl (fun K hK => ?_) AllReadyH.nil
   go_simp
   refine (U1.out _ (HT.out.keep B5.out)).mono ?_
   rintro e w6 ⟨rfl, hb6⟩
   refine hK.out _ _ (Is13.keep hS hb6) (fun hS => ?_)
   clear hK K
   have B6 := Lib.hid (B5.out.trans (hb6.mono B5.out.size))
   clear hb6
   refine rtk 13 ?_
   refine rtk 14 ?_
   refine rtk 15 ?_
   refine rtk 16 ?_
   refine rtk 17 ?_
   refine wpAnyH_ready (rs := [18]) (by kernel_rfl) (by simp) ?_
   refine AllReadyH.cons rfl (fun K hK => ?_) AllReadyH.nil
   go_simp
   refine (L1.out _).mono ?_
   rintro e w7 ⟨rfl, hb7⟩
   refine hK.out _ _ (Is13.keep hS hb7) (fun hS => ?_)
   clear hK K
   have HF := Lib.hid (B6.out.trans (hb7.mono B6.out.size))
   clear hb7
   have EG := Tryz.eqGuardType33
   refine rtk 19 ?_
   refine rtk 20 ?_
   refine wpAnyH_done (by kernel_rfl) ?_ _
   refine NoPanic.normal ?_
   go_wp2
   go_ret
   exact ⟨rfl, HF.out⟩
def kindB (k : Int) (eT eU e32 e10 eS nb rb : Bool) : Bool :=
 if k = 1 \/ k = 2 \/ k = 3 then !eT
 else if k = 4 then !eT && rb
 else if k = 10 \/ k = 11 then nb
 else if k = 12 then !eU && nb
 else if k = 13 then e32 || e10
 else if k = 6 \/ k = 8 \/ k = 9 \/ k = 25 then rb
 else if k = 5 \/ k = 7 then true
 else !eS
theorem kindG_B (g : GT) : kindG g = kindB g.1.kind (decide (g.1.text = [])) (decide (g.1.unit = [])) (decide (g.1.text = [32])) (decide (g.1.text = [10])) (decide (M.sigS g.1.kind = [])) (numG g) (readsG (M.spellT g.1) [g]) := by
 unfold kindG kindB
 simp only [decide_not, ne_eq]
theorem empty_dec (s : List UInt8) : (bytes s).toList.isEmpty = decide (s = []) := by
 rw [toList_bytes]
 cases s <;> rfl
theorem eq_dec (s t : List UInt8) : ((bytes s).toList == t) = decide (s = t) := by
 rw [toList_bytes, Bool.eq_iff_iff]
 simp
theorem right_good (g : GT) (r : Bool) (w : World) (hT : Tabs w) (hs : Small g.1) (hl : (M.spellT g.1).length <= 39000) (hr : kindG g = r)
  (hz : 0 <= g.2.2) (hct : M.cleanS g.1.text = true) (hcu : M.cleanS g.1.unit = true) (hce : g = (M.onlyT g.1, z4, g.2.2)) :
  Calls Tryz.prog 8 #[.agg (gtv g)] w fun e w' => e = .returned (.bool r) /\ Below w.heap.size w w' := by
 have HT := Lib.hid hT
 have L1 := Lib.hid (fun W => listed_any g W)
 have E1 := fun W => neq_gen W g (M.onlyT g.1, z4, g.2.2)
 rw [decide_eq_true hce] at E1
 have T1 := Lib.hid (fun W hW => isclean_any g.1.text true W hW (by have := hs.1; omega) hct)
 have U1 := Lib.hid (fun W hW => isclean_any g.1.unit true W hW (by have := hs.2.1; omega) hcu)
 obtain ⟨ls, hls⟩ : ∃ l, gtv (M.onlyT g.1, z4, g.2.2) = l := ⟨_, rfl⟩
 rw [hls] at E1 L1
 rw [kindG_B] at hr
 obtain ⟨q, hq⟩ : ∃ q, readsG (M.spellT g.1) [g] = q := ⟨_, rfl⟩
 obtain ⟨nb, hnb⟩ : ∃ q, numG g = q := ⟨_, rfl⟩
 have R1 := Lib.hid (fun W hW => readsback_any g q W hW hs hq hl)
 have N1' := Lib.hid (fun W hW => rightnum_any g nb W hW hs hl hnb)
 rw [hq, hnb] at hr
 obtain ⟨⟨k, text, unit, ⟨n0, n1, n2⟩, flag, sign⟩, ⟨c0, c1, c2, c3⟩, z⟩ := g
 have e1 := gtv_lit k text unit n0 n1 n2 flag sign c0 c1 c2 c3 z
 simp only at T1 U1 hr hz
 have heT := empty_dec text
 have heU := empty_dec unit
 have h32 := eq_dec text [32]
 have h10' := eq_dec text [10]
 obtain ⟨sg, hsg⟩ : ∃ s, M.sigS k = s := ⟨_, rfl⟩
 have G1 := Lib.hid (fun W => sign_any k sg W hsg)
 have heS := empty_dec sg
 rw [hsg] at hr
 rw [e1] at L1 E1 R1 N1' ⊢
 obtain ⟨TB, hTB⟩ : ∃ S, bytes text = S := ⟨_, rfl⟩
 obtain ⟨UB, hUB⟩ : ∃ S, bytes unit = S := ⟨_, rfl⟩
 obtain ⟨N1, hN1⟩ : ∃ S, bytes n1 = S := ⟨_, rfl⟩
 obtain ⟨N2, hN2⟩ : ∃ S, bytes n2 = S := ⟨_, rfl⟩
 obtain ⟨SG, hSG⟩ : ∃ S, bytes sg = S := ⟨_, rfl⟩
 rw [hTB] at T1 heT h32 h10'
 rw [hUB] at U1 heU
 rw [hSG] at G1 heS
 rw [hTB, hUB, hN1, hN2] at L1 E1 R1 N1' ⊢
 obtain ⟨eT, heT2⟩ : ∃ b, decide (text = []) = b := ⟨_, rfl⟩
 obtain ⟨eU, heU2⟩ : ∃ b, decide (unit = []) = b := ⟨_, rfl⟩
 obtain ⟨e32, he32⟩ : ∃ b, decide (text = [32]) = b := ⟨_, rfl⟩
 obtain ⟨e10, he10⟩ : ∃ b, decide (text = [10]) = b := ⟨_, rfl⟩
 obtain ⟨eS, heS2⟩ : ∃ b, decide (sg = []) = b := ⟨_, rfl⟩
 rw [heT2, heU2, he32, he10, heS2] at hr
 rw [heT2] at heT
 rw [heU2] at heU
 rw [he32] at h32
 rw [he10] at h10'
 rw [heS2] at heS
 obtain ⟨W0, hW0⟩ : ∃ W, w.alloc (.cells #[.int .i64 k, .string TB, .string UB, .bool n0, .string N1, .string N2, .bool flag, .bool sign, .int .i64 c0, .int .i64 c1, .int .i64 c2, .int .i64 c3, .int .i64 z] 33) = W := ⟨_, rfl⟩
 have hcs : CB W0 w.heap.size #[.int .i64 k, .string TB, .string UB, .bool n0, .string N1, .string N2, .bool flag, .bool sign, .int .i64 c0, .int .i64 c1, .int .i64 c2, .int .i64 c3, .int .i64 z] := by rw [<- hW0]; exact CB.new _ _
 have B1 : Hid (Below w.heap.size w W0) := Lib.hid (by rw [<- hW0]; exact (Below.refl _ _).alloc (Nat.le_refl _) _)
 have HW0 := Lib.hid hW0
 clear hW0
 have tz : (decide (z < 0)) = false := by simpa using hz
 clear hT hs hl e1 hTB hUB hN1 hN2 hct hcu hce hls hq hnb hsg hSG heT2 heU2 he32 he10 heS2 hz
 have HE := Lib.hid (And.intro heT (And.intro heU (And.intro h32 (And.intro h10' heS))))
 have HR := Lib.hid hr
 clear heT heU h32 h10' heS hr
 go_enter Tryz.func8, Tryz.ntmps8
 go_upto_region 1 with (fail)
 rw [HW0.out]
 refine wp_region_noPanic ?_
 refine wp_region_held_drew (S := Is13 (w.heap.size) (.int .i64 k) (.string TB) (.string UB) (.bool n0) (.string N1) (.string N2) (.bool flag) (.bool sign) (.int .i64 c0) (.int .i64 c1) (.int .i64 c2) (.int .i64 c3) (.int .i64 z)) (by kernel_rfl) ⟨hcs.cell 0, hcs.cell 1, hcs.cell 2, hcs.cell 3, hcs.cell 4, hcs.cell 5, hcs.cell 6, hcs.cell 7, hcs.cell 8, hcs.cell 9, hcs.cell 10, hcs.cell 11, hcs.cell 12⟩ (fun hS => ?_)
 clear hcs
 refine rtk 0 ?_
 refine rtk 1 ?_
 refine rtk 2 ?_
 refine rtk 3 ?_
 refine rtk 4 ?_
 refine rtk 5 ?_
 refine wpAnyH_ready (rs := [6]) (by kernel_rfl) (by simp) ?_
 refine AllReadyH.cons rfl (fun K hK => ?_) AllReadyH.nil
 go_simp
 refine (T1.out _ (HT.out.keep B1.out.drew)).mono ?_
 rintro e w5 ⟨rfl, hb5⟩
 refine hK.out _ _ (Is13.keep hS hb5) (fun hS => ?_)
 clear hK K
 have B5 := Lib.hid (B1.out.drew.trans (hb5.mono B1.out.drew.size))
 clear hb5
 refine rtk 7 ?_
 refine rtk 8 ?_
 refine rtk 9 ?_
 refine rtk 10 ?_
 refine rtk 11 ?_
 refine wpAnyH_ready (rs := [12]) (by kernel_rfl) (by simp) ?_
 refine AllReadyH.cons rfl (fun K hK => ?_) AllReadyH.nil
 go_simp
 refine (U1.out _ (HT.out.keep B5.out)).mono ?_
 rintro e w6 ⟨rfl, hb6⟩
 refine hK.out _ _ (Is13.keep hS hb6) (fun hS => ?_)
 clear hK K
 have B6 := Lib.hid (B5.out.trans (hb6.mono B5.out.size))
 clear hb6
 refine rtk 13 ?_
 refine rtk 14 ?_
 refine rtk 15 ?_
 refine rtk 16 ?_
 refine rtk 17 ?_
 refine wpAnyH_ready (rs := [18]) (by kernel_rfl) (by simp) ?_
 refine AllReadyH.cons rfl (fun K hK => ?_) AllReadyH.nil
 go_simp
 refine (L1.out _).mono ?_
 rintro e w7 ⟨rfl, hb7⟩
 refine hK.out _ _ (Is13.keep hS hb7) (fun hS => ?_)
 clear hK K
 have HF := Lib.hid (B6.out.trans (hb7.mono B6.out.size))
 clear hb7
 have EG := Tryz.eqGuardType33
 refine rtk 19 ?_
 refine rtk 20 ?_
 refine wpAnyH_done (by kernel_rfl) ?_ _
 refine NoPanic.normal ?_
 clear EG E1 tz HW0 B1 B5 B6 T1 U1 L1
 have HS := Lib.hid (show Is13 w.heap.size (.int .i64 k) (.string TB) (.string UB) (.bool n0) (.string N1) (.string N2) (.bool flag) (.bool sign) (.int .i64 c0) (.int .i64 c1) (.int .i64 c2) (.int .i64 c3) (.int .i64 z) w7 from hS)
 clear hS
 obtain ⟨s0, s1, s2, s3, s4, s5, s6, s7, s8, s9, s10, s11, s12⟩ := HS.out
 clear HS
 obtain ⟨heT, heU, h32, h10', heS⟩ := HE.out
 have hr := HR.out
 clear HE HR
 · by_cases h1 : k = 1
   ·subst h1
    obtain rfl : (!eT) = r := by rw [<- hr]; rfl
    clear hr
    go_wp2
    go_ret
    exact ⟨by first | rfl | (simp), HF.out⟩
   have t1 : (k == 1) = false := by simpa using h1
   by_cases h2 : k = 2
   ·subst h2
    obtain rfl : (!eT) = r := by rw [<- hr]; rfl
    clear hr
    go_wp2
    go_ret
    exact ⟨by first | rfl | (simp), HF.out⟩
   have t2 : (k == 2) = false := by simpa using h2
   by_cases h3 : k = 3
   ·subst h3
    obtain rfl : (!eT) = r := by rw [<- hr]; rfl
    clear hr
    go_wp2
    go_ret
    exact ⟨by first | rfl | (simp), HF.out⟩
   have t3 : (k == 3) = false := by simpa using h3
   by_cases h4 : k = 4
   ·subst h4
    obtain rfl : (!eT && q) = r := by rw [<- hr]; rfl
    cases eT with
    | true =>
     clear hr
     go_wp2
     go_ret
     exact ⟨by first | rfl | (simp), HF.out⟩
    | false =>
     clear hr
     go_wp2_with fail
     refine (R1.out _ (HT.out.keep HF.out)).mono ?_
     rintro e w8 ⟨rfl, hb8⟩
     have HL := Lib.hid (HF.out.trans (hb8.mono HF.out.size))
     clear hb8
     go_wp2
     go_ret
     exact ⟨by first | rfl | simp, HL.out⟩
   have t4 : (k == 4) = false := by simpa using h4
   by_cases h10 : k = 10
   ·subst h10
    obtain rfl : nb = r := by rw [<- hr]; rfl
    clear hr
    go_wp2_with fail
    refine (N1'.out _ (HT.out.keep HF.out)).mono ?_
    rintro e w8 ⟨rfl, hb8⟩
    have HL := Lib.hid (HF.out.trans (hb8.mono HF.out.size))
    clear hb8
    go_wp2
    go_ret
    exact ⟨by first | rfl | simp, HL.out⟩
   have t10 : (k == 10) = false := by simpa using h10
   by_cases h11 : k = 11
   ·subst h11
    obtain rfl : nb = r := by rw [<- hr]; rfl
    clear hr
    go_wp2_with fail
    refine (N1'.out _ (HT.out.keep HF.out)).mono ?_
    rintro e w8 ⟨rfl, hb8⟩
    have HL := Lib.hid (HF.out.trans (hb8.mono HF.out.size))
    clear hb8
    go_wp2
    go_ret
    exact ⟨by first | rfl | simp, HL.out⟩
   have t11 : (k == 11) = false := by simpa using h11
   by_cases h12 : k = 12
   ·subst h12
    obtain rfl : (!eU && nb) = r := by rw [<- hr]; rfl
    cases eU with
    | true =>
     clear hr
     go_wp2
     go_ret
     exact ⟨by first | rfl | (simp), HF.out⟩
    | false =>
     clear hr
     go_wp2_with fail
     refine (N1'.out _ (HT.out.keep HF.out)).mono ?_
     rintro e w8 ⟨rfl, hb8⟩
     have HL := Lib.hid (HF.out.trans (hb8.mono HF.out.size))
     clear hb8
     go_wp2
     go_ret
     exact ⟨by first | rfl | simp, HL.out⟩
   have t12 : (k == 12) = false := by simpa using h12
   by_cases h13 : k = 13
   ·subst h13
    obtain rfl : (e32 || e10) = r := by rw [<- hr]; rfl
    cases e32 with
    | true =>
     clear hr
     go_wp2
     go_ret
     exact ⟨by first | rfl | (simp), HF.out⟩
    | false =>
     clear hr
     go_wp2
     go_ret
     exact ⟨by first | rfl | (simp), HF.out⟩
   have t13 : (k == 13) = false := by simpa using h13
   by_cases h6 : k = 6
   ·subst h6
    obtain rfl : q = r := by rw [<- hr]; rfl
    clear hr
    go_wp2_with fail
    refine (R1.out _ (HT.out.keep HF.out)).mono ?_
    rintro e w8 ⟨rfl, hb8⟩
    have HL := Lib.hid (HF.out.trans (hb8.mono HF.out.size))
    clear hb8
    go_wp2
    go_ret
    exact ⟨by first | rfl | simp, HL.out⟩
   have t6 : (k == 6) = false := by simpa using h6
   by_cases h8 : k = 8
   ·subst h8
    obtain rfl : q = r := by rw [<- hr]; rfl
    clear hr
    go_wp2_with fail
    refine (R1.out _ (HT.out.keep HF.out)).mono ?_
    rintro e w8 ⟨rfl, hb8⟩
    have HL := Lib.hid (HF.out.trans (hb8.mono HF.out.size))
    clear hb8
    go_wp2
    go_ret
    exact ⟨by first | rfl | simp, HL.out⟩
   have t8 : (k == 8) = false := by simpa using h8
   by_cases h9 : k = 9
   ·subst h9
    obtain rfl : q = r := by rw [<- hr]; rfl
    clear hr
    go_wp2_with fail
    refine (R1.out _ (HT.out.keep HF.out)).mono ?_
    rintro e w8 ⟨rfl, hb8⟩
    have HL := Lib.hid (HF.out.trans (hb8.mono HF.out.size))
    clear hb8
    go_wp2
    go_ret
    exact ⟨by first | rfl | simp, HL.out⟩
   have t9 : (k == 9) = false := by simpa using h9
   by_cases h25 : k = 25
   ·subst h25
    obtain rfl : q = r := by rw [<- hr]; rfl
    clear hr
    go_wp2_with fail
    refine (R1.out _ (HT.out.keep HF.out)).mono ?_
    rintro e w8 ⟨rfl, hb8⟩
    have HL := Lib.hid (HF.out.trans (hb8.mono HF.out.size))
    clear hb8
    go_wp2
    go_ret
    exact ⟨by first | rfl | simp, HL.out⟩
   have t25 : (k == 25) = false := by simpa using h25
   by_cases h5 : k = 5
   ·subst h5
    obtain rfl : true = r := by rw [<- hr]; rfl
    clear hr
    go_wp2
    go_ret
    exact ⟨by first | rfl | (simp), HF.out⟩
   have t5 : (k == 5) = false := by simpa using h5
   by_cases h7 : k = 7
   ·subst h7
    obtain rfl : true = r := by rw [<- hr]; rfl
    clear hr
    go_wp2
    go_ret
    exact ⟨by first | rfl | (simp), HF.out⟩
   have t7 : (k == 7) = false := by simpa using h7
   obtain rfl : (!eS) = r := by
    rw [<- hr]
    unfold kindB
    rw [if_neg (by omega), if_neg (by omega), if_neg (by omega), if_neg (by omega), if_neg (by omega), if_neg (by omega), if_neg (by omega)]
   clear hr h1 h2 h3 h4 h10 h11 h12 h13 h6 h8 h9 h25 h5 h7
   go_wp2_with fail
   refine (G1.out _).mono ?_
   rintro e w8 ⟨rfl, rfl⟩
   go_wp2
   go_ret
   exact ⟨by first | rfl | simp, HF.out⟩
end Go.Proofs.YtimjbjppmhdjnaaGreatDoor
