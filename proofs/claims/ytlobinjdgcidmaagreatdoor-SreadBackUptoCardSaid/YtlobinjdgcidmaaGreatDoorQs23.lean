/- Texts of ours in one: ZItO. -/
import Derived.Test.YtlobinjdgcidmaaGreatDoorQs22
import Derived.Deep.DeepCutAuto
import Derived.Great.BuildSlice
/- jparse: item: a member of an object. -/
namespace Go.Proofs.YtlobinjdgcidmaaGreatDoor
open Go.RowKit
set_option linter.unusedVariables false
set_option linter.unusedSimpArgs false

set_option maxRecDepth 100000 in
set_option maxHeartbeats 8000000 in
theorem item_obj (val : M.Toks → PRes) (lev : Int) {w0 w : World} {bv tw : Value} {D : Int} {l : List UInt8} {ts : M.Toks} {bx : Nat} {h : Vh} {iv mv : Value} {cs : List (List Value)} {L : Vo}
    (hval : ∀ (ts' : M.Toks) (V : World) (tw' : Value), ts'.length ≤ ts.length → TkIn l ts' → PsW w0 bv D l V tw' ts' → Calls Tryz.prog 30 #[ptrP w0, .int .i64 lev] V (ValQ w0 bv D l (val ts') V))
    (x : PsW w0 bv D l w tw ts) (hX : TabX w0) (hl : l.length ≤ 20000) (htk : TkIn l ts) (LL : Lst w0.heap.size bx w h iv mv cs L) (hn : cs.length ≤ 60000) (hm : h.ms.length ≤ 60000) (hk : h.k = 1) :
    Calls Tryz.prog 71 #[ptrP w0, .pointer (some ⟨bx, 0, none⟩), .int .i64 lev] w (ItemQ w0 bv D l bx h (itemW l val true ts h.ms L) w) := by
  obtain ⟨ia, icap, rfl, i1, i2, i3⟩ := OwnV.vs LL.io
  obtain ⟨n, hcn⟩ : ∃ n, cs.length = n := ⟨_, rfl⟩
  have HCN := Lib.hid hcn
  rw [hcn] at LL i1 hn
  obtain ⟨ma, mcap, rfl, j1, j2, j3⟩ := OwnV.vs LL.mo
  obtain ⟨m, hcm⟩ : ∃ n, (icl h.ms).length = n := ⟨_, rfl⟩
  have hcm2 : h.ms.length = m := by rw [← hcm]; simp [icl]
  have HCM := Lib.hid hcm2
  have hm2 : m ≤ 60000 := by omega
  rw [hcm] at LL j1
  have hlb := LL.vb.lt
  have hpb := LL.lt
  have ZBE := Lib.hid (show ZB = .cells #[.int .i64 0, .slice none 0 0, .bool false, .string ⟨#[]⟩, .string ⟨#[]⟩, .slice none 0 0, .int .i64 0, .int .i64 0, .slice none 0 0] 48 from rfl)
  clear i2 i3 j2 j3 hcn hcm hcm2 hm
  obtain ⟨c0, c1, c2, c3, c4, c5, c6, c7, c8⟩ := LL.vb.cells
  rw [hk] at c0
  have KA := Lib.hid (kind_any x)
  have UA := Lib.hid (unfit_any x)
  obtain ⟨R, hR⟩ : ∃ R, itemW l val true ts h.ms L = R := ⟨_, rfl⟩
  rw [hR]
  have LW := Lib.hid LL
  have xW := Lib.hid x
  unfold ptrP at KA UA hval ⊢
  cases hR7 : takeP l.length 7 ts with
  | error er =>
    have hRe : R = .error er := by rw [← hR]; unfold itemW; rw [if_pos rfl, hR7]
    subst hRe
    unfold ItemQ
    dsimp only
    obtain ⟨hks, hes⟩ : kindP ts ≠ 7 ∧ er = synP l.length ts := by
      cases ts with
      | nil => simp only [takeP, Except.error.injEq] at hR7; exact ⟨by simp [kindP], hR7.symm⟩
      | cons t r =>
        by_cases hk7 : t.1 = 7
        · simp [takeP, hk7] at hR7
        · simp only [takeP, if_neg hk7, Except.error.injEq] at hR7; exact ⟨hk7, hR7.symm⟩
    subst hes
    obtain ⟨kk, hkk⟩ : ∃ q : Int, (kindP ts : Int) = q := ⟨_, rfl⟩
    have hk7 : ¬ kk = 7 := by omega
    rw [hkk] at KA
    obtain ⟨aa, haa⟩ : ∃ q : Int, atP l.length ts = q := ⟨_, rfl⟩
    unfold synP
    rw [haa] at UA ⊢
    clear hval x LL hR hR7 htk c1 c2 c3 c4 c6 c7 c8 hks hkk haa
    go_enter Tryz.func71, Tryz.ntmps71
    go_wp2_with fail
    refine KA.out.mono ?_
    rintro e w' ⟨rfl, hw⟩
    rw [hw]
    clear hw w'
    go_wp2_with fail
    refine UA.out.mono ?_
    rintro e w2 ⟨rfl, hb2⟩
    go_wp2
    exact ⟨rfl, rfl, hb2.mono (by omega)⟩
  | ok q =>
    obtain ⟨t, r⟩ := q
    obtain rfl := take_len hR7
    obtain ⟨tk, fr, te⟩ := t
    obtain rfl : tk = 7 := by
      by_cases hk7 : tk = 7
      · exact hk7
      · simp [takeP, hk7] at hR7
    have ht := htk _ (List.mem_cons_self ..)
    have htr := htk.tail
    simp only at ht
    have CT : Hid (∀ (V : World) (tw' : Value), PsW w0 bv D l V tw' ((7, fr, te) :: r) → Calls Tryz.prog 49 #[.pointer (some ⟨w0.heap.size, 0, none⟩)] V fun e w' => ∃ tv v mv tw', e = .returned (.agg (vv (textV l (7, fr, te)) tv v mv)) ∧ HdP (Nw V.heap.size w') w' (textV l (7, fr, te)) tv mv ∧ VoP (Nw V.heap.size w') w' v .nil ∧ PsW w0 bv D l w' tw' r ∧ Fr w0.heap.size V w') := Lib.hid (fun V tw' hV => jptext_any hV hX ht hl)
    have KA2 : Hid (Calls Tryz.prog 47 #[.pointer (some ⟨w0.heap.size, 0, none⟩)] w fun e w' => e = .returned (.int .i64 7) ∧ w' = w) := Lib.hid KA.out
    obtain ⟨h2, hh2⟩ : ∃ x, textV l (7, fr, te) = x := ⟨_, rfl⟩
    rw [hh2] at CT
    have hR2 : (match takeP l.length 5 r with
        | .error e => (.error e : LRes)
        | .ok (c, r2) => match val r2 with
          | .error e => .error e
          | .ok (h', kids, r3) => .ok (h.ms ++ [(c.2.1 : Int)], (L.snoc h2 .nil).snoc h' kids, r3)) = R := by
      rw [← hR, ← hh2]; unfold itemW; rw [if_pos rfl, hR7]
      simp only
      cases takeP l.length 5 r with
      | error e => rfl
      | ok q =>
        obtain ⟨a, b⟩ := q
        simp only
        cases val b with
        | error e => rfl
        | ok q => rfl
    have HR := Lib.hid hR2
    have hvr : ∀ (ts' : M.Toks) (V : World) (tw' : Value), ts'.length ≤ r.length → TkIn l ts' → PsW w0 bv D l V tw' ts' → Calls Tryz.prog 30 #[.pointer (some ⟨w0.heap.size, 0, none⟩), .int .i64 lev] V (ValQ w0 bv D l (val ts') V) := fun ts' V tw' a b c => hval ts' V tw' (by simp only [List.length_cons]; omega) b c
    have SS : ∀ V : World, VB V bx h nilV (.slice ia n icap) (.slice ma m mcap) → V.cell? ⟨bx, 5, none⟩ = some (.slice ia n icap) := fun V hv => hv.cells.2.2.2.2.2.1
    have HVR := Lib.hid hvr
    have HTR := Lib.hid htr
    have HH2 := Lib.hid hh2
    clear hval x LL hR hR2 hR7 htk c1 c2 c3 c4 c6 c7 c8 KA UA ht hh2 hvr htr
    go_enter Tryz.func71, Tryz.ntmps71
    go_wp2_with fail
    refine KA2.out.mono ?_
    rintro e w' ⟨rfl, hw⟩
    rw [hw]
    clear hw w'
    go_upto_region 3 with fail
    go_cut [25] (fun q wx => ∃ (ia' : Option Addr) (n' icap' : Nat) (cs' : List (List Value)) (tw' : Value), Lst w0.heap.size bx wx h (.slice ia' n' icap') (.slice ma m mcap) cs' (L.snoc h2 .nil) ∧ cs'.length = n' ∧ n' ≤ 60001 ∧ PsW w0 bv D l wx tw' r ∧ FrB w0.heap.size bx w wx)
    case first =>
      rename_i J K' hJ hK'
      obtain ⟨WW, hWW⟩ : ∃ x, w = x := ⟨_, rfl⟩
      have HW : Hid (FrB w0.heap.size bx w WW) := Lib.hid (by rw [← hWW]; exact FrB.refl _ _ _)
      rw [hWW] at LW xW c0 c5 hlb ⊢
      refine wp_region_noPanic ?_
      have LD := Lib.hid (LW.out.fr (Fr.of ((Below.refl _ _).drew) (by have := LW.out.vb.lt; have := LW.out.lt; omega)))
      have xD := Lib.hid (xW.out.keep ((Below.refl _ _).drew))
      refine wp_region_to 13 (S := fun V => V.cell? ⟨bx, 5, none⟩ = some (.slice ia n icap)) (by kernel_rfl) (SS _ LD.out.vb) (fun hS => ?_)
      have BD := Lib.hid ((Below.refl WW.heap.size WW).drew)
      obtain ⟨WD, hWD⟩ : ∃ x, WW.drew = x := ⟨_, rfl⟩
      rw [hWD] at LD xD BD hS ⊢
      clear hWD
      refine dtp 0 ?_
      refine dtp 1 ?_
      refine dtp 2 ?_
      refine dtk 3 ?_
      refine dtp 4 ?_
      refine dtp 6 ?_
      refine AnyTo.ready (rs := [5, 7]) (by kernel_rfl) (by simp) ?_
      refine ReadyTo.cons rfl (fun K hK => ?ordA) (ReadyTo.cons rfl (fun K hK => ?ordB) ReadyTo.nil)
      case ordA =>
        go_simp
        refine (CT.out WD _ xD.out).mono ?_
        rintro e w1 ⟨tv, v2, mv2, tw1, rfl, hd1, hv1, x1, f1⟩
        have L1 := LD.out.fr f1
        refine hK.out _ _ (SS _ L1.vb) (fun hS => ?_)
        clear hK K
        refine AnyTo.ready (rs := [7]) (by kernel_rfl) (by simp) ?_
        refine ReadyTo.cons rfl (fun K hK => ?_) ReadyTo.nil
        rw [if_pos (by rfl)]
        refine wp_bsz _ rfl _ _ _ _ _ _ _ _ _ rfl ?_
        have al := zb_below w1
        have xT := Lib.hid (x1.keep al)
        have LT := Lib.hid (L1.fr (Fr.of al (by have := L1.vb.lt; have := L1.lt; omega)))
        have RT := Lib.hid (zb_row w1)
        have hdT := Lib.hid ((hd1.keep (w' := w1.alloc ZB) (fun b hb => al.block b hb.2)).mono (Q := Nw WD.heap.size (w1.alloc ZB)) (fun b hb => ⟨hb.1, Nat.lt_of_lt_of_le hb.2 al.size⟩))
        have hvT := Lib.hid ((hv1.keep (w' := w1.alloc ZB) (fun b hb => al.block b hb.2)).mono (Q := Nw WD.heap.size (w1.alloc ZB)) (fun b hb => ⟨hb.1, Nat.lt_of_lt_of_le hb.2 al.size⟩))
        have FT := Lib.hid ((f1.box (bx := bx) (by have := LD.out.vb.lt; omega)).trans ((Fr.of al (by have := L1.vb.lt; have := L1.lt; omega)).box (bx := bx) (by have := L1.vb.lt; omega)))
        have PKN := Lib.hid (fun b (hb : Nw WD.heap.size (w1.alloc ZB) b) => pk_new LD.out hb)
        refine hK.out _ _ (SS _ LT.out.vb) (fun hS => ?_)
        clear hK K
        obtain ⟨bz, hbz⟩ : ∃ x, w1.heap.size = x := ⟨_, rfl⟩
        obtain ⟨WT, hWT⟩ : ∃ x, w1.alloc ZB = x := ⟨_, rfl⟩
        have hWT' := hWT
        unfold ZB at hWT'
        rw [hWT] at xT LT RT hdT hvT FT PKN
        rw [hWT'] at hS ⊢
        rw [hbz] at RT ⊢
        clear hWT hWT' hbz al x1 L1 hd1 hv1
        refine AnyTo.ready (rs := [8]) (by kernel_rfl) (by simp) ?_
        refine ReadyTo.cons rfl (fun K hK => ?_) ReadyTo.nil
        rw [if_pos (by rfl)]
        refine wp_appV _ _ rfl Tryz.underlying46 infoValz rfl (by decide) (bx + 1) (.slice ia n icap) cs (cs ++ [zvl]) zvl bz 1 n HCN.out rfl LT.out.io rfl RT.out rfl (vvl_nine ⟨0, [], false, [], [], 0, 0, []⟩ rfl rfl rfl) (by omega) (by decide) (by have := LT.out.vb.lt; omega) rfl ?_
        intro g gc W8 ho8 hb8 hf8 hg8 hgl8
        refine hK.out _ _ (SS _ (LT.out.vb.frame (hb8.block _ (by omega)))) (fun hS => ?_)
        clear hK K
        obtain ⟨W9, hA, hB, L9, x9, f9⟩ := lay_end xT.out LT.out hdT.out hvT.out PKN.out HCN.out ho8 hb8 hf8 hg8
        have hgb : bx + 1 ≤ g := (own_in ho8 g rfl).1
        have thr : W8.there g (n * 9) 9 := ownsRow_there (xs := (cs ++ [zvl]).flatten) (by have := ho8.1; rw [List.length_append, List.length_singleton, HCN.out] at this; exact this) (n * 9) 9 (by omega)
        have vb8 := Lib.hid (LT.out.vb.frame (hb8.block bx (by omega)))
        have c5 : W8.cell? ⟨bx, 5, none⟩ = some (.slice ia n icap) := vb8.out.cells.2.2.2.2.2.1
        have f5 : W8.frozen? ⟨bx, 5, none⟩ = false := frozen_of_row W8 bx 5 _ _ vb8.out
        have one9 : (vv h2 tv v2 mv2).all (·.oneCell') = true := vv_one h2 hdT.out.t.one hvT.out.one hdT.out.m.one
        have HO8 := Lib.hid ho8.1
        have HA := Lib.hid hA
        have HB := Lib.hid hB
        have L9 := Lib.hid L9
        have x9 := Lib.hid x9
        have f9 := Lib.hid f9
        clear hA hB ho8 hb8 hf8
        refine dtp 9 (v := .pointer (some ⟨g, n * 9, none⟩)) (hy := Or.inl ⟨by rfl, by intro V hSV; go_simp; (try rw [if_pos (by omega)]); (try omega)⟩) ?_
        refine dtp 11 ?_
        refine dtp 12 ?_
        refine AnyTo.ready (rs := [10, 13]) (by kernel_rfl) (by simp) ?_
        refine ReadyTo.cons rfl (fun K hK => ?stA) (ReadyTo.last rfl (by kernel_rfl) (fun K hK => ?stB) ReadyTo.nil)
        case stA =>
          rw [if_pos (by rfl)]
          refine wp_store_mid 48 _ _ rfl g (n * 9) (vv h2 tv v2 mv2) rfl rfl thr infoVal one9 ?_
          have hvC : VB (W8.setCells g (n * 9) (vv h2 tv v2 mv2).toList) bx h nilV (.slice ia n icap) (.slice ma m mcap) := vb8.out.frame (setCells_other g _ _ _ _ (by omega))
          refine hK.out _ _ (SS _ hvC) (fun hS => ?_)
          clear hK K
          have c5' : (W8.setCells g (n * 9) (vv h2 tv v2 mv2).toList).cell? ⟨bx, 5, none⟩ = some (.slice ia n icap) := hvC.cells.2.2.2.2.2.1
          have f5' : (W8.setCells g (n * 9) (vv h2 tv v2 mv2).toList).frozen? ⟨bx, 5, none⟩ = false := frozen_of_row _ bx 5 _ _ hvC
          have HA' : (W8.setCells g (n * 9) (vv h2 tv v2 mv2).toList).setCell ⟨bx, 5, none⟩ (.slice (some ⟨g, 0, none⟩) (n + 1) gc) = W9 := HA.out
          obtain ⟨WC, hWC⟩ : ∃ x, W8.setCells g (n * 9) (vv h2 tv v2 mv2).toList = x := ⟨_, rfl⟩
          rw [hWC] at c5' f5' HA' hS ⊢
          clear hWC hvC
          refine AnyTo.ready (rs := [13]) (by kernel_rfl) (by simp) ?_
          refine ReadyTo.last rfl (by kernel_rfl) (fun K hK => ?_) ReadyTo.nil
          go_simp
          refine hK.out _ _ ?_
          clear hK K
          refine AnyTo.done (by kernel_rfl) ?_ _
          (try rw [HA'])
          refine NoPanic.normal ?_
          (try simp only [List.getElem_toArray, List.getElem_cons_succ, List.getElem_cons_zero, Act.put, List.setIfInBounds_toArray, List.set_cons_zero, List.set_cons_succ])
          refine hK' _ _ (Met.intro (hJ _ _ ?_))
          (repeat apply Exists.intro)
          refine ⟨?rel, rfl⟩
          case rel => exact ⟨_, _, _, _, _, L9.out, by rw [List.length_append, List.length_singleton, HCN.out], by omega, x9.out, HW.out.trans (((Fr.of BD.out (by omega)).box (bx := bx) (by omega)).trans (FT.out.trans f9.out))⟩
        case stB =>
          go_simp
          refine hK.out _ _ ?_
          clear hK K
          have thr' : (W8.setCell ⟨bx, 5, none⟩ (.slice (some ⟨g, 0, none⟩) (n + 1) gc)).there g (n * 9) 9 := by
            intro j hj
            have := thr j hj
            rw [cell_same (heap_setCell_other _ _ _ _ (by show g ≠ bx; omega))]
            refine ⟨this.1, ?_⟩
            rw [← this.2]
            unfold World.frozen?
            rw [heap_setCell_other _ _ _ _ (by show g ≠ bx; omega)]
          refine AnyTo.ready (rs := [10]) (by kernel_rfl) (by simp) ?_
          refine ReadyTo.last rfl (by kernel_rfl) (fun K hK => ?_) ReadyTo.nil
          rw [if_pos (by rfl)]
          refine wp_store_mid 48 _ _ rfl g (n * 9) (vv h2 tv v2 mv2) rfl rfl thr' infoVal one9 ?_
          refine hK.out _ _ ?_
          clear hK K
          refine AnyTo.done (by kernel_rfl) ?_ _
          have HB' : (W8.setCell ⟨bx, 5, none⟩ (.slice (some ⟨g, 0, none⟩) (n + 1) gc)).setCells g (n * 9) (vv h2 tv v2 mv2).toList = W9 := HB.out
          (try rw [HB'])
          refine NoPanic.normal ?_
          (try simp only [List.getElem_toArray, List.getElem_cons_succ, List.getElem_cons_zero, Act.put, List.setIfInBounds_toArray, List.set_cons_zero, List.set_cons_succ])
          refine hK' _ _ (Met.intro (hJ _ _ ?_))
          (repeat apply Exists.intro)
          refine ⟨?rel, rfl⟩
          case rel => exact ⟨_, _, _, _, _, L9.out, by rw [List.length_append, List.length_singleton, HCN.out], by omega, x9.out, HW.out.trans (((Fr.of BD.out (by omega)).box (bx := bx) (by omega)).trans (FT.out.trans f9.out))⟩
      case ordB =>
        rw [if_pos (by rfl)]
        refine wp_bsz _ rfl _ _ _ _ _ _ _ _ _ rfl ?_
        have al := zb_below WD
        have xB := Lib.hid (xD.out.keep al)
        have LB := Lib.hid (LD.out.fr (Fr.of al (by have := LD.out.vb.lt; have := LD.out.lt; omega)))
        have RB := Lib.hid (zb_row WD)
        have hsB : WD.heap.size < (WD.alloc ZB).heap.size := by simp
        have fB := Lib.hid ((Fr.of (pb := w0.heap.size) al (by have := LD.out.vb.lt; have := LD.out.lt; omega)).box (bx := bx) (by have := LD.out.vb.lt; omega))
        have hbx := LD.out.vb.lt
        have hpb := LD.out.lt
        refine hK.out _ _ (SS _ LB.out.vb) (fun hS => ?_)
        clear hK K
        obtain ⟨bz, hbz⟩ : ∃ x, WD.heap.size = x := ⟨_, rfl⟩
        obtain ⟨WB, hWB⟩ : ∃ x, WD.alloc ZB = x := ⟨_, rfl⟩
        have hWB' := hWB
        unfold ZB at hWB'
        rw [hWB] at xB LB RB hsB fB
        rw [hWB'] at hS ⊢
        rw [hbz] at RB hsB hbx ⊢
        clear hWB hWB' al
        refine AnyTo.ready (rs := [5]) (by kernel_rfl) (by simp) ?_
        refine ReadyTo.cons rfl (fun K hK => ?_) ReadyTo.nil
        go_simp
        refine (CT.out WB _ xB.out).mono ?_
        rintro e w1 ⟨tv, v2, mv2, tw1, rfl, hd1, hv1, x1, f1⟩
        refine hK.out _ _ (SS _ (LB.out.fr f1).vb) (fun hS => ?_)
        clear hK K
        have L1 := LB.out.fr f1
        have xT := Lib.hid x1
        have LT := Lib.hid L1
        have RT := Lib.hid (rangeAt_keep RB.out (f1.oth bz hsB (by omega)))
        have hdT := Lib.hid (hd1.mono (Q := Nw WD.heap.size w1) (fun b hb => ⟨by have := hb.1; omega, hb.2⟩))
        have hvT := Lib.hid (hv1.mono (Q := Nw WD.heap.size w1) (fun b hb => ⟨by have := hb.1; omega, hb.2⟩))
        have FT := Lib.hid (fB.out.trans (f1.box (bx := bx) (by omega)))
        have PKN := Lib.hid (fun b (hb : Nw WD.heap.size w1 b) => pk_new LD.out hb)
        obtain ⟨WT, hWT⟩ : ∃ x, w1 = x := ⟨_, rfl⟩
        rw [hWT] at xT LT RT hdT hvT FT PKN hS ⊢
        clear hWT x1 L1 hd1 hv1
        refine AnyTo.ready (rs := [8]) (by kernel_rfl) (by simp) ?_
        refine ReadyTo.cons rfl (fun K hK => ?_) ReadyTo.nil
        rw [if_pos (by rfl)]
        refine wp_appV _ _ rfl Tryz.underlying46 infoValz rfl (by decide) (bx + 1) (.slice ia n icap) cs (cs ++ [zvl]) zvl bz 1 n HCN.out rfl LT.out.io rfl RT.out rfl (vvl_nine ⟨0, [], false, [], [], 0, 0, []⟩ rfl rfl rfl) (by omega) (by decide) (by have := LT.out.vb.lt; omega) rfl ?_
        intro g gc W8 ho8 hb8 hf8 hg8 hgl8
        refine hK.out _ _ (SS _ (LT.out.vb.frame (hb8.block _ (by omega)))) (fun hS => ?_)
        clear hK K
        obtain ⟨W9, hA, hB, L9, x9, f9⟩ := lay_end xT.out LT.out hdT.out hvT.out PKN.out HCN.out ho8 hb8 hf8 hg8
        have hgb : bx + 1 ≤ g := (own_in ho8 g rfl).1
        have thr : W8.there g (n * 9) 9 := ownsRow_there (xs := (cs ++ [zvl]).flatten) (by have := ho8.1; rw [List.length_append, List.length_singleton, HCN.out] at this; exact this) (n * 9) 9 (by omega)
        have vb8 := Lib.hid (LT.out.vb.frame (hb8.block bx (by omega)))
        have c5 : W8.cell? ⟨bx, 5, none⟩ = some (.slice ia n icap) := vb8.out.cells.2.2.2.2.2.1
        have f5 : W8.frozen? ⟨bx, 5, none⟩ = false := frozen_of_row W8 bx 5 _ _ vb8.out
        have one9 : (vv h2 tv v2 mv2).all (·.oneCell') = true := vv_one h2 hdT.out.t.one hvT.out.one hdT.out.m.one
        have HO8 := Lib.hid ho8.1
        have HA := Lib.hid hA
        have HB := Lib.hid hB
        have L9 := Lib.hid L9
        have x9 := Lib.hid x9
        have f9 := Lib.hid f9
        clear hA hB ho8 hb8 hf8
        refine dtp 9 (v := .pointer (some ⟨g, n * 9, none⟩)) (hy := Or.inl ⟨by rfl, by intro V hSV; go_simp; (try rw [if_pos (by omega)]); (try omega)⟩) ?_
        refine dtp 11 ?_
        refine dtp 12 ?_
        refine AnyTo.ready (rs := [10, 13]) (by kernel_rfl) (by simp) ?_
        refine ReadyTo.cons rfl (fun K hK => ?stA) (ReadyTo.last rfl (by kernel_rfl) (fun K hK => ?stB) ReadyTo.nil)
        case stA =>
          rw [if_pos (by rfl)]
          refine wp_store_mid 48 _ _ rfl g (n * 9) (vv h2 tv v2 mv2) rfl rfl thr infoVal one9 ?_
          have hvC : VB (W8.setCells g (n * 9) (vv h2 tv v2 mv2).toList) bx h nilV (.slice ia n icap) (.slice ma m mcap) := vb8.out.frame (setCells_other g _ _ _ _ (by omega))
          refine hK.out _ _ (SS _ hvC) (fun hS => ?_)
          clear hK K
          have c5' : (W8.setCells g (n * 9) (vv h2 tv v2 mv2).toList).cell? ⟨bx, 5, none⟩ = some (.slice ia n icap) := hvC.cells.2.2.2.2.2.1
          have f5' : (W8.setCells g (n * 9) (vv h2 tv v2 mv2).toList).frozen? ⟨bx, 5, none⟩ = false := frozen_of_row _ bx 5 _ _ hvC
          have HA' : (W8.setCells g (n * 9) (vv h2 tv v2 mv2).toList).setCell ⟨bx, 5, none⟩ (.slice (some ⟨g, 0, none⟩) (n + 1) gc) = W9 := HA.out
          obtain ⟨WC, hWC⟩ : ∃ x, W8.setCells g (n * 9) (vv h2 tv v2 mv2).toList = x := ⟨_, rfl⟩
          rw [hWC] at c5' f5' HA' hS ⊢
          clear hWC hvC
          refine AnyTo.ready (rs := [13]) (by kernel_rfl) (by simp) ?_
          refine ReadyTo.last rfl (by kernel_rfl) (fun K hK => ?_) ReadyTo.nil
          go_simp
          refine hK.out _ _ ?_
          clear hK K
          refine AnyTo.done (by kernel_rfl) ?_ _
          (try rw [HA'])
          refine NoPanic.normal ?_
          (try simp only [List.getElem_toArray, List.getElem_cons_succ, List.getElem_cons_zero, Act.put, List.setIfInBounds_toArray, List.set_cons_zero, List.set_cons_succ])
          refine hK' _ _ (Met.intro (hJ _ _ ?_))
          (repeat apply Exists.intro)
          refine ⟨?rel, rfl⟩
          case rel => exact ⟨_, _, _, _, _, L9.out, by rw [List.length_append, List.length_singleton, HCN.out], by omega, x9.out, HW.out.trans (((Fr.of BD.out (by omega)).box (bx := bx) (by omega)).trans (FT.out.trans f9.out))⟩
        case stB =>
          go_simp
          refine hK.out _ _ ?_
          clear hK K
          have thr' : (W8.setCell ⟨bx, 5, none⟩ (.slice (some ⟨g, 0, none⟩) (n + 1) gc)).there g (n * 9) 9 := by
            intro j hj
            have := thr j hj
            rw [cell_same (heap_setCell_other _ _ _ _ (by show g ≠ bx; omega))]
            refine ⟨this.1, ?_⟩
            rw [← this.2]
            unfold World.frozen?
            rw [heap_setCell_other _ _ _ _ (by show g ≠ bx; omega)]
          refine AnyTo.ready (rs := [10]) (by kernel_rfl) (by simp) ?_
          refine ReadyTo.last rfl (by kernel_rfl) (fun K hK => ?_) ReadyTo.nil
          rw [if_pos (by rfl)]
          refine wp_store_mid 48 _ _ rfl g (n * 9) (vv h2 tv v2 mv2) rfl rfl thr' infoVal one9 ?_
          refine hK.out _ _ ?_
          clear hK K
          refine AnyTo.done (by kernel_rfl) ?_ _
          have HB' : (W8.setCell ⟨bx, 5, none⟩ (.slice (some ⟨g, 0, none⟩) (n + 1) gc)).setCells g (n * 9) (vv h2 tv v2 mv2).toList = W9 := HB.out
          (try rw [HB'])
          refine NoPanic.normal ?_
          (try simp only [List.getElem_toArray, List.getElem_cons_succ, List.getElem_cons_zero, Act.put, List.setIfInBounds_toArray, List.set_cons_zero, List.set_cons_succ])
          refine hK' _ _ (Met.intro (hJ _ _ ?_))
          (repeat apply Exists.intro)
          refine ⟨?rel, rfl⟩
          case rel => exact ⟨_, _, _, _, _, L9.out, by rw [List.length_append, List.length_singleton, HCN.out], by omega, x9.out, HW.out.trans (((Fr.of BD.out (by omega)).box (bx := bx) (by omega)).trans (FT.out.trans f9.out))⟩
    case rest =>
    obtain ⟨ia, n, icap, cs, tw, l4, hcn, hn, x4, f4⟩ := hcut
    obtain ⟨v5, rfl⟩ : ∃ x, x = wc := ⟨_, rfl⟩
    have HCN := Lib.hid hcn
    have LW := Lib.hid l4
    have xW := Lib.hid x4
    have HW := Lib.hid f4
    have hlb := l4.vb.lt
    have c5 := l4.vb.cells.2.2.2.2.2.1
    have c8 := l4.vb.cells.2.2.2.2.2.2.2.2
    clear hcn l4 x4 f4
    have hR := HR.out
    cases hR5 : takeP l.length 5 r with
    | error er =>
      rw [hR5] at hR
      simp only at hR
      subst hR
      have CT : Hid (∀ (V : World) (tw' : Value), PsW w0 bv D l V tw' r → Calls Tryz.prog 70 #[.pointer (some ⟨w0.heap.size, 0, none⟩), .int .i64 5] V fun e w' => Pan e er ∧ Below w0.heap.size V w') := Lib.hid (fun V tw' hV => by
        have := take_any 5 (by decide) hV
        unfold TakeQ at this
        rw [hR5] at this
        exact this)
      clear hR5
      go_upto_region 4 with fail
      obtain ⟨WW, hWW⟩ : ∃ x, v5 = x := ⟨_, rfl⟩
      rw [hWW] at LW xW HW c5 c8 hlb ⊢
      have SS8 : ∀ V : World, VB V bx h nilV (.slice ia n icap) (.slice ma m mcap) → V.cell? ⟨bx, 8, none⟩ = some (.slice ma m mcap) := fun V hv => hv.cells.2.2.2.2.2.2.2.2
      have LD := Lib.hid (LW.out.fr (Fr.of ((Below.refl _ _).drew) (by have := LW.out.vb.lt; have := LW.out.lt; omega)))
      have xD := Lib.hid (xW.out.keep ((Below.refl _ _).drew))
      refine wp_region_to 12 (S := fun V => V.cell? ⟨bx, 8, none⟩ = some (.slice ma m mcap)) (by kernel_rfl) (SS8 _ LD.out.vb) (fun hS => ?_)
      have BD := Lib.hid ((Below.refl WW.heap.size WW).drew)
      have hbW := LW.out.vb.lt
      have hpW := LW.out.lt
      obtain ⟨WD, hWD⟩ : ∃ x, WW.drew = x := ⟨_, rfl⟩
      rw [hWD] at LD xD BD hS ⊢
      clear hWD
      refine dtp 0 ?_
      refine dtp 1 ?_
      refine dtp 2 ?_
      refine dtp 3 ?_
      refine dtk 4 ?_
      refine dtp 5 ?_
      refine AnyTo.ready (rs := [6]) (by kernel_rfl) (by simp) ?_
      refine ReadyTo.cons rfl (fun K hK => ?_) ReadyTo.nil
      go_simp
      refine (CT.out WD _ xD.out).mono ?_
      rintro e w1 ⟨rfl, hb1⟩
      refine ⟨rfl, ?_⟩
      unfold ItemQ
      exact ⟨rfl, HW.out.lo.trans ((BD.out.mono (by omega)).trans hb1)⟩
    | ok q =>
      obtain ⟨cc, r2⟩ := q
      rw [hR5] at hR
      simp only at hR
      have HR := Lib.hid hR
      have hl5 := take_len hR5
      obtain ⟨ck, cz, ce⟩ := cc
      obtain ⟨ck, hck⟩ : ∃ z : Int, (ck : Int) = z := ⟨_, rfl⟩
      obtain ⟨cf, hcf⟩ : ∃ z : Int, (cz : Int) = z := ⟨_, rfl⟩
      obtain ⟨ce, hce⟩ : ∃ z : Int, (ce : Int) = z := ⟨_, rfl⟩
      have TK : Hid (∀ (V : World) (tw' : Value), PsW w0 bv D l V tw' r → Calls Tryz.prog 70 #[.pointer (some ⟨w0.heap.size, 0, none⟩), .int .i64 5] V fun e w' => ∃ tw, e = .returned (.agg #[.int .i64 ck, .int .i64 cf, .int .i64 ce]) ∧ PsW w0 bv D l w' tw r2 ∧ Fr w0.heap.size V w') := Lib.hid (fun V tw' hV => by
        have := take_any 5 (by decide) hV
        unfold TakeQ at this
        rw [hR5] at this
        rw [← hck, ← hcf, ← hce]
        exact this)
      have hfd0 := field_from ck cf ce
      have HTR2 := Lib.hid ((Suf.one _ _).tk (hl5 ▸ HTR.out))
      have hlen2 : r2.length ≤ r.length := by rw [hl5]; simp
      simp only [hcf] at HR
      clear hR5 hl5 hck hcf hce hR
      have CV := Lib.hid (fun (V : World) (tw' : Value) hV => HVR.out r2 V tw' hlen2 HTR2.out hV)
      go_upto_region 4 with fail
      refine wp_region_noPanic ?_
      obtain ⟨WW, hWW⟩ : ∃ x, v5 = x := ⟨_, rfl⟩
      rw [hWW] at LW xW HW c5 c8 hlb ⊢
      have SS8 : ∀ V : World, VB V bx h nilV (.slice ia n icap) (.slice ma m mcap) → V.cell? ⟨bx, 8, none⟩ = some (.slice ma m mcap) := fun V hv => hv.cells.2.2.2.2.2.2.2.2
      have LD := Lib.hid (LW.out.fr (Fr.of ((Below.refl _ _).drew) (by have := LW.out.vb.lt; have := LW.out.lt; omega)))
      have xD := Lib.hid (xW.out.keep ((Below.refl _ _).drew))
      refine wp_region_to 12 (S := fun V => V.cell? ⟨bx, 8, none⟩ = some (.slice ma m mcap)) (by kernel_rfl) (SS8 _ LD.out.vb) (fun hS => ?_)
      have BD := Lib.hid ((Below.refl WW.heap.size WW).drew)
      obtain ⟨WD, hWD⟩ : ∃ x, WW.drew = x := ⟨_, rfl⟩
      rw [hWD] at LD xD BD hS ⊢
      clear hWD
      refine dtp 0 ?_
      refine dtp 1 ?_
      refine dtp 2 ?_
      refine dtp 3 ?_
      refine dtk 4 ?_
      refine dtp 5 ?_
      refine AnyTo.ready (rs := [6]) (by kernel_rfl) (by simp) ?_
      refine ReadyTo.cons rfl (fun K hK => ?_) ReadyTo.nil
      go_simp
      refine (TK.out WD _ xD.out).mono ?_
      rintro e w1 ⟨tw1, rfl, x1, f1⟩
      refine hK.out _ _ (SS8 _ (LD.out.fr f1).vb) (fun hS => ?_)
      clear hK K
      have L1 := Lib.hid (LD.out.fr f1)
      have hbD := LD.out.vb.lt
      have hpD := LD.out.lt
      have hsD := f1.lo.size
      refine dtp (v := .int .i64 cf) 7 (hy := Or.inl ⟨by rfl, by intro V hSV; have hfd := field_from ck cf ce V; go_simp⟩) ?_
      refine AnyTo.ready (rs := [8]) (by kernel_rfl) (by simp) ?_
      refine ReadyTo.cons rfl (fun K hK => ?_) ReadyTo.nil
      go_simp
      have al := (Below.refl w1.heap.size w1).alloc (Nat.le_refl _) (.cells #[.int .i64 cf] 3)
      have xT := Lib.hid (x1.keep al)
      have LT := Lib.hid (L1.out.fr (Fr.of al (by omega)))
      have RT : Hid ((w1.alloc (.cells #[.int .i64 cf] 3)).rangeAt w1.heap.size 0 [.int .i64 cf]) := Lib.hid (BK.range (BK.new 3 w1 #[.int .i64 cf]) 0 _ (fun j u hu => by rw [Nat.zero_add]; simpa using hu))
      have FT := Lib.hid ((f1.box (bx := bx) (by omega)).trans ((Fr.of (pb := w0.heap.size) al (by omega)).box (bx := bx) (by omega)))
      refine hK.out _ _ (SS8 _ LT.out.vb) (fun hS => ?_)
      clear hK K
      obtain ⟨bz, hbz⟩ : ∃ x, w1.heap.size = x := ⟨_, rfl⟩
      obtain ⟨WT, hWT⟩ : ∃ x, w1.alloc (.cells #[.int .i64 cf] 3) = x := ⟨_, rfl⟩
      rw [hWT] at xT LT RT FT hS ⊢
      rw [hbz] at RT ⊢
      clear hWT hbz al x1 L1
      refine AnyTo.ready (rs := [9]) (by kernel_rfl) (by simp) ?_
      refine ReadyTo.cons rfl (fun K hK => ?_) ReadyTo.nil
      rw [if_pos (by rfl)]
      refine wp_appV _ _ rfl Tryz.underlying42 infoI rfl (by decide) (bx + 1) (.slice ma m mcap) (icl h.ms) (icl (h.ms ++ [cf])) [.int .i64 cf] bz 1 m (by simp only [icl, List.length_map]; exact HCM.out) rfl LT.out.mo rfl RT.out rfl (fun c hc => by simp only [List.mem_cons, List.mem_nil_iff, or_false] at hc; subst hc; rfl) (by omega) (by decide) (by have := LT.out.vb.lt; omega) (by simp [icl]) ?_
      intro g gc W8 ho8 hb8 hf8 hg8 hgl8
      have vb8 := Lib.hid (LT.out.vb.frame (hb8.block bx (by omega)))
      refine hK.out _ _ (SS8 _ vb8.out) (fun hS => ?_)
      clear hK K
      have mk := LT.out.mark ho8 hb8 hf8 (by
        rcases hg8 with e | e
        · exact .inl e.symm
        · exact .inr (by rw [← e]; rfl))
      have c8 : W8.cell? ⟨bx, 8, none⟩ = some (.slice ma m mcap) := vb8.out.cells.2.2.2.2.2.2.2.2
      have f8 : W8.frozen? ⟨bx, 8, none⟩ = false := frozen_of_row W8 bx 8 _ _ vb8.out
      have x9 := (xT.out.keepB hb8 (by omega)).setOther (g := bx) (by omega) 8 (.slice (some ⟨g, 0, none⟩) (m + 1) gc)
      obtain ⟨W9, hW9⟩ : ∃ x, W8.setCell ⟨bx, 8, none⟩ (.slice (some ⟨g, 0, none⟩) (m + 1) gc) = x := ⟨_, rfl⟩
      rw [hW9] at mk x9
      have L9 := Lib.hid mk.1
      have f9 := Lib.hid mk.2
      have x9 := Lib.hid x9
      have HW9 := Lib.hid hW9
      clear mk hW9 ho8 hb8 hf8
      refine dtp 10 ?_
      refine dtp 11 ?_
      refine AnyTo.ready (rs := [12]) (by kernel_rfl) (by simp) ?_
      refine ReadyTo.last rfl (by kernel_rfl) (fun K hK => ?_) ReadyTo.nil
      go_simp
      refine hK.out _ _ ?_
      clear hK K
      refine AnyTo.done (by kernel_rfl) ?_ _
      rw [HW9.out]
      refine NoPanic.normal ?_
      have f49 : FrB w0.heap.size bx w W9 := HW.out.trans (((Fr.of BD.out (by omega)).box (bx := bx) (by omega)).trans (FT.out.trans f9.out))
      have l9 := L9.out
      have x4 := x9.out
      obtain ⟨v6, hv6⟩ : ∃ x, W9 = x := ⟨_, rfl⟩
      rw [hv6] at l9 x4 f49 ⊢
      obtain ⟨ma, hma⟩ : ∃ x, (some ⟨g, 0, none⟩ : Option Addr) = x := ⟨_, rfl⟩
      obtain ⟨m, hm2'⟩ : ∃ x, m + 1 = x := ⟨_, rfl⟩
      obtain ⟨mcap, hmc⟩ : ∃ x, gc = x := ⟨_, rfl⟩
      rw [hma, hm2', hmc] at l9
      obtain ⟨hN, hhN⟩ : ∃ x, ({ h with ms := h.ms ++ [cf] } : Vh) = x := ⟨_, rfl⟩
      rw [hhN] at l9
      have HHN := Lib.hid hhN
      have LW := Lib.hid l9
      have xW := Lib.hid x4
      have HWn := Lib.hid f49
      have hlb := l9.vb.lt
      have c5 := l9.vb.cells.2.2.2.2.2.1
      have hR := HR.out
      clear hm2' hmc hma hhN l9 x4 f49 hv6 L9 x9 f9 FT LT RT xT LD xD BD hS HW9 vb8 c8 f8
      clear HW
      cases hv : val r2 with
      | error er =>
        rw [hv] at hR
        simp only at hR
        subst hR
        have CT : Hid (∀ (V : World) (tw' : Value), PsW w0 bv D l V tw' r2 → Calls Tryz.prog 30 #[.pointer (some ⟨w0.heap.size, 0, none⟩), .int .i64 lev] V fun e w' => Pan e er ∧ Below w0.heap.size V w') := Lib.hid (fun V tw' hV => by
          have := CV.out V tw' hV
          unfold ValQ at this
          rw [hv] at this
          exact this)
        have SS : ∀ V : World, VB V bx hN nilV (.slice ia n icap) (.slice ma m mcap) → V.cell? ⟨bx, 5, none⟩ = some (.slice ia n icap) := fun V hv => hv.cells.2.2.2.2.2.1
        clear hv
        go_upto_region 5 with fail
        obtain ⟨WW, hWW⟩ : ∃ x, v6 = x := ⟨_, rfl⟩
        have HW := HWn
        rw [hWW] at LW xW HW c5 hlb ⊢
        have LD := Lib.hid (LW.out.fr (Fr.of ((Below.refl _ _).drew) (by have := LW.out.vb.lt; have := LW.out.lt; omega)))
        have xD := Lib.hid (xW.out.keep ((Below.refl _ _).drew))
        refine wp_region_to 14 (S := fun V => V.cell? ⟨bx, 5, none⟩ = some (.slice ia n icap)) (by kernel_rfl) (SS _ LD.out.vb) (fun hS => ?_)
        have BD := Lib.hid ((Below.refl WW.heap.size WW).drew)
        obtain ⟨WD, hWD⟩ : ∃ x, WW.drew = x := ⟨_, rfl⟩
        rw [hWD] at LD xD BD hS ⊢
        clear hWD
        refine dtp 0 ?_
        refine dtp 1 ?_
        refine dtp 2 ?_
        refine dtk 3 ?_
        refine dtp 4 ?_
        refine dtp 5 ?_
        refine dtp 7 ?_
        refine AnyTo.ready (rs := [6, 8]) (by kernel_rfl) (by simp) ?_
        refine ReadyTo.cons rfl (fun K hK => ?ordA) (ReadyTo.cons rfl (fun K hK => ?ordB) ReadyTo.nil)
        case ordA =>
          go_simp
          refine (CT.out WD _ xD.out).mono ?_
          rintro e w1 ⟨rfl, hb1⟩
          refine ⟨rfl, ?_⟩
          (try unfold ItemQ)
          exact ⟨rfl, HW.out.lo.trans ((BD.out.mono (by omega)).trans hb1)⟩
        case ordB =>
          rw [if_pos (by rfl)]
          refine wp_bsz _ rfl _ _ _ _ _ _ _ _ _ rfl ?_
          have al := zb_below WD
          have xB := Lib.hid (xD.out.keep al)
          have LB := Lib.hid (LD.out.fr (Fr.of al (by have := LD.out.vb.lt; have := LD.out.lt; omega)))
          have hbx := LD.out.vb.lt
          have bB : Below w0.heap.size WD (WD.alloc ZB) := al.mono (by omega)
          refine hK.out _ _ (SS _ LB.out.vb) (fun hS => ?_)
          clear hK K
          obtain ⟨WB, hWB⟩ : ∃ x, WD.alloc ZB = x := ⟨_, rfl⟩
          have hWB' := hWB
          unfold ZB at hWB'
          rw [hWB] at xB LB bB
          rw [hWB'] at hS ⊢
          clear hWB hWB' al
          refine AnyTo.ready (rs := [6]) (by kernel_rfl) (by simp) ?_
          refine ReadyTo.cons rfl (fun K hK => ?_) ReadyTo.nil
          go_simp
          refine (CT.out WB _ xB.out).mono ?_
          rintro e w1 ⟨rfl, hb1⟩
          refine ⟨rfl, ?_⟩
          (try unfold ItemQ)
          exact ⟨rfl, HW.out.lo.trans ((BD.out.mono (by omega)).trans (bB.trans hb1))⟩
      | ok q =>
        obtain ⟨h2, kids, r3⟩ := q
        rw [hv] at hR
        simp only at hR
        subst hR
        have CT : Hid (∀ (V : World) (tw' : Value), PsW w0 bv D l V tw' r2 → Calls Tryz.prog 30 #[.pointer (some ⟨w0.heap.size, 0, none⟩), .int .i64 lev] V fun e w' => ∃ tv v mv tw', e = .returned (.agg (vv h2 tv v mv)) ∧ HdP (Nw V.heap.size w') w' h2 tv mv ∧ VoP (Nw V.heap.size w') w' v kids ∧ PsW w0 bv D l w' tw' r3 ∧ Fr w0.heap.size V w') := Lib.hid (fun V tw' hV => by
          have := CV.out V tw' hV
          unfold ValQ at this
          rw [hv] at this
          exact this)
        have SS : ∀ V : World, VB V bx hN nilV (.slice ia n icap) (.slice ma m mcap) → V.cell? ⟨bx, 5, none⟩ = some (.slice ia n icap) := fun V hv => hv.cells.2.2.2.2.2.1
        clear hv
        go_upto_region 5 with fail
        refine wp_region_noPanic ?_
        obtain ⟨WW, hWW⟩ : ∃ x, v6 = x := ⟨_, rfl⟩
        have HW := HWn
        rw [hWW] at LW xW HW c5 hlb ⊢
        have LD := Lib.hid (LW.out.fr (Fr.of ((Below.refl _ _).drew) (by have := LW.out.vb.lt; have := LW.out.lt; omega)))
        have xD := Lib.hid (xW.out.keep ((Below.refl _ _).drew))
        refine wp_region_to 14 (S := fun V => V.cell? ⟨bx, 5, none⟩ = some (.slice ia n icap)) (by kernel_rfl) (SS _ LD.out.vb) (fun hS => ?_)
        have BD := Lib.hid ((Below.refl WW.heap.size WW).drew)
        obtain ⟨WD, hWD⟩ : ∃ x, WW.drew = x := ⟨_, rfl⟩
        rw [hWD] at LD xD BD hS ⊢
        clear hWD
        refine dtp 0 ?_
        refine dtp 1 ?_
        refine dtp 2 ?_
        refine dtk 3 ?_
        refine dtp 4 ?_
        refine dtp 5 ?_
        refine dtp 7 ?_
        refine AnyTo.ready (rs := [6, 8]) (by kernel_rfl) (by simp) ?_
        refine ReadyTo.cons rfl (fun K hK => ?ordA) (ReadyTo.cons rfl (fun K hK => ?ordB) ReadyTo.nil)
        case ordA =>
          go_simp
          refine (CT.out WD _ xD.out).mono ?_
          rintro e w1 ⟨tv, v2, mv2, tw1, rfl, hd1, hv1, x1, f1⟩
          have L1 := LD.out.fr f1
          refine hK.out _ _ (SS _ L1.vb) (fun hS => ?_)
          clear hK K
          refine AnyTo.ready (rs := [8]) (by kernel_rfl) (by simp) ?_
          refine ReadyTo.cons rfl (fun K hK => ?_) ReadyTo.nil
          rw [if_pos (by rfl)]
          refine wp_bsz _ rfl _ _ _ _ _ _ _ _ _ rfl ?_
          have al := zb_below w1
          have xT := Lib.hid (x1.keep al)
          have LT := Lib.hid (L1.fr (Fr.of al (by have := L1.vb.lt; have := L1.lt; omega)))
          have RT := Lib.hid (zb_row w1)
          have hdT := Lib.hid ((hd1.keep (w' := w1.alloc ZB) (fun b hb => al.block b hb.2)).mono (Q := Nw WD.heap.size (w1.alloc ZB)) (fun b hb => ⟨hb.1, Nat.lt_of_lt_of_le hb.2 al.size⟩))
          have hvT := Lib.hid ((hv1.keep (w' := w1.alloc ZB) (fun b hb => al.block b hb.2)).mono (Q := Nw WD.heap.size (w1.alloc ZB)) (fun b hb => ⟨hb.1, Nat.lt_of_lt_of_le hb.2 al.size⟩))
          have FT := Lib.hid ((f1.box (bx := bx) (by have := LD.out.vb.lt; omega)).trans ((Fr.of al (by have := L1.vb.lt; have := L1.lt; omega)).box (bx := bx) (by have := L1.vb.lt; omega)))
          have PKN := Lib.hid (fun b (hb : Nw WD.heap.size (w1.alloc ZB) b) => pk_new LD.out hb)
          refine hK.out _ _ (SS _ LT.out.vb) (fun hS => ?_)
          clear hK K
          obtain ⟨bz, hbz⟩ : ∃ x, w1.heap.size = x := ⟨_, rfl⟩
          obtain ⟨WT, hWT⟩ : ∃ x, w1.alloc ZB = x := ⟨_, rfl⟩
          have hWT' := hWT
          unfold ZB at hWT'
          rw [hWT] at xT LT RT hdT hvT FT PKN
          rw [hWT'] at hS ⊢
          rw [hbz] at RT ⊢
          clear hWT hWT' hbz al x1 L1 hd1 hv1
          refine AnyTo.ready (rs := [9]) (by kernel_rfl) (by simp) ?_
          refine ReadyTo.cons rfl (fun K hK => ?_) ReadyTo.nil
          rw [if_pos (by rfl)]
          refine wp_appV _ _ rfl Tryz.underlying46 infoValz rfl (by decide) (bx + 1) (.slice ia n icap) cs (cs ++ [zvl]) zvl bz 1 n HCN.out rfl LT.out.io rfl RT.out rfl (vvl_nine ⟨0, [], false, [], [], 0, 0, []⟩ rfl rfl rfl) (by omega) (by decide) (by have := LT.out.vb.lt; omega) rfl ?_
          intro g gc W8 ho8 hb8 hf8 hg8 hgl8
          refine hK.out _ _ (SS _ (LT.out.vb.frame (hb8.block _ (by omega)))) (fun hS => ?_)
          clear hK K
          obtain ⟨W9, hA, hB, L9, x9, f9⟩ := lay_end xT.out LT.out hdT.out hvT.out PKN.out HCN.out ho8 hb8 hf8 hg8
          have hgb : bx + 1 ≤ g := (own_in ho8 g rfl).1
          have thr : W8.there g (n * 9) 9 := ownsRow_there (xs := (cs ++ [zvl]).flatten) (by have := ho8.1; rw [List.length_append, List.length_singleton, HCN.out] at this; exact this) (n * 9) 9 (by omega)
          have vb8 := Lib.hid (LT.out.vb.frame (hb8.block bx (by omega)))
          have c5 : W8.cell? ⟨bx, 5, none⟩ = some (.slice ia n icap) := vb8.out.cells.2.2.2.2.2.1
          have f5 : W8.frozen? ⟨bx, 5, none⟩ = false := frozen_of_row W8 bx 5 _ _ vb8.out
          have one9 : (vv h2 tv v2 mv2).all (·.oneCell') = true := vv_one h2 hdT.out.t.one hvT.out.one hdT.out.m.one
          have HO8 := Lib.hid ho8.1
          have HA := Lib.hid hA
          have HB := Lib.hid hB
          have L9 := Lib.hid L9
          have x9 := Lib.hid x9
          have f9 := Lib.hid f9
          clear hA hB ho8 hb8 hf8
          refine dtp 10 (v := .pointer (some ⟨g, n * 9, none⟩)) (hy := Or.inl ⟨by rfl, by intro V hSV; go_simp; (try rw [if_pos (by omega)]); (try omega)⟩) ?_
          refine dtp 12 ?_
          refine dtp 13 ?_
          refine AnyTo.ready (rs := [11, 14]) (by kernel_rfl) (by simp) ?_
          refine ReadyTo.cons rfl (fun K hK => ?stA) (ReadyTo.last rfl (by kernel_rfl) (fun K hK => ?stB) ReadyTo.nil)
          case stA =>
            rw [if_pos (by rfl)]
            refine wp_store_mid 48 _ _ rfl g (n * 9) (vv h2 tv v2 mv2) rfl rfl thr infoVal one9 ?_
            have hvC : VB (W8.setCells g (n * 9) (vv h2 tv v2 mv2).toList) bx hN nilV (.slice ia n icap) (.slice ma m mcap) := vb8.out.frame (setCells_other g _ _ _ _ (by omega))
            refine hK.out _ _ (SS _ hvC) (fun hS => ?_)
            clear hK K
            have c5' : (W8.setCells g (n * 9) (vv h2 tv v2 mv2).toList).cell? ⟨bx, 5, none⟩ = some (.slice ia n icap) := hvC.cells.2.2.2.2.2.1
            have f5' : (W8.setCells g (n * 9) (vv h2 tv v2 mv2).toList).frozen? ⟨bx, 5, none⟩ = false := frozen_of_row _ bx 5 _ _ hvC
            have HA' : (W8.setCells g (n * 9) (vv h2 tv v2 mv2).toList).setCell ⟨bx, 5, none⟩ (.slice (some ⟨g, 0, none⟩) (n + 1) gc) = W9 := HA.out
            obtain ⟨WC, hWC⟩ : ∃ x, W8.setCells g (n * 9) (vv h2 tv v2 mv2).toList = x := ⟨_, rfl⟩
            rw [hWC] at c5' f5' HA' hS ⊢
            clear hWC hvC
            refine AnyTo.ready (rs := [14]) (by kernel_rfl) (by simp) ?_
            refine ReadyTo.last rfl (by kernel_rfl) (fun K hK => ?_) ReadyTo.nil
            go_simp
            refine hK.out _ _ ?_
            clear hK K
            refine AnyTo.done (by kernel_rfl) ?_ _
            (try rw [HA'])
            refine NoPanic.normal ?_
            go_wp2
            refine ⟨rfl, .tuple #[], by simp [results, Tryz.results71], ?_⟩
            (try unfold ItemQ)
            exact ⟨(.slice (some ⟨g, 0, none⟩) (n + 1) gc), (.slice ma m mcap), _, _, rfl, (by have := L9.out; rw [← HHN.out] at this; exact this), x9.out, HW.out.trans (((Fr.of BD.out (by omega)).box (bx := bx) (by omega)).trans (FT.out.trans f9.out))⟩
          case stB =>
            go_simp
            refine hK.out _ _ ?_
            clear hK K
            have thr' : (W8.setCell ⟨bx, 5, none⟩ (.slice (some ⟨g, 0, none⟩) (n + 1) gc)).there g (n * 9) 9 := by
              intro j hj
              have := thr j hj
              rw [cell_same (heap_setCell_other _ _ _ _ (by show g ≠ bx; omega))]
              refine ⟨this.1, ?_⟩
              rw [← this.2]
              unfold World.frozen?
              rw [heap_setCell_other _ _ _ _ (by show g ≠ bx; omega)]
            refine AnyTo.ready (rs := [11]) (by kernel_rfl) (by simp) ?_
            refine ReadyTo.last rfl (by kernel_rfl) (fun K hK => ?_) ReadyTo.nil
            rw [if_pos (by rfl)]
            refine wp_store_mid 48 _ _ rfl g (n * 9) (vv h2 tv v2 mv2) rfl rfl thr' infoVal one9 ?_
            refine hK.out _ _ ?_
            clear hK K
            refine AnyTo.done (by kernel_rfl) ?_ _
            have HB' : (W8.setCell ⟨bx, 5, none⟩ (.slice (some ⟨g, 0, none⟩) (n + 1) gc)).setCells g (n * 9) (vv h2 tv v2 mv2).toList = W9 := HB.out
            (try rw [HB'])
            refine NoPanic.normal ?_
            go_wp2
            refine ⟨rfl, .tuple #[], by simp [results, Tryz.results71], ?_⟩
            (try unfold ItemQ)
            exact ⟨(.slice (some ⟨g, 0, none⟩) (n + 1) gc), (.slice ma m mcap), _, _, rfl, (by have := L9.out; rw [← HHN.out] at this; exact this), x9.out, HW.out.trans (((Fr.of BD.out (by omega)).box (bx := bx) (by omega)).trans (FT.out.trans f9.out))⟩
        case ordB =>
          rw [if_pos (by rfl)]
          refine wp_bsz _ rfl _ _ _ _ _ _ _ _ _ rfl ?_
          have al := zb_below WD
          have xB := Lib.hid (xD.out.keep al)
          have LB := Lib.hid (LD.out.fr (Fr.of al (by have := LD.out.vb.lt; have := LD.out.lt; omega)))
          have RB := Lib.hid (zb_row WD)
          have hsB : WD.heap.size < (WD.alloc ZB).heap.size := by simp
          have fB := Lib.hid ((Fr.of (pb := w0.heap.size) al (by have := LD.out.vb.lt; have := LD.out.lt; omega)).box (bx := bx) (by have := LD.out.vb.lt; omega))
          have hbx := LD.out.vb.lt
          have hpb := LD.out.lt
          refine hK.out _ _ (SS _ LB.out.vb) (fun hS => ?_)
          clear hK K
          obtain ⟨bz, hbz⟩ : ∃ x, WD.heap.size = x := ⟨_, rfl⟩
          obtain ⟨WB, hWB⟩ : ∃ x, WD.alloc ZB = x := ⟨_, rfl⟩
          have hWB' := hWB
          unfold ZB at hWB'
          rw [hWB] at xB LB RB hsB fB
          rw [hWB'] at hS ⊢
          rw [hbz] at RB hsB hbx ⊢
          clear hWB hWB' al
          refine AnyTo.ready (rs := [6]) (by kernel_rfl) (by simp) ?_
          refine ReadyTo.cons rfl (fun K hK => ?_) ReadyTo.nil
          go_simp
          refine (CT.out WB _ xB.out).mono ?_
          rintro e w1 ⟨tv, v2, mv2, tw1, rfl, hd1, hv1, x1, f1⟩
          refine hK.out _ _ (SS _ (LB.out.fr f1).vb) (fun hS => ?_)
          clear hK K
          have L1 := LB.out.fr f1
          have xT := Lib.hid x1
          have LT := Lib.hid L1
          have RT := Lib.hid (rangeAt_keep RB.out (f1.oth bz hsB (by omega)))
          have hdT := Lib.hid (hd1.mono (Q := Nw WD.heap.size w1) (fun b hb => ⟨by have := hb.1; omega, hb.2⟩))
          have hvT := Lib.hid (hv1.mono (Q := Nw WD.heap.size w1) (fun b hb => ⟨by have := hb.1; omega, hb.2⟩))
          have FT := Lib.hid (fB.out.trans (f1.box (bx := bx) (by omega)))
          have PKN := Lib.hid (fun b (hb : Nw WD.heap.size w1 b) => pk_new LD.out hb)
          obtain ⟨WT, hWT⟩ : ∃ x, w1 = x := ⟨_, rfl⟩
          rw [hWT] at xT LT RT hdT hvT FT PKN hS ⊢
          clear hWT x1 L1 hd1 hv1
          refine AnyTo.ready (rs := [9]) (by kernel_rfl) (by simp) ?_
          refine ReadyTo.cons rfl (fun K hK => ?_) ReadyTo.nil
          rw [if_pos (by rfl)]
          refine wp_appV _ _ rfl Tryz.underlying46 infoValz rfl (by decide) (bx + 1) (.slice ia n icap) cs (cs ++ [zvl]) zvl bz 1 n HCN.out rfl LT.out.io rfl RT.out rfl (vvl_nine ⟨0, [], false, [], [], 0, 0, []⟩ rfl rfl rfl) (by omega) (by decide) (by have := LT.out.vb.lt; omega) rfl ?_
          intro g gc W8 ho8 hb8 hf8 hg8 hgl8
          refine hK.out _ _ (SS _ (LT.out.vb.frame (hb8.block _ (by omega)))) (fun hS => ?_)
          clear hK K
          obtain ⟨W9, hA, hB, L9, x9, f9⟩ := lay_end xT.out LT.out hdT.out hvT.out PKN.out HCN.out ho8 hb8 hf8 hg8
          have hgb : bx + 1 ≤ g := (own_in ho8 g rfl).1
          have thr : W8.there g (n * 9) 9 := ownsRow_there (xs := (cs ++ [zvl]).flatten) (by have := ho8.1; rw [List.length_append, List.length_singleton, HCN.out] at this; exact this) (n * 9) 9 (by omega)
          have vb8 := Lib.hid (LT.out.vb.frame (hb8.block bx (by omega)))
          have c5 : W8.cell? ⟨bx, 5, none⟩ = some (.slice ia n icap) := vb8.out.cells.2.2.2.2.2.1
          have f5 : W8.frozen? ⟨bx, 5, none⟩ = false := frozen_of_row W8 bx 5 _ _ vb8.out
          have one9 : (vv h2 tv v2 mv2).all (·.oneCell') = true := vv_one h2 hdT.out.t.one hvT.out.one hdT.out.m.one
          have HO8 := Lib.hid ho8.1
          have HA := Lib.hid hA
          have HB := Lib.hid hB
          have L9 := Lib.hid L9
          have x9 := Lib.hid x9
          have f9 := Lib.hid f9
          clear hA hB ho8 hb8 hf8
          refine dtp 10 (v := .pointer (some ⟨g, n * 9, none⟩)) (hy := Or.inl ⟨by rfl, by intro V hSV; go_simp; (try rw [if_pos (by omega)]); (try omega)⟩) ?_
          refine dtp 12 ?_
          refine dtp 13 ?_
          refine AnyTo.ready (rs := [11, 14]) (by kernel_rfl) (by simp) ?_
          refine ReadyTo.cons rfl (fun K hK => ?stA) (ReadyTo.last rfl (by kernel_rfl) (fun K hK => ?stB) ReadyTo.nil)
          case stA =>
            rw [if_pos (by rfl)]
            refine wp_store_mid 48 _ _ rfl g (n * 9) (vv h2 tv v2 mv2) rfl rfl thr infoVal one9 ?_
            have hvC : VB (W8.setCells g (n * 9) (vv h2 tv v2 mv2).toList) bx hN nilV (.slice ia n icap) (.slice ma m mcap) := vb8.out.frame (setCells_other g _ _ _ _ (by omega))
            refine hK.out _ _ (SS _ hvC) (fun hS => ?_)
            clear hK K
            have c5' : (W8.setCells g (n * 9) (vv h2 tv v2 mv2).toList).cell? ⟨bx, 5, none⟩ = some (.slice ia n icap) := hvC.cells.2.2.2.2.2.1
            have f5' : (W8.setCells g (n * 9) (vv h2 tv v2 mv2).toList).frozen? ⟨bx, 5, none⟩ = false := frozen_of_row _ bx 5 _ _ hvC
            have HA' : (W8.setCells g (n * 9) (vv h2 tv v2 mv2).toList).setCell ⟨bx, 5, none⟩ (.slice (some ⟨g, 0, none⟩) (n + 1) gc) = W9 := HA.out
            obtain ⟨WC, hWC⟩ : ∃ x, W8.setCells g (n * 9) (vv h2 tv v2 mv2).toList = x := ⟨_, rfl⟩
            rw [hWC] at c5' f5' HA' hS ⊢
            clear hWC hvC
            refine AnyTo.ready (rs := [14]) (by kernel_rfl) (by simp) ?_
            refine ReadyTo.last rfl (by kernel_rfl) (fun K hK => ?_) ReadyTo.nil
            go_simp
            refine hK.out _ _ ?_
            clear hK K
            refine AnyTo.done (by kernel_rfl) ?_ _
            (try rw [HA'])
            refine NoPanic.normal ?_
            go_wp2
            refine ⟨rfl, .tuple #[], by simp [results, Tryz.results71], ?_⟩
            (try unfold ItemQ)
            exact ⟨(.slice (some ⟨g, 0, none⟩) (n + 1) gc), (.slice ma m mcap), _, _, rfl, (by have := L9.out; rw [← HHN.out] at this; exact this), x9.out, HW.out.trans (((Fr.of BD.out (by omega)).box (bx := bx) (by omega)).trans (FT.out.trans f9.out))⟩
          case stB =>
            go_simp
            refine hK.out _ _ ?_
            clear hK K
            have thr' : (W8.setCell ⟨bx, 5, none⟩ (.slice (some ⟨g, 0, none⟩) (n + 1) gc)).there g (n * 9) 9 := by
              intro j hj
              have := thr j hj
              rw [cell_same (heap_setCell_other _ _ _ _ (by show g ≠ bx; omega))]
              refine ⟨this.1, ?_⟩
              rw [← this.2]
              unfold World.frozen?
              rw [heap_setCell_other _ _ _ _ (by show g ≠ bx; omega)]
            refine AnyTo.ready (rs := [11]) (by kernel_rfl) (by simp) ?_
            refine ReadyTo.last rfl (by kernel_rfl) (fun K hK => ?_) ReadyTo.nil
            rw [if_pos (by rfl)]
            refine wp_store_mid 48 _ _ rfl g (n * 9) (vv h2 tv v2 mv2) rfl rfl thr' infoVal one9 ?_
            refine hK.out _ _ ?_
            clear hK K
            refine AnyTo.done (by kernel_rfl) ?_ _
            have HB' : (W8.setCell ⟨bx, 5, none⟩ (.slice (some ⟨g, 0, none⟩) (n + 1) gc)).setCells g (n * 9) (vv h2 tv v2 mv2).toList = W9 := HB.out
            (try rw [HB'])
            refine NoPanic.normal ?_
            go_wp2
            refine ⟨rfl, .tuple #[], by simp [results, Tryz.results71], ?_⟩
            (try unfold ItemQ)
            exact ⟨(.slice (some ⟨g, 0, none⟩) (n + 1) gc), (.slice ma m mcap), _, _, rfl, (by have := L9.out; rw [← HHN.out] at this; exact this), x9.out, HW.out.trans (((Fr.of BD.out (by omega)).box (bx := bx) (by omega)).trans (FT.out.trans f9.out))⟩

end Go.Proofs.YtlobinjdgcidmaaGreatDoor
