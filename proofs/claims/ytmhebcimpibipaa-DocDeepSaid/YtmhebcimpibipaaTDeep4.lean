/- Chains of documents: doc.Cat of one. -/
import Derived.Test.YtmhebcimpibipaaTDeep3
import Derived.Deep.DeepCutAuto
namespace Go.Proofs.Ytmhebcimpibipaa
open Go.RowKit
set_option linter.unusedVariables false
set_option linter.unusedSimpArgs false

theorem ownL_lt {B : Nat} {w : World} {v : Value} {l : List Value} (h : OwnL B w v l) : ∀ j, v.ownBlock = some j → B ≤ j ∧ j < w.heap.size := fun j hj => World.ownsRow.lt h.1 j hj
/-- A world within the loop. -/
def CatR (k : Int) (w : World) (b5 g1 c1 m bB gm : Nat) (sv : Value) (wr : World) : Prop :=
  bB ≤ wr.heap.size ∧ ((∃ g c R, gm = R.length + 2 ∧ OwnL bB wr sv [.slice (some ⟨g, 0, none⟩) 1 c] ∧ CI k w b5 g1 c1 m sv.ownBlock g c R wr) ∨ (gm = 1 ∧ OwnL bB wr sv [.slice none 0 0] ∧ FI k w b5 g1 c1 m wr) ∨ (gm = 0 ∧ OwnL bB wr sv [] ∧ FI k w b5 g1 c1 m wr))
set_option maxRecDepth 100000 in
set_option maxHeartbeats 8000000 in
theorem catc (k : Int) (v : Value) (L : List Ad) (w : World) (hv : Vs 4 w v [dcv k L]) (hL : Chn k w L) (hl : L.length ≤ 1000) :
    Calls Try.prog 9 #[.int .i64 k, v] w fun e w' => ∃ g c t, e = .returned (.agg (dv k 0 ⟨#[]⟩ (.slice (some ⟨g, 0, none⟩) 1 c))) ∧ Chn k w' ((g, 0, c) :: t) ∧ t.length = L.length ∧ (∀ x ∈ (g, 0, c) :: t, w.heap.size < x.1) ∧ Below w.heap.size w w' := by
  have b0 := Lib.hid ((Below.refl w.heap.size w).alloc (Nat.le_refl _) (.cells #[.int .i64 0, .int .i64 0, .string ⟨#[]⟩, .slice none 0 0] 30))
  have db0 := Lib.hid (DB.new w #[.int .i64 0, .int .i64 0, .string ⟨#[]⟩, .slice none 0 0])
  obtain ⟨W0, hW0⟩ : ∃ W, w.alloc (.cells #[.int .i64 0, .int .i64 0, .string ⟨#[]⟩, .slice none 0 0] 30) = W := ⟨_, rfl⟩
  have z0 := Lib.hid (show W0.heap.size = w.heap.size + 1 by rw [← hW0]; simp)
  rw [hW0] at b0 db0
  have HW0 := Lib.hid hW0
  have CL := Lib.hid (clonec k L v W0 (Vs.keep hv b0.out))
  have HL := Lib.hid hL
  clear hv hW0 hL
  go_enter Try.func9, Try.ntmps9
  go_wp2_with fail
  rw [HW0.out]
  refine (CL.out).mono ?_
  rintro e w1 ⟨g1, cap1, rfl, ho1, hb1, hg1a, hg1b, hc1a, hc1b⟩
  have z1 := Lib.hid hb1.size
  have dd2 := Lib.hid (DB.new w1 #[.int .i64 k, .int .i64 0, .string ⟨#[]⟩, (.slice (some ⟨g1, 0, none⟩) 1 cap1)])
  have b2 := Lib.hid ((Below.refl w1.heap.size w1).alloc (Nat.le_refl _) (.cells #[.int .i64 k, .int .i64 0, .string ⟨#[]⟩, (.slice (some ⟨g1, 0, none⟩) 1 cap1)] 30))
  obtain ⟨W2, hW2⟩ : ∃ W, w1.alloc (.cells #[.int .i64 k, .int .i64 0, .string ⟨#[]⟩, (.slice (some ⟨g1, 0, none⟩) 1 cap1)] 30) = W := ⟨_, rfl⟩
  have z2 := Lib.hid (show W2.heap.size = w1.heap.size + 1 by rw [← hW2]; simp)
  rw [hW2] at b2 dd2
  have HW2 := Lib.hid hW2
  obtain ⟨b5, hb5⟩ : ∃ b, w1.heap.size = b := ⟨_, rfl⟩
  have HB5 := Lib.hid hb5
  rw [hb5] at dd2
  have c53 : W2.cell? ⟨b5, 3, none⟩ = some (.slice (some ⟨g1, 0, none⟩) 1 cap1) := dd2.out.cell 3
  have b3 := Lib.hid ((Below.refl W2.heap.size W2).alloc (Nat.le_refl _) (.cells #[(.slice (some ⟨g1, 0, none⟩) 1 cap1)] 28))
  have OL0 : Hid (OwnL W2.heap.size (W2.alloc (.cells #[(.slice (some ⟨g1, 0, none⟩) 1 cap1)] 28)) (.slice (some ⟨W2.heap.size, 0, none⟩) 1 1) [(.slice (some ⟨g1, 0, none⟩) 1 cap1)]) := Lib.hid ⟨World.ownsRow_lit W2 #[(.slice (some ⟨g1, 0, none⟩) 1 cap1)] 1 (Nat.le_refl _) (by decide) rfl, by simp, by simp; rfl⟩
  obtain ⟨W3, hW3⟩ : ∃ W, W2.alloc (.cells #[(.slice (some ⟨g1, 0, none⟩) 1 cap1)] 28) = W := ⟨_, rfl⟩
  have HW3 := Lib.hid hW3
  rw [hW3] at b3 OL0
  have CI0 := Lib.hid (ci_start (k := k) (b5 := b5) (bB := W2.heap.size) b0.out (by rw [z0.out]; omega) hb1 (b2.out.trans (b3.out.mono b2.out.size)) HL.out ho1 hg1a hg1b hc1a hc1b (by rw [hb5]; exact Nat.le_refl _) (by rw [z2.out]; omega) (dd2.out.keep b3.out (by rw [z2.out]; omega)) db0.out)
  have hwB : Hid (w.heap.size < W2.heap.size) := Lib.hid (by have := z0.out; have := z1.out; have := z2.out; omega)
  have h5B : Hid (b5 < W2.heap.size) := Lib.hid (by rw [z2.out]; omega)
  have z3 := Lib.hid (show W2.heap.size ≤ W3.heap.size from b3.out.size)
  clear hW2 hb1 ho1 hW3 hb5 hg1a hg1b hc1a hc1b
  go_upto_region 2 with fail
  rw [HW2.out, HB5.out]
  go_upto_region 3 with fail
  rw [HW3.out]
  obtain ⟨bB, hbB⟩ : ∃ b, W2.heap.size = b := ⟨_, rfl⟩
  rw [hbB] at OL0 z3 hwB h5B b3 CI0
  have HBB := Lib.hid hbB
  clear hbB
  go_upto_region 3 with fail
  (try rw [HBB.out])
  have PN := Lib.hid (fun W => clonenil_any W)
  clear b2 dd2 z2 z1 b0 db0 CL z0 HW2 HB5 HL HW0
  go_loopg [6, 7, 8] (L.length + 2) (fun g sv _ _ wr => CatR k w b5 g1 cap1 L.length bB g sv wr)
  case atStart => exact ⟨z3.out, .inl ⟨g1, cap1, L, rfl, OL0.out, CI0.out⟩⟩
  case round =>
    obtain ⟨hz, hway⟩ := hrel
    have HZ := Lib.hid hz
    clear hz
    rcases hway with ⟨g, c, R, rfl, ho, hci⟩ | ⟨rfl, ho, hfi⟩ | ⟨rfl, ho, hfi⟩
    · obtain ⟨gs, caps, hsv, hgs1, hgs2, hgs3, hgs4⟩ := ownL_form ho (by simp)
      simp only [List.length_singleton] at hsv
      subst hsv
      obtain ⟨hp1, hp2⟩ := ownL_pop (l := []) ho
      simp only [List.length_nil] at hp1 hp2
      have hci' : CI k w b5 g1 cap1 L.length (some gs) g c R wr := hci
      have HP1 := Lib.hid hp1
      have HC := Lib.hid hci'
      have HSB := Lib.hid (show ∀ j, some gs = some j → bB ≤ j ∧ j < wr.heap.size from fun j hj => by rw [← Option.some.inj hj]; exact ⟨hgs1, hgs2⟩)
      have hgne : (Value.slice (some ⟨gs, 0, none⟩) 0 caps).ownBlock ≠ some g := hci'.2.2.2.2.1
      have HGN := Lib.hid hgne
      have hgl := hci'.glt
      clear ho hp1 hci hci' hgne
      cases R with
      | nil =>
        have hown := HC.out.1
        obtain ⟨-, -, -, q3⟩ := own4 hown
        have q3' : wr.cell? ⟨g, 3, none⟩ = some (.slice none 0 0) := q3
        have hfz := World.ownsRow.frozenAt hown.1 3
        have FE := Lib.hid (fun o w2 hb2 hfr => ci_end (bB := bB) (u := .slice none 0 0) (o := o) (w2 := w2) HC.out HSB.out h5B.out hwB.out rfl hb2 hfr)
        have HO1 : Hid (OwnL bB (wr.setCell ⟨g, 3, none⟩ (.slice none 0 0)) (.slice (some ⟨gs, 0, none⟩) 0 caps) []) := Lib.hid (OwnV.setOther HP1.out ⟨g, 3, none⟩ (.slice none 0 0) HGN.out)
        have qS : (wr.setCell ⟨g, 3, none⟩ (.slice none 0 0)).cell? ⟨g, 3, none⟩ = some (.slice none 0 0) := setC_same q3'
        obtain ⟨wS, hwS⟩ : ∃ W, wr.setCell ⟨g, 3, none⟩ (.slice none 0 0) = W := ⟨_, rfl⟩
        have zS := Lib.hid (show bB ≤ wS.heap.size by rw [← hwS]; have := HZ.out; simpa using this)
        have HWS := Lib.hid hwS
        rw [hwS] at FE HO1 qS
        clear hown q3 hwS HC HP1
        as_aux_lemma =>
          go_wp2
          go_loopg [6, 8, 32] 1 (fun gi sv _ iv wx => (gi = 1 ∧ iv = .int .i64 0 ∧ sv = .slice (some ⟨gs, 0, none⟩) 0 caps ∧ wr = wx) ∨ (gi = 0 ∧ iv = .int .i64 1 ∧ bB ≤ wx.heap.size ∧ OwnL bB wx sv [.slice none 0 0] ∧ FI k w b5 g1 cap1 L.length wx))
          case atStart => exact .inl ⟨rfl, rfl, rfl, rfl⟩
          case round =>
            rcases hrel with ⟨rfl, rfl, rfl, rfl⟩ | ⟨rfl, rfl, hz, ho2, hfi⟩
            · as_aux_lemma =>
                go_wp2_with fail
                refine (PN.out _).mono ?_
                rintro e w' ⟨rfl, rfl⟩
                go_upto_region 10 with fail
                rw [HWS.out]
                have hB4 := Lib.hid ((Below.refl bB wS).alloc zS.out (.cells #[.slice none 0 0] 28))
                have HO2 := Lib.hid (OwnV.keep HO1.out ((Below.refl wS.heap.size wS).alloc (Nat.le_refl _) (.cells #[.slice none 0 0] 28)))
                go_wp2_with (at_builtin; refine wpl_appendVG rfl _ _ rfl Try.underlying39 infoSl rfl (by decide) bB (.slice (some ⟨gs, 0, none⟩) 0 caps) (.slice (some ⟨wS.heap.size, 0, none⟩) 1 1) [] [[.slice none 0 0]] [[.slice none 0 0]] rfl HO2.out rfl (vs_cells 1 28 wS [[.slice none 0 0]] #[.slice none 0 0] 1 rfl (by simp) rfl (by simp)) (nnv_some _ _ _) (by simp) (by simp; rfl) (by simp) (by decide) (Nat.le_trans zS.out hB4.out.size) rfl ?_)
                intro v2 w2 ho2 hb2 hfr2 hv2
                have hfin := FE.out _ _ hb2 (fun j h1 h2 => hfr2 j (by simpa using h1) h2)
                have hz3 : bB ≤ w2.heap.size := Nat.le_trans zS.out (hB4.out.trans hb2).size
                clear hb2 hfr2 hv2
                go_wp2
                go_roundg 0
                case rel => exact .inr ⟨rfl, rfl, hz3, ho2, hfin⟩
                case measure => omega
            · as_aux_lemma =>
                go_wp2
                go_roundg 1
                case rel => exact ⟨hz, .inr (.inl ⟨rfl, ho2, hfi⟩)⟩
                case measure => omega
      | cons x R =>
        obtain ⟨b, o, c0⟩ := x
        have hown := HC.out.1
        obtain ⟨-, -, -, q3⟩ := own4 hown
        have q3' : wr.cell? ⟨g, 3, none⟩ = some (.slice (some ⟨b, o, none⟩) 1 c0) := q3
        have CLR := Lib.hid (clonec k R (.slice (some ⟨b, o, none⟩) 1 c0) wr (Vs.keep (chn_vs HC.out.2.1) HC.out.2.2.2.2.2.2.2.2))
        have HOW := Lib.hid hown
        have HGL := Lib.hid hgl
        have HHR := Lib.hid (show R.length + 2 = R.length + 1 + 1 from rfl)
        clear hown q3
        as_aux_lemma =>
          go_wp2
          go_loopg [6, 8, 32] 1 (fun gi sv _ iv wx => (gi = 1 ∧ iv = .int .i64 0 ∧ sv = .slice (some ⟨gs, 0, none⟩) 0 caps ∧ wr = wx) ∨ (gi = 0 ∧ iv = .int .i64 1 ∧ bB ≤ wx.heap.size ∧ ∃ g' c', OwnL bB wx sv [.slice (some ⟨g', 0, none⟩) 1 c'] ∧ CI k w b5 g1 cap1 L.length sv.ownBlock g' c' R wx))
          case atStart => exact .inl ⟨rfl, rfl, rfl, rfl⟩
          case round =>
            rcases hrel with ⟨rfl, rfl, rfl, rfl⟩ | ⟨rfl, rfl, hz, g', c', ho2, hci2⟩
            · as_aux_lemma =>
                go_wp2_with fail
                refine (CLR.out).mono ?_
                rintro e w' ⟨g', c', rfl, own', hb1, hg'1, hg'2, hc1, hc2⟩
                have hog := OwnV.keep HOW.out hb1
                have hfz := World.ownsRow.frozenAt hog.1 3
                have q4 := (hb1.cell (p := ⟨g, 3, none⟩) HGL.out).trans q3'
                have FE := Lib.hid (fun o w2 sb2 hb2 hfr hv2 => ci_step (bB := bB) (u := .slice (some ⟨g', 0, none⟩) 1 c') (o := o) (w2 := w2) (sb2 := sb2) HC.out hb1 hg'1 hg'2 hc1 hc2 own' rfl HSB.out h5B.out hwB.out hb2 hfr hv2)
                have hzw := hb1.size
                have HO1 : Hid (OwnL bB (w'.setCell ⟨g, 3, none⟩ (.slice (some ⟨g', 0, none⟩) 1 c')) (.slice (some ⟨gs, 0, none⟩) 0 caps) []) := Lib.hid (OwnV.setOther (OwnV.keep HP1.out hb1) ⟨g, 3, none⟩ _ HGN.out)
                have qS : (w'.setCell ⟨g, 3, none⟩ (.slice (some ⟨g', 0, none⟩) 1 c')).cell? ⟨g, 3, none⟩ = some (.slice (some ⟨g', 0, none⟩) 1 c') := setC_same q4
                obtain ⟨wS, hwS⟩ : ∃ W, w'.setCell ⟨g, 3, none⟩ (.slice (some ⟨g', 0, none⟩) 1 c') = W := ⟨_, rfl⟩
                have zS := Lib.hid (show bB ≤ wS.heap.size by rw [← hwS]; have := HZ.out; simp; omega)
                have HWS := Lib.hid hwS
                rw [hwS] at FE HO1 qS
                clear own' hog hwS hb1 hg'1 hg'2 hc1 hc2 hzw
                go_upto_region 10 with fail
                rw [HWS.out]
                have hB4 := Lib.hid ((Below.refl bB wS).alloc zS.out (.cells #[.slice (some ⟨g', 0, none⟩) 1 c'] 28))
                have HO2 := Lib.hid (OwnV.keep HO1.out ((Below.refl wS.heap.size wS).alloc (Nat.le_refl _) (.cells #[.slice (some ⟨g', 0, none⟩) 1 c'] 28)))
                go_wp2_with (at_builtin; refine wpl_appendVG rfl _ _ rfl Try.underlying39 infoSl rfl (by decide) bB (.slice (some ⟨gs, 0, none⟩) 0 caps) (.slice (some ⟨wS.heap.size, 0, none⟩) 1 1) [] [[.slice (some ⟨g', 0, none⟩) 1 c']] [[.slice (some ⟨g', 0, none⟩) 1 c']] rfl HO2.out rfl (vs_cells 1 28 wS [[.slice (some ⟨g', 0, none⟩) 1 c']] #[.slice (some ⟨g', 0, none⟩) 1 c'] 1 rfl (by simp) rfl (by simp)) (nnv_some _ _ _) (by simp) (by simp; rfl) (by simp) (by decide) (Nat.le_trans zS.out hB4.out.size) rfl ?_)
                intro v2 w2 ho2 hb2 hfr2 hv2
                have hfin := FE.out _ _ v2.ownBlock hb2 (fun j h1 h2 => hfr2 j (by simpa using h1) h2) (hv2.imp (fun h => h) (fun h => by rw [h]; simp))
                have hz3 : bB ≤ w2.heap.size := Nat.le_trans zS.out (hB4.out.trans hb2).size
                clear hb2 hfr2 hv2
                go_wp2
                go_roundg 0
                case rel => exact .inr ⟨rfl, rfl, hz3, g', c', ho2, hfin⟩
                case measure => omega
            · as_aux_lemma =>
                go_wp2
                go_roundg (R.length + 2)
                case rel => exact ⟨hz, .inl ⟨g', c', R, rfl, ho2, hci2⟩⟩
                case measure => simp only [List.length_cons]; omega
    · obtain ⟨gs, caps, hsv, hgs1, hgs2, hgs3, hgs4⟩ := ownL_form ho (by simp)
      simp only [List.length_singleton] at hsv
      subst hsv
      obtain ⟨hp1, hp2⟩ := ownL_pop (l := []) ho
      simp only [List.length_nil] at hp1 hp2
      have HP1 := Lib.hid hp1
      have HF := Lib.hid hfi
      clear ho hp1 hfi
      as_aux_lemma =>
        go_wp2
        go_loopg [6, 8, 32] 0 (fun g sv _ iv wx => iv = .int .i64 0 ∧ sv = .slice (some ⟨gs, 0, none⟩) 0 caps ∧ wr = wx)
        case atStart => exact ⟨rfl, rfl, rfl⟩
        case round =>
          obtain ⟨rfl, rfl, rfl⟩ := hrel
          go_wp2
          go_roundg 0
          case rel => exact ⟨HZ.out, .inr (.inr ⟨rfl, HP1.out, HF.out⟩)⟩
          case measure => omega
    · obtain ⟨a6, c6, hsv⟩ : ∃ a c, u6 = .slice a 0 c := by
        obtain ⟨_, ⟨h, h0⟩ | ⟨g, cap, cur, h, _⟩⟩ := ho.1
        · exact ⟨none, 0, h⟩
        · exact ⟨_, cap, by rw [h]; rfl⟩
      subst hsv
      obtain ⟨⟨t, ht, htl, htn⟩, hd5, hdw, hbl⟩ := hfi
      have hch : Hid (Chn k (wr.setRow w.heap.size (dv k 0 ⟨#[]⟩ (.slice (some ⟨g1, 0, none⟩) 1 cap1))) ((g1, 0, cap1) :: t)) := Lib.hid (by
        have := chn_swap (w' := wr.setRow w.heap.size (dv k 0 ⟨#[]⟩ (.slice (some ⟨g1, 0, none⟩) 1 cap1))) ((g1, 0, cap1) :: t) (A := []) (A' := []) (by rw [List.append_nil]; exact ht) (by rw [setRow_size]; exact Nat.le_refl _) (fun x hx => setRow_other wr _ x.1 _ (by have := htn x hx; omega)) rfl rfl rfl trivial
        rwa [List.append_nil] at this)
      have HTL := Lib.hid htl
      have HTN := Lib.hid htn
      have hblS := Lib.hid (below_setRowD hbl (Nat.le_refl w.heap.size) (dv k 0 ⟨#[]⟩ (.slice (some ⟨g1, 0, none⟩) 1 cap1)))
      clear ho ht htl htn hbl
      as_aux_lemma =>
        go_wp2_with (first | (refine wpl_ldD rfl _ rfl b5 _ rfl hd5 rfl ?_) | (refine wpl_stD rfl _ _ rfl w.heap.size _ (dv k 0 ⟨#[]⟩ (.slice (some ⟨g1, 0, none⟩) 1 cap1)) rfl rfl hdw rfl rfl (dv_one _ _ _ _ rfl) ?_))
        (try simp only [Exit.inBlock, Exit.then])
        exact bodyPost_ret (res_doc rfl _ _ w.heap.size _ rfl (DB.set hdw _) rfl) rfl ⟨g1, cap1, t, rfl, hch.out, HTL.out, HTN.out, hblS.out⟩
end Go.Proofs.Ytmhebcimpibipaa
