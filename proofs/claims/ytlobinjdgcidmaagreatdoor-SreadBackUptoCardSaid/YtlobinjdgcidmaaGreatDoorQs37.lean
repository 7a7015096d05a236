/- Texts of ours in one: RdRd. -/
import Derived.Test.YtlobinjdgcidmaaGreatDoorQs35
import Derived.Test.YtlobinjdgcidmaaGreatDoorQs36
import Derived.Test.YtlobinjdgcidmaaGreatDoorQs26
/- sread.isThree, isOneText, and Read of a text that is a map. -/
namespace Go.Proofs.YtlobinjdgcidmaaGreatDoor
open Go.RowKit
set_option linter.unusedVariables false
set_option linter.unusedSimpArgs false

theorem cellM_keep {w w' : World} {p : Addr} {x : Value} (hb : Below w.heap.size w w') (h : w.cell? p = some x) : w'.cell? p = some x := by
  rw [hb.cell (World.block_lt_of_cell? w _ h)]
  exact h
set_option maxRecDepth 100000 in
set_option maxHeartbeats 2000000 in
theorem sthree_any (h : Vh) (K : Vo) (tv v mv : Value) (w : World) (ht : HdS w h tv mv) (hv : VoS w v K) (hk : h.k = 4) (hg : h.ng = false) (hd : h.dg = [51]) (he : h.ex = [48]) :
    Calls Tryz.prog 17 #[.agg (vv h tv v mv)] w fun e w' => e = .returned (.bool true) ∧ Below w.heap.size w w' := by
  obtain ⟨a, c, rfl⟩ := hv.slice
  obtain ⟨ta, tc, rfl⟩ := ht.t.slice
  obtain ⟨ma, mc, rfl⟩ := ht.m.slice
  have x1 := VB.new w h (.slice ta h.tx.length tc) (.slice a K.len c) (.slice ma h.ms.length mc)
  have b1 := (Below.refl w.heap.size w).alloc (Nat.le_refl _) (.cells (vv h (.slice ta h.tx.length tc) (.slice a K.len c) (.slice ma h.ms.length mc)) 48)
  obtain ⟨W1, hW1⟩ : ∃ W, w.alloc (.cells (vv h (.slice ta h.tx.length tc) (.slice a K.len c) (.slice ma h.ms.length mc)) 48) = W := ⟨_, rfl⟩
  rw [hW1] at x1 b1
  obtain ⟨g0, -, g2, g3, g4, -, -, -, -⟩ := x1.cells
  rw [hk] at g0
  rw [hg] at g2
  rw [hd] at g3
  rw [he] at g4
  have g3' : W1.cell? ⟨w.heap.size, 3, none⟩ = some (.string ⟨#[51]⟩) := g3
  have g4' : W1.cell? ⟨w.heap.size, 4, none⟩ = some (.string ⟨#[48]⟩) := g4
  have HW1 := Lib.hid hW1
  have B1 := Lib.hid b1
  clear x1 b1 hW1 ht hv hk hg hd he g3 g4
  go_enter Tryz.func17, Tryz.ntmps17
  go_upto_region 1 with fail
  rw [HW1.out]
  go_wp2
  go_ret
  exact ⟨rfl, B1.out⟩
set_option maxRecDepth 100000 in
set_option maxHeartbeats 2000000 in
theorem sonetext_any (h : Vh) (K : Vo) (h0 : Vh) (k0 : Vo) (tv v mv : Value) (w : World) (ht : HdS w h tv mv) (hv : VoS w v K) (hk : h.k = 2) (hl : K.len = 1) (h0a : K.at? 0 = some (h0, k0)) (hk0 : h0.k = 3) :
    Calls Tryz.prog 18 #[.agg (vv h tv v mv)] w fun e w' => e = .returned (.bool true) ∧ Below w.heap.size w w' := by
  obtain ⟨a, c, rfl, -, -, -, hq⟩ := hv
  obtain ⟨b, off, rfl, hb, hat⟩ := hq (by omega)
  obtain ⟨t1, m1, v1, hd1, hr1, -⟩ := voAt_get K b off 0 h0 k0 hat h0a
  have c0 := hr1 0 _ rfl
  rw [hk0] at c0
  obtain ⟨ta, tc, rfl⟩ := ht.t.slice
  obtain ⟨ma, mc, rfl⟩ := ht.m.slice
  have x1 := VB.new w h (.slice ta h.tx.length tc) (.slice (some ⟨b, off, none⟩) K.len c) (.slice ma h.ms.length mc)
  have b1 := (Below.refl w.heap.size w).alloc (Nat.le_refl _) (.cells (vv h (.slice ta h.tx.length tc) (.slice (some ⟨b, off, none⟩) K.len c) (.slice ma h.ms.length mc)) 48)
  obtain ⟨W1, hW1⟩ : ∃ W, w.alloc (.cells (vv h (.slice ta h.tx.length tc) (.slice (some ⟨b, off, none⟩) K.len c) (.slice ma h.ms.length mc)) 48) = W := ⟨_, rfl⟩
  rw [hW1] at x1 b1
  obtain ⟨g0, -, -, -, -, g5, -, -, -⟩ := x1.cells
  rw [hk] at g0
  rw [hl] at g5
  have c1 : W1.cell? ⟨b, off, none⟩ = some (.int .i64 3) := by
    rw [b1.cell (p := ⟨b, off, none⟩) hb]
    simpa using c0
  have HW1 := Lib.hid hW1
  have B1 := Lib.hid b1
  clear x1 b1 hW1 ht hq hat hr1 hd1 hk hl h0a hk0 c0 hb
  go_enter Tryz.func18, Tryz.ntmps18
  go_upto_region 1 with fail
  rw [HW1.out]
  go_wp2
  go_ret
  exact ⟨rfl, B1.out⟩
theorem isP_is {w w' : World} {v : Value} {l : List Int} (h : IsP (In w) w v l) (hb : Below w.heap.size w w') : Is w' v l :=
  (h.keep (fun b x => hb.block b x)).is (fun b x => Nat.lt_of_lt_of_le x hb.size)
theorem box_new {w : World} {h : Vh} {tv v mv : Value} (K : Vo) (W2 : World) (hW : (w.alloc (.cells zv 48)).setRow w.heap.size (vv h tv v mv) = W2) (hd : HdS w h tv mv) (hv : VoS w v K) :
    VB W2 w.heap.size h tv v mv ∧ Below w.heap.size w W2 ∧ HdS W2 h tv mv ∧ VoS W2 v K ∧ w.heap.size < W2.heap.size := by
  obtain ⟨a, b⟩ := vbox_set W2 hW
  exact ⟨a, b, hd.below b, hv.below b, a.lt⟩
def RdQ (U : List Nat) (L : List M.S4) (w : World) (e : Ending) (w' : World) : Prop := ∃ v, e = .returned (.tuple #[.string (bytes (txtU U)), v, .bool true]) ∧ SsS w' v L ∧ NNv v ∧ Below w.heap.size w w'
set_option maxRecDepth 100000 in
set_option maxHeartbeats 8000000 in
theorem sread_any (v : Value) (l : List UInt8) (h : Vh) (K : Vo) (U V : List Nat) (L : List M.S4) (ml : Int) (w : World) (hX : TabX w) (hb : Bs w v l) (hl : l.length ≤ 1048000) (hm : w.cell? ⟨0, 0, none⟩ = some (.int .i64 ml))
    (hp : parseV l 60 = .ok (h, K)) (hk : h.k = 1) (ok : RdOK K U V) (hU : ∀ u ∈ U, u ≤ 65535) (hV : ∀ u ∈ V, u ≤ 65535) (lU : U.length ≤ 1000000) (lV : V.length ≤ 50000) (hr : M.readM (txtU V) = some L) :
    Calls Tryz.prog 8 #[v] w (RdQ U L w) := by
  have PA0 := parse_any v l 60 w hX hb hl
  rw [hp] at PA0
  unfold ParQ at PA0
  dsimp only at PA0
  have PA := Lib.hid PA0
  have OK := Lib.hid ok
  have HK := Lib.hid hk
  have HM := Lib.hid hm
  have HU := Lib.hid hU
  have HV := Lib.hid hV
  have HR := Lib.hid hr
  obtain ⟨va, vc, rfl, -⟩ := hb
  clear hX hl hm hp hk ok hU hV hr PA0
  obtain ⟨N0, hN0⟩ : ∃ x, bytes verB = x := ⟨_, rfl⟩
  obtain ⟨hv1, kv1, mv1, mk1, mn1, md1, me1⟩ := OK.out.v
  obtain ⟨hs1, ks1, hs0, ks0, ms1, sk1, sl1, sa1, sk0, st0⟩ := OK.out.s
  obtain ⟨hm1, km1, mm1, mk2, mt2⟩ := OK.out.m
  have FV := Lib.hid (And.intro mv1 (And.intro mk1 (And.intro mn1 (And.intro md1 me1))))
  have FS := Lib.hid (And.intro ms1 (And.intro sk1 (And.intro sl1 (And.intro sa1 (And.intro sk0 st0)))))
  have FM := Lib.hid (And.intro mm1 (And.intro mk2 mt2))
  clear mv1 mk1 mn1 md1 me1 ms1 sk1 sl1 sa1 sk0 st0 mm1 mk2 mt2 hN0
  go_enter Tryz.func8, Tryz.ntmps8
  go_wp2_with fail
  refine PA.out.mono ?_
  rintro e w1 ⟨tv, v, mv, rfl, hd, hv, hb1⟩
  obtain ⟨p2, hp2⟩ : ∃ x, w1.heap.size + 1 = x := ⟨_, rfl⟩
  obtain ⟨k1, k2, k3, k4, bb⟩ := two_laid w1 (vv h tv v mv) (.int .i64 0) (.int .i64 0) p2 hp2
  have B2 := hb1.trans (bb.mono hb1.size)
  have t3 := hd.t.one
  have t4 := hv.one
  have t5 := hd.m.one
  have hdS0 : HdS w1 h tv mv := hd.mono (fun b hb => hb.2)
  have hvS0 : VoS w1 v K := hv.mono (fun b hb => hb.2)
  have hdS := hdS0.below bb
  have hvS := hvS0.below bb
  obtain ⟨W2, hW2⟩ : ∃ x, (((w1.alloc (.cells zv 48)).alloc (.cells #[.int .i64 0, .int .i64 0] 51)).setRow w1.heap.size (vv h tv v mv)).setRow p2 #[.int .i64 0, .int .i64 0] = x := ⟨_, rfl⟩
  rw [hW2] at k3 k4 B2 hdS hvS
  have HW2 := Lib.hid (show (((w1.alloc (.cells #[.int .i64 0, .slice none 0 0, .bool false, .string ⟨#[]⟩, .string ⟨#[]⟩, .slice none 0 0, .int .i64 0, .int .i64 0, .slice none 0 0] 48)).alloc (.cells #[.int .i64 0, .int .i64 0] 51)).setRow w1.heap.size (vv h tv v mv)).setRow p2 #[.int .i64 0, .int .i64 0] = W2 from hW2)
  have g0 : W2.cell? ⟨p2, 0, none⟩ = some (.int .i64 0) := k4.cell 0
  have VX := Lib.hid (show VB W2 w1.heap.size h tv v mv from k3)
  have HD := Lib.hid hdS
  have HVS := Lib.hid hvS
  have BB2 := Lib.hid B2
  clear hW2 bb hb1 hd hv B2 hdS hvS hdS0 hvS0 k3 k4
  go_upto_region 2 with (first | (refine wpl_stV rfl _ _ rfl w1.heap.size zv h tv v mv rfl rfl k1 rfl t3 t4 t5 ?_) | (refine wpl_stK infoF1 rfl _ _ rfl p2 _ #[.int .i64 0, .int .i64 0] rfl rfl k2 rfl rfl (by simp [Value.oneCell']) ?_))
  rw [HW2.out]
  obtain ⟨qv, hqv⟩ : ∃ x, w1.heap.size = x := ⟨_, rfl⟩
  rw [hqv] at VX ⊢
  clear k1 k2 t3 t4 t5 HW2 hp2 hqv
  have gk := VX.out.cells.1
  rw [HK.out] at gk
  go_upto_region 4 with fail
  clear g0 gk
  -- version
  have MV := Lib.hid (smember_any h K tv v mv ⟨#[118, 101, 114, 115, 105, 111, 110]⟩ verB W2 rfl HD.out HVS.out OK.out.ev OK.out.ln OK.out.tx)
  unfold MbP at MV
  rw [FV.out.1] at MV
  go_wp2_with (first | (refine wpl_ldV rfl _ rfl qv 0 h tv v mv rfl (VB.range VX.out) ?_) | fail)
  refine MV.out.mono ?_
  rintro e w3 ⟨fh, fk, ft1, fv1, fm1, rfl, hf, hfd, hfv, hb3⟩
  obtain ⟨rfl, rfl⟩ : hv1 = fh ∧ kv1 = fk := by
    rcases hf with hf | hf
    · simpa using hf
    · simp at hf
  have hfd3 := hfd.below hb3
  have hfv3 := hfv.below hb3
  have t3 := hfd3.t.one
  have t4 := hfv3.one
  have t5 := hfd3.m.one
  have kz := BK.new 48 w3 zv
  obtain ⟨W4, hWb⟩ : ∃ x, (w3.alloc (.cells zv 48)).setRow w3.heap.size (vv hv1 ft1 fv1 fm1) = x := ⟨_, rfl⟩
  obtain ⟨vb, bb, hd4, hv4, -⟩ := box_new kv1 W4 hWb hfd3 hfv3
  have HWb := Lib.hid (show (w3.alloc (.cells #[.int .i64 0, .slice none 0 0, .bool false, .string ⟨#[]⟩, .string ⟨#[]⟩, .slice none 0 0, .int .i64 0, .int .i64 0, .slice none 0 0] 48)).setRow w3.heap.size (vv hv1 ft1 fv1 fm1) = W4 from hWb)
  have st1 := Lib.hid (hb3.trans (bb.mono hb3.size))
  have VX := Lib.hid (VX.out.keep st1.out)
  have HD := Lib.hid (HD.out.below st1.out)
  have HVS := Lib.hid (HVS.out.below st1.out)
  have BB2 := Lib.hid (BB2.out.trans (st1.out.mono BB2.out.size))
  clear hf hfd hfv hb3 hWb bb
  go_upto_region 5 with (first | (refine wpl_stV rfl _ _ rfl w3.heap.size zv hv1 ft1 fv1 fm1 rfl rfl kz rfl t3 t4 t5 ?_) | fail)
  rw [HWb.out]
  obtain ⟨qa, hq⟩ : ∃ x, w3.heap.size = x := ⟨_, rfl⟩
  rw [hq] at vb ⊢
  have Vqa := Lib.hid vb
  have Dqa := Lib.hid hd4
  have Oqa := Lib.hid hv4
  clear kz t3 t4 t5 hd4 hv4 vb HWb hq
  -- sources
  have MS := Lib.hid (smember_any h K tv v mv ⟨#[115, 111, 117, 114, 99, 101, 115]⟩ srcB W4 rfl HD.out HVS.out OK.out.ev OK.out.ln OK.out.tx)
  unfold MbP at MS
  rw [FS.out.1] at MS
  go_wp2_with (first | (refine wpl_ldV rfl _ rfl qv 0 h tv v mv rfl (VB.range VX.out) ?_) | fail)
  refine MS.out.mono ?_
  rintro e w5 ⟨fh, fk, ft2, fv2, fm2, rfl, hf, hfd, hfv, hb3⟩
  obtain ⟨rfl, rfl⟩ : hs1 = fh ∧ ks1 = fk := by
    rcases hf with hf | hf
    · simpa using hf
    · simp at hf
  have hfd3 := hfd.below hb3
  have hfv3 := hfv.below hb3
  have t3 := hfd3.t.one
  have t4 := hfv3.one
  have t5 := hfd3.m.one
  have kz := BK.new 48 w5 zv
  obtain ⟨W6, hWb⟩ : ∃ x, (w5.alloc (.cells zv 48)).setRow w5.heap.size (vv hs1 ft2 fv2 fm2) = x := ⟨_, rfl⟩
  obtain ⟨vb, bb, hd4, hv4, -⟩ := box_new ks1 W6 hWb hfd3 hfv3
  have HWb := Lib.hid (show (w5.alloc (.cells #[.int .i64 0, .slice none 0 0, .bool false, .string ⟨#[]⟩, .string ⟨#[]⟩, .slice none 0 0, .int .i64 0, .int .i64 0, .slice none 0 0] 48)).setRow w5.heap.size (vv hs1 ft2 fv2 fm2) = W6 from hWb)
  have st2 := Lib.hid (hb3.trans (bb.mono hb3.size))
  have VX := Lib.hid (VX.out.keep st2.out)
  have HD := Lib.hid (HD.out.below st2.out)
  have HVS := Lib.hid (HVS.out.below st2.out)
  have Vqa := Lib.hid (Vqa.out.keep st2.out)
  have Dqa := Lib.hid (Dqa.out.below st2.out)
  have Oqa := Lib.hid (Oqa.out.below st2.out)
  have BB2 := Lib.hid (BB2.out.trans (st2.out.mono BB2.out.size))
  clear hf hfd hfv hb3 hWb bb
  go_upto_region 6 with (first | (refine wpl_stV rfl _ _ rfl w5.heap.size zv hs1 ft2 fv2 fm2 rfl rfl kz rfl t3 t4 t5 ?_) | fail)
  rw [HWb.out]
  obtain ⟨qb, hq⟩ : ∃ x, w5.heap.size = x := ⟨_, rfl⟩
  rw [hq] at vb ⊢
  have Vqb := Lib.hid vb
  have Dqb := Lib.hid hd4
  have Oqb := Lib.hid hv4
  clear kz t3 t4 t5 hd4 hv4 vb HWb hq
  -- mappings
  have MM := Lib.hid (smember_any h K tv v mv ⟨#[109, 97, 112, 112, 105, 110, 103, 115]⟩ mapB W6 rfl HD.out HVS.out OK.out.ev OK.out.ln OK.out.tx)
  unfold MbP at MM
  rw [FM.out.1] at MM
  go_wp2_with (first | (refine wpl_ldV rfl _ rfl qv 0 h tv v mv rfl (VB.range VX.out) ?_) | fail)
  refine MM.out.mono ?_
  rintro e w7 ⟨fh, fk, ft3, fv3, fm3, rfl, hf, hfd, hfv, hb3⟩
  obtain ⟨rfl, rfl⟩ : hm1 = fh ∧ km1 = fk := by
    rcases hf with hf | hf
    · simpa using hf
    · simp at hf
  have hfd3 := hfd.below hb3
  have hfv3 := hfv.below hb3
  have t3 := hfd3.t.one
  have t4 := hfv3.one
  have t5 := hfd3.m.one
  have kz := BK.new 48 w7 zv
  obtain ⟨W8, hWb⟩ : ∃ x, (w7.alloc (.cells zv 48)).setRow w7.heap.size (vv hm1 ft3 fv3 fm3) = x := ⟨_, rfl⟩
  obtain ⟨vb, bb, hd4, hv4, -⟩ := box_new km1 W8 hWb hfd3 hfv3
  have HWb := Lib.hid (show (w7.alloc (.cells #[.int .i64 0, .slice none 0 0, .bool false, .string ⟨#[]⟩, .string ⟨#[]⟩, .slice none 0 0, .int .i64 0, .int .i64 0, .slice none 0 0] 48)).setRow w7.heap.size (vv hm1 ft3 fv3 fm3) = W8 from hWb)
  have st3 := Lib.hid (hb3.trans (bb.mono hb3.size))
  have VX := Lib.hid (VX.out.keep st3.out)
  have HD := Lib.hid (HD.out.below st3.out)
  have HVS := Lib.hid (HVS.out.below st3.out)
  have Vqa := Lib.hid (Vqa.out.keep st3.out)
  have Dqa := Lib.hid (Dqa.out.below st3.out)
  have Oqa := Lib.hid (Oqa.out.below st3.out)
  have Vqb := Lib.hid (Vqb.out.keep st3.out)
  have Dqb := Lib.hid (Dqb.out.below st3.out)
  have Oqb := Lib.hid (Oqb.out.below st3.out)
  have BB2 := Lib.hid (BB2.out.trans (st3.out.mono BB2.out.size))
  clear hf hfd hfv hb3 hWb bb
  go_upto_region 7 with (first | (refine wpl_stV rfl _ _ rfl w7.heap.size zv hm1 ft3 fv3 fm3 rfl rfl kz rfl t3 t4 t5 ?_) | fail)
  rw [HWb.out]
  obtain ⟨qc, hq⟩ : ∃ x, w7.heap.size = x := ⟨_, rfl⟩
  rw [hq] at vb ⊢
  have Vqc := Lib.hid vb
  have Dqc := Lib.hid hd4
  have Oqc := Lib.hid hv4
  clear kz t3 t4 t5 hd4 hv4 vb HWb hq
  go_upto_region 9 with fail
  have T3 := Lib.hid (sthree_any hv1 kv1 ft1 fv1 fm1 W8 Dqa.out Oqa.out FV.out.2.1 FV.out.2.2.1 FV.out.2.2.2.1 FV.out.2.2.2.2)
  go_wp2_with (first | (refine wpl_ldV rfl _ rfl qa 0 hv1 ft1 fv1 fm1 rfl (VB.range Vqa.out) ?_) | fail)
  refine T3.out.mono ?_
  rintro e w9 ⟨rfl, hb9⟩
  have T1 := Lib.hid (sonetext_any hs1 ks1 hs0 ks0 ft2 fv2 fm2 w9 (Dqb.out.below hb9) (Oqb.out.below hb9) FS.out.2.1 FS.out.2.2.1 FS.out.2.2.2.1 FS.out.2.2.2.2.1)
  have Vqb9 := Vqb.out.keep hb9
  have c9 := (Vqc.out.keep hb9).cells.1
  rw [FM.out.2.1] at c9
  go_wp2_with (first | (refine wpl_ldVg (by rfl) _ rfl qb 0 hs1 ft2 fv2 fm2 rfl (VB.range Vqb9) ?_) | fail)
  refine T1.out.mono ?_
  rintro e w10 ⟨rfl, hb10⟩
  have S10 := hb9.trans (hb10.mono hb9.size)
  have c0 := (Vqc.out.keep S10).cells.1
  rw [FM.out.2.1] at c0
  have c1 := (Vqc.out.keep S10).cells.2.1
  obtain ⟨ta3, tc3, ht3⟩ := Dqc.out.t.slice
  rw [FM.out.2.2] at ht3
  have is3 : Is w10 ft3 (iN V) := by have := Dqc.out.t; rw [FM.out.2.2] at this; exact isP_is this S10
  rw [ht3] at c1 is3
  obtain ⟨T, hT⟩ : ∃ x, bytes (txtU V) = x := ⟨_, rfl⟩
  have tz : T.size ≤ 200000 := by
    rw [← hT, bytes_size]
    have := txtU_len V.length V (Nat.le_refl _)
    omega
  have TXc := Lib.hid (stext_any _ V T w10 is3 (by omega) HV.out hT)
  have HT := Lib.hid hT
  have SS10 := Lib.hid S10
  have HT3 := Lib.hid ht3
  have HM10 := Lib.hid (cellM_keep (BB2.out.trans (S10.mono BB2.out.size)) HM.out)
  clear c9 Vqb9 hb9 hb10 S10 is3 hT ht3
  go_wp2_with fail
  refine TXc.out.mono ?_
  rintro e w11 ⟨rfl, hb11⟩
  have MP := Lib.hid (smappings_any T (txtU V) (some L) ml w11 HT.out tz (cellM_keep hb11 HM10.out) HR.out)
  simp only [Option.isSome_some, Option.getD_some] at MP
  go_wp2_with fail
  refine MP.out.mono ?_
  rintro e w12 ⟨lv, rfl, hss, hnn, hb12⟩
  have S12 := SS10.out.trans ((hb11.trans (hb12.mono hb11.size)).mono SS10.out.size)
  obtain ⟨ia, ic, hfv2, -, -, -, hq⟩ := Oqb.out
  obtain ⟨ib, io, hia, hib, hat⟩ := hq (by rw [FS.out.2.2.1]; omega)
  rw [hia, FS.out.2.2.1] at hfv2
  obtain ⟨t0, m0, v0, hd0, hr0, -⟩ := voAt_get ks1 ib io 0 hs0 ks0 hat FS.out.2.2.2.1
  have c5 := (Vqb.out.keep S12).cells.2.2.2.2.2.1
  rw [hfv2] at c5
  obtain ⟨ta0, tc0, ht0⟩ := hd0.t.slice
  rw [FS.out.2.2.2.2.2] at ht0
  have is0 : Is w12 t0 (iN U) := by have := hd0.t; rw [FS.out.2.2.2.2.2] at this; exact isP_is this S12
  have c6 : w12.cell? ⟨ib, io + 1, none⟩ = some t0 := by
    rw [S12.cell (p := ⟨ib, io + 1, none⟩) hib]
    have := hr0 1 _ rfl
    simpa using this
  rw [ht0] at c6 is0
  obtain ⟨Nm, hNm⟩ : ∃ x, bytes (txtU U) = x := ⟨_, rfl⟩
  have TXs := Lib.hid (stext_any _ U Nm w12 is0 (by omega) HU.out hNm)
  have HNm := Lib.hid hNm
  have HSS := Lib.hid hss
  have HNN := Lib.hid hnn
  have B12 := Lib.hid (BB2.out.trans (S12.mono BB2.out.size))
  obtain ⟨la, ln, lc, hlv⟩ : ∃ a n c, lv = .slice a n c := by
    obtain ⟨a, c, h, -⟩ := s4At_of hss
    exact ⟨a, _, c, h⟩
  subst hlv
  clear c0 c1 hb11 hb12 S12 hfv2 hq hat hd0 hr0 is0 ht0 hNm hss hnn hia hib
  go_wp2_with fail
  refine TXs.out.mono ?_
  rintro e w13 ⟨rfl, hb13⟩
  go_wp2
  go_ret3
  exact ⟨.slice la ln lc, by rw [HNm.out]; rfl, HSS.out.keep hb13, HNN.out, B12.out.trans (hb13.mono B12.out.size)⟩
end Go.Proofs.YtlobinjdgcidmaaGreatDoor
