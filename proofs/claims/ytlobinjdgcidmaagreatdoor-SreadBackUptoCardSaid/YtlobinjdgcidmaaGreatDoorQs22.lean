/- Texts of ours in one: ZItA. -/
import Derived.Test.YtlobinjdgcidmaaGreatDoorQs21
import Derived.Deep.DeepCutAuto
import Derived.Great.BuildSlice
/- jparse: item: what both forms want; an item of an array. -/
namespace Go.Proofs.YtlobinjdgcidmaaGreatDoor
open Go.RowKit
set_option linter.unusedVariables false
set_option linter.unusedSimpArgs false

theorem setCell_comm (w : World) (p q : Addr) (u v : Value) (h : p.block ≠ q.block) : (w.setCell p u).setCell q v = (w.setCell q v).setCell p u := by
  unfold World.setCell
  simp only [World.mk.injEq, and_true]
  apply Array.ext
  · simp
  · intro i h1 h2
    simp only [Array.getElem_modify]
    by_cases hp : p.block = i
    · by_cases hq : q.block = i
      · exact absurd (hp.trans hq.symm) h
      · simp [hp, hq]
    · by_cases hq : q.block = i
      · simp [hp, hq]
      · simp [hp, hq]
theorem setCells_comm (g bx : Nat) (hne : bx ≠ g) (k : Nat) (u : Value) (vs : List Value) : ∀ (o : Nat) (w : World), (w.setCell ⟨bx, k, none⟩ u).setCells g o vs = (w.setCells g o vs).setCell ⟨bx, k, none⟩ u := by
  induction vs with
  | nil => intro o w; rfl
  | cons v r ih =>
    intro o w
    show ((w.setCell ⟨bx, k, none⟩ u).setCell ⟨g, o, none⟩ v).setCells g (o + 1) r = ((w.setCell ⟨g, o, none⟩ v).setCells g (o + 1) r).setCell ⟨bx, k, none⟩ u
    rw [setCell_comm w ⟨bx, k, none⟩ ⟨g, o, none⟩ u v hne, ih]
theorem infoValz : (Tryz.prog.info? 48).map (fun i => (i.zero, i.size, i.bytes)) = some (some (.agg zv), 9, 136) := by kernel_rfl
theorem fillz (c0 c1 c2 c3 c4 c5 c6 c7 c8 : Value) (s : Nat) (hs : s = 9) (zc : Array Value) (hz : zc.size = 9) : Instr.fill (fun i => some (i * s, s)) zc [(0, .agg #[c0, c1, c2, c3, c4, c5, c6, c7, c8])] = some #[c0, c1, c2, c3, c4, c5, c6, c7, c8] := by
  subst hs
  have e : zc = #[zc[0], zc[1], zc[2], zc[3], zc[4], zc[5], zc[6], zc[7], zc[8]] := by
    apply Array.ext
    · simp [hz]
    · intro i h1 h2
      have : i = 0 ∨ i = 1 ∨ i = 2 ∨ i = 3 ∨ i = 4 ∨ i = 5 ∨ i = 6 ∨ i = 7 ∨ i = 8 := by omega
      rcases this with rfl | rfl | rfl | rfl | rfl | rfl | rfl | rfl | rfl <;> rfl
  rw [e]
  simp [Instr.fill, Value.cells, List.zipIdx]
theorem wp_bsz {o : Oper} {a : Act} {w : World} {K : Act → World → Prop} {Q : Exit → Act → World → Prop} (x : Operand) (ho : o.op = .buildSlice 46 1 #[(0, x)])
    (c0 c1 c2 c3 c4 c5 c6 c7 c8 : Value) (hx : a.eval x = .agg #[c0, c1, c2, c3, c4, c5, c6, c7, c8])
    (h : K (a.put o.dst (.slice (some ⟨w.heap.size, 0, none⟩) 1 1)) (w.alloc (.cells #[c0, c1, c2, c3, c4, c5, c6, c7, c8] 48))) : o.wp Tryz.prog a w K Q := by
  obtain ⟨i0, hi, hz0, hz1, hz2⟩ := info_parts infoValz
  refine wp_buildSlice 46 48 1 _ ho #[c0, c1, c2, c3, c4, c5, c6, c7, c8] i0 _ Tryz.underlying46 hi hz0 (by rw [hz1]; decide) (by rw [hz1]; decide) ?_ h
  simp only [List.map_toArray, List.map_cons, List.map_nil, hx]
  exact fillz c0 c1 c2 c3 c4 c5 c6 c7 c8 _ hz1 _ (by rw [hz1]; simp)
def ZB : Obj := .cells #[.int .i64 0, .slice none 0 0, .bool false, .string ⟨#[]⟩, .string ⟨#[]⟩, .slice none 0 0, .int .i64 0, .int .i64 0, .slice none 0 0] 48
theorem zb_row (w : World) : (w.alloc ZB).rangeAt w.heap.size 0 zvl := VB.range (VB.new w ⟨0, [], false, [], [], 0, 0, []⟩ nilV nilV nilV)
theorem zb_below (w : World) : Below w.heap.size w (w.alloc ZB) := (Below.refl _ _).alloc (Nat.le_refl _) _
theorem PsW.keepB {w0 w w' : World} {bv tw : Value} {D : Int} {l : List UInt8} {ts : M.Toks} (x : PsW w0 bv D l w tw ts) {B : Nat} (h : Below B w w') (hB : w0.heap.size < B) : PsW w0 bv D l w' tw ts :=
  ⟨x.blk.keepB h hB, x.lo.trans (h.mono (Nat.le_of_lt hB)), x.bs, x.tk, x.tb, x.ll⟩
theorem pk_new {pb bx : Nat} {W W' : World} {h : Vh} {iv mv : Value} {cs : List (List Value)} {L : Vo} (x : Lst pb bx W h iv mv cs L) {b : Nat} (hb : Nw W.heap.size W' b) : Pk bx W' iv mv b := by
  have lb := x.vb.lt
  refine ⟨by have := hb.1; omega, hb.2, fun e => ?_, fun e => ?_⟩
  · have := (own_in x.io b e).2; have := hb.1; omega
  · have := (own_in x.mo b e).2; have := hb.1; omega
theorem vvl_nine (h : Vh) {tv v mv : Value} (h1 : tv.oneCell' = true) (h2 : v.oneCell' = true) (h3 : mv.oneCell' = true) : ∀ c ∈ vvl h tv v mv, c.oneCell' = true := fun c hc =>
  (Array.all_eq_true_iff_forall_mem.1 (vv_one h h1 h2 h3)) c (by simpa [vv] using hc)
def ItemQ (w0 : World) (bv : Value) (D : Int) (l : List UInt8) (bx : Nat) (h : Vh) (R : LRes) (w : World) (e : Ending) (w' : World) : Prop := match R with
  | .ok (ms, L', r) => ∃ iv' mv' cs' tw', e = .returned (.tuple #[]) ∧ Lst w0.heap.size bx w' { h with ms := ms } iv' mv' cs' L' ∧ PsW w0 bv D l w' tw' r ∧ FrB w0.heap.size bx w w'
  | .error x => Pan e x ∧ Below w0.heap.size w w'
theorem lay_end {w0 : World} {bv tw : Value} {D : Int} {l : List UInt8} {r : M.Toks} {bx : Nat} {WT W8 : World} {h h2 : Vh} {ia : Option Addr} {n icap g gc : Nat} {mv tv v2 mv2 : Value} {cs : List (List Value)} {L kids : Vo} {Q : Nat → Prop}
    (x : PsW w0 bv D l WT tw r) (LT : Lst w0.heap.size bx WT h (.slice ia n icap) mv cs L) (hd : HdP Q WT h2 tv mv2) (hv : VoP Q WT v2 kids) (hQ : ∀ b, Q b → Pk bx WT (.slice ia n icap) mv b) (hn : cs.length = n)
    (ho : OwnV 48 9 (bx + 1) W8 (.slice (some ⟨g, 0, none⟩) (n + 1) gc) (cs ++ [zvl])) (hb : Below (bx + 1) WT W8) (hf : ∀ j, j < WT.heap.size → some j ≠ (Value.slice ia n icap).ownBlock → W8.heap[j]? = WT.heap[j]?) (hg : (Value.slice ia n icap).ownBlock = some g ∨ g = WT.heap.size) :
    ∃ W9, (W8.setCells g (n * 9) (vvl h2 tv v2 mv2)).setCell ⟨bx, 5, none⟩ (.slice (some ⟨g, 0, none⟩) (n + 1) gc) = W9 ∧ (W8.setCell ⟨bx, 5, none⟩ (.slice (some ⟨g, 0, none⟩) (n + 1) gc)).setCells g (n * 9) (vvl h2 tv v2 mv2) = W9 ∧
      Lst w0.heap.size bx W9 h (.slice (some ⟨g, 0, none⟩) (n + 1) gc) mv (cs ++ [vvl h2 tv v2 mv2]) (L.snoc h2 kids) ∧ PsW w0 bv D l W9 tw r ∧ FrB w0.heap.size bx WT W9 := by
  have lt := LT.lt
  have one := vvl_nine h2 hd.t.one hv.one hd.m.one
  have hgb : bx + 1 ≤ g := (own_in ho g rfl).1
  have ho9 := OwnV.setLast ho (by omega) (show (vvl h2 tv v2 mv2).length = 9 from rfl) one
  rw [hn] at ho9
  have hb9 := below_setCells hb hgb (vvl h2 tv v2 mv2) (n * 9)
  have k := LT.push (W' := W8.setCells g (n * 9) (vvl h2 tv v2 mv2)) (iv' := .slice (some ⟨g, 0, none⟩) (n + 1) gc) hd hv hQ ho9 hb9 (fun j hj hne => by
    rw [setCells_other g _ _ _ _ (by
      rcases hg with e | e
      · intro e2; subst e2; exact hne e.symm
      · omega)]
    exact hf j hj hne) (by
      rcases hg with e | e
      · exact .inl e.symm
      · exact .inr (by rw [← e]; rfl))
  refine ⟨_, rfl, setCells_comm g bx (by omega) 5 _ _ _ _, k.1, ?_, k.2⟩
  exact (x.keepB hb9 (by omega)).setOther lt 5 _
set_option maxRecDepth 100000 in
set_option maxHeartbeats 4000000 in
theorem item_arr (val : M.Toks → PRes) (lev : Int) {w0 w : World} {bv tw : Value} {D : Int} {l : List UInt8} {ts : M.Toks} {bx : Nat} {h : Vh} {iv mv : Value} {cs : List (List Value)} {L : Vo}
    (hval : ∀ (ts' : M.Toks) (V : World) (tw' : Value), ts'.length ≤ ts.length → TkIn l ts' → PsW w0 bv D l V tw' ts' → Calls Tryz.prog 30 #[ptrP w0, .int .i64 lev] V (ValQ w0 bv D l (val ts') V))
    (x : PsW w0 bv D l w tw ts) (hX : TabX w0) (hl : l.length ≤ 20000) (htk : TkIn l ts) (LL : Lst w0.heap.size bx w h iv mv cs L) (hn : cs.length ≤ 60000) (hm : h.ms.length ≤ 60000) (hk : h.k = 2) :
    Calls Tryz.prog 71 #[ptrP w0, .pointer (some ⟨bx, 0, none⟩), .int .i64 lev] w (ItemQ w0 bv D l bx h (itemW l val false ts h.ms L) w) := by
  obtain ⟨ia, icap, rfl, i1, i2, i3⟩ := OwnV.vs LL.io
  obtain ⟨n, hcn⟩ : ∃ n, cs.length = n := ⟨_, rfl⟩
  have HCN := Lib.hid hcn
  rw [hcn] at LL i1 hn
  obtain ⟨ma, mcap, rfl, j1, j2, j3⟩ := OwnV.vs LL.mo
  obtain ⟨m, hcm⟩ : ∃ n, (icl h.ms).length = n := ⟨_, rfl⟩
  have hcm2 : h.ms.length = m := by rw [← hcm]; simp [icl]
  have HCM := Lib.hid hcm2
  have hm2 : m ≤ 60000 := by omega
  rw [hcm] at LL j1
  have hlb := LL.vb.lt
  have hpb := LL.lt
  have ZBE := Lib.hid (show ZB = .cells #[.int .i64 0, .slice none 0 0, .bool false, .string ⟨#[]⟩, .string ⟨#[]⟩, .slice none 0 0, .int .i64 0, .int .i64 0, .slice none 0 0] 48 from rfl)
  clear i2 i3 j2 j3 hcn hcm hcm2 hm
  obtain ⟨c0, c1, c2, c3, c4, c5, c6, c7, c8⟩ := LL.vb.cells
  rw [hk] at c0
  have CT0 := fun V tw' hV => hval ts V tw' (Nat.le_refl _) htk hV
  unfold itemW
  simp only [Bool.false_eq_true, if_false]
  unfold ValQ at CT0
  unfold ItemQ
  have LW := Lib.hid LL
  have xW := Lib.hid x
  unfold ptrP at CT0 ⊢
  cases hR : val ts with
  | error er =>
    rw [hR] at CT0
    dsimp only at CT0 ⊢
    have CT := Lib.hid CT0
    have SS : ∀ V : World, VB V bx h nilV (.slice ia n icap) (.slice ma m mcap) → V.cell? ⟨bx, 5, none⟩ = some (.slice ia n icap) := fun V hv => hv.cells.2.2.2.2.2.1
    clear CT0 hval x LL hR htk c1 c2 c3 c4 c6 c7 c8
    go_enter Tryz.func71, Tryz.ntmps71
    go_upto_region 5 with fail
    obtain ⟨WW, hWW⟩ : ∃ x, w = x := ⟨_, rfl⟩
    have HW : Hid (FrB w0.heap.size bx w WW) := Lib.hid (by rw [← hWW]; exact FrB.refl _ _ _)
    rw [hWW] at LW xW c0 c5 hlb ⊢
    have LD := Lib.hid (LW.out.fr (Fr.of ((Below.refl _ _).drew) (by have := LW.out.vb.lt; have := LW.out.lt; omega)))
    have xD := Lib.hid (xW.out.keep ((Below.refl _ _).drew))
    refine wp_region_to 14 (S := fun V => V.cell? ⟨bx, 5, none⟩ = some (.slice ia n icap)) (by kernel_rfl) (SS _ LD.out.vb) (fun hS => ?_)
    have BD := Lib.hid ((Below.refl WW.heap.size WW).drew)
    obtain ⟨WD, hWD⟩ : ∃ x, WW.drew = x := ⟨_, rfl⟩
    rw [hWD] at LD xD BD hS ⊢
    clear hWD
    refine dtp 0 ?_
    refine dtp 1 ?_
    refine dtp 2 ?_
    refine dtk 3 ?_
    refine dtp 4 ?_
    refine dtp 5 ?_
    refine dtp 7 ?_
    refine AnyTo.ready (rs := [6, 8]) (by kernel_rfl) (by simp) ?_
    refine ReadyTo.cons rfl (fun K hK => ?ordA) (ReadyTo.cons rfl (fun K hK => ?ordB) ReadyTo.nil)
    case ordA =>
      go_simp
      refine (CT.out WD _ xD.out).mono ?_
      rintro e w1 ⟨rfl, hb1⟩
      refine ⟨rfl, ?_⟩
      (try unfold ItemQ)
      exact ⟨rfl, HW.out.lo.trans ((BD.out.mono (by omega)).trans hb1)⟩
    case ordB =>
      rw [if_pos (by rfl)]
      refine wp_bsz _ rfl _ _ _ _ _ _ _ _ _ rfl ?_
      have al := zb_below WD
      have xB := Lib.hid (xD.out.keep al)
      have LB := Lib.hid (LD.out.fr (Fr.of al (by have := LD.out.vb.lt; have := LD.out.lt; omega)))
      have hbx := LD.out.vb.lt
      have bB : Below w0.heap.size WD (WD.alloc ZB) := al.mono (by omega)
      refine hK.out _ _ (SS _ LB.out.vb) (fun hS => ?_)
      clear hK K
      obtain ⟨WB, hWB⟩ : ∃ x, WD.alloc ZB = x := ⟨_, rfl⟩
      have hWB' := hWB
      unfold ZB at hWB'
      rw [hWB] at xB LB bB
      rw [hWB'] at hS ⊢
      clear hWB hWB' al
      refine AnyTo.ready (rs := [6]) (by kernel_rfl) (by simp) ?_
      refine ReadyTo.cons rfl (fun K hK => ?_) ReadyTo.nil
      go_simp
      refine (CT.out WB _ xB.out).mono ?_
      rintro e w1 ⟨rfl, hb1⟩
      refine ⟨rfl, ?_⟩
      (try unfold ItemQ)
      exact ⟨rfl, HW.out.lo.trans ((BD.out.mono (by omega)).trans (bB.trans hb1))⟩
  | ok q =>
    obtain ⟨h2, kids, r⟩ := q
    rw [hR] at CT0
    dsimp only at CT0 ⊢
    have CT := Lib.hid CT0
    have SS : ∀ V : World, VB V bx h nilV (.slice ia n icap) (.slice ma m mcap) → V.cell? ⟨bx, 5, none⟩ = some (.slice ia n icap) := fun V hv => hv.cells.2.2.2.2.2.1
    clear CT0 hval x LL hR htk c1 c2 c3 c4 c6 c7 c8
    go_enter Tryz.func71, Tryz.ntmps71
    go_upto_region 5 with fail
    obtain ⟨WW, hWW⟩ : ∃ x, w = x := ⟨_, rfl⟩
    have HW : Hid (FrB w0.heap.size bx w WW) := Lib.hid (by rw [← hWW]; exact FrB.refl _ _ _)
    rw [hWW] at LW xW c0 c5 hlb ⊢
    refine wp_region_noPanic ?_
    have LD := Lib.hid (LW.out.fr (Fr.of ((Below.refl _ _).drew) (by have := LW.out.vb.lt; have := LW.out.lt; omega)))
    have xD := Lib.hid (xW.out.keep ((Below.refl _ _).drew))
    refine wp_region_to 14 (S := fun V => V.cell? ⟨bx, 5, none⟩ = some (.slice ia n icap)) (by kernel_rfl) (SS _ LD.out.vb) (fun hS => ?_)
    have BD := Lib.hid ((Below.refl WW.heap.size WW).drew)
    obtain ⟨WD, hWD⟩ : ∃ x, WW.drew = x := ⟨_, rfl⟩
    rw [hWD] at LD xD BD hS ⊢
    clear hWD
    refine dtp 0 ?_
    refine dtp 1 ?_
    refine dtp 2 ?_
    refine dtk 3 ?_
    refine dtp 4 ?_
    refine dtp 5 ?_
    refine dtp 7 ?_
    refine AnyTo.ready (rs := [6, 8]) (by kernel_rfl) (by simp) ?_
    refine ReadyTo.cons rfl (fun K hK => ?ordA) (ReadyTo.cons rfl (fun K hK => ?ordB) ReadyTo.nil)
    case ordA =>
      go_simp
      refine (CT.out WD _ xD.out).mono ?_
      rintro e w1 ⟨tv, v2, mv2, tw1, rfl, hd1, hv1, x1, f1⟩
      have L1 := LD.out.fr f1
      refine hK.out _ _ (SS _ L1.vb) (fun hS => ?_)
      clear hK K
      refine AnyTo.ready (rs := [8]) (by kernel_rfl) (by simp) ?_
      refine ReadyTo.cons rfl (fun K hK => ?_) ReadyTo.nil
      rw [if_pos (by rfl)]
      refine wp_bsz _ rfl _ _ _ _ _ _ _ _ _ rfl ?_
      have al := zb_below w1
      have xT := Lib.hid (x1.keep al)
      have LT := Lib.hid (L1.fr (Fr.of al (by have := L1.vb.lt; have := L1.lt; omega)))
      have RT := Lib.hid (zb_row w1)
      have hdT := Lib.hid ((hd1.keep (w' := w1.alloc ZB) (fun b hb => al.block b hb.2)).mono (Q := Nw WD.heap.size (w1.alloc ZB)) (fun b hb => ⟨hb.1, Nat.lt_of_lt_of_le hb.2 al.size⟩))
      have hvT := Lib.hid ((hv1.keep (w' := w1.alloc ZB) (fun b hb => al.block b hb.2)).mono (Q := Nw WD.heap.size (w1.alloc ZB)) (fun b hb => ⟨hb.1, Nat.lt_of_lt_of_le hb.2 al.size⟩))
      have FT := Lib.hid ((f1.box (bx := bx) (by have := LD.out.vb.lt; omega)).trans ((Fr.of al (by have := L1.vb.lt; have := L1.lt; omega)).box (bx := bx) (by have := L1.vb.lt; omega)))
      have PKN := Lib.hid (fun b (hb : Nw WD.heap.size (w1.alloc ZB) b) => pk_new LD.out hb)
      refine hK.out _ _ (SS _ LT.out.vb) (fun hS => ?_)
      clear hK K
      obtain ⟨bz, hbz⟩ : ∃ x, w1.heap.size = x := ⟨_, rfl⟩
      obtain ⟨WT, hWT⟩ : ∃ x, w1.alloc ZB = x := ⟨_, rfl⟩
      have hWT' := hWT
      unfold ZB at hWT'
      rw [hWT] at xT LT RT hdT hvT FT PKN
      rw [hWT'] at hS ⊢
      rw [hbz] at RT ⊢
      clear hWT hWT' hbz al x1 L1 hd1 hv1
      refine AnyTo.ready (rs := [9]) (by kernel_rfl) (by simp) ?_
      refine ReadyTo.cons rfl (fun K hK => ?_) ReadyTo.nil
      rw [if_pos (by rfl)]
      refine wp_appV _ _ rfl Tryz.underlying46 infoValz rfl (by decide) (bx + 1) (.slice ia n icap) cs (cs ++ [zvl]) zvl bz 1 n HCN.out rfl LT.out.io rfl RT.out rfl (vvl_nine ⟨0, [], false, [], [], 0, 0, []⟩ rfl rfl rfl) (by omega) (by decide) (by have := LT.out.vb.lt; omega) rfl ?_
      intro g gc W8 ho8 hb8 hf8 hg8 hgl8
      refine hK.out _ _ (SS _ (LT.out.vb.frame (hb8.block _ (by omega)))) (fun hS => ?_)
      clear hK K
      obtain ⟨W9, hA, hB, L9, x9, f9⟩ := lay_end xT.out LT.out hdT.out hvT.out PKN.out HCN.out ho8 hb8 hf8 hg8
      have hgb : bx + 1 ≤ g := (own_in ho8 g rfl).1
      have thr : W8.there g (n * 9) 9 := ownsRow_there (xs := (cs ++ [zvl]).flatten) (by have := ho8.1; rw [List.length_append, List.length_singleton, HCN.out] at this; exact this) (n * 9) 9 (by omega)
      have vb8 := Lib.hid (LT.out.vb.frame (hb8.block bx (by omega)))
      have c5 : W8.cell? ⟨bx, 5, none⟩ = some (.slice ia n icap) := vb8.out.cells.2.2.2.2.2.1
      have f5 : W8.frozen? ⟨bx, 5, none⟩ = false := frozen_of_row W8 bx 5 _ _ vb8.out
      have one9 : (vv h2 tv v2 mv2).all (·.oneCell') = true := vv_one h2 hdT.out.t.one hvT.out.one hdT.out.m.one
      have HO8 := Lib.hid ho8.1
      have HA := Lib.hid hA
      have HB := Lib.hid hB
      have L9 := Lib.hid L9
      have x9 := Lib.hid x9
      have f9 := Lib.hid f9
      clear hA hB ho8 hb8 hf8
      refine dtp 10 (v := .pointer (some ⟨g, n * 9, none⟩)) (hy := Or.inl ⟨by rfl, by intro V hSV; go_simp; (try rw [if_pos (by omega)]); (try omega)⟩) ?_
      refine dtp 12 ?_
      refine dtp 13 ?_
      refine AnyTo.ready (rs := [11, 14]) (by kernel_rfl) (by simp) ?_
      refine ReadyTo.cons rfl (fun K hK => ?stA) (ReadyTo.last rfl (by kernel_rfl) (fun K hK => ?stB) ReadyTo.nil)
      case stA =>
        rw [if_pos (by rfl)]
        refine wp_store_mid 48 _ _ rfl g (n * 9) (vv h2 tv v2 mv2) rfl rfl thr infoVal one9 ?_
        have hvC : VB (W8.setCells g (n * 9) (vv h2 tv v2 mv2).toList) bx h nilV (.slice ia n icap) (.slice ma m mcap) := vb8.out.frame (setCells_other g _ _ _ _ (by omega))
        refine hK.out _ _ (SS _ hvC) (fun hS => ?_)
        clear hK K
        have c5' : (W8.setCells g (n * 9) (vv h2 tv v2 mv2).toList).cell? ⟨bx, 5, none⟩ = some (.slice ia n icap) := hvC.cells.2.2.2.2.2.1
        have f5' : (W8.setCells g (n * 9) (vv h2 tv v2 mv2).toList).frozen? ⟨bx, 5, none⟩ = false := frozen_of_row _ bx 5 _ _ hvC
        have HA' : (W8.setCells g (n * 9) (vv h2 tv v2 mv2).toList).setCell ⟨bx, 5, none⟩ (.slice (some ⟨g, 0, none⟩) (n + 1) gc) = W9 := HA.out
        obtain ⟨WC, hWC⟩ : ∃ x, W8.setCells g (n * 9) (vv h2 tv v2 mv2).toList = x := ⟨_, rfl⟩
        rw [hWC] at c5' f5' HA' hS ⊢
        clear hWC hvC
        refine AnyTo.ready (rs := [14]) (by kernel_rfl) (by simp) ?_
        refine ReadyTo.last rfl (by kernel_rfl) (fun K hK => ?_) ReadyTo.nil
        go_simp
        refine hK.out _ _ ?_
        clear hK K
        refine AnyTo.done (by kernel_rfl) ?_ _
        (try rw [HA'])
        refine NoPanic.normal ?_
        go_wp2
        refine ⟨rfl, .tuple #[], by simp [results, Tryz.results71], ?_⟩
        (try unfold ItemQ)
        exact ⟨(.slice (some ⟨g, 0, none⟩) (n + 1) gc), (.slice ma m mcap), _, _, rfl, L9.out, x9.out, HW.out.trans (((Fr.of BD.out (by omega)).box (bx := bx) (by omega)).trans (FT.out.trans f9.out))⟩
      case stB =>
        go_simp
        refine hK.out _ _ ?_
        clear hK K
        have thr' : (W8.setCell ⟨bx, 5, none⟩ (.slice (some ⟨g, 0, none⟩) (n + 1) gc)).there g (n * 9) 9 := by
          intro j hj
          have := thr j hj
          rw [cell_same (heap_setCell_other _ _ _ _ (by show g ≠ bx; omega))]
          refine ⟨this.1, ?_⟩
          rw [← this.2]
          unfold World.frozen?
          rw [heap_setCell_other _ _ _ _ (by show g ≠ bx; omega)]
        refine AnyTo.ready (rs := [11]) (by kernel_rfl) (by simp) ?_
        refine ReadyTo.last rfl (by kernel_rfl) (fun K hK => ?_) ReadyTo.nil
        rw [if_pos (by rfl)]
        refine wp_store_mid 48 _ _ rfl g (n * 9) (vv h2 tv v2 mv2) rfl rfl thr' infoVal one9 ?_
        refine hK.out _ _ ?_
        clear hK K
        refine AnyTo.done (by kernel_rfl) ?_ _
        have HB' : (W8.setCell ⟨bx, 5, none⟩ (.slice (some ⟨g, 0, none⟩) (n + 1) gc)).setCells g (n * 9) (vv h2 tv v2 mv2).toList = W9 := HB.out
        (try rw [HB'])
        refine NoPanic.normal ?_
        go_wp2
        refine ⟨rfl, .tuple #[], by simp [results, Tryz.results71], ?_⟩
        (try unfold ItemQ)
        exact ⟨(.slice (some ⟨g, 0, none⟩) (n + 1) gc), (.slice ma m mcap), _, _, rfl, L9.out, x9.out, HW.out.trans (((Fr.of BD.out (by omega)).box (bx := bx) (by omega)).trans (FT.out.trans f9.out))⟩
    case ordB =>
      rw [if_pos (by rfl)]
      refine wp_bsz _ rfl _ _ _ _ _ _ _ _ _ rfl ?_
      have al := zb_below WD
      have xB := Lib.hid (xD.out.keep al)
      have LB := Lib.hid (LD.out.fr (Fr.of al (by have := LD.out.vb.lt; have := LD.out.lt; omega)))
      have RB := Lib.hid (zb_row WD)
      have hsB : WD.heap.size < (WD.alloc ZB).heap.size := by simp
      have fB := Lib.hid ((Fr.of (pb := w0.heap.size) al (by have := LD.out.vb.lt; have := LD.out.lt; omega)).box (bx := bx) (by have := LD.out.vb.lt; omega))
      have hbx := LD.out.vb.lt
      have hpb := LD.out.lt
      refine hK.out _ _ (SS _ LB.out.vb) (fun hS => ?_)
      clear hK K
      obtain ⟨bz, hbz⟩ : ∃ x, WD.heap.size = x := ⟨_, rfl⟩
      obtain ⟨WB, hWB⟩ : ∃ x, WD.alloc ZB = x := ⟨_, rfl⟩
      have hWB' := hWB
      unfold ZB at hWB'
      rw [hWB] at xB LB RB hsB fB
      rw [hWB'] at hS ⊢
      rw [hbz] at RB hsB hbx ⊢
      clear hWB hWB' al
      refine AnyTo.ready (rs := [6]) (by kernel_rfl) (by simp) ?_
      refine ReadyTo.cons rfl (fun K hK => ?_) ReadyTo.nil
      go_simp
      refine (CT.out WB _ xB.out).mono ?_
      rintro e w1 ⟨tv, v2, mv2, tw1, rfl, hd1, hv1, x1, f1⟩
      refine hK.out _ _ (SS _ (LB.out.fr f1).vb) (fun hS => ?_)
      clear hK K
      have L1 := LB.out.fr f1
      have xT := Lib.hid x1
      have LT := Lib.hid L1
      have RT := Lib.hid (rangeAt_keep RB.out (f1.oth bz hsB (by omega)))
      have hdT := Lib.hid (hd1.mono (Q := Nw WD.heap.size w1) (fun b hb => ⟨by have := hb.1; omega, hb.2⟩))
      have hvT := Lib.hid (hv1.mono (Q := Nw WD.heap.size w1) (fun b hb => ⟨by have := hb.1; omega, hb.2⟩))
      have FT := Lib.hid (fB.out.trans (f1.box (bx := bx) (by omega)))
      have PKN := Lib.hid (fun b (hb : Nw WD.heap.size w1 b) => pk_new LD.out hb)
      obtain ⟨WT, hWT⟩ : ∃ x, w1 = x := ⟨_, rfl⟩
      rw [hWT] at xT LT RT hdT hvT FT PKN hS ⊢
      clear hWT x1 L1 hd1 hv1
      refine AnyTo.ready (rs := [9]) (by kernel_rfl) (by simp) ?_
      refine ReadyTo.cons rfl (fun K hK => ?_) ReadyTo.nil
      rw [if_pos (by rfl)]
      refine wp_appV _ _ rfl Tryz.underlying46 infoValz rfl (by decide) (bx + 1) (.slice ia n icap) cs (cs ++ [zvl]) zvl bz 1 n HCN.out rfl LT.out.io rfl RT.out rfl (vvl_nine ⟨0, [], false, [], [], 0, 0, []⟩ rfl rfl rfl) (by omega) (by decide) (by have := LT.out.vb.lt; omega) rfl ?_
      intro g gc W8 ho8 hb8 hf8 hg8 hgl8
      refine hK.out _ _ (SS _ (LT.out.vb.frame (hb8.block _ (by omega)))) (fun hS => ?_)
      clear hK K
      obtain ⟨W9, hA, hB, L9, x9, f9⟩ := lay_end xT.out LT.out hdT.out hvT.out PKN.out HCN.out ho8 hb8 hf8 hg8
      have hgb : bx + 1 ≤ g := (own_in ho8 g rfl).1
      have thr : W8.there g (n * 9) 9 := ownsRow_there (xs := (cs ++ [zvl]).flatten) (by have := ho8.1; rw [List.length_append, List.length_singleton, HCN.out] at this; exact this) (n * 9) 9 (by omega)
      have vb8 := Lib.hid (LT.out.vb.frame (hb8.block bx (by omega)))
      have c5 : W8.cell? ⟨bx, 5, none⟩ = some (.slice ia n icap) := vb8.out.cells.2.2.2.2.2.1
      have f5 : W8.frozen? ⟨bx, 5, none⟩ = false := frozen_of_row W8 bx 5 _ _ vb8.out
      have one9 : (vv h2 tv v2 mv2).all (·.oneCell') = true := vv_one h2 hdT.out.t.one hvT.out.one hdT.out.m.one
      have HO8 := Lib.hid ho8.1
      have HA := Lib.hid hA
      have HB := Lib.hid hB
      have L9 := Lib.hid L9
      have x9 := Lib.hid x9
      have f9 := Lib.hid f9
      clear hA hB ho8 hb8 hf8
      refine dtp 10 (v := .pointer (some ⟨g, n * 9, none⟩)) (hy := Or.inl ⟨by rfl, by intro V hSV; go_simp; (try rw [if_pos (by omega)]); (try omega)⟩) ?_
      refine dtp 12 ?_
      refine dtp 13 ?_
      refine AnyTo.ready (rs := [11, 14]) (by kernel_rfl) (by simp) ?_
      refine ReadyTo.cons rfl (fun K hK => ?stA) (ReadyTo.last rfl (by kernel_rfl) (fun K hK => ?stB) ReadyTo.nil)
      case stA =>
        rw [if_pos (by rfl)]
        refine wp_store_mid 48 _ _ rfl g (n * 9) (vv h2 tv v2 mv2) rfl rfl thr infoVal one9 ?_
        have hvC : VB (W8.setCells g (n * 9) (vv h2 tv v2 mv2).toList) bx h nilV (.slice ia n icap) (.slice ma m mcap) := vb8.out.frame (setCells_other g _ _ _ _ (by omega))
        refine hK.out _ _ (SS _ hvC) (fun hS => ?_)
        clear hK K
        have c5' : (W8.setCells g (n * 9) (vv h2 tv v2 mv2).toList).cell? ⟨bx, 5, none⟩ = some (.slice ia n icap) := hvC.cells.2.2.2.2.2.1
        have f5' : (W8.setCells g (n * 9) (vv h2 tv v2 mv2).toList).frozen? ⟨bx, 5, none⟩ = false := frozen_of_row _ bx 5 _ _ hvC
        have HA' : (W8.setCells g (n * 9) (vv h2 tv v2 mv2).toList).setCell ⟨bx, 5, none⟩ (.slice (some ⟨g, 0, none⟩) (n + 1) gc) = W9 := HA.out
        obtain ⟨WC, hWC⟩ : ∃ x, W8.setCells g (n * 9) (vv h2 tv v2 mv2).toList = x := ⟨_, rfl⟩
        rw [hWC] at c5' f5' HA' hS ⊢
        clear hWC hvC
        refine AnyTo.ready (rs := [14]) (by kernel_rfl) (by simp) ?_
        refine ReadyTo.last rfl (by kernel_rfl) (fun K hK => ?_) ReadyTo.nil
        go_simp
        refine hK.out _ _ ?_
        clear hK K
        refine AnyTo.done (by kernel_rfl) ?_ _
        (try rw [HA'])
        refine NoPanic.normal ?_
        go_wp2
        refine ⟨rfl, .tuple #[], by simp [results, Tryz.results71], ?_⟩
        (try unfold ItemQ)
        exact ⟨(.slice (some ⟨g, 0, none⟩) (n + 1) gc), (.slice ma m mcap), _, _, rfl, L9.out, x9.out, HW.out.trans (((Fr.of BD.out (by omega)).box (bx := bx) (by omega)).trans (FT.out.trans f9.out))⟩
      case stB =>
        go_simp
        refine hK.out _ _ ?_
        clear hK K
        have thr' : (W8.setCell ⟨bx, 5, none⟩ (.slice (some ⟨g, 0, none⟩) (n + 1) gc)).there g (n * 9) 9 := by
          intro j hj
          have := thr j hj
          rw [cell_same (heap_setCell_other _ _ _ _ (by show g ≠ bx; omega))]
          refine ⟨this.1, ?_⟩
          rw [← this.2]
          unfold World.frozen?
          rw [heap_setCell_other _ _ _ _ (by show g ≠ bx; omega)]
        refine AnyTo.ready (rs := [11]) (by kernel_rfl) (by simp) ?_
        refine ReadyTo.last rfl (by kernel_rfl) (fun K hK => ?_) ReadyTo.nil
        rw [if_pos (by rfl)]
        refine wp_store_mid 48 _ _ rfl g (n * 9) (vv h2 tv v2 mv2) rfl rfl thr' infoVal one9 ?_
        refine hK.out _ _ ?_
        clear hK K
        refine AnyTo.done (by kernel_rfl) ?_ _
        have HB' : (W8.setCell ⟨bx, 5, none⟩ (.slice (some ⟨g, 0, none⟩) (n + 1) gc)).setCells g (n * 9) (vv h2 tv v2 mv2).toList = W9 := HB.out
        (try rw [HB'])
        refine NoPanic.normal ?_
        go_wp2
        refine ⟨rfl, .tuple #[], by simp [results, Tryz.results71], ?_⟩
        (try unfold ItemQ)
        exact ⟨(.slice (some ⟨g, 0, none⟩) (n + 1) gc), (.slice ma m mcap), _, _, rfl, L9.out, x9.out, HW.out.trans (((Fr.of BD.out (by omega)).box (bx := bx) (by omega)).trans (FT.out.trans f9.out))⟩
end Go.Proofs.YtlobinjdgcidmaaGreatDoor
