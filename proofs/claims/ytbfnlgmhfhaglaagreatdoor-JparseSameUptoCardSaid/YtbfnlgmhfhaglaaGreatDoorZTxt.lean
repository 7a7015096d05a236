/- jparse: text and number. -/
import Derived.Test.YtbfnlgmhfhaglaaGreatDoorZUe
import Derived.Test.YtbfnlgmhfhaglaaGreatDoorZRec
import Derived.Test.YtbfnlgmhfhaglaaGreatDoorJgN
namespace Go.Proofs.YtbfnlgmhfhaglaaGreatDoor
open Go.RowKit
set_option linter.unusedVariables false
set_option linter.unusedSimpArgs false

/-- What a call made anew. -/
def Nw (B : Nat) (w : World) (b : Nat) : Prop := B ≤ b ∧ b < w.heap.size
theorem ownI_isP {B : Nat} {w : World} {v : Value} {l : List Int} (h : OwnI B w v l) : IsP (Nw B w) w v l := by
  have hn := OwnI.nn h
  have hlt := World.ownsRow.lt h
  have hh := h
  obtain ⟨a, cap, rfl, h1, h2, h3⟩ := OwnI.is h
  refine ⟨a, cap, rfl, h1, h2, fun e => by subst e; exact hn _ _ rfl, fun h0 => ?_⟩
  obtain ⟨b, off, rfl, hb, hc⟩ := h3 h0
  refine ⟨b, off, rfl, ⟨?_, hb⟩, hc⟩
  obtain ⟨_, ⟨e, _⟩ | ⟨g, c, cur, e, _⟩⟩ := hh
  · simp at e
  · simp only [Value.slice.injEq, Option.some.injEq, Addr.mk.injEq] at e
    rw [e.1.1]
    exact (hlt g (by rw [e.1.1, e.1.2.1]; rfl)).1
/-- What one value's call leaves. -/
def ValQ (w0 : World) (bv : Value) (D : Int) (l : List UInt8) (R : PRes) (w : World) (e : Ending) (w' : World) : Prop := match R with
  | .ok (h, kids, r) => ∃ tv v mv tw', e = .returned (.agg (vv h tv v mv)) ∧ HdP (Nw w.heap.size w') w' h tv mv ∧ VoP (Nw w.heap.size w') w' v kids ∧ PsW w0 bv D l w' tw' r ∧ Fr w0.heap.size w w'
  | .error x => Pan e x ∧ Below w0.heap.size w w'
theorem PsW.setOther {w0 w : World} {bv tw : Value} {D : Int} {l : List UInt8} {ts : M.Toks} (x : PsW w0 bv D l w tw ts) {g : Nat} (hg : w0.heap.size < g) (j : Nat) (u : Value) : PsW w0 bv D l (w.setCell ⟨g, j, none⟩ u) tw ts :=
  ⟨x.blk.other (by omega) j u, x.lo.setCell (p := ⟨g, j, none⟩) (Nat.le_of_lt hg) u, x.bs, x.tk, x.tb, x.ll⟩
theorem Fr.setCell {pb : Nat} {w w' : World} (h : Fr pb w w') {g : Nat} (hg : w.heap.size ≤ g) (hp : pb ≤ g) (j : Nat) (u : Value) : Fr pb w (w'.setCell ⟨g, j, none⟩ u) :=
  ⟨h.lo.setCell (p := ⟨g, j, none⟩) hp u, fun i hi hn => by rw [heap_setCell_other _ _ _ _ (by show i ≠ g; omega)]; exact h.oth i hi hn⟩
theorem info3 : (Tryz.prog.info? 24).map (·.size) = some 3 := by kernel_rfl
set_option maxRecDepth 100000 in
set_option maxHeartbeats 4000000 in
theorem jptext_any {w0 w : World} {bv tw : Value} {D : Int} {l : List UInt8} {fr te : Nat} {r : M.Toks} (x : PsW w0 bv D l w tw ((7, fr, te) :: r)) (hX : TabX w0) (ht : fr < te ∧ te ≤ l.length) (hl : l.length ≤ 20000) :
    Calls Tryz.prog 45 #[ptrP w0] w (ValQ w0 bv D l (.ok (textV l (7, fr, te), .nil, r)) w) := by
  have hlt := x.lt
  obtain ⟨b, off, cap, rfl, h1, h2, hb, d0, d1, d2, h3⟩ := x.first
  have b0 := Lib.hid ((Below.refl w.heap.size w).alloc (Nat.le_refl _) (.cells zv 27))
  have K0 := Lib.hid (BK.new 27 w zv)
  obtain ⟨W1, hW1⟩ : ∃ x, w.alloc (.cells zv 27) = x := ⟨_, rfl⟩
  rw [hW1] at b0 K0
  have HW1 := Lib.hid (show w.alloc (.cells #[.int .i64 0, .slice none 0 0, .bool false, .string ⟨#[]⟩, .string ⟨#[]⟩, .slice none 0 0, .int .i64 0, .int .i64 0, .slice none 0 0] 27) = W1 from hW1)
  have x1 := x.keep b0.out
  obtain ⟨b', off', cap', e', h1', h2', hb', d0', d1', d2', h3'⟩ := x1.first
  simp only [Value.slice.injEq, Option.some.injEq, Addr.mk.injEq, and_true, true_and] at e'
  obtain ⟨⟨rfl, rfl⟩, rfl⟩ := e'
  obtain ⟨c0, c1, c2⟩ := x1.cells
  have d0'' : W1.cell? ⟨b, off, none⟩ = some (.int .i64 7) := d0'
  have q2 : (0 : Int) < (r.length : Int) + 1 := by omega
  have b1 := Lib.hid ((Below.refl W1.heap.size W1).alloc (Nat.le_refl _) (.cells #[.int .i64 7, .int .i64 (fr : Int), .int .i64 (te : Int)] 51))
  have K1 := Lib.hid (BK.new 51 W1 #[.int .i64 7, .int .i64 (fr : Int), .int .i64 (te : Int)])
  obtain ⟨W2, hW2⟩ : ∃ x, W1.alloc (.cells #[.int .i64 7, .int .i64 (fr : Int), .int .i64 (te : Int)] 51) = x := ⟨_, rfl⟩
  rw [hW2] at b1 K1
  have HW2 := Lib.hid hW2
  have x2 := x1.keep b1.out
  have SA0 := single_any 3 7 (by decide) x2
  have hR : takeP l.length 7 ((7, fr, te) :: r) = .ok ((7, fr, te), r) := by simp [takeP]
  unfold SingQ at SA0
  rw [hR] at SA0
  dsimp only at SA0
  unfold ValQ
  dsimp only
  unfold ptrP at SA0 ⊢
  have SA : Hid (Calls Tryz.prog 47 #[.pointer (some ⟨w0.heap.size, 0, none⟩), .int .i64 3, .int .i64 7] W2 fun e w' => (∃ tw, PsW w0 bv D l w' tw r) ∧ e = .returned (.agg #[.int .i64 3, .slice none 0 0, .bool false, .string (bytes []), .string (bytes []), .slice none 0 0, .int .i64 (fr : Int), .int .i64 0, .slice none 0 0]) ∧ Fr w0.heap.size W2 w') := Lib.hid SA0
  have X2 := Lib.hid x2
  have hl1 := K0.out.lt
  have hl2 := K1.out.lt
  have hs1 := b0.out.size
  have hs2 := b1.out.size
  clear hW1 hW2 x1 h3 h3' d0 d1 d2 d0' hR h1' h2' hb' SA0 x2 x
  go_enter Tryz.func45, Tryz.ntmps45
  go_upto_region 1 with fail
  rw [HW1.out]
  go_upto_region 2 with fail
  rw [HW2.out]
  go_wp2_with fail
  refine SA.out.mono ?_
  rintro e w3 ⟨⟨tw3, x3⟩, rfl, f3⟩
  have K03 := Lib.hid (K0.out.frame ((f3.oth _ (by omega) (by omega)).trans (b1.out.block _ (by omega))))
  have K13 := Lib.hid (K1.out.frame (f3.oth _ hl2 (by omega)))
  have hs3 := f3.lo.size
  have b3 := Lib.hid ((Below.refl w3.heap.size w3).alloc (Nat.le_refl _) (.cells #[.int .i64 3, .slice none 0 0, .bool false, .string (bytes []), .string (bytes []), .slice none 0 0, .int .i64 (fr : Int), .int .i64 0, .slice none 0 0] 27))
  have K3 := Lib.hid (BK.new 27 w3 #[.int .i64 3, .slice none 0 0, .bool false, .string (bytes []), .string (bytes []), .slice none 0 0, .int .i64 (fr : Int), .int .i64 0, .slice none 0 0])
  obtain ⟨W3, hW3⟩ : ∃ x, w3.alloc (.cells #[.int .i64 3, .slice none 0 0, .bool false, .string (bytes []), .string (bytes []), .slice none 0 0, .int .i64 (fr : Int), .int .i64 0, .slice none 0 0] 27) = x := ⟨_, rfl⟩
  rw [hW3] at b3 K3
  have HW3 := Lib.hid hW3
  clear hW3
  go_upto_region 3 with fail
  rw [HW3.out]
  obtain ⟨ba, bcap, hbv, g1, g2, g3⟩ := x3.bs
  obtain ⟨bb, boff, rfl, hbb, hbc⟩ := g3 (by omega)
  obtain ⟨n, hn⟩ : ∃ n, l.length = n := ⟨_, rfl⟩
  rw [hn] at hbv g1
  subst hbv
  have hx3bs : Bs w0 (.slice (some ⟨bb, boff, none⟩) n bcap) l := x3.bs
  have hpt := bs_part hx3bs fr te (by omega) (by omega)
  have ttb : (l.drop fr).take (te - fr) = tokB l (7, fr, te) := rfl
  rw [ttb] at hpt
  have tbl : (tokB l (7, fr, te)).length ≤ 20000 := by unfold tokB; simp only [List.length_take, List.length_drop]; omega
  have BD := Lib.hid (x3.lo.trans (((b3.out.trans ((Below.refl W3.heap.size W3).drew.mono b3.out.size))).mono (by have := x3.lo.size; omega)))
  have D3 := Lib.hid ((Below.refl W3.heap.size W3).drew)
  refine wp_region_noPanic ?_
  have KD := Lib.hid ((K3.out.keep (D3.out)))
  have KD0 := Lib.hid ((K03.out.keep b3.out).keep D3.out)
  have KD1 := Lib.hid ((K13.out.keep b3.out).keep D3.out)
  have xD := Lib.hid ((x3.keep b3.out).keep D3.out)
  have UA0 := unitsz_any _ _ W3.drew (hX.keep BD.out) (hpt.keep BD.out) (by omega)
  have UA : Hid (Calls Tryz.prog 67 #[.slice (some ⟨bb, boff + fr, none⟩) (te - fr) (bcap - fr)] W3.drew fun e w' => ∃ tv b, e = .returned (.tuple #[tv, .bool b]) ∧ IsP (Nw W3.drew.heap.size w') w' tv (txtL l (7, fr, te)) ∧ Below W3.drew.heap.size W3.drew w') := by
    refine Lib.hid (UA0.mono ?_)
    intro e w' h
    unfold txtL
    cases hu : unitsV (tokB l (7, fr, te)) with
    | none => rw [hu] at h; exact ⟨_, _, h.1, isP_nil _ _, h.2⟩
    | some us => rw [hu] at h; obtain ⟨v', h1, h2, h3⟩ := h; exact ⟨_, _, h1, ownI_isP h2, h3⟩
  clear UA0
  have SS : ∀ V : World, PsW w0 (.slice (some ⟨bb, boff, none⟩) n bcap) D l V tw3 r → BK 51 V W1.heap.size #[.int .i64 7, .int .i64 (fr : Int), .int .i64 (te : Int)] → (V.cell? ⟨w0.heap.size, 0, none⟩ = some (.slice (some ⟨bb, boff, none⟩) n bcap) ∧ V.cell? ⟨W1.heap.size, 1, none⟩ = some (.int .i64 (fr : Int)) ∧ V.cell? ⟨W1.heap.size, 2, none⟩ = some (.int .i64 (te : Int))) := fun V h k => ⟨h.cells.1, k.cell 1, k.cell 2⟩
  refine wp_region_to 14 (S := fun V => (V.cell? ⟨w0.heap.size, 0, none⟩ = some (.slice (some ⟨bb, boff, none⟩) n bcap) ∧ V.cell? ⟨W1.heap.size, 1, none⟩ = some (.int .i64 (fr : Int)) ∧ V.cell? ⟨W1.heap.size, 2, none⟩ = some (.int .i64 (te : Int)))) (by kernel_rfl) (SS _ xD.out KD1.out) (fun hS => ?_)
  have i1 : (fr : Int) ≤ te := by omega
  have i2 : (te : Int) ≤ n := by omega
  have i3 : (n : Int) ≤ bcap := by omega
  have i4 : ¬ bcap - fr = 0 := by omega
  have i5 : (te : Int) ≤ bcap := by omega
  obtain ⟨WD, hWD⟩ : ∃ x, W3.drew = x := ⟨_, rfl⟩
  rw [hWD] at UA KD KD0 KD1 xD hS BD D3 ⊢
  clear hWD
  refine dtp 0 ?_
  refine dtp 1 ?_
  refine dtp 2 ?_
  refine dtk 3 ?_
  refine dtp 4 ?_
  refine dtk 5 ?_
  refine dtp 6 ?_
  refine dtk 7 ?_
  refine dtp (v := .slice (some ⟨bb, boff + fr, none⟩) (te - fr) (bcap - fr)) 8 (hy := Or.inl ⟨by rfl, by intro V hSV; go_simp; omega⟩) ?_
  refine AnyTo.ready (rs := [9]) (by kernel_rfl) (by simp) ?_
  refine ReadyTo.cons rfl (fun K hK => ?_) ReadyTo.nil
  go_simp
  refine UA.out.mono ?_
  rintro e w4 ⟨tv, ub, rfl, ip, hb4⟩
  refine hK.out _ _ (SS _ (xD.out.keep hb4) (KD1.out.keep hb4)) (fun hS => ?_)
  clear hK K
  have K4 := Lib.hid (KD.out.keep hb4)
  have K04 := Lib.hid (KD0.out.keep hb4)
  have x4 := Lib.hid (xD.out.keep hb4)
  refine dtp 10 ?_
  refine dtp 11 ?_
  refine dtp 12 ?_
  refine dtp 13 ?_
  obtain ⟨ta, tcap, htv⟩ := ip.slice
  have cc : w4.cell? ⟨w3.heap.size, 1, none⟩ = some (.slice none 0 0) := K4.out.cell 1
  have zz : w4.frozen? ⟨w3.heap.size, 1, none⟩ = false := frozen_of_row _ _ _ _ _ K4.out
  refine AnyTo.ready (rs := [14]) (by kernel_rfl) (by simp) ?_
  refine ReadyTo.last rfl (by kernel_rfl) (fun K hK => ?_) ReadyTo.nil
  go_simp
  refine hK.out _ _ ?_
  clear hK K
  refine AnyTo.done (by kernel_rfl) ?_ _
  refine NoPanic.normal ?_
  have K5 : VB (w4.setCell ⟨w3.heap.size, 1, none⟩ tv) w3.heap.size (textV l (7, fr, te)) tv nilV nilV := K4.out.setCell 1 tv
  have K05 := K04.out.other (c := w3.heap.size) (by omega) 1 tv
  have x5 := x4.out.setOther (g := w3.heap.size) (by omega) 1 tv
  have F1 := ((Fr.of b0.out (Nat.le_of_lt hlt)).trans (Fr.of b1.out (by omega))).trans f3
  have F2 := (F1.trans (Fr.of b3.out (by omega))).trans (Fr.of D3.out (by have := b3.out.size; omega))
  have F4 := F2.trans (Fr.of hb4 (by have := b3.out.size; have := D3.out.size; omega))
  have F5 := F4.setCell (g := w3.heap.size) (by omega) (by omega) 1 tv
  have hz4 := hb4.size
  have hz3 := b3.out.size
  have hzD := D3.out.size
  have hzw : w3.heap.size < WD.heap.size := KD.out.lt
  have t1 := ip.one
  obtain ⟨W5, hW5⟩ : ∃ x, w4.setCell ⟨w3.heap.size, 1, none⟩ tv = x := ⟨_, rfl⟩
  have ip5 : IsP (Nw WD.heap.size W5) W5 tv (txtL l (7, fr, te)) := by
    rw [← hW5]
    refine (ip.keep (w' := w4.setCell ⟨w3.heap.size, 1, none⟩ tv) (fun b hb => heap_setCell_other _ _ _ _ (by show b ≠ w3.heap.size; have := hb.1; omega))).mono (fun b hb => ⟨hb.1, by rw [World.size_setCell]; exact hb.2⟩)
  have hs5 : W5.heap.size = w4.heap.size := by rw [← hW5, World.size_setCell]
  rw [hW5] at K5 K05 x5 F5
  have HS5 := Lib.hid hW5
  have VV := Lib.hid K5
  have VK := Lib.hid K05
  rw [htv] at HS5
  clear hW5 htv ip hb4 K5 K05 cc zz hS
  rw [HS5.out]
  have hVx : vv (textV l (7, fr, te)) tv nilV nilV = #[.int .i64 3, tv, .bool false, .string (bytes []), .string (bytes []), .slice none 0 0, .int .i64 (fr : Int), .int .i64 0, .slice none 0 0] := rfl
  go_wp2_with (first | (refine wpl_ldV rfl _ rfl w3.heap.size 0 (textV l (7, fr, te)) tv nilV nilV rfl (VB.range VV.out) ?_) | (refine wpl_stV rfl _ _ rfl w.heap.size zv (textV l (7, fr, te)) tv nilV nilV rfl rfl VK.out rfl t1 rfl rfl ?_))
  go_wp2
  refine bodyPost_ret (res_bk Tryz.underlying27 rfl infoV1 rfl _ _ w.heap.size (vvl (textV l (7, fr, te)) tv nilV nilV) rfl (BK.set VK.out _) rfl) rfl ⟨tv, nilV, nilV, tw3, rfl, ⟨by simp [textV], by simp [textV], ?_, isP_nil _ _⟩, voP_nil _ _, x5.setRow hlt _, F5.setRow (Nat.le_refl _) (Nat.le_of_lt hlt) _⟩
  exact (ip5.keep (fun b hb => setRow_other _ _ _ _ (by have := hb.1; omega))).mono (fun b hb => ⟨by have := hb.1; omega, Nat.lt_of_lt_of_le hb.2 (below_setRowK (Below.refl 0 W5) (Nat.zero_le _) _).size⟩)
end Go.Proofs.YtbfnlgmhfhaglaaGreatDoor
