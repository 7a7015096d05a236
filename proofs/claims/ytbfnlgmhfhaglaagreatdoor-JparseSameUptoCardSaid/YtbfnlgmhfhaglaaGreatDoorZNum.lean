/- jparse: number. -/
import Derived.Test.YtbfnlgmhfhaglaaGreatDoorZTxt
namespace Go.Proofs.YtbfnlgmhfhaglaaGreatDoor
open Go.RowKit
set_option linter.unusedVariables false
set_option linter.unusedSimpArgs false

theorem readN_len (l : List UInt8) (hl : l.length ≤ 90000) : (M.readN l).1.2.1.length ≤ maxLen ∧ (M.readN l).1.2.2.length ≤ maxLen := by
  unfold M.readN
  cases h : (M.divW l).2 with
  | false => simp
  | true =>
    rw [if_pos rfl]
    have hp : M.divW l = ((M.divW l).1, true) := by rw [← h]
    have k := divW_dig l _ hp
    obtain ⟨p, hpp⟩ : ∃ p, (M.divW l).1 = p := ⟨_, rfl⟩
    rw [hpp] at k ⊢
    simp only
    unfold M.norm
    by_cases h0 : M.rstrip (M.strip (p.2.1 ++ p.2.2.1)) = []
    · rw [if_pos h0]; simp
    · rw [if_neg h0]
      have a1 := M.rstrip_len (M.strip (p.2.1 ++ p.2.2.1))
      have a2 := M.strip_len2 (p.2.1 ++ p.2.2.1)
      have a3 := k.2.2.1
      have a4 := M.dval_lt _ k.2.1
      have a5 := k.2.2.2
      refine ⟨by show (M.rstrip (M.strip (p.2.1 ++ p.2.2.1))).length ≤ _; unfold maxLen; omega, ?_⟩
      have a6 : p.2.2.1.length ≤ l.length := by rw [List.length_append] at a3; omega
      have hz : ((M.expV p - p.2.2.1.length) + ((M.strip (p.2.1 ++ p.2.2.1)).length - (M.rstrip (M.strip (p.2.1 ++ p.2.2.1))).length - (0 : Int))).natAbs < 10 ^ (l.length + 6) := by
        have e1 : (M.expV p).natAbs = M.dval p.2.2.2.2.2 := by unfold M.expV; split <;> omega
        have e2 : (10 : Nat) ^ p.2.2.2.2.2.length ≤ 10 ^ l.length := Nat.pow_le_pow_right (by decide) (by omega)
        have e3 : (10 : Nat) ^ (l.length + 6) = 10 ^ l.length * 1000000 := by rw [Nat.pow_add]
        have e4 : 1 ≤ (10 : Nat) ^ l.length := Nat.pos_of_ne_zero (by simp)
        rw [e3]
        generalize (10 : Nat) ^ l.length = T at *
        generalize (10 : Nat) ^ p.2.2.2.2.2.length = U at *
        omega
      have := M.txt_len _ _ (by omega) hz
      show (M.txt _).length ≤ _
      unfold maxLen
      omega
theorem PsW.setMid {w0 w : World} {bv tw : Value} {D : Int} {l : List UInt8} {ts : M.Toks} (x : PsW w0 bv D l w tw ts) {g : Nat} (hg : w0.heap.size < g) (o : Nat) (vs : List Value) : PsW w0 bv D l (w.setCells g o vs) tw ts :=
  ⟨x.blk.frame (setCells_other _ _ _ _ _ (by omega)), below_setCells x.lo (Nat.le_of_lt hg) vs o, x.bs, x.tk, x.tb, x.ll⟩
theorem Fr.setMid {pb : Nat} {w w' : World} (h : Fr pb w w') {g : Nat} (hg : w.heap.size ≤ g) (hp : pb ≤ g) (o : Nat) (vs : List Value) : Fr pb w (w'.setCells g o vs) :=
  ⟨below_setCells h.lo hp vs o, fun i hi hn => by rw [setCells_other _ _ _ _ _ (by omega)]; exact h.oth i hi hn⟩
set_option maxRecDepth 100000 in
set_option maxHeartbeats 4000000 in
theorem jpnum_any {w0 w : World} {bv tw : Value} {D : Int} {l : List UInt8} {fr te : Nat} {r : M.Toks} (x : PsW w0 bv D l w tw ((8, fr, te) :: r)) (hX : TabX w0) (ht : fr < te ∧ te ≤ l.length) (hl : l.length ≤ 20000) :
    Calls Tryz.prog 46 #[ptrP w0] w (ValQ w0 bv D l (.ok (numbV l (8, fr, te), .nil, r)) w) := by
  have hlt := x.lt
  obtain ⟨b, off, cap, rfl, h1, h2, hb, d0, d1, d2, h3⟩ := x.first
  have b0 := Lib.hid ((Below.refl w.heap.size w).alloc (Nat.le_refl _) (.cells zv 27))
  have K0 := Lib.hid (BK.new 27 w zv)
  obtain ⟨W1, hW1⟩ : ∃ x, w.alloc (.cells zv 27) = x := ⟨_, rfl⟩
  rw [hW1] at b0 K0
  have HW1 := Lib.hid (show w.alloc (.cells #[.int .i64 0, .slice none 0 0, .bool false, .string ⟨#[]⟩, .string ⟨#[]⟩, .slice none 0 0, .int .i64 0, .int .i64 0, .slice none 0 0] 27) = W1 from hW1)
  have x1 := x.keep b0.out
  obtain ⟨b', off', cap', e', h1', h2', hb', d0', d1', d2', h3'⟩ := x1.first
  simp only [Value.slice.injEq, Option.some.injEq, Addr.mk.injEq, and_true, true_and] at e'
  obtain ⟨⟨rfl, rfl⟩, rfl⟩ := e'
  obtain ⟨c0, c1, c2⟩ := x1.cells
  have d0'' : W1.cell? ⟨b, off, none⟩ = some (.int .i64 8) := d0'
  have q2 : (0 : Int) < (r.length : Int) + 1 := by omega
  have b1 := Lib.hid ((Below.refl W1.heap.size W1).alloc (Nat.le_refl _) (.cells #[.int .i64 8, .int .i64 (fr : Int), .int .i64 (te : Int)] 51))
  have K1 := Lib.hid (BK.new 51 W1 #[.int .i64 8, .int .i64 (fr : Int), .int .i64 (te : Int)])
  obtain ⟨W2, hW2⟩ : ∃ x, W1.alloc (.cells #[.int .i64 8, .int .i64 (fr : Int), .int .i64 (te : Int)] 51) = x := ⟨_, rfl⟩
  rw [hW2] at b1 K1
  have HW2 := Lib.hid hW2
  have x2 := x1.keep b1.out
  have SA0 := single_any 4 8 (by decide) x2
  have hR : takeP l.length 8 ((8, fr, te) :: r) = .ok ((8, fr, te), r) := by simp [takeP]
  unfold SingQ at SA0
  rw [hR] at SA0
  dsimp only at SA0
  unfold ValQ
  dsimp only
  unfold ptrP at SA0 ⊢
  have SA : Hid (Calls Tryz.prog 47 #[.pointer (some ⟨w0.heap.size, 0, none⟩), .int .i64 4, .int .i64 8] W2 fun e w' => (∃ tw, PsW w0 bv D l w' tw r) ∧ e = .returned (.agg #[.int .i64 4, .slice none 0 0, .bool false, .string (bytes []), .string (bytes []), .slice none 0 0, .int .i64 (fr : Int), .int .i64 0, .slice none 0 0]) ∧ Fr w0.heap.size W2 w') := Lib.hid SA0
  have X2 := Lib.hid x2
  have hl1 := K0.out.lt
  have hl2 := K1.out.lt
  have hs1 := b0.out.size
  have hs2 := b1.out.size
  clear hW1 hW2 x1 h3 h3' d0 d1 d2 d0' hR h1' h2' hb' SA0 x2 x
  go_enter Tryz.func46, Tryz.ntmps46
  go_upto_region 1 with fail
  rw [HW1.out]
  go_upto_region 2 with fail
  rw [HW2.out]
  go_wp2_with fail
  refine SA.out.mono ?_
  rintro e w3 ⟨⟨tw3, x3⟩, rfl, f3⟩
  have K03 := Lib.hid (K0.out.frame ((f3.oth _ (by omega) (by omega)).trans (b1.out.block _ (by omega))))
  have K13 := Lib.hid (K1.out.frame (f3.oth _ hl2 (by omega)))
  have hs3 := f3.lo.size
  have b3 := Lib.hid ((Below.refl w3.heap.size w3).alloc (Nat.le_refl _) (.cells #[.int .i64 4, .slice none 0 0, .bool false, .string (bytes []), .string (bytes []), .slice none 0 0, .int .i64 (fr : Int), .int .i64 0, .slice none 0 0] 27))
  have K3 := Lib.hid (BK.new 27 w3 #[.int .i64 4, .slice none 0 0, .bool false, .string (bytes []), .string (bytes []), .slice none 0 0, .int .i64 (fr : Int), .int .i64 0, .slice none 0 0])
  obtain ⟨W3, hW3⟩ : ∃ x, w3.alloc (.cells #[.int .i64 4, .slice none 0 0, .bool false, .string (bytes []), .string (bytes []), .slice none 0 0, .int .i64 (fr : Int), .int .i64 0, .slice none 0 0] 27) = x := ⟨_, rfl⟩
  rw [hW3] at b3 K3
  have HW3 := Lib.hid hW3
  clear hW3
  go_upto_region 3 with fail
  rw [HW3.out]
  obtain ⟨ba, bcap, hbv, g1, g2, g3⟩ := x3.bs
  obtain ⟨bb, boff, rfl, hbb, hbc⟩ := g3 (by omega)
  obtain ⟨n, hn⟩ : ∃ n, l.length = n := ⟨_, rfl⟩
  rw [hn] at hbv g1
  subst hbv
  have hx3bs : Bs w0 (.slice (some ⟨bb, boff, none⟩) n bcap) l := x3.bs
  have hpt := bs_part hx3bs fr te (by omega) (by omega)
  have ttb : (l.drop fr).take (te - fr) = tokB l (8, fr, te) := rfl
  rw [ttb] at hpt
  have tbl : (tokB l (8, fr, te)).length ≤ 20000 := by unfold tokB; simp only [List.length_take, List.length_drop]; omega
  have BD := Lib.hid (x3.lo.trans (((b3.out.trans ((Below.refl W3.heap.size W3).drew.mono b3.out.size))).mono (by have := x3.lo.size; omega)))
  have D3 := Lib.hid ((Below.refl W3.heap.size W3).drew)
  refine wp_region_noPanic ?_
  have KD := Lib.hid ((K3.out.keep (D3.out)))
  have KD0 := Lib.hid ((K03.out.keep b3.out).keep D3.out)
  have KD1 := Lib.hid ((K13.out.keep b3.out).keep D3.out)
  have xD := Lib.hid ((x3.keep b3.out).keep D3.out)
  obtain ⟨TB, hTB⟩ : ∃ x, tokB l (8, fr, te) = x := ⟨_, rfl⟩
  rw [hTB] at hpt tbl
  have UA0 := read_any TB (M.readN TB).1 (M.readN TB).2 W3.drew (hX.keep BD.out).tab (by omega) rfl
  have hNl := readN_len TB (by omega)
  have hNV : numbV l (8, fr, te) = ⟨4, [], (M.readN TB).1.1, (M.readN TB).1.2.1, (M.readN TB).1.2.2, fr, 0, []⟩ := by unfold numbV; rw [hTB]
  obtain ⟨⟨⟨ng, dg, ex⟩, okr⟩, hRN⟩ : ∃ x, M.readN TB = x := ⟨_, rfl⟩
  rw [hRN] at UA0 hNl hNV
  simp only at UA0 hNl hNV
  have UA := Lib.hid UA0
  unfold numV at UA
  simp only at UA
  have hcv : ∀ V, Bs V (.slice (some ⟨bb, boff + fr, none⟩) (te - fr) (bcap - fr)) TB → (convert 37 9 (.slice (some ⟨bb, boff + fr, none⟩) (te - fr) (bcap - fr))).run Tryz.prog V = .ok (.string (bytes TB)) V := fun V h => conv_bs h
  clear UA0
  have SS : ∀ V : World, PsW w0 (.slice (some ⟨bb, boff, none⟩) n bcap) D l V tw3 r → BK 51 V W1.heap.size #[.int .i64 8, .int .i64 (fr : Int), .int .i64 (te : Int)] → Below w0.heap.size w0 V → (V.cell? ⟨w0.heap.size, 0, none⟩ = some (.slice (some ⟨bb, boff, none⟩) n bcap) ∧ V.cell? ⟨W1.heap.size, 1, none⟩ = some (.int .i64 (fr : Int)) ∧ V.cell? ⟨W1.heap.size, 2, none⟩ = some (.int .i64 (te : Int)) ∧ Bs V (.slice (some ⟨bb, boff + fr, none⟩) (te - fr) (bcap - fr)) TB) := fun V h k lo => ⟨h.cells.1, k.cell 1, k.cell 2, hpt.keep lo⟩
  refine wp_region_to 15 (S := fun V => (V.cell? ⟨w0.heap.size, 0, none⟩ = some (.slice (some ⟨bb, boff, none⟩) n bcap) ∧ V.cell? ⟨W1.heap.size, 1, none⟩ = some (.int .i64 (fr : Int)) ∧ V.cell? ⟨W1.heap.size, 2, none⟩ = some (.int .i64 (te : Int)) ∧ Bs V (.slice (some ⟨bb, boff + fr, none⟩) (te - fr) (bcap - fr)) TB)) (by kernel_rfl) (SS _ xD.out KD1.out BD.out) (fun hS => ?_)
  have i1 : (fr : Int) ≤ te := by omega
  have i2 : (te : Int) ≤ n := by omega
  have i3 : (n : Int) ≤ bcap := by omega
  have i4 : ¬ bcap - fr = 0 := by omega
  have i5 : (te : Int) ≤ bcap := by omega
  obtain ⟨WD, hWD⟩ : ∃ x, W3.drew = x := ⟨_, rfl⟩
  rw [hWD] at UA KD KD0 KD1 xD hS BD D3 ⊢
  clear hWD
  refine dtp 0 ?_
  refine dtp 1 ?_
  refine dtp 2 ?_
  refine dtk 3 ?_
  refine dtp 4 ?_
  refine dtk 5 ?_
  refine dtp 6 ?_
  refine dtk 7 ?_
  refine dtp (v := .slice (some ⟨bb, boff + fr, none⟩) (te - fr) (bcap - fr)) 8 (hy := Or.inl ⟨by rfl, by intro V hSV; go_simp; omega⟩) ?_
  refine dtk (v := .string (bytes TB)) 9 (hy := Or.inl ⟨by rfl, by intro V hSV; have hc := hcv V hSV.2.2.2; go_simp⟩) ?_
  refine AnyTo.ready (rs := [10]) (by kernel_rfl) (by simp) ?_
  refine ReadyTo.cons rfl (fun K hK => ?_) ReadyTo.nil
  go_simp
  refine UA.out.mono ?_
  rintro e w4 ⟨rfl, hb4⟩
  refine hK.out _ _ (SS _ (xD.out.keep hb4) (KD1.out.keep hb4) (BD.out.trans (hb4.mono BD.out.size))) (fun hS => ?_)
  clear hK K
  have K4 := Lib.hid (KD.out.keep hb4)
  have K04 := Lib.hid (KD0.out.keep hb4)
  have x4 := Lib.hid (xD.out.keep hb4)
  refine dtp 11 ?_
  refine dtp 12 ?_
  refine dtp 13 ?_
  refine dtp 14 ?_
  refine AnyTo.ready (rs := [15]) (by kernel_rfl) (by simp) ?_
  refine ReadyTo.last rfl (by kernel_rfl) (fun K hK => ?_) ReadyTo.nil
  rw [if_pos (by rfl)]
  refine wp_store_mid 24 _ _ rfl w3.heap.size 2 #[.bool ng, .string (bytes dg), .string (bytes ex)] rfl rfl (K4.out.there 2 3 (show 2 + 3 ≤ 9 by decide)) info3 (by simp [Value.oneCell']) ?_
  refine hK.out _ _ ?_
  clear hK K
  refine AnyTo.done (by kernel_rfl) ?_ _
  refine NoPanic.normal ?_
  have K5 : VB (w4.setCells w3.heap.size 2 [.bool ng, .string (bytes dg), .string (bytes ex)]) w3.heap.size (numbV l (8, fr, te)) nilV nilV nilV := by rw [hNV]; exact K4.out.setCells [.bool ng, .string (bytes dg), .string (bytes ex)] _ _ 2
  have K05 := K04.out.frame (setCells_other w3.heap.size [.bool ng, .string (bytes dg), .string (bytes ex)] 2 w4 w.heap.size (by omega))
  have x5 := x4.out.setMid (g := w3.heap.size) (by omega) 2 [.bool ng, .string (bytes dg), .string (bytes ex)]
  have F1 := ((Fr.of b0.out (Nat.le_of_lt hlt)).trans (Fr.of b1.out (by omega))).trans f3
  have F2 := (F1.trans (Fr.of b3.out (by omega))).trans (Fr.of D3.out (by have := b3.out.size; omega))
  have F4 := F2.trans (Fr.of hb4 (by have := b3.out.size; have := D3.out.size; omega))
  have F5 := F4.setMid (g := w3.heap.size) (by omega) (by omega) 2 [.bool ng, .string (bytes dg), .string (bytes ex)]
  have hz4 := hb4.size
  have hz3 := b3.out.size
  have hzD := D3.out.size
  have hzw : w3.heap.size < WD.heap.size := KD.out.lt
  obtain ⟨W5, hW5⟩ : ∃ x, w4.setCells w3.heap.size 2 [.bool ng, .string (bytes dg), .string (bytes ex)] = x := ⟨_, rfl⟩
  rw [hW5] at K5 K05 x5 F5
  have HS5 := Lib.hid hW5
  have VV := Lib.hid K5
  have VK := Lib.hid K05
  clear hW5 hb4 K5 K05 hS
  rw [HS5.out]
  have hVx : vv (numbV l (8, fr, te)) nilV nilV nilV = #[.int .i64 4, .slice none 0 0, .bool ng, .string (bytes dg), .string (bytes ex), .slice none 0 0, .int .i64 (fr : Int), .int .i64 0, .slice none 0 0] := by rw [hNV]; rfl
  go_wp2_with (first | (refine wpl_ldV rfl _ rfl w3.heap.size 0 (numbV l (8, fr, te)) nilV nilV nilV rfl (VB.range VV.out) ?_) | (refine wpl_stV rfl _ _ rfl w.heap.size zv (numbV l (8, fr, te)) nilV nilV nilV rfl rfl VK.out rfl rfl rfl rfl ?_))
  go_wp2
  refine bodyPost_ret (res_bk Tryz.underlying27 rfl infoV1 rfl _ _ w.heap.size (vvl (numbV l (8, fr, te)) nilV nilV nilV) rfl (BK.set VK.out _) rfl) rfl ⟨nilV, nilV, nilV, tw3, rfl, ⟨by rw [hNV]; exact hNl.1, by rw [hNV]; exact hNl.2, by rw [hNV]; exact isP_nil _ _, by rw [hNV]; exact isP_nil _ _⟩, voP_nil _ _, x5.setRow hlt _, F5.setRow (Nat.le_refl _) (Nat.le_of_lt hlt) _⟩
end Go.Proofs.YtbfnlgmhfhaglaaGreatDoor
