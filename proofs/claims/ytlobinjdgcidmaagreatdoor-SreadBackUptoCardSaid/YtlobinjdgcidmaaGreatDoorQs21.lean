/- Texts of ours in one: ZNum ZLst. -/
import Derived.Test.YtlobinjdgcidmaaGreatDoorQs20
import Derived.Test.YtlobinjdgcidmaaGreatDoorQs19
/- jparse: number. -/
namespace Go.Proofs.YtlobinjdgcidmaaGreatDoor
open Go.RowKit
set_option linter.unusedVariables false
set_option linter.unusedSimpArgs false

theorem readN_len (l : List UInt8) (hl : l.length ≤ 90000) : (M.readN l).1.2.1.length ≤ maxLen ∧ (M.readN l).1.2.2.length ≤ maxLen := by
  unfold M.readN
  cases h : (M.divW l).2 with
  | false => simp
  | true =>
    rw [if_pos rfl]
    have hp : M.divW l = ((M.divW l).1, true) := by rw [← h]
    have k := divW_dig l _ hp
    obtain ⟨p, hpp⟩ : ∃ p, (M.divW l).1 = p := ⟨_, rfl⟩
    rw [hpp] at k ⊢
    simp only
    unfold M.norm
    by_cases h0 : M.rstrip (M.strip (p.2.1 ++ p.2.2.1)) = []
    · rw [if_pos h0]; simp
    · rw [if_neg h0]
      have a1 := M.rstrip_len (M.strip (p.2.1 ++ p.2.2.1))
      have a2 := M.strip_len2 (p.2.1 ++ p.2.2.1)
      have a3 := k.2.2.1
      have a4 := M.dval_lt _ k.2.1
      have a5 := k.2.2.2
      refine ⟨by show (M.rstrip (M.strip (p.2.1 ++ p.2.2.1))).length ≤ _; unfold maxLen; omega, ?_⟩
      have a6 : p.2.2.1.length ≤ l.length := by rw [List.length_append] at a3; omega
      have hz : ((M.expV p - p.2.2.1.length) + ((M.strip (p.2.1 ++ p.2.2.1)).length - (M.rstrip (M.strip (p.2.1 ++ p.2.2.1))).length - (0 : Int))).natAbs < 10 ^ (l.length + 6) := by
        have e1 : (M.expV p).natAbs = M.dval p.2.2.2.2.2 := by unfold M.expV; split <;> omega
        have e2 : (10 : Nat) ^ p.2.2.2.2.2.length ≤ 10 ^ l.length := Nat.pow_le_pow_right (by decide) (by omega)
        have e3 : (10 : Nat) ^ (l.length + 6) = 10 ^ l.length * 1000000 := by rw [Nat.pow_add]
        have e4 : 1 ≤ (10 : Nat) ^ l.length := Nat.pos_of_ne_zero (by simp)
        rw [e3]
        generalize (10 : Nat) ^ l.length = T at *
        generalize (10 : Nat) ^ p.2.2.2.2.2.length = U at *
        omega
      have := M.txt_len _ _ (by omega) hz
      show (M.txt _).length ≤ _
      unfold maxLen
      omega
theorem PsW.setMid {w0 w : World} {bv tw : Value} {D : Int} {l : List UInt8} {ts : M.Toks} (x : PsW w0 bv D l w tw ts) {g : Nat} (hg : w0.heap.size < g) (o : Nat) (vs : List Value) : PsW w0 bv D l (w.setCells g o vs) tw ts :=
  ⟨x.blk.frame (setCells_other _ _ _ _ _ (by omega)), below_setCells x.lo (Nat.le_of_lt hg) vs o, x.bs, x.tk, x.tb, x.ll⟩
theorem Fr.setMid {pb : Nat} {w w' : World} (h : Fr pb w w') {g : Nat} (hg : w.heap.size ≤ g) (hp : pb ≤ g) (o : Nat) (vs : List Value) : Fr pb w (w'.setCells g o vs) :=
  ⟨below_setCells h.lo hp vs o, fun i hi hn => by rw [setCells_other _ _ _ _ _ (by omega)]; exact h.oth i hi hn⟩
set_option maxRecDepth 100000 in
set_option maxHeartbeats 4000000 in
theorem jpnum_any {w0 w : World} {bv tw : Value} {D : Int} {l : List UInt8} {fr te : Nat} {r : M.Toks} (x : PsW w0 bv D l w tw ((8, fr, te) :: r)) (hX : TabX w0) (ht : fr < te ∧ te ≤ l.length) (hl : l.length ≤ 20000) :
    Calls Tryz.prog 50 #[ptrP w0] w (ValQ w0 bv D l (.ok (numbV l (8, fr, te), .nil, r)) w) := by
  have hlt := x.lt
  obtain ⟨b, off, cap, rfl, h1, h2, hb, d0, d1, d2, h3⟩ := x.first
  have b0 := Lib.hid ((Below.refl w.heap.size w).alloc (Nat.le_refl _) (.cells zv 48))
  have K0 := Lib.hid (BK.new 48 w zv)
  obtain ⟨W1, hW1⟩ : ∃ x, w.alloc (.cells zv 48) = x := ⟨_, rfl⟩
  rw [hW1] at b0 K0
  have HW1 := Lib.hid (show w.alloc (.cells #[.int .i64 0, .slice none 0 0, .bool false, .string ⟨#[]⟩, .string ⟨#[]⟩, .slice none 0 0, .int .i64 0, .int .i64 0, .slice none 0 0] 48) = W1 from hW1)
  have x1 := x.keep b0.out
  obtain ⟨b', off', cap', e', h1', h2', hb', d0', d1', d2', h3'⟩ := x1.first
  simp only [Value.slice.injEq, Option.some.injEq, Addr.mk.injEq, and_true, true_and] at e'
  obtain ⟨⟨rfl, rfl⟩, rfl⟩ := e'
  obtain ⟨c0, c1, c2⟩ := x1.cells
  have d0'' : W1.cell? ⟨b, off, none⟩ = some (.int .i64 8) := d0'
  have q2 : (0 : Int) < (r.length : Int) + 1 := by omega
  have b1 := Lib.hid ((Below.refl W1.heap.size W1).alloc (Nat.le_refl _) (.cells #[.int .i64 8, .int .i64 (fr : Int), .int .i64 (te : Int)] 98))
  have K1 := Lib.hid (BK.new 98 W1 #[.int .i64 8, .int .i64 (fr : Int), .int .i64 (te : Int)])
  obtain ⟨W2, hW2⟩ : ∃ x, W1.alloc (.cells #[.int .i64 8, .int .i64 (fr : Int), .int .i64 (te : Int)] 98) = x := ⟨_, rfl⟩
  rw [hW2] at b1 K1
  have HW2 := Lib.hid hW2
  have x2 := x1.keep b1.out
  have SA0 := single_any 4 8 (by decide) x2
  have hR : takeP l.length 8 ((8, fr, te) :: r) = .ok ((8, fr, te), r) := by simp [takeP]
  unfold SingQ at SA0
  rw [hR] at SA0
  dsimp only at SA0
  unfold ValQ
  dsimp only
  unfold ptrP at SA0 ⊢
  have SA : Hid (Calls Tryz.prog 51 #[.pointer (some ⟨w0.heap.size, 0, none⟩), .int .i64 4, .int .i64 8] W2 fun e w' => (∃ tw, PsW w0 bv D l w' tw r) ∧ e = .returned (.agg #[.int .i64 4, .slice none 0 0, .bool false, .string (bytes []), .string (bytes []), .slice none 0 0, .int .i64 (fr : Int), .int .i64 0, .slice none 0 0]) ∧ Fr w0.heap.size W2 w') := Lib.hid SA0
  have X2 := Lib.hid x2
  have hl1 := K0.out.lt
  have hl2 := K1.out.lt
  have hs1 := b0.out.size
  have hs2 := b1.out.size
  clear hW1 hW2 x1 h3 h3' d0 d1 d2 d0' hR h1' h2' hb' SA0 x2 x
  go_enter Tryz.func50, Tryz.ntmps50
  go_upto_region 1 with fail
  rw [HW1.out]
  go_upto_region 2 with fail
  rw [HW2.out]
  go_wp2_with fail
  refine SA.out.mono ?_
  rintro e w3 ⟨⟨tw3, x3⟩, rfl, f3⟩
  have K03 := Lib.hid (K0.out.frame ((f3.oth _ (by omega) (by omega)).trans (b1.out.block _ (by omega))))
  have K13 := Lib.hid (K1.out.frame (f3.oth _ hl2 (by omega)))
  have hs3 := f3.lo.size
  have b3 := Lib.hid ((Below.refl w3.heap.size w3).alloc (Nat.le_refl _) (.cells #[.int .i64 4, .slice none 0 0, .bool false, .string (bytes []), .string (bytes []), .slice none 0 0, .int .i64 (fr : Int), .int .i64 0, .slice none 0 0] 48))
  have K3 := Lib.hid (BK.new 48 w3 #[.int .i64 4, .slice none 0 0, .bool false, .string (bytes []), .string (bytes []), .slice none 0 0, .int .i64 (fr : Int), .int .i64 0, .slice none 0 0])
  obtain ⟨W3, hW3⟩ : ∃ x, w3.alloc (.cells #[.int .i64 4, .slice none 0 0, .bool false, .string (bytes []), .string (bytes []), .slice none 0 0, .int .i64 (fr : Int), .int .i64 0, .slice none 0 0] 48) = x := ⟨_, rfl⟩
  rw [hW3] at b3 K3
  have HW3 := Lib.hid hW3
  clear hW3
  go_upto_region 3 with fail
  rw [HW3.out]
  obtain ⟨ba, bcap, hbv, g1, g2, g3⟩ := x3.bs
  obtain ⟨bb, boff, rfl, hbb, hbc⟩ := g3 (by omega)
  obtain ⟨n, hn⟩ : ∃ n, l.length = n := ⟨_, rfl⟩
  rw [hn] at hbv g1
  subst hbv
  have hx3bs : Bs w0 (.slice (some ⟨bb, boff, none⟩) n bcap) l := x3.bs
  have hpt := bs_part hx3bs fr te (by omega) (by omega)
  have ttb : (l.drop fr).take (te - fr) = tokB l (8, fr, te) := rfl
  rw [ttb] at hpt
  have tbl : (tokB l (8, fr, te)).length ≤ 20000 := by unfold tokB; simp only [List.length_take, List.length_drop]; omega
  have BD := Lib.hid (x3.lo.trans (((b3.out.trans ((Below.refl W3.heap.size W3).drew.mono b3.out.size))).mono (by have := x3.lo.size; omega)))
  have D3 := Lib.hid ((Below.refl W3.heap.size W3).drew)
  refine wp_region_noPanic ?_
  have KD := Lib.hid ((K3.out.keep (D3.out)))
  have KD0 := Lib.hid ((K03.out.keep b3.out).keep D3.out)
  have KD1 := Lib.hid ((K13.out.keep b3.out).keep D3.out)
  have xD := Lib.hid ((x3.keep b3.out).keep D3.out)
  obtain ⟨TB, hTB⟩ : ∃ x, tokB l (8, fr, te) = x := ⟨_, rfl⟩
  rw [hTB] at hpt tbl
  have UA0 := read_any TB (M.readN TB).1 (M.readN TB).2 W3.drew (hX.keep BD.out).tab (by omega) rfl
  have hNl := readN_len TB (by omega)
  have hNV : numbV l (8, fr, te) = ⟨4, [], (M.readN TB).1.1, (M.readN TB).1.2.1, (M.readN TB).1.2.2, fr, 0, []⟩ := by unfold numbV; rw [hTB]
  obtain ⟨⟨⟨ng, dg, ex⟩, okr⟩, hRN⟩ : ∃ x, M.readN TB = x := ⟨_, rfl⟩
  rw [hRN] at UA0 hNl hNV
  simp only at UA0 hNl hNV
  have UA := Lib.hid UA0
  unfold numV at UA
  simp only at UA
  have hcv : ∀ V, Bs V (.slice (some ⟨bb, boff + fr, none⟩) (te - fr) (bcap - fr)) TB → (convert 29 9 (.slice (some ⟨bb, boff + fr, none⟩) (te - fr) (bcap - fr))).run Tryz.prog V = .ok (.string (bytes TB)) V := fun V h => conv_bs h
  clear UA0
  have SS : ∀ V : World, PsW w0 (.slice (some ⟨bb, boff, none⟩) n bcap) D l V tw3 r → BK 98 V W1.heap.size #[.int .i64 8, .int .i64 (fr : Int), .int .i64 (te : Int)] → Below w0.heap.size w0 V → (V.cell? ⟨w0.heap.size, 0, none⟩ = some (.slice (some ⟨bb, boff, none⟩) n bcap) ∧ V.cell? ⟨W1.heap.size, 1, none⟩ = some (.int .i64 (fr : Int)) ∧ V.cell? ⟨W1.heap.size, 2, none⟩ = some (.int .i64 (te : Int)) ∧ Bs V (.slice (some ⟨bb, boff + fr, none⟩) (te - fr) (bcap - fr)) TB) := fun V h k lo => ⟨h.cells.1, k.cell 1, k.cell 2, hpt.keep lo⟩
  refine wp_region_to 15 (S := fun V => (V.cell? ⟨w0.heap.size, 0, none⟩ = some (.slice (some ⟨bb, boff, none⟩) n bcap) ∧ V.cell? ⟨W1.heap.size, 1, none⟩ = some (.int .i64 (fr : Int)) ∧ V.cell? ⟨W1.heap.size, 2, none⟩ = some (.int .i64 (te : Int)) ∧ Bs V (.slice (some ⟨bb, boff + fr, none⟩) (te - fr) (bcap - fr)) TB)) (by kernel_rfl) (SS _ xD.out KD1.out BD.out) (fun hS => ?_)
  have i1 : (fr : Int) ≤ te := by omega
  have i2 : (te : Int) ≤ n := by omega
  have i3 : (n : Int) ≤ bcap := by omega
  have i4 : ¬ bcap - fr = 0 := by omega
  have i5 : (te : Int) ≤ bcap := by omega
  obtain ⟨WD, hWD⟩ : ∃ x, W3.drew = x := ⟨_, rfl⟩
  rw [hWD] at UA KD KD0 KD1 xD hS BD D3 ⊢
  clear hWD
  refine dtp 0 ?_
  refine dtp 1 ?_
  refine dtp 2 ?_
  refine dtk 3 ?_
  refine dtp 4 ?_
  refine dtk 5 ?_
  refine dtp 6 ?_
  refine dtk 7 ?_
  refine dtp (v := .slice (some ⟨bb, boff + fr, none⟩) (te - fr) (bcap - fr)) 8 (hy := Or.inl ⟨by rfl, by intro V hSV; go_simp; omega⟩) ?_
  refine dtk (v := .string (bytes TB)) 9 (hy := Or.inl ⟨by rfl, by intro V hSV; have hc := hcv V hSV.2.2.2; go_simp⟩) ?_
  refine AnyTo.ready (rs := [10]) (by kernel_rfl) (by simp) ?_
  refine ReadyTo.cons rfl (fun K hK => ?_) ReadyTo.nil
  go_simp
  refine UA.out.mono ?_
  rintro e w4 ⟨rfl, hb4⟩
  refine hK.out _ _ (SS _ (xD.out.keep hb4) (KD1.out.keep hb4) (BD.out.trans (hb4.mono BD.out.size))) (fun hS => ?_)
  clear hK K
  have K4 := Lib.hid (KD.out.keep hb4)
  have K04 := Lib.hid (KD0.out.keep hb4)
  have x4 := Lib.hid (xD.out.keep hb4)
  refine dtp 11 ?_
  refine dtp 12 ?_
  refine dtp 13 ?_
  refine dtp 14 ?_
  refine AnyTo.ready (rs := [15]) (by kernel_rfl) (by simp) ?_
  refine ReadyTo.last rfl (by kernel_rfl) (fun K hK => ?_) ReadyTo.nil
  rw [if_pos (by rfl)]
  refine wp_store_mid 45 _ _ rfl w3.heap.size 2 #[.bool ng, .string (bytes dg), .string (bytes ex)] rfl rfl (K4.out.there 2 3 (show 2 + 3 ≤ 9 by decide)) info3 (by simp [Value.oneCell']) ?_
  refine hK.out _ _ ?_
  clear hK K
  refine AnyTo.done (by kernel_rfl) ?_ _
  refine NoPanic.normal ?_
  have K5 : VB (w4.setCells w3.heap.size 2 [.bool ng, .string (bytes dg), .string (bytes ex)]) w3.heap.size (numbV l (8, fr, te)) nilV nilV nilV := by rw [hNV]; exact K4.out.setCells [.bool ng, .string (bytes dg), .string (bytes ex)] _ _ 2
  have K05 := K04.out.frame (setCells_other w3.heap.size [.bool ng, .string (bytes dg), .string (bytes ex)] 2 w4 w.heap.size (by omega))
  have x5 := x4.out.setMid (g := w3.heap.size) (by omega) 2 [.bool ng, .string (bytes dg), .string (bytes ex)]
  have F1 := ((Fr.of b0.out (Nat.le_of_lt hlt)).trans (Fr.of b1.out (by omega))).trans f3
  have F2 := (F1.trans (Fr.of b3.out (by omega))).trans (Fr.of D3.out (by have := b3.out.size; omega))
  have F4 := F2.trans (Fr.of hb4 (by have := b3.out.size; have := D3.out.size; omega))
  have F5 := F4.setMid (g := w3.heap.size) (by omega) (by omega) 2 [.bool ng, .string (bytes dg), .string (bytes ex)]
  have hz4 := hb4.size
  have hz3 := b3.out.size
  have hzD := D3.out.size
  have hzw : w3.heap.size < WD.heap.size := KD.out.lt
  obtain ⟨W5, hW5⟩ : ∃ x, w4.setCells w3.heap.size 2 [.bool ng, .string (bytes dg), .string (bytes ex)] = x := ⟨_, rfl⟩
  rw [hW5] at K5 K05 x5 F5
  have HS5 := Lib.hid hW5
  have VV := Lib.hid K5
  have VK := Lib.hid K05
  clear hW5 hb4 K5 K05 hS
  rw [HS5.out]
  have hVx : vv (numbV l (8, fr, te)) nilV nilV nilV = #[.int .i64 4, .slice none 0 0, .bool ng, .string (bytes dg), .string (bytes ex), .slice none 0 0, .int .i64 (fr : Int), .int .i64 0, .slice none 0 0] := by rw [hNV]; rfl
  go_wp2_with (first | (refine wpl_ldV rfl _ rfl w3.heap.size 0 (numbV l (8, fr, te)) nilV nilV nilV rfl (VB.range VV.out) ?_) | (refine wpl_stV rfl _ _ rfl w.heap.size zv (numbV l (8, fr, te)) nilV nilV nilV rfl rfl VK.out rfl rfl rfl rfl ?_))
  go_wp2
  refine bodyPost_ret (res_bk Tryz.underlying48 rfl infoV1 rfl _ _ w.heap.size (vvl (numbV l (8, fr, te)) nilV nilV nilV) rfl (BK.set VK.out _) rfl) rfl ⟨nilV, nilV, nilV, tw3, rfl, ⟨by rw [hNV]; exact hNl.1, by rw [hNV]; exact hNl.2, by rw [hNV]; exact isP_nil _ _, by rw [hNV]; exact isP_nil _ _⟩, voP_nil _ _, x5.setRow hlt _, F5.setRow (Nat.le_refl _) (Nat.le_of_lt hlt) _⟩
end Go.Proofs.YtlobinjdgcidmaaGreatDoor
/- jparse: a list of values that is being read: its box, the row of its items, the row of its marks. -/
namespace Go.Proofs.YtlobinjdgcidmaaGreatDoor
open Go.RowKit
set_option linter.unusedVariables false
set_option linter.unusedSimpArgs false

theorem ownV_frame' {E sz B : Nat} {w w' : World} {v : Value} {l : List (List Value)} (h : OwnV E sz B w v l) (hf : ∀ j, v.ownBlock = some j → w'.heap[j]? = w.heap[j]?) : OwnV E sz B w' v l := by
  obtain ⟨⟨h1, h2⟩, h3, h4⟩ := h
  refine ⟨⟨h1, ?_⟩, h3, h4⟩
  rcases h2 with h2 | ⟨g, cap, cur, rfl, a, b, c⟩
  · exact .inl h2
  · exact .inr ⟨g, cap, cur, rfl, a, by rw [hf g rfl]; exact b, c⟩
theorem own_types' {E1 E2 s1 s2 B : Nat} {w : World} {v1 v2 : Value} {l1 l2 : List (List Value)} (h1 : OwnV E1 s1 B w v1 l1) (h2 : OwnV E2 s2 B w v2 l2) (hne : E1 ≠ E2) : ∀ j, v1.ownBlock = some j → some j ≠ v2.ownBlock := by
  intro j hj e
  obtain ⟨⟨_, h1⟩, _⟩ := h1
  obtain ⟨⟨_, h2⟩, _⟩ := h2
  rcases h1 with ⟨rfl, _⟩ | ⟨g, cap, cur, rfl, _, b, _⟩
  · simp [Value.ownBlock] at hj
  · rcases h2 with ⟨rfl, _⟩ | ⟨g', cap', cur', rfl, _, b', _⟩
    · simp [Value.ownBlock] at e
    · simp only [Value.ownBlock, Option.some.injEq] at hj e
      subst hj
      subst e
      rw [b] at b'
      simp only [Option.some.injEq, Obj.cells.injEq] at b'
      exact hne b'.2.1
theorem tneVI : 48 ≠ 3 := by decide
def icl (l : List Int) : List (List Value) := l.map fun z => [.int .i64 z]
def KidsC (P : Nat → Prop) (w : World) : List (List Value) → Vo → Prop
  | L, .nil => L = []
  | L, .cons h kids rest => ∃ tv v mv L', L = vvl h tv v mv :: L' ∧ HdP P w h tv mv ∧ VoP P w v kids ∧ KidsC P w L' rest
theorem KidsC.keep {P P' : Nat → Prop} {w w' : World} (hf : ∀ b, P b → w'.heap[b]? = w.heap[b]?) (hP : ∀ b, P b → P' b) (F : Vo) : ∀ L, KidsC P w L F → KidsC P' w' L F := by
  induction F with
  | nil => intro L h; exact h
  | cons k kids rest ih1 ih2 =>
    rintro L ⟨tv, v, mv, L', rfl, h1, h2, h3⟩
    exact ⟨tv, v, mv, L', rfl, (h1.keep hf).mono hP, (h2.keep hf).mono hP, ih2 L' h3⟩
theorem KidsC.len {P : Nat → Prop} {w : World} (F : Vo) : ∀ L, KidsC P w L F → L.length = F.len := by
  induction F with
  | nil => intro L h; rw [show L = [] from h]; rfl
  | cons k kids rest ih1 ih2 =>
    rintro L ⟨tv, v, mv, L', rfl, h1, h2, h3⟩
    simp only [List.length_cons, Vo.len, ih2 L' h3]
theorem KidsC.snoc {P : Nat → Prop} {w : World} {h : Vh} {tv v mv : Value} {kids : Vo} (hd : HdP P w h tv mv) (hv : VoP P w v kids) (F : Vo) : ∀ L, KidsC P w L F → KidsC P w (L ++ [vvl h tv v mv]) (F.snoc h kids) := by
  induction F with
  | nil => intro L h; rw [show L = [] from h]; exact ⟨tv, v, mv, [], rfl, hd, hv, rfl⟩
  | cons k1 kids1 rest ih1 ih2 =>
    rintro L ⟨tv1, v1, mv1, L', rfl, h1, h2, h3⟩
    exact ⟨tv1, v1, mv1, L' ++ [vvl h tv v mv], rfl, h1, h2, ih2 L' h3⟩
theorem kidsC_at {P : Nat → Prop} {w : World} {b : Nat} (F : Vo) : ∀ L off, KidsC P w L F → (∀ j (h : j < L.length) i u, L[j][i]? = some u → w.cell? ⟨b, off + (j * 9 + i), none⟩ = some u) → VoAt P w F b off := by
  induction F with
  | nil => intro L off _ _; trivial
  | cons h kids rest ih1 ih2 =>
    rintro L off ⟨tv, v, mv, L', rfl, h1, h2, h3⟩ hc
    obtain ⟨a, cap, rfl, p1, p2, p3, p4⟩ := h2
    refine ⟨⟨tv, mv, a, cap, h1, fun i u hu => ?_, p1, p2, p3, p4⟩, ih2 L' (off + 9) h3 fun j hj i u hu => ?_⟩
    · have := hc 0 (by simp) i u hu
      rw [Nat.zero_mul, Nat.zero_add] at this
      exact this
    · have := hc (j + 1) (by simp only [List.length_cons]; omega) i u (by simpa using hu)
      rw [show off + ((j + 1) * 9 + i) = off + 9 + (j * 9 + i) by omega] at this
      exact this
def Pk (bx : Nat) (W : World) (iv mv : Value) (b : Nat) : Prop := bx < b ∧ b < W.heap.size ∧ iv.ownBlock ≠ some b ∧ mv.ownBlock ≠ some b
structure Lst (pb bx : Nat) (W : World) (h : Vh) (iv mv : Value) (cs : List (List Value)) (L : Vo) : Prop where
  vb : VB W bx h nilV iv mv
  tx : h.tx = []
  dg : h.dg = []
  ex : h.ex = []
  lt : pb < bx
  io : OwnV 48 9 (bx + 1) W iv cs
  ks : KidsC (Pk bx W iv mv) W cs L
  mo : OwnV 3 1 (bx + 1) W mv (icl h.ms)
structure FrB (pb bx : Nat) (w w' : World) : Prop where
  lo : Below pb w w'
  oth : ∀ j, j < bx → j ≠ pb → w'.heap[j]? = w.heap[j]?
theorem FrB.refl (pb bx : Nat) (w : World) : FrB pb bx w w := ⟨Below.refl _ _, fun _ _ _ => rfl⟩
theorem FrB.trans {pb bx : Nat} {a b c : World} (h : FrB pb bx a b) (k : FrB pb bx b c) : FrB pb bx a c := ⟨h.lo.trans k.lo, fun j hj hn => (k.oth j hj hn).trans (h.oth j hj hn)⟩
theorem Fr.box {pb bx : Nat} {w w' : World} (h : Fr pb w w') (hb : bx ≤ w.heap.size) : FrB pb bx w w' := ⟨h.lo, fun j hj hn => h.oth j (by omega) hn⟩
theorem Lst.fr {pb bx : Nat} {W W' : World} {h : Vh} {iv mv : Value} {cs : List (List Value)} {L : Vo} (x : Lst pb bx W h iv mv cs L) (f : Fr pb W W') : Lst pb bx W' h iv mv cs L := by
  have lt := x.lt
  have lb := x.vb.lt
  refine ⟨x.vb.frame (f.oth _ lb (by omega)), x.tx, x.dg, x.ex, x.lt, ownV_frame' x.io fun j hj => ?_, x.ks.keep (fun b hb => ?_) (fun b hb => ?_), ownV_frame' x.mo fun j hj => ?_⟩
  · have := own_in x.io j hj; exact f.oth j this.2 (by omega)
  · exact f.oth b hb.2.1 (by have := hb.1; omega)
  · exact ⟨hb.1, Nat.lt_of_lt_of_le hb.2.1 f.lo.size, hb.2.2.1, hb.2.2.2⟩
  · have := own_in x.mo j hj; exact f.oth j this.2 (by omega)
theorem Lst.push {pb bx : Nat} {W W' : World} {h h2 : Vh} {iv mv iv' tv2 v2 mv2 : Value} {cs : List (List Value)} {L kids : Vo} (x : Lst pb bx W h iv mv cs L) {Q : Nat → Prop} (hd : HdP Q W h2 tv2 mv2) (hv : VoP Q W v2 kids)
    (hQ : ∀ b, Q b → Pk bx W iv mv b) (ho : OwnV 48 9 (bx + 1) W' iv' (cs ++ [vvl h2 tv2 v2 mv2])) (hb : Below (bx + 1) W W') (hf : ∀ j, j < W.heap.size → some j ≠ iv.ownBlock → W'.heap[j]? = W.heap[j]?) (hw : iv'.ownBlock = iv.ownBlock ∨ iv'.ownBlock = some W.heap.size) :
    Lst pb bx (W'.setCell ⟨bx, 5, none⟩ iv') h iv' mv (cs ++ [vvl h2 tv2 v2 mv2]) (L.snoc h2 kids) ∧ FrB pb bx W (W'.setCell ⟨bx, 5, none⟩ iv') := by
  have lt := x.lt
  have lb := x.vb.lt
  have hv1 := x.vb.frame (hb.block _ (by omega))
  have ne : ∀ {E s : Nat} {v : Value} {l : List (List Value)}, OwnV E s (bx + 1) W' v l → v.ownBlock ≠ some bx := fun h e => by have := (own_in h _ e).1; omega
  have m1 := ownV_frame' x.mo (w' := W') fun j hj => hf j (own_in x.mo j hj).2 (fun e => own_types' x.io x.mo tneVI j e.symm hj.symm)
  have nb : ∀ b, Pk bx W iv mv b → W'.heap[b]? = W.heap[b]? := fun b hp => hf b hp.2.1 (fun e => hp.2.2.1 e.symm)
  have nP : ∀ b, Pk bx W iv mv b → Pk bx (W'.setCell ⟨bx, 5, none⟩ iv') iv' mv b := fun b hp => ⟨hp.1, by rw [World.size_setCell]; exact Nat.lt_of_lt_of_le hp.2.1 hb.size, (by
    rcases hw with e | e
    · rw [e]; exact hp.2.2.1
    · rw [e]; intro e2; simp only [Option.some.injEq] at e2; have := hp.2.1; omega), hp.2.2.2⟩
  have nc : ∀ b, Pk bx W iv mv b → (W'.setCell ⟨bx, 5, none⟩ iv').heap[b]? = W.heap[b]? := fun b hp => by
    rw [heap_setCell_other _ _ _ _ (by show b ≠ bx; have := hp.1; omega)]; exact nb b hp
  refine ⟨⟨BK.setCell hv1 5 iv', x.tx, x.dg, x.ex, x.lt, OwnV.setOther ho _ _ (ne ho), ?_, OwnV.setOther m1 _ _ (ne m1)⟩, ?_⟩
  · exact KidsC.snoc ((hd.mono hQ |>.keep nc).mono nP) ((hv.mono hQ |>.keep nc).mono nP) L cs (x.ks.keep nc nP)
  · refine ⟨(hb.mono (by omega)).setCell (p := ⟨bx, 5, none⟩) (by show pb ≤ bx; omega) iv', fun j hj hn => ?_⟩
    rw [heap_setCell_other _ _ _ _ (by show j ≠ bx; omega)]
    exact hb.block j (by omega)
theorem Lst.mark {pb bx : Nat} {W W' : World} {h : Vh} {iv mv mv' : Value} {cs : List (List Value)} {L : Vo} {z : Int} (x : Lst pb bx W h iv mv cs L)
    (ho : OwnV 3 1 (bx + 1) W' mv' (icl (h.ms ++ [z]))) (hb : Below (bx + 1) W W') (hf : ∀ j, j < W.heap.size → some j ≠ mv.ownBlock → W'.heap[j]? = W.heap[j]?) (hw : mv'.ownBlock = mv.ownBlock ∨ mv'.ownBlock = some W.heap.size) :
    Lst pb bx (W'.setCell ⟨bx, 8, none⟩ mv') { h with ms := h.ms ++ [z] } iv mv' cs L ∧ FrB pb bx W (W'.setCell ⟨bx, 8, none⟩ mv') := by
  have lt := x.lt
  have lb := x.vb.lt
  have hv1 := x.vb.frame (hb.block _ (by omega))
  have ne : ∀ {E s : Nat} {v : Value} {l : List (List Value)}, OwnV E s (bx + 1) W' v l → v.ownBlock ≠ some bx := fun h e => by have := (own_in h _ e).1; omega
  have i1 := ownV_frame' x.io (w' := W') fun j hj => hf j (own_in x.io j hj).2 (own_types' x.io x.mo tneVI j hj)
  have nb : ∀ b, Pk bx W iv mv b → W'.heap[b]? = W.heap[b]? := fun b hp => hf b hp.2.1 (fun e => hp.2.2.2 e.symm)
  have nP : ∀ b, Pk bx W iv mv b → Pk bx (W'.setCell ⟨bx, 8, none⟩ mv') iv mv' b := fun b hp => ⟨hp.1, by rw [World.size_setCell]; exact Nat.lt_of_lt_of_le hp.2.1 hb.size, hp.2.2.1, (by
    rcases hw with e | e
    · rw [e]; exact hp.2.2.2
    · rw [e]; intro e2; simp only [Option.some.injEq] at e2; have := hp.2.1; omega)⟩
  have nc : ∀ b, Pk bx W iv mv b → (W'.setCell ⟨bx, 8, none⟩ mv').heap[b]? = W.heap[b]? := fun b hp => by
    rw [heap_setCell_other _ _ _ _ (by show b ≠ bx; have := hp.1; omega)]; exact nb b hp
  refine ⟨⟨BK.setCell hv1 8 mv', x.tx, x.dg, x.ex, x.lt, OwnV.setOther i1 _ _ (ne i1), x.ks.keep nc nP, OwnV.setOther ho _ _ (ne ho)⟩, ?_⟩
  · refine ⟨(hb.mono (by omega)).setCell (p := ⟨bx, 8, none⟩) (by show pb ≤ bx; omega) mv', fun j hj hn => ?_⟩
    rw [heap_setCell_other _ _ _ _ (by show j ≠ bx; omega)]
    exact hb.block j (by omega)
theorem icl_isP {B : Nat} {P : Nat → Prop} {W : World} {mv : Value} {ml : List Int} (h : OwnV 3 1 B W mv (icl ml)) (hP : ∀ b, B ≤ b → b < W.heap.size → P b) : IsP P W mv ml := by
  have hn := OwnV.nn h
  have hin := own_in h
  obtain ⟨a, cap, rfl, h1, h2, h3⟩ := OwnV.vs h
  have hl : (icl ml).length = ml.length := by simp [icl]
  refine ⟨a, cap, by rw [hl], by omega, h2, fun e => by subst e; exact hn _ _ rfl, fun h0 => ?_⟩
  obtain ⟨b, off, rfl, hb, hc⟩ := h3 (by omega)
  refine ⟨b, off, rfl, hP b ?_ hb, fun j hj => ?_⟩
  · obtain ⟨⟨_, q⟩, _⟩ := h
    rcases q with ⟨e, _⟩ | ⟨g, c, cur, e, _⟩
    · simp at e
    · simp only [Value.slice.injEq, Option.some.injEq, Addr.mk.injEq] at e
      rw [e.1.1]
      have := (hin g (by rw [e.1.1, e.1.2.1]; rfl)).1
      exact this
  · have := hc j (by omega) 0 (.int .i64 ml[j]) (by simp [icl])
    rw [Nat.mul_one, Nat.add_zero] at this
    exact this
end Go.Proofs.YtlobinjdgcidmaaGreatDoor
