/- Texts of ours in one: ZRn ZRy. -/
import Derived.Test.YtlobinjdgcidmaaDoorQj31
import Derived.Test.YtlobinjdgcidmaaDoorQj16
import Derived.Deep.QuietTactic
import Derived.BigQuiet
/- The page's reader of JSON: value, where there is a number. -/
namespace Go.Proofs.YtlobinjdgcidmaaDoor
open Go.RowKit
set_option linter.unusedVariables false
set_option linter.unusedSimpArgs false

theorem RdS.setMid {w0 w : World} {bv lv : Value} {l : List UInt8} {all : M.Toks} {n : Nat} {er a : Int} (x : RdS w0 bv lv l all w n er a) {g : Nat} (hg : w0.heap.size < g) (o : Nat) (vs : List Value) : RdS w0 bv lv l all (w.setCells g o vs) n er a :=
  ⟨x.blk.frame (setCells_other g vs o w w0.heap.size (by omega)), below_setCells x.lo (Nat.le_of_lt hg) vs o, x.bs, x.tk, x.tx, x.hn, x.ll, x.la⟩
set_option maxRecDepth 100000 in
set_option maxHeartbeats 4000000 in
theorem rdval_num {w0 w : World} {bv lv : Value} {l : List UInt8} {all : M.Toks} {fr te : Nat} {r : M.Toks} (D : Int) (RN : ∀ (l : List UInt8) (r : M.NumV) (ok : Bool) (w : World), l.length ≤ 1048576 → M.readN l = (r, ok) → Calls Tryd.prog 43 #[.string (bytes l)] w fun e w' => e = .returned (.tuple #[.agg (numV r), .bool ok]) ∧ Below w.heap.size w w') (x : RdP w0 bv lv l all w (.ok ((8, fr, te) :: r))) (hT : TkIn l all) :
    Calls Tryd.prog 19 #[ptrP w0, .int .i64 D] w (RvQ w0 bv lv l all (numbV l (8, fr, te)) .nil (.ok r) w) := by
  have HX := Lib.hid x
  have hlt := rdlt x
  have b0 := Lib.hid ((Below.refl w.heap.size w).alloc (Nat.le_refl _) (.cells zv 36))
  have K0 := Lib.hid (BK.new 36 w zv)
  obtain ⟨W1, hW1⟩ : ∃ x, w.alloc (.cells zv 36) = x := ⟨_, rfl⟩
  rw [hW1] at b0 K0
  have HW1 := Lib.hid (show w.alloc (.cells #[.int .i64 0, .slice none 0 0, .bool false, .string ⟨#[]⟩, .string ⟨#[]⟩, .slice none 0 0, .int .i64 0, .int .i64 0, .slice none 0 0] 36) = W1 from hW1)
  have X1 := Lib.hid (x.keep b0.out)
  have hl1 := K0.out.lt
  have IS := Lib.hid (fun (w1 : World) (h : RdP w0 bv lv l all w1 (.ok ((8, fr, te) :: r))) => (rdis_any 7 (by decide) h : Calls Tryd.prog 41 #[ptrP w0, .int .i64 7] w1 fun e w' => e = .returned (.bool false) ∧ Below w1.heap.size w1 w'))
  obtain ⟨n, x, hd⟩ := X1.out
  have hn := drop_next hd
  have hla := x.la
  have HS := Lib.hid x
  have HD := Lib.hid hd
  have hn2 : n < 20000 := by omega
  unfold ptrP at IS ⊢
  clear hW1 x hd hla
  go_enter Tryd.func19, Tryd.ntmps19
  go_upto_region 1 with fail
  rw [HW1.out]
  go_wp2_with fail
  refine (IS.out _ X1.out).mono ?_
  rintro e w2 ⟨rfl, hb⟩
  have K02 := Lib.hid (K0.out.keep hb)
  have H2 := Lib.hid (HS.out.keep hb)
  have HB2 := Lib.hid hb
  clear hb
  obtain ⟨c0, c1, c2, c3, c4⟩ := H2.out.cells
  obtain ⟨ta, cap, e0, h1, h2, h3⟩ := H2.out.toks
  obtain ⟨b, off, rfl, hb, hc⟩ := h3 hn.1
  have htk : all.getD n (0, 0, 0) = (8, fr, te) := by
    have := HD.out
    rw [List.drop_eq_getElem_cons hn.1] at this
    simp [List.getD, hn.1, (List.cons.inj this).1]
  rw [htk] at hc
  subst e0
  obtain ⟨N, hN⟩ : ∃ q, all.length = q := ⟨_, rfl⟩
  have hn1 := hn.1
  rw [hN] at h1 c1 hn1
  have hb2 : b < w2.heap.size := by have := hlt; have := H2.out.lo.size; omega
  have hc0 : w2.rangeAt b (off + n * 3) [.int .i64 8, .int .i64 (fr : Int), .int .i64 (te : Int)] := fun j u hu => by
    show w2.cell? ⟨b, off + n * 3 + j, none⟩ = some u
    rw [Nat.add_assoc]; exact hc j u hu
  have SS : ∀ V : World, Below w2.heap.size w2 V → (V.cell? ⟨w0.heap.size, 1, none⟩ = some (.slice (some ⟨b, off, none⟩) N cap) ∧ V.cell? ⟨w0.heap.size, 2, none⟩ = some (.int .i64 (n : Int)) ∧ V.rangeAt b (off + n * 3) [.int .i64 8, .int .i64 (fr : Int), .int .i64 (te : Int)]) := fun V h => ⟨by rw [h.cell (p := ⟨w0.heap.size, 1, none⟩) H2.out.blk.lt]; exact c1, by rw [h.cell (p := ⟨w0.heap.size, 2, none⟩) H2.out.blk.lt]; exact c2, fun j u hu => by rw [h.cell (p := ⟨b, off + n * 3 + j, none⟩) hb2]; exact hc0 j u hu⟩
  clear hc h3 htk hn hc0
  have i1 : (n : Int) < N := by omega
  have i2 : decide ((N : Int) ≤ n) = false := by simp; omega
  go_wp2_with fail
  go_quiet (fail)
  clear c0 c1 c2 c3 c4 i2
  go_upto_region 6 with fail
  have D2 := Lib.hid (show Below w2.heap.size w2 (w2.drewN nq).drew from ⟨rfl, rfl, rfl, Nat.le_refl _, fun _ _ => rfl⟩)
  have K0D := Lib.hid (K02.out.keep D2.out)
  have XD := Lib.hid (H2.out.keep D2.out)
  refine wp_region_noPanic ?_
  refine wp_region_to 11 (S := fun V => (V.cell? ⟨w0.heap.size, 1, none⟩ = some (.slice (some ⟨b, off, none⟩) N cap) ∧ V.cell? ⟨w0.heap.size, 2, none⟩ = some (.int .i64 (n : Int)) ∧ V.rangeAt b (off + n * 3) [.int .i64 8, .int .i64 (fr : Int), .int .i64 (te : Int)])) (by kernel_rfl) (SS _ D2.out) (fun hS => ?_)
  obtain ⟨WD, hWD⟩ : ∃ x, (w2.drewN nq).drew = x := ⟨_, rfl⟩
  rw [hWD] at D2 K0D XD hS ⊢
  clear hWD
  refine dtp 0 ?_
  refine dtp 1 ?_
  refine dtp 2 ?_
  refine dtk 3 ?_
  refine dtp 4 ?_
  refine dtp 5 ?_
  refine dtp 6 ?_
  refine dtk 7 ?_
  refine dtp (v := .pointer (some ⟨b, off + n * 3, none⟩)) 8 (hy := Or.inl ⟨by rfl, by intro V hSV; go_simp⟩) ?_
  refine dtk (v := .agg #[.int .i64 8, .int .i64 (fr : Int), .int .i64 (te : Int)]) 9 (hy := yieldsIf_load_mid (by rfl) 85 _ rfl b (off + n * 3) rfl [.int .i64 8, .int .i64 (fr : Int), .int .i64 (te : Int)] _ (fun w hS => hS.2.2) Tryd.underlying85 rfl infoTok1) ?_
  have b5 := Lib.hid ((Below.refl WD.heap.size WD).alloc (Nat.le_refl _) (.cells #[.int .i64 0, .int .i64 0, .int .i64 0] 85))
  have K5 := Lib.hid (BK.new 85 WD #[.int .i64 0, .int .i64 0, .int .i64 0])
  obtain ⟨W5, hW5⟩ : ∃ x, WD.alloc (.cells #[.int .i64 0, .int .i64 0, .int .i64 0] 85) = x := ⟨_, rfl⟩
  rw [hW5] at b5 K5
  have HW5 := Lib.hid hW5
  clear hW5
  refine AnyTo.ready (rs := [10]) (by kernel_rfl) (by simp) ?_
  refine ReadyTo.cons rfl (fun K hK => ?_) ReadyTo.nil
  go_simp
  rw [HW5.out]
  refine hK.out _ _ (SS _ (D2.out.trans (b5.out.mono D2.out.size))) (fun _ => ?_)
  clear hK K
  refine AnyTo.ready (rs := [11]) (by kernel_rfl) (by simp) ?_
  refine ReadyTo.last rfl (by kernel_rfl) (fun K hK => ?_) ReadyTo.nil
  have l5 := K5.out.lt
  have m0 : W5.cell? ⟨WD.heap.size, 0, none⟩ = some (.int .i64 0) := K5.out.cell 0
  have m1 : W5.cell? ⟨WD.heap.size, 1, none⟩ = some (.int .i64 0) := K5.out.cell 1
  have m2 : W5.cell? ⟨WD.heap.size, 2, none⟩ = some (.int .i64 0) := K5.out.cell 2
  have z0 : W5.frozen? ⟨WD.heap.size, 0, none⟩ = false := frozen_of_row _ _ _ _ _ K5.out
  have z1 : W5.frozen? ⟨WD.heap.size, 1, none⟩ = false := frozen_of_row _ _ _ _ _ K5.out
  have z2 : W5.frozen? ⟨WD.heap.size, 2, none⟩ = false := frozen_of_row _ _ _ _ _ K5.out
  go_simp
  refine hK.out _ _ ?_
  clear hK K
  refine AnyTo.done (by kernel_rfl) ?_ _
  refine NoPanic.normal ?_
  clear m0 m1 m2 z0 z1 z2 hS SS
  have K6 : BK 85 (((W5.setCell ⟨WD.heap.size, 0, none⟩ (.int .i64 8)).setCell ⟨WD.heap.size, 1, none⟩ (.int .i64 (fr : Int))).setCell ⟨WD.heap.size, 2, none⟩ (.int .i64 (te : Int))) WD.heap.size #[.int .i64 8, .int .i64 (fr : Int), .int .i64 (te : Int)] := ((K5.out.setCell 0 (.int .i64 8)).setCell 1 (.int .i64 (fr : Int))).setCell 2 (.int .i64 (te : Int))
  have lD := K0D.out.lt
  have sD := D2.out.size
  have s2 := H2.out.lo.size
  have l2 := H2.out.blk.lt
  have K06 := (((K0D.out.keep b5.out).other (c := WD.heap.size) (by omega) 0 (.int .i64 8)).other (c := WD.heap.size) (by omega) 1 (.int .i64 (fr : Int))).other (c := WD.heap.size) (by omega) 2 (.int .i64 (te : Int))
  have b6 : Below WD.heap.size WD (((W5.setCell ⟨WD.heap.size, 0, none⟩ (.int .i64 8)).setCell ⟨WD.heap.size, 1, none⟩ (.int .i64 (fr : Int))).setCell ⟨WD.heap.size, 2, none⟩ (.int .i64 (te : Int))) := ((b5.out.setCell (p := ⟨WD.heap.size, 0, none⟩) (Nat.le_refl _) _).setCell (p := ⟨WD.heap.size, 1, none⟩) (Nat.le_refl _) _).setCell (p := ⟨WD.heap.size, 2, none⟩) (Nat.le_refl _) _
  obtain ⟨W6, hW6⟩ : ∃ x, ((W5.setCell ⟨WD.heap.size, 0, none⟩ (.int .i64 8)).setCell ⟨WD.heap.size, 1, none⟩ (.int .i64 (fr : Int))).setCell ⟨WD.heap.size, 2, none⟩ (.int .i64 (te : Int)) = x := ⟨_, rfl⟩
  rw [hW6] at K6 K06 b6 ⊢
  have X6 := Lib.hid (XD.out.keep b6)
  have KT6 := Lib.hid K6
  have KV6 := Lib.hid K06
  have B6 := Lib.hid b6
  clear hW6 K6 K06 b6 l5
  have j1 : W6.cell? ⟨WD.heap.size, 1, none⟩ = some (.int .i64 (fr : Int)) := KT6.out.cell 1
  go_upto_region 8 with fail
  have lV := KV6.out.lt
  have s6 := B6.out.size
  have b7 := (Below.refl W6.heap.size W6).alloc (Nat.le_refl _) (.cells #[.int .i64 0, .slice none 0 0, .bool false, .string ⟨#[]⟩, .string ⟨#[]⟩, .slice none 0 0, .int .i64 (fr : Int), .int .i64 0, .slice none 0 0] 36)
  have K7 := BK.new 36 W6 #[.int .i64 0, .slice none 0 0, .bool false, .string ⟨#[]⟩, .string ⟨#[]⟩, .slice none 0 0, .int .i64 (fr : Int), .int .i64 0, .slice none 0 0]
  obtain ⟨W7, hW7⟩ : ∃ x, W6.alloc (.cells #[.int .i64 0, .slice none 0 0, .bool false, .string ⟨#[]⟩, .string ⟨#[]⟩, .slice none 0 0, .int .i64 (fr : Int), .int .i64 0, .slice none 0 0] 36) = x := ⟨_, rfl⟩
  rw [hW7] at b7 K7 ⊢
  have X7 := Lib.hid (X6.out.keep b7)
  have KT7 := Lib.hid (KT6.out.keep b7)
  have KV7 := Lib.hid (KV6.out.keep b7)
  have j0 : W7.cell? ⟨WD.heap.size, 0, none⟩ = some (.int .i64 8) := KT7.out.cell 0
  have q0 : W7.cell? ⟨W6.heap.size, 0, none⟩ = some (.int .i64 0) := K7.cell 0
  have y0 : W7.frozen? ⟨W6.heap.size, 0, none⟩ = false := frozen_of_row _ _ _ _ _ K7
  have B7 := Lib.hid b7
  have HK7 := Lib.hid K7
  clear hW7 j1 b7 K7
  go_upto_region 13 with fail
  have K8 := HK7.out.setCell 0 (.int .i64 4)
  have lT := KT6.out.lt
  have KV8 := KV7.out.other (c := W6.heap.size) (by omega) 0 (.int .i64 4)
  have KT8 := KT7.out.other (c := W6.heap.size) (by omega) 0 (.int .i64 4)
  have X8 := X7.out.other (g := W6.heap.size) (by omega) 0 (.int .i64 4)
  have b8 := B7.out.setCell (p := ⟨W6.heap.size, 0, none⟩) (Nat.le_refl _) (.int .i64 4)
  clear j0 q0 y0
  obtain ⟨W8, hW8⟩ : ∃ x, W7.setCell ⟨W6.heap.size, 0, none⟩ (.int .i64 4) = x := ⟨_, rfl⟩
  rw [hW8] at K8 KV8 KT8 X8 b8 ⊢
  clear hW8
  have HX8 := Lib.hid X8
  have HK8 := Lib.hid K8
  have HV8 := Lib.hid KV8
  have HT8 := Lib.hid KT8
  have HB8 := Lib.hid b8
  have ht : fr < te ∧ te ≤ l.length := hT (8, fr, te) (List.mem_of_mem_drop (i := n) (by rw [HD.out]; exact List.mem_cons_self))
  have hll := X8.ll
  obtain ⟨ba, bcap, hbv, g1, g2, g3⟩ := X8.bs
  obtain ⟨bb, boff, rfl, hbb, hbc⟩ := g3 (by omega)
  obtain ⟨M', hM⟩ : ∃ n, l.length = n := ⟨_, rfl⟩
  rw [hM] at hbv g1
  subst hbv
  have hpt := bs_part (show Bs w0 (.slice (some ⟨bb, boff, none⟩) M' bcap) l from HX8.out.bs) fr te (by omega) (by omega)
  have ttb : (l.drop fr).take (te - fr) = tokB l (8, fr, te) := rfl
  rw [ttb] at hpt
  have tbl : (tokB l (8, fr, te)).length ≤ 20000 := by unfold tokB; simp only [List.length_take, List.length_drop]; omega
  clear X8 K8 KV8 KT8 b8
  have D8 := Lib.hid ((Below.refl W8.heap.size W8).drew)
  have KD := Lib.hid (HK8.out.keep D8.out)
  have KVD := Lib.hid (HV8.out.keep D8.out)
  have KTD := Lib.hid (HT8.out.keep D8.out)
  have XD8 := Lib.hid (HX8.out.keep D8.out)
  refine wp_region_noPanic ?_
  obtain ⟨TB, hTB⟩ : ∃ x, tokB l (8, fr, te) = x := ⟨_, rfl⟩
  rw [hTB] at hpt tbl
  have UA0 := RN TB (M.readN TB).1 (M.readN TB).2 W8.drew (by omega) rfl
  have hNl := readN_len TB (by omega)
  have hNV : numbV l (8, fr, te) = ⟨4, [], (M.readN TB).1.1, (M.readN TB).1.2.1, (M.readN TB).1.2.2, fr, 0, []⟩ := by unfold numbV; rw [hTB]
  obtain ⟨⟨⟨ng, dg, ex⟩, okr⟩, hRN⟩ : ∃ x, M.readN TB = x := ⟨_, rfl⟩
  rw [hRN] at UA0 hNl hNV
  simp only at UA0 hNl hNV
  have UA := Lib.hid UA0
  unfold numV at UA
  simp only at UA
  have hcv : ∀ V, Bs V (.slice (some ⟨bb, boff + fr, none⟩) (te - fr) (bcap - fr)) TB → (convert 29 9 (.slice (some ⟨bb, boff + fr, none⟩) (te - fr) (bcap - fr))).run Tryd.prog V = .ok (.string (bytes TB)) V := fun V h => conv_bs h
  clear UA0
  have SS : ∀ V : World, RdS w0 (.slice (some ⟨bb, boff, none⟩) M' bcap) (.slice (some ⟨b, off, none⟩) all.length cap) l all V n 0 0 → BK 85 V WD.heap.size #[.int .i64 8, .int .i64 (fr : Int), .int .i64 (te : Int)] → (V.cell? ⟨w0.heap.size, 0, none⟩ = some (.slice (some ⟨bb, boff, none⟩) M' bcap) ∧ V.cell? ⟨WD.heap.size, 1, none⟩ = some (.int .i64 (fr : Int)) ∧ V.cell? ⟨WD.heap.size, 2, none⟩ = some (.int .i64 (te : Int)) ∧ Bs V (.slice (some ⟨bb, boff + fr, none⟩) (te - fr) (bcap - fr)) TB) := fun V h k => ⟨h.cells.1, k.cell 1, k.cell 2, hpt.keep h.lo⟩
  refine wp_region_to 15 (S := fun V => (V.cell? ⟨w0.heap.size, 0, none⟩ = some (.slice (some ⟨bb, boff, none⟩) M' bcap) ∧ V.cell? ⟨WD.heap.size, 1, none⟩ = some (.int .i64 (fr : Int)) ∧ V.cell? ⟨WD.heap.size, 2, none⟩ = some (.int .i64 (te : Int)) ∧ Bs V (.slice (some ⟨bb, boff + fr, none⟩) (te - fr) (bcap - fr)) TB)) (by kernel_rfl) (SS _ XD8.out KTD.out) (fun hS => ?_)
  have i1 : (fr : Int) ≤ te := by omega
  have i2 : (te : Int) ≤ M' := by omega
  have i3 : (M' : Int) ≤ bcap := by omega
  have i4 : ¬ bcap - fr = 0 := by omega
  have i5 : (te : Int) ≤ bcap := by omega
  obtain ⟨WE, hWE⟩ : ∃ x, W8.drew = x := ⟨_, rfl⟩
  rw [hWE] at UA KD KVD KTD XD8 hS D8 ⊢
  clear hWE
  refine dtp 0 ?_
  refine dtp 1 ?_
  refine dtp 2 ?_
  refine dtk 3 ?_
  refine dtp 4 ?_
  refine dtk 5 ?_
  refine dtp 6 ?_
  refine dtk 7 ?_
  refine dtp (v := .slice (some ⟨bb, boff + fr, none⟩) (te - fr) (bcap - fr)) 8 (hy := Or.inl ⟨by rfl, by intro V hSV; go_simp; omega⟩) ?_
  refine dtk (v := .string (bytes TB)) 9 (hy := Or.inl ⟨by rfl, by intro V hSV; have hc := hcv V hSV.2.2.2; go_simp⟩) ?_
  refine AnyTo.ready (rs := [10]) (by kernel_rfl) (by simp) ?_
  refine ReadyTo.cons rfl (fun K hK => ?_) ReadyTo.nil
  go_simp
  refine UA.out.mono ?_
  rintro e w9 ⟨rfl, hb9⟩
  refine hK.out _ _ (SS _ (XD8.out.keep hb9) (KTD.out.keep hb9)) (fun hS => ?_)
  clear hK K
  have K9 := Lib.hid (KD.out.keep hb9)
  have KV9 := Lib.hid (KVD.out.keep hb9)
  have X9 := Lib.hid (XD8.out.keep hb9)
  refine dtp 11 ?_
  refine dtp 12 ?_
  refine dtp 13 ?_
  refine dtp 14 ?_
  refine AnyTo.ready (rs := [15]) (by kernel_rfl) (by simp) ?_
  refine ReadyTo.last rfl (by kernel_rfl) (fun K hK => ?_) ReadyTo.nil
  rw [if_pos (by rfl)]
  refine wp_store_mid 33 _ _ rfl W6.heap.size 2 #[.bool ng, .string (bytes dg), .string (bytes ex)] rfl rfl (K9.out.there 2 3 (show 2 + 3 ≤ 9 by decide)) info3 (by simp [Value.oneCell']) ?_
  refine hK.out _ _ ?_
  clear hK K
  refine AnyTo.done (by kernel_rfl) ?_ _
  refine NoPanic.normal ?_
  have lE := KD.out.lt
  have KA : VB (w9.setCells W6.heap.size 2 [.bool ng, .string (bytes dg), .string (bytes ex)]) W6.heap.size (numbV l (8, fr, te)) nilV nilV nilV := by rw [hNV]; exact K9.out.setCells [.bool ng, .string (bytes dg), .string (bytes ex)] _ _ 2
  have KVA := KV9.out.frame (setCells_other W6.heap.size [.bool ng, .string (bytes dg), .string (bytes ex)] 2 w9 w.heap.size (by omega))
  have XA := X9.out.setMid (g := W6.heap.size) (by omega) 2 [.bool ng, .string (bytes dg), .string (bytes ex)]
  have F8 : Fr w0.heap.size w W8 := (Fr.of b0.out (Nat.le_of_lt hlt)).trans (Fr.of (HB2.out.trans ((D2.out.trans ((B6.out.trans (HB8.out.mono s6)).mono sD)).mono HB2.out.size)) (by omega))
  have lW8 := HX8.out.blk.lt
  have sE := D8.out.size
  have F9 := (F8.trans (Fr.of D8.out (by omega))).trans (Fr.of hb9 (by omega))
  have FA := Lib.hid (F9.setMid (g := W6.heap.size) (by have := b0.out.size; have := HB2.out.size; omega) (by omega) 2 [.bool ng, .string (bytes dg), .string (bytes ex)])
  have lw9 : W6.heap.size < w9.heap.size := K9.out.lt
  obtain ⟨WA, hWA⟩ : ∃ x, w9.setCells W6.heap.size 2 [.bool ng, .string (bytes dg), .string (bytes ex)] = x := ⟨_, rfl⟩
  rw [hWA] at KA KVA XA FA
  have HSA := Lib.hid hWA
  have HKA := Lib.hid KA
  have HVA := Lib.hid KVA
  have HXA := Lib.hid XA
  clear hWA KA KVA hb9 F9 hS SS
  rw [HSA.out]
  obtain ⟨c0, c1, c2, c3, c4⟩ := XA.cells
  have z2 : WA.frozen? ⟨w0.heap.size, 2, none⟩ = false := frozen_of_row _ _ _ _ _ XA.blk
  clear XA
  go_upto_region 15 with fail
  have NB := HXA.out.next HD.out
  rw [show ((n + 1 : Nat) : Int) = (n : Int) + 1 by omega] at NB
  have KB := BK.other (T := 36) (b := W6.heap.size) (cs := vv (numbV l (8, fr, te)) nilV nilV nilV) HKA.out (c := w0.heap.size) (by omega) 2 (.int .i64 ((n : Int) + 1))
  have KVB := HVA.out.other (c := w0.heap.size) (by omega) 2 (.int .i64 ((n : Int) + 1))
  clear c0 c1 c2 c3 c4 z2
  obtain ⟨WB, hWB⟩ : ∃ x, WA.setCell ⟨w0.heap.size, 2, none⟩ (.int .i64 ((n : Int) + 1)) = x := ⟨_, rfl⟩
  rw [hWB] at NB KB KVB ⊢
  clear hWB
  have HNB := Lib.hid NB
  have VV : Hid (VB WB W6.heap.size (numbV l (8, fr, te)) nilV nilV nilV) := Lib.hid KB
  have VK := Lib.hid KVB
  clear NB KB KVB
  have hVx : vv (numbV l (8, fr, te)) nilV nilV nilV = #[.int .i64 4, .slice none 0 0, .bool ng, .string (bytes dg), .string (bytes ex), .slice none 0 0, .int .i64 (fr : Int), .int .i64 0, .slice none 0 0] := by rw [hNV]; rfl
  go_wp2_with (first | (refine wpl_ldV rfl _ rfl W6.heap.size 0 (numbV l (8, fr, te)) nilV nilV nilV rfl (VB.range VV.out) ?_) | (refine wpl_stV rfl _ _ rfl w.heap.size zv (numbV l (8, fr, te)) nilV nilV nilV rfl rfl VK.out rfl rfl rfl rfl ?_))
  go_wp2
  refine bodyPost_ret (res_bk Tryd.underlying36 rfl infoV1 rfl _ _ w.heap.size (vvl (numbV l (8, fr, te)) nilV nilV nilV) rfl (BK.set VK.out _) rfl) rfl ⟨nilV, nilV, nilV, rfl, ⟨by rw [hNV]; exact hNl.1, by rw [hNV]; exact hNl.2, by rw [hNV]; exact isP_nil _ _, by rw [hNV]; exact isP_nil _ _⟩, voP_nil _ _, HNB.out.1.setRow hlt _, Fr.setRow (FA.out.trans HNB.out.2) (Nat.le_refl _) (Nat.le_of_lt hlt) _⟩
end Go.Proofs.YtlobinjdgcidmaaDoor
/- The page's reader of JSON, plain: what is left is less; a list's loop. -/
namespace Go.Proofs.YtlobinjdgcidmaaDoor
set_option linter.unusedVariables false
set_option linter.unusedSimpArgs false

def stL : Rst → Nat
  | .ok ts => ts.length
  | .error _ => 0
theorem itemR_suf (l : List UInt8) (f d : Nat) (obj : Bool) (ts : M.Toks) (ms : List Int) (L : Vo) (r : M.Toks) (h : (itemR l (valR l f d) obj (.ok ts) ms L).2.2 = .ok r) :
    Suf r ts ∧ (itemR l (valR l f d) obj (.ok ts) ms L).2.1.len + r.length ≤ L.len + ts.length ∧ (itemR l (valR l f d) obj (.ok ts) ms L).1.length + r.length ≤ ms.length + ts.length := by
  have a := item_agr l (valP l f d) (valR l f d) (valR_bad l f d) ((val_agr l f).1 d) obj ts ms L
  cases hv : itemW l (valP l f d) obj ts ms L with
  | error e =>
    rw [hv] at a
    simp only [AgrI] at a
    rw [a] at h; cases h
  | ok q =>
    obtain ⟨x, y, z⟩ := q
    rw [hv] at a
    simp only [AgrI] at a
    rw [a] at h ⊢
    simp only [Except.ok.injEq] at h
    subst h
    exact item_suf (fun ts h k r e => (val_suf l f).1 d ts h k r e) obj ts ms L x y z hv
def stepR (l : List UInt8) (f : Nat) (obj : Bool) (d fr : Nat) (st : Rst) (ms : List Int) (L : Vo) : RRes :=
  tailR l f obj d fr (itemR l (valR l f d) obj st ms L).2.2 (itemR l (valR l f d) obj st ms L).1 (itemR l (valR l f d) obj st ms L).2.1
theorem tailR_yes {l : List UInt8} {f : Nat} {obj : Bool} {d fr : Nat} {st : Rst} {ms : List Int} {L : Vo} (h : isR 6 st = true) :
    tailR l (f + 1) obj d fr st ms L = stepR l f obj d fr (markR l.length 6 st).2 (ms ++ [(markR l.length 6 st).1]) L := by
  rw [tailR, if_pos h]; rfl
theorem tailR_no {l : List UInt8} {f : Nat} {obj : Bool} {d fr : Nat} {st : Rst} {ms : List Int} {L : Vo} (h : isR 6 st = false) :
    tailR l (f + 1) obj d fr st ms L = (listR obj fr (markR l.length (shL obj) st).1 ms, L, (markR l.length (shL obj) st).2) := by
  rw [tailR, if_neg (by rw [h]; decide)]
theorem valR_list (l : List UInt8) (obj : Bool) (f d fr te : Nat) (r : M.Toks) :
    valR l (f + 1) (d + 1) (.ok ((opL obj, fr, te) :: r)) = if kindP r = shL obj then tailR l f obj d fr (.ok r) [] .nil else stepR l f obj d fr (.ok r) [] .nil := by
  cases obj <;> simp [valR, stepR, opL, shL]
end Go.Proofs.YtlobinjdgcidmaaDoor
