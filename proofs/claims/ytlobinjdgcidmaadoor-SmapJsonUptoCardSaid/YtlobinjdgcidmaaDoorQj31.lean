/- Texts of ours in one: ZRx. -/
import Derived.Test.YtlobinjdgcidmaaDoorQj30
import Derived.Deep.QuietTactic
import Derived.BigQuiet
/- The page's reader of JSON: value, where there is a word. -/
namespace Go.Proofs.YtlobinjdgcidmaaDoor
open Go.RowKit
set_option linter.unusedVariables false
set_option linter.unusedSimpArgs false

theorem RdS.other {w0 w : World} {bv lv : Value} {l : List UInt8} {all : M.Toks} {n : Nat} {er a : Int} (x : RdS w0 bv lv l all w n er a) {g : Nat} (hg : w0.heap.size < g) (j : Nat) (u : Value) : RdS w0 bv lv l all (w.setCell ⟨g, j, none⟩ u) n er a :=
  ⟨x.blk.other (by omega) j u, x.lo.setCell (p := ⟨g, j, none⟩) (Nat.le_of_lt hg) u, x.bs, x.tk, x.tx, x.hn, x.ll, x.la⟩
set_option maxRecDepth 100000 in
set_option maxHeartbeats 4000000 in
theorem rdval_w9 {w0 w : World} {bv lv : Value} {l : List UInt8} {all : M.Toks} {fr te : Nat} {r : M.Toks} (D : Int) (x : RdP w0 bv lv l all w (.ok ((9, fr, te) :: r))) (hT : TkIn l all) :
    Calls Tryd.prog 19 #[ptrP w0, .int .i64 D] w (RvQ w0 bv lv l all (leafP 5 fr) .nil (.ok r) w) := by
  have HX := Lib.hid x
  have hlt := rdlt x
  have b0 := Lib.hid ((Below.refl w.heap.size w).alloc (Nat.le_refl _) (.cells zv 36))
  have K0 := Lib.hid (BK.new 36 w zv)
  obtain ⟨W1, hW1⟩ : ∃ x, w.alloc (.cells zv 36) = x := ⟨_, rfl⟩
  rw [hW1] at b0 K0
  have HW1 := Lib.hid (show w.alloc (.cells #[.int .i64 0, .slice none 0 0, .bool false, .string ⟨#[]⟩, .string ⟨#[]⟩, .slice none 0 0, .int .i64 0, .int .i64 0, .slice none 0 0] 36) = W1 from hW1)
  have X1 := Lib.hid (x.keep b0.out)
  have hl1 := K0.out.lt
  have IS := Lib.hid (fun (w1 : World) (h : RdP w0 bv lv l all w1 (.ok ((9, fr, te) :: r))) => (rdis_any 7 (by decide) h : Calls Tryd.prog 41 #[ptrP w0, .int .i64 7] w1 fun e w' => e = .returned (.bool false) ∧ Below w1.heap.size w1 w'))
  obtain ⟨n, x, hd⟩ := X1.out
  have hn := drop_next hd
  have hla := x.la
  have HS := Lib.hid x
  have HD := Lib.hid hd
  have hn2 : n < 20000 := by omega
  unfold ptrP at IS ⊢
  clear hW1 x hd hla
  go_enter Tryd.func19, Tryd.ntmps19
  go_upto_region 1 with fail
  rw [HW1.out]
  go_wp2_with fail
  refine (IS.out _ X1.out).mono ?_
  rintro e w2 ⟨rfl, hb⟩
  have K02 := Lib.hid (K0.out.keep hb)
  have H2 := Lib.hid (HS.out.keep hb)
  have HB2 := Lib.hid hb
  clear hb
  obtain ⟨c0, c1, c2, c3, c4⟩ := H2.out.cells
  obtain ⟨ta, cap, e0, h1, h2, h3⟩ := H2.out.toks
  obtain ⟨b, off, rfl, hb, hc⟩ := h3 hn.1
  have htk : all.getD n (0, 0, 0) = (9, fr, te) := by
    have := HD.out
    rw [List.drop_eq_getElem_cons hn.1] at this
    simp [List.getD, hn.1, (List.cons.inj this).1]
  rw [htk] at hc
  subst e0
  obtain ⟨N, hN⟩ : ∃ q, all.length = q := ⟨_, rfl⟩
  have hn1 := hn.1
  rw [hN] at h1 c1 hn1
  have hb2 : b < w2.heap.size := by have := hlt; have := H2.out.lo.size; omega
  have hc0 : w2.rangeAt b (off + n * 3) [.int .i64 9, .int .i64 (fr : Int), .int .i64 (te : Int)] := fun j u hu => by
    show w2.cell? ⟨b, off + n * 3 + j, none⟩ = some u
    rw [Nat.add_assoc]; exact hc j u hu
  have SS : ∀ V : World, Below w2.heap.size w2 V → (V.cell? ⟨w0.heap.size, 1, none⟩ = some (.slice (some ⟨b, off, none⟩) N cap) ∧ V.cell? ⟨w0.heap.size, 2, none⟩ = some (.int .i64 (n : Int)) ∧ V.rangeAt b (off + n * 3) [.int .i64 9, .int .i64 (fr : Int), .int .i64 (te : Int)]) := fun V h => ⟨by rw [h.cell (p := ⟨w0.heap.size, 1, none⟩) H2.out.blk.lt]; exact c1, by rw [h.cell (p := ⟨w0.heap.size, 2, none⟩) H2.out.blk.lt]; exact c2, fun j u hu => by rw [h.cell (p := ⟨b, off + n * 3 + j, none⟩) hb2]; exact hc0 j u hu⟩
  clear hc h3 htk hn hc0
  have i1 : (n : Int) < N := by omega
  have i2 : decide ((N : Int) ≤ n) = false := by simp; omega
  go_wp2_with fail
  go_quiet (fail)
  clear c0 c1 c2 c3 c4 i2
  go_upto_region 6 with fail
  have D2 := Lib.hid (show Below w2.heap.size w2 (w2.drewN nq).drew from ⟨rfl, rfl, rfl, Nat.le_refl _, fun _ _ => rfl⟩)
  have K0D := Lib.hid (K02.out.keep D2.out)
  have XD := Lib.hid (H2.out.keep D2.out)
  refine wp_region_noPanic ?_
  refine wp_region_to 11 (S := fun V => (V.cell? ⟨w0.heap.size, 1, none⟩ = some (.slice (some ⟨b, off, none⟩) N cap) ∧ V.cell? ⟨w0.heap.size, 2, none⟩ = some (.int .i64 (n : Int)) ∧ V.rangeAt b (off + n * 3) [.int .i64 9, .int .i64 (fr : Int), .int .i64 (te : Int)])) (by kernel_rfl) (SS _ D2.out) (fun hS => ?_)
  obtain ⟨WD, hWD⟩ : ∃ x, (w2.drewN nq).drew = x := ⟨_, rfl⟩
  rw [hWD] at D2 K0D XD hS ⊢
  clear hWD
  refine dtp 0 ?_
  refine dtp 1 ?_
  refine dtp 2 ?_
  refine dtk 3 ?_
  refine dtp 4 ?_
  refine dtp 5 ?_
  refine dtp 6 ?_
  refine dtk 7 ?_
  refine dtp (v := .pointer (some ⟨b, off + n * 3, none⟩)) 8 (hy := Or.inl ⟨by rfl, by intro V hSV; go_simp⟩) ?_
  refine dtk (v := .agg #[.int .i64 9, .int .i64 (fr : Int), .int .i64 (te : Int)]) 9 (hy := yieldsIf_load_mid (by rfl) 85 _ rfl b (off + n * 3) rfl [.int .i64 9, .int .i64 (fr : Int), .int .i64 (te : Int)] _ (fun w hS => hS.2.2) Tryd.underlying85 rfl infoTok1) ?_
  have b5 := Lib.hid ((Below.refl WD.heap.size WD).alloc (Nat.le_refl _) (.cells #[.int .i64 0, .int .i64 0, .int .i64 0] 85))
  have K5 := Lib.hid (BK.new 85 WD #[.int .i64 0, .int .i64 0, .int .i64 0])
  obtain ⟨W5, hW5⟩ : ∃ x, WD.alloc (.cells #[.int .i64 0, .int .i64 0, .int .i64 0] 85) = x := ⟨_, rfl⟩
  rw [hW5] at b5 K5
  have HW5 := Lib.hid hW5
  clear hW5
  refine AnyTo.ready (rs := [10]) (by kernel_rfl) (by simp) ?_
  refine ReadyTo.cons rfl (fun K hK => ?_) ReadyTo.nil
  go_simp
  rw [HW5.out]
  refine hK.out _ _ (SS _ (D2.out.trans (b5.out.mono D2.out.size))) (fun _ => ?_)
  clear hK K
  refine AnyTo.ready (rs := [11]) (by kernel_rfl) (by simp) ?_
  refine ReadyTo.last rfl (by kernel_rfl) (fun K hK => ?_) ReadyTo.nil
  have l5 := K5.out.lt
  have m0 : W5.cell? ⟨WD.heap.size, 0, none⟩ = some (.int .i64 0) := K5.out.cell 0
  have m1 : W5.cell? ⟨WD.heap.size, 1, none⟩ = some (.int .i64 0) := K5.out.cell 1
  have m2 : W5.cell? ⟨WD.heap.size, 2, none⟩ = some (.int .i64 0) := K5.out.cell 2
  have z0 : W5.frozen? ⟨WD.heap.size, 0, none⟩ = false := frozen_of_row _ _ _ _ _ K5.out
  have z1 : W5.frozen? ⟨WD.heap.size, 1, none⟩ = false := frozen_of_row _ _ _ _ _ K5.out
  have z2 : W5.frozen? ⟨WD.heap.size, 2, none⟩ = false := frozen_of_row _ _ _ _ _ K5.out
  go_simp
  refine hK.out _ _ ?_
  clear hK K
  refine AnyTo.done (by kernel_rfl) ?_ _
  refine NoPanic.normal ?_
  clear m0 m1 m2 z0 z1 z2 hS SS
  have K6 : BK 85 (((W5.setCell ⟨WD.heap.size, 0, none⟩ (.int .i64 9)).setCell ⟨WD.heap.size, 1, none⟩ (.int .i64 (fr : Int))).setCell ⟨WD.heap.size, 2, none⟩ (.int .i64 (te : Int))) WD.heap.size #[.int .i64 9, .int .i64 (fr : Int), .int .i64 (te : Int)] := ((K5.out.setCell 0 (.int .i64 9)).setCell 1 (.int .i64 (fr : Int))).setCell 2 (.int .i64 (te : Int))
  have lD := K0D.out.lt
  have sD := D2.out.size
  have s2 := H2.out.lo.size
  have l2 := H2.out.blk.lt
  have K06 := (((K0D.out.keep b5.out).other (c := WD.heap.size) (by omega) 0 (.int .i64 9)).other (c := WD.heap.size) (by omega) 1 (.int .i64 (fr : Int))).other (c := WD.heap.size) (by omega) 2 (.int .i64 (te : Int))
  have b6 : Below WD.heap.size WD (((W5.setCell ⟨WD.heap.size, 0, none⟩ (.int .i64 9)).setCell ⟨WD.heap.size, 1, none⟩ (.int .i64 (fr : Int))).setCell ⟨WD.heap.size, 2, none⟩ (.int .i64 (te : Int))) := ((b5.out.setCell (p := ⟨WD.heap.size, 0, none⟩) (Nat.le_refl _) _).setCell (p := ⟨WD.heap.size, 1, none⟩) (Nat.le_refl _) _).setCell (p := ⟨WD.heap.size, 2, none⟩) (Nat.le_refl _) _
  obtain ⟨W6, hW6⟩ : ∃ x, ((W5.setCell ⟨WD.heap.size, 0, none⟩ (.int .i64 9)).setCell ⟨WD.heap.size, 1, none⟩ (.int .i64 (fr : Int))).setCell ⟨WD.heap.size, 2, none⟩ (.int .i64 (te : Int)) = x := ⟨_, rfl⟩
  rw [hW6] at K6 K06 b6 ⊢
  have X6 := Lib.hid (XD.out.keep b6)
  have KT6 := Lib.hid K6
  have KV6 := Lib.hid K06
  have B6 := Lib.hid b6
  clear hW6 K6 K06 b6 l5
  have j1 : W6.cell? ⟨WD.heap.size, 1, none⟩ = some (.int .i64 (fr : Int)) := KT6.out.cell 1
  go_upto_region 8 with fail
  have lV := KV6.out.lt
  have s6 := B6.out.size
  have b7 := (Below.refl W6.heap.size W6).alloc (Nat.le_refl _) (.cells #[.int .i64 0, .slice none 0 0, .bool false, .string ⟨#[]⟩, .string ⟨#[]⟩, .slice none 0 0, .int .i64 (fr : Int), .int .i64 0, .slice none 0 0] 36)
  have K7 := BK.new 36 W6 #[.int .i64 0, .slice none 0 0, .bool false, .string ⟨#[]⟩, .string ⟨#[]⟩, .slice none 0 0, .int .i64 (fr : Int), .int .i64 0, .slice none 0 0]
  obtain ⟨W7, hW7⟩ : ∃ x, W6.alloc (.cells #[.int .i64 0, .slice none 0 0, .bool false, .string ⟨#[]⟩, .string ⟨#[]⟩, .slice none 0 0, .int .i64 (fr : Int), .int .i64 0, .slice none 0 0] 36) = x := ⟨_, rfl⟩
  rw [hW7] at b7 K7 ⊢
  have X7 := Lib.hid (X6.out.keep b7)
  have KT7 := Lib.hid (KT6.out.keep b7)
  have KV7 := Lib.hid (KV6.out.keep b7)
  have j0 : W7.cell? ⟨WD.heap.size, 0, none⟩ = some (.int .i64 9) := KT7.out.cell 0
  have q0 : W7.cell? ⟨W6.heap.size, 0, none⟩ = some (.int .i64 0) := K7.cell 0
  have y0 : W7.frozen? ⟨W6.heap.size, 0, none⟩ = false := frozen_of_row _ _ _ _ _ K7
  have B7 := Lib.hid b7
  have HK7 := Lib.hid K7
  clear hW7 j1 b7 K7
  go_upto_region 20 with fail
  have K8 := HK7.out.setCell 0 (.int .i64 5)
  have lT := KT6.out.lt
  have KV8 := KV7.out.other (c := W6.heap.size) (by omega) 0 (.int .i64 5)
  have X8 := X7.out.other (g := W6.heap.size) (by omega) 0 (.int .i64 5)
  have b8 := B7.out.setCell (p := ⟨W6.heap.size, 0, none⟩) (Nat.le_refl _) (.int .i64 5)
  clear j0 q0 y0
  obtain ⟨W8, hW8⟩ : ∃ x, W7.setCell ⟨W6.heap.size, 0, none⟩ (.int .i64 5) = x := ⟨_, rfl⟩
  rw [hW8] at K8 KV8 X8 b8 ⊢
  clear hW8
  obtain ⟨c0, c1, c2, c3, c4⟩ := X8.cells
  have z2 : W8.frozen? ⟨w0.heap.size, 2, none⟩ = false := frozen_of_row _ _ _ _ _ X8.blk
  have HX8 := Lib.hid X8
  have HK8 := Lib.hid K8
  have HV8 := Lib.hid KV8
  have HB8 := Lib.hid b8
  clear X8 K8 KV8 b8
  go_upto_region 21 with fail
  have N9 := HX8.out.next HD.out
  rw [show ((n + 1 : Nat) : Int) = (n : Int) + 1 by omega] at N9
  have K9 := HK8.out.other (c := w0.heap.size) (by omega) 2 (.int .i64 ((n : Int) + 1))
  have KV9 := HV8.out.other (c := w0.heap.size) (by omega) 2 (.int .i64 ((n : Int) + 1))
  clear c0 c1 c2 c3 c4 z2
  obtain ⟨W9, hW9⟩ : ∃ x, W8.setCell ⟨w0.heap.size, 2, none⟩ (.int .i64 ((n : Int) + 1)) = x := ⟨_, rfl⟩
  rw [hW9] at N9 K9 KV9 ⊢
  clear hW9
  have HN9 := Lib.hid N9
  have VV : Hid (VB W9 W6.heap.size (leafP 5 fr) nilV nilV nilV) := Lib.hid K9
  have VK := Lib.hid KV9
  clear N9 K9 KV9
  go_wp2_with (first | (refine wpl_ldV rfl _ rfl W6.heap.size 0 (leafP 5 fr) nilV nilV nilV rfl (VB.range VV.out) ?_) | (refine wpl_stV rfl _ _ rfl w.heap.size zv (leafP 5 fr) nilV nilV nilV rfl rfl VK.out rfl rfl rfl rfl ?_))
  go_wp2
  have F8 : Fr w0.heap.size w W8 := (Fr.of b0.out (Nat.le_of_lt hlt)).trans (Fr.of (HB2.out.trans ((D2.out.trans ((B6.out.trans (HB8.out.mono s6)).mono sD)).mono HB2.out.size)) (by omega))
  refine bodyPost_ret (res_bk Tryd.underlying36 rfl infoV1 rfl _ _ w.heap.size (vvl (leafP 5 fr) nilV nilV nilV) rfl (BK.set VK.out _) rfl) rfl ⟨nilV, nilV, nilV, rfl, ⟨by simp [leafP], by simp [leafP], isP_nil _ _, isP_nil _ _⟩, voP_nil _ _, HN9.out.1.setRow hlt _, Fr.setRow (F8.trans HN9.out.2) (Nat.le_refl _) (Nat.le_of_lt hlt) _⟩
set_option maxRecDepth 100000 in
set_option maxHeartbeats 4000000 in
theorem rdval_w10 {w0 w : World} {bv lv : Value} {l : List UInt8} {all : M.Toks} {fr te : Nat} {r : M.Toks} (D : Int) (x : RdP w0 bv lv l all w (.ok ((10, fr, te) :: r))) (hT : TkIn l all) :
    Calls Tryd.prog 19 #[ptrP w0, .int .i64 D] w (RvQ w0 bv lv l all (leafP 6 fr) .nil (.ok r) w) := by
  have HX := Lib.hid x
  have hlt := rdlt x
  have b0 := Lib.hid ((Below.refl w.heap.size w).alloc (Nat.le_refl _) (.cells zv 36))
  have K0 := Lib.hid (BK.new 36 w zv)
  obtain ⟨W1, hW1⟩ : ∃ x, w.alloc (.cells zv 36) = x := ⟨_, rfl⟩
  rw [hW1] at b0 K0
  have HW1 := Lib.hid (show w.alloc (.cells #[.int .i64 0, .slice none 0 0, .bool false, .string ⟨#[]⟩, .string ⟨#[]⟩, .slice none 0 0, .int .i64 0, .int .i64 0, .slice none 0 0] 36) = W1 from hW1)
  have X1 := Lib.hid (x.keep b0.out)
  have hl1 := K0.out.lt
  have IS := Lib.hid (fun (w1 : World) (h : RdP w0 bv lv l all w1 (.ok ((10, fr, te) :: r))) => (rdis_any 7 (by decide) h : Calls Tryd.prog 41 #[ptrP w0, .int .i64 7] w1 fun e w' => e = .returned (.bool false) ∧ Below w1.heap.size w1 w'))
  obtain ⟨n, x, hd⟩ := X1.out
  have hn := drop_next hd
  have hla := x.la
  have HS := Lib.hid x
  have HD := Lib.hid hd
  have hn2 : n < 20000 := by omega
  unfold ptrP at IS ⊢
  clear hW1 x hd hla
  go_enter Tryd.func19, Tryd.ntmps19
  go_upto_region 1 with fail
  rw [HW1.out]
  go_wp2_with fail
  refine (IS.out _ X1.out).mono ?_
  rintro e w2 ⟨rfl, hb⟩
  have K02 := Lib.hid (K0.out.keep hb)
  have H2 := Lib.hid (HS.out.keep hb)
  have HB2 := Lib.hid hb
  clear hb
  obtain ⟨c0, c1, c2, c3, c4⟩ := H2.out.cells
  obtain ⟨ta, cap, e0, h1, h2, h3⟩ := H2.out.toks
  obtain ⟨b, off, rfl, hb, hc⟩ := h3 hn.1
  have htk : all.getD n (0, 0, 0) = (10, fr, te) := by
    have := HD.out
    rw [List.drop_eq_getElem_cons hn.1] at this
    simp [List.getD, hn.1, (List.cons.inj this).1]
  rw [htk] at hc
  subst e0
  obtain ⟨N, hN⟩ : ∃ q, all.length = q := ⟨_, rfl⟩
  have hn1 := hn.1
  rw [hN] at h1 c1 hn1
  have hb2 : b < w2.heap.size := by have := hlt; have := H2.out.lo.size; omega
  have hc0 : w2.rangeAt b (off + n * 3) [.int .i64 10, .int .i64 (fr : Int), .int .i64 (te : Int)] := fun j u hu => by
    show w2.cell? ⟨b, off + n * 3 + j, none⟩ = some u
    rw [Nat.add_assoc]; exact hc j u hu
  have SS : ∀ V : World, Below w2.heap.size w2 V → (V.cell? ⟨w0.heap.size, 1, none⟩ = some (.slice (some ⟨b, off, none⟩) N cap) ∧ V.cell? ⟨w0.heap.size, 2, none⟩ = some (.int .i64 (n : Int)) ∧ V.rangeAt b (off + n * 3) [.int .i64 10, .int .i64 (fr : Int), .int .i64 (te : Int)]) := fun V h => ⟨by rw [h.cell (p := ⟨w0.heap.size, 1, none⟩) H2.out.blk.lt]; exact c1, by rw [h.cell (p := ⟨w0.heap.size, 2, none⟩) H2.out.blk.lt]; exact c2, fun j u hu => by rw [h.cell (p := ⟨b, off + n * 3 + j, none⟩) hb2]; exact hc0 j u hu⟩
  clear hc h3 htk hn hc0
  have i1 : (n : Int) < N := by omega
  have i2 : decide ((N : Int) ≤ n) = false := by simp; omega
  go_wp2_with fail
  go_quiet (fail)
  clear c0 c1 c2 c3 c4 i2
  go_upto_region 6 with fail
  have D2 := Lib.hid (show Below w2.heap.size w2 (w2.drewN nq).drew from ⟨rfl, rfl, rfl, Nat.le_refl _, fun _ _ => rfl⟩)
  have K0D := Lib.hid (K02.out.keep D2.out)
  have XD := Lib.hid (H2.out.keep D2.out)
  refine wp_region_noPanic ?_
  refine wp_region_to 11 (S := fun V => (V.cell? ⟨w0.heap.size, 1, none⟩ = some (.slice (some ⟨b, off, none⟩) N cap) ∧ V.cell? ⟨w0.heap.size, 2, none⟩ = some (.int .i64 (n : Int)) ∧ V.rangeAt b (off + n * 3) [.int .i64 10, .int .i64 (fr : Int), .int .i64 (te : Int)])) (by kernel_rfl) (SS _ D2.out) (fun hS => ?_)
  obtain ⟨WD, hWD⟩ : ∃ x, (w2.drewN nq).drew = x := ⟨_, rfl⟩
  rw [hWD] at D2 K0D XD hS ⊢
  clear hWD
  refine dtp 0 ?_
  refine dtp 1 ?_
  refine dtp 2 ?_
  refine dtk 3 ?_
  refine dtp 4 ?_
  refine dtp 5 ?_
  refine dtp 6 ?_
  refine dtk 7 ?_
  refine dtp (v := .pointer (some ⟨b, off + n * 3, none⟩)) 8 (hy := Or.inl ⟨by rfl, by intro V hSV; go_simp⟩) ?_
  refine dtk (v := .agg #[.int .i64 10, .int .i64 (fr : Int), .int .i64 (te : Int)]) 9 (hy := yieldsIf_load_mid (by rfl) 85 _ rfl b (off + n * 3) rfl [.int .i64 10, .int .i64 (fr : Int), .int .i64 (te : Int)] _ (fun w hS => hS.2.2) Tryd.underlying85 rfl infoTok1) ?_
  have b5 := Lib.hid ((Below.refl WD.heap.size WD).alloc (Nat.le_refl _) (.cells #[.int .i64 0, .int .i64 0, .int .i64 0] 85))
  have K5 := Lib.hid (BK.new 85 WD #[.int .i64 0, .int .i64 0, .int .i64 0])
  obtain ⟨W5, hW5⟩ : ∃ x, WD.alloc (.cells #[.int .i64 0, .int .i64 0, .int .i64 0] 85) = x := ⟨_, rfl⟩
  rw [hW5] at b5 K5
  have HW5 := Lib.hid hW5
  clear hW5
  refine AnyTo.ready (rs := [10]) (by kernel_rfl) (by simp) ?_
  refine ReadyTo.cons rfl (fun K hK => ?_) ReadyTo.nil
  go_simp
  rw [HW5.out]
  refine hK.out _ _ (SS _ (D2.out.trans (b5.out.mono D2.out.size))) (fun _ => ?_)
  clear hK K
  refine AnyTo.ready (rs := [11]) (by kernel_rfl) (by simp) ?_
  refine ReadyTo.last rfl (by kernel_rfl) (fun K hK => ?_) ReadyTo.nil
  have l5 := K5.out.lt
  have m0 : W5.cell? ⟨WD.heap.size, 0, none⟩ = some (.int .i64 0) := K5.out.cell 0
  have m1 : W5.cell? ⟨WD.heap.size, 1, none⟩ = some (.int .i64 0) := K5.out.cell 1
  have m2 : W5.cell? ⟨WD.heap.size, 2, none⟩ = some (.int .i64 0) := K5.out.cell 2
  have z0 : W5.frozen? ⟨WD.heap.size, 0, none⟩ = false := frozen_of_row _ _ _ _ _ K5.out
  have z1 : W5.frozen? ⟨WD.heap.size, 1, none⟩ = false := frozen_of_row _ _ _ _ _ K5.out
  have z2 : W5.frozen? ⟨WD.heap.size, 2, none⟩ = false := frozen_of_row _ _ _ _ _ K5.out
  go_simp
  refine hK.out _ _ ?_
  clear hK K
  refine AnyTo.done (by kernel_rfl) ?_ _
  refine NoPanic.normal ?_
  clear m0 m1 m2 z0 z1 z2 hS SS
  have K6 : BK 85 (((W5.setCell ⟨WD.heap.size, 0, none⟩ (.int .i64 10)).setCell ⟨WD.heap.size, 1, none⟩ (.int .i64 (fr : Int))).setCell ⟨WD.heap.size, 2, none⟩ (.int .i64 (te : Int))) WD.heap.size #[.int .i64 10, .int .i64 (fr : Int), .int .i64 (te : Int)] := ((K5.out.setCell 0 (.int .i64 10)).setCell 1 (.int .i64 (fr : Int))).setCell 2 (.int .i64 (te : Int))
  have lD := K0D.out.lt
  have sD := D2.out.size
  have s2 := H2.out.lo.size
  have l2 := H2.out.blk.lt
  have K06 := (((K0D.out.keep b5.out).other (c := WD.heap.size) (by omega) 0 (.int .i64 10)).other (c := WD.heap.size) (by omega) 1 (.int .i64 (fr : Int))).other (c := WD.heap.size) (by omega) 2 (.int .i64 (te : Int))
  have b6 : Below WD.heap.size WD (((W5.setCell ⟨WD.heap.size, 0, none⟩ (.int .i64 10)).setCell ⟨WD.heap.size, 1, none⟩ (.int .i64 (fr : Int))).setCell ⟨WD.heap.size, 2, none⟩ (.int .i64 (te : Int))) := ((b5.out.setCell (p := ⟨WD.heap.size, 0, none⟩) (Nat.le_refl _) _).setCell (p := ⟨WD.heap.size, 1, none⟩) (Nat.le_refl _) _).setCell (p := ⟨WD.heap.size, 2, none⟩) (Nat.le_refl _) _
  obtain ⟨W6, hW6⟩ : ∃ x, ((W5.setCell ⟨WD.heap.size, 0, none⟩ (.int .i64 10)).setCell ⟨WD.heap.size, 1, none⟩ (.int .i64 (fr : Int))).setCell ⟨WD.heap.size, 2, none⟩ (.int .i64 (te : Int)) = x := ⟨_, rfl⟩
  rw [hW6] at K6 K06 b6 ⊢
  have X6 := Lib.hid (XD.out.keep b6)
  have KT6 := Lib.hid K6
  have KV6 := Lib.hid K06
  have B6 := Lib.hid b6
  clear hW6 K6 K06 b6 l5
  have j1 : W6.cell? ⟨WD.heap.size, 1, none⟩ = some (.int .i64 (fr : Int)) := KT6.out.cell 1
  go_upto_region 8 with fail
  have lV := KV6.out.lt
  have s6 := B6.out.size
  have b7 := (Below.refl W6.heap.size W6).alloc (Nat.le_refl _) (.cells #[.int .i64 0, .slice none 0 0, .bool false, .string ⟨#[]⟩, .string ⟨#[]⟩, .slice none 0 0, .int .i64 (fr : Int), .int .i64 0, .slice none 0 0] 36)
  have K7 := BK.new 36 W6 #[.int .i64 0, .slice none 0 0, .bool false, .string ⟨#[]⟩, .string ⟨#[]⟩, .slice none 0 0, .int .i64 (fr : Int), .int .i64 0, .slice none 0 0]
  obtain ⟨W7, hW7⟩ : ∃ x, W6.alloc (.cells #[.int .i64 0, .slice none 0 0, .bool false, .string ⟨#[]⟩, .string ⟨#[]⟩, .slice none 0 0, .int .i64 (fr : Int), .int .i64 0, .slice none 0 0] 36) = x := ⟨_, rfl⟩
  rw [hW7] at b7 K7 ⊢
  have X7 := Lib.hid (X6.out.keep b7)
  have KT7 := Lib.hid (KT6.out.keep b7)
  have KV7 := Lib.hid (KV6.out.keep b7)
  have j0 : W7.cell? ⟨WD.heap.size, 0, none⟩ = some (.int .i64 10) := KT7.out.cell 0
  have q0 : W7.cell? ⟨W6.heap.size, 0, none⟩ = some (.int .i64 0) := K7.cell 0
  have y0 : W7.frozen? ⟨W6.heap.size, 0, none⟩ = false := frozen_of_row _ _ _ _ _ K7
  have B7 := Lib.hid b7
  have HK7 := Lib.hid K7
  clear hW7 j1 b7 K7
  go_upto_region 20 with fail
  have K8 := HK7.out.setCell 0 (.int .i64 6)
  have lT := KT6.out.lt
  have KV8 := KV7.out.other (c := W6.heap.size) (by omega) 0 (.int .i64 6)
  have X8 := X7.out.other (g := W6.heap.size) (by omega) 0 (.int .i64 6)
  have b8 := B7.out.setCell (p := ⟨W6.heap.size, 0, none⟩) (Nat.le_refl _) (.int .i64 6)
  clear j0 q0 y0
  obtain ⟨W8, hW8⟩ : ∃ x, W7.setCell ⟨W6.heap.size, 0, none⟩ (.int .i64 6) = x := ⟨_, rfl⟩
  rw [hW8] at K8 KV8 X8 b8 ⊢
  clear hW8
  obtain ⟨c0, c1, c2, c3, c4⟩ := X8.cells
  have z2 : W8.frozen? ⟨w0.heap.size, 2, none⟩ = false := frozen_of_row _ _ _ _ _ X8.blk
  have HX8 := Lib.hid X8
  have HK8 := Lib.hid K8
  have HV8 := Lib.hid KV8
  have HB8 := Lib.hid b8
  clear X8 K8 KV8 b8
  go_upto_region 21 with fail
  have N9 := HX8.out.next HD.out
  rw [show ((n + 1 : Nat) : Int) = (n : Int) + 1 by omega] at N9
  have K9 := HK8.out.other (c := w0.heap.size) (by omega) 2 (.int .i64 ((n : Int) + 1))
  have KV9 := HV8.out.other (c := w0.heap.size) (by omega) 2 (.int .i64 ((n : Int) + 1))
  clear c0 c1 c2 c3 c4 z2
  obtain ⟨W9, hW9⟩ : ∃ x, W8.setCell ⟨w0.heap.size, 2, none⟩ (.int .i64 ((n : Int) + 1)) = x := ⟨_, rfl⟩
  rw [hW9] at N9 K9 KV9 ⊢
  clear hW9
  have HN9 := Lib.hid N9
  have VV : Hid (VB W9 W6.heap.size (leafP 6 fr) nilV nilV nilV) := Lib.hid K9
  have VK := Lib.hid KV9
  clear N9 K9 KV9
  go_wp2_with (first | (refine wpl_ldV rfl _ rfl W6.heap.size 0 (leafP 6 fr) nilV nilV nilV rfl (VB.range VV.out) ?_) | (refine wpl_stV rfl _ _ rfl w.heap.size zv (leafP 6 fr) nilV nilV nilV rfl rfl VK.out rfl rfl rfl rfl ?_))
  go_wp2
  have F8 : Fr w0.heap.size w W8 := (Fr.of b0.out (Nat.le_of_lt hlt)).trans (Fr.of (HB2.out.trans ((D2.out.trans ((B6.out.trans (HB8.out.mono s6)).mono sD)).mono HB2.out.size)) (by omega))
  refine bodyPost_ret (res_bk Tryd.underlying36 rfl infoV1 rfl _ _ w.heap.size (vvl (leafP 6 fr) nilV nilV nilV) rfl (BK.set VK.out _) rfl) rfl ⟨nilV, nilV, nilV, rfl, ⟨by simp [leafP], by simp [leafP], isP_nil _ _, isP_nil _ _⟩, voP_nil _ _, HN9.out.1.setRow hlt _, Fr.setRow (F8.trans HN9.out.2) (Nat.le_refl _) (Nat.le_of_lt hlt) _⟩
set_option maxRecDepth 100000 in
set_option maxHeartbeats 4000000 in
theorem rdval_w11 {w0 w : World} {bv lv : Value} {l : List UInt8} {all : M.Toks} {fr te : Nat} {r : M.Toks} (D : Int) (x : RdP w0 bv lv l all w (.ok ((11, fr, te) :: r))) (hT : TkIn l all) :
    Calls Tryd.prog 19 #[ptrP w0, .int .i64 D] w (RvQ w0 bv lv l all (leafP 7 fr) .nil (.ok r) w) := by
  have HX := Lib.hid x
  have hlt := rdlt x
  have b0 := Lib.hid ((Below.refl w.heap.size w).alloc (Nat.le_refl _) (.cells zv 36))
  have K0 := Lib.hid (BK.new 36 w zv)
  obtain ⟨W1, hW1⟩ : ∃ x, w.alloc (.cells zv 36) = x := ⟨_, rfl⟩
  rw [hW1] at b0 K0
  have HW1 := Lib.hid (show w.alloc (.cells #[.int .i64 0, .slice none 0 0, .bool false, .string ⟨#[]⟩, .string ⟨#[]⟩, .slice none 0 0, .int .i64 0, .int .i64 0, .slice none 0 0] 36) = W1 from hW1)
  have X1 := Lib.hid (x.keep b0.out)
  have hl1 := K0.out.lt
  have IS := Lib.hid (fun (w1 : World) (h : RdP w0 bv lv l all w1 (.ok ((11, fr, te) :: r))) => (rdis_any 7 (by decide) h : Calls Tryd.prog 41 #[ptrP w0, .int .i64 7] w1 fun e w' => e = .returned (.bool false) ∧ Below w1.heap.size w1 w'))
  obtain ⟨n, x, hd⟩ := X1.out
  have hn := drop_next hd
  have hla := x.la
  have HS := Lib.hid x
  have HD := Lib.hid hd
  have hn2 : n < 20000 := by omega
  unfold ptrP at IS ⊢
  clear hW1 x hd hla
  go_enter Tryd.func19, Tryd.ntmps19
  go_upto_region 1 with fail
  rw [HW1.out]
  go_wp2_with fail
  refine (IS.out _ X1.out).mono ?_
  rintro e w2 ⟨rfl, hb⟩
  have K02 := Lib.hid (K0.out.keep hb)
  have H2 := Lib.hid (HS.out.keep hb)
  have HB2 := Lib.hid hb
  clear hb
  obtain ⟨c0, c1, c2, c3, c4⟩ := H2.out.cells
  obtain ⟨ta, cap, e0, h1, h2, h3⟩ := H2.out.toks
  obtain ⟨b, off, rfl, hb, hc⟩ := h3 hn.1
  have htk : all.getD n (0, 0, 0) = (11, fr, te) := by
    have := HD.out
    rw [List.drop_eq_getElem_cons hn.1] at this
    simp [List.getD, hn.1, (List.cons.inj this).1]
  rw [htk] at hc
  subst e0
  obtain ⟨N, hN⟩ : ∃ q, all.length = q := ⟨_, rfl⟩
  have hn1 := hn.1
  rw [hN] at h1 c1 hn1
  have hb2 : b < w2.heap.size := by have := hlt; have := H2.out.lo.size; omega
  have hc0 : w2.rangeAt b (off + n * 3) [.int .i64 11, .int .i64 (fr : Int), .int .i64 (te : Int)] := fun j u hu => by
    show w2.cell? ⟨b, off + n * 3 + j, none⟩ = some u
    rw [Nat.add_assoc]; exact hc j u hu
  have SS : ∀ V : World, Below w2.heap.size w2 V → (V.cell? ⟨w0.heap.size, 1, none⟩ = some (.slice (some ⟨b, off, none⟩) N cap) ∧ V.cell? ⟨w0.heap.size, 2, none⟩ = some (.int .i64 (n : Int)) ∧ V.rangeAt b (off + n * 3) [.int .i64 11, .int .i64 (fr : Int), .int .i64 (te : Int)]) := fun V h => ⟨by rw [h.cell (p := ⟨w0.heap.size, 1, none⟩) H2.out.blk.lt]; exact c1, by rw [h.cell (p := ⟨w0.heap.size, 2, none⟩) H2.out.blk.lt]; exact c2, fun j u hu => by rw [h.cell (p := ⟨b, off + n * 3 + j, none⟩) hb2]; exact hc0 j u hu⟩
  clear hc h3 htk hn hc0
  have i1 : (n : Int) < N := by omega
  have i2 : decide ((N : Int) ≤ n) = false := by simp; omega
  go_wp2_with fail
  go_quiet (fail)
  clear c0 c1 c2 c3 c4 i2
  go_upto_region 6 with fail
  have D2 := Lib.hid (show Below w2.heap.size w2 (w2.drewN nq).drew from ⟨rfl, rfl, rfl, Nat.le_refl _, fun _ _ => rfl⟩)
  have K0D := Lib.hid (K02.out.keep D2.out)
  have XD := Lib.hid (H2.out.keep D2.out)
  refine wp_region_noPanic ?_
  refine wp_region_to 11 (S := fun V => (V.cell? ⟨w0.heap.size, 1, none⟩ = some (.slice (some ⟨b, off, none⟩) N cap) ∧ V.cell? ⟨w0.heap.size, 2, none⟩ = some (.int .i64 (n : Int)) ∧ V.rangeAt b (off + n * 3) [.int .i64 11, .int .i64 (fr : Int), .int .i64 (te : Int)])) (by kernel_rfl) (SS _ D2.out) (fun hS => ?_)
  obtain ⟨WD, hWD⟩ : ∃ x, (w2.drewN nq).drew = x := ⟨_, rfl⟩
  rw [hWD] at D2 K0D XD hS ⊢
  clear hWD
  refine dtp 0 ?_
  refine dtp 1 ?_
  refine dtp 2 ?_
  refine dtk 3 ?_
  refine dtp 4 ?_
  refine dtp 5 ?_
  refine dtp 6 ?_
  refine dtk 7 ?_
  refine dtp (v := .pointer (some ⟨b, off + n * 3, none⟩)) 8 (hy := Or.inl ⟨by rfl, by intro V hSV; go_simp⟩) ?_
  refine dtk (v := .agg #[.int .i64 11, .int .i64 (fr : Int), .int .i64 (te : Int)]) 9 (hy := yieldsIf_load_mid (by rfl) 85 _ rfl b (off + n * 3) rfl [.int .i64 11, .int .i64 (fr : Int), .int .i64 (te : Int)] _ (fun w hS => hS.2.2) Tryd.underlying85 rfl infoTok1) ?_
  have b5 := Lib.hid ((Below.refl WD.heap.size WD).alloc (Nat.le_refl _) (.cells #[.int .i64 0, .int .i64 0, .int .i64 0] 85))
  have K5 := Lib.hid (BK.new 85 WD #[.int .i64 0, .int .i64 0, .int .i64 0])
  obtain ⟨W5, hW5⟩ : ∃ x, WD.alloc (.cells #[.int .i64 0, .int .i64 0, .int .i64 0] 85) = x := ⟨_, rfl⟩
  rw [hW5] at b5 K5
  have HW5 := Lib.hid hW5
  clear hW5
  refine AnyTo.ready (rs := [10]) (by kernel_rfl) (by simp) ?_
  refine ReadyTo.cons rfl (fun K hK => ?_) ReadyTo.nil
  go_simp
  rw [HW5.out]
  refine hK.out _ _ (SS _ (D2.out.trans (b5.out.mono D2.out.size))) (fun _ => ?_)
  clear hK K
  refine AnyTo.ready (rs := [11]) (by kernel_rfl) (by simp) ?_
  refine ReadyTo.last rfl (by kernel_rfl) (fun K hK => ?_) ReadyTo.nil
  have l5 := K5.out.lt
  have m0 : W5.cell? ⟨WD.heap.size, 0, none⟩ = some (.int .i64 0) := K5.out.cell 0
  have m1 : W5.cell? ⟨WD.heap.size, 1, none⟩ = some (.int .i64 0) := K5.out.cell 1
  have m2 : W5.cell? ⟨WD.heap.size, 2, none⟩ = some (.int .i64 0) := K5.out.cell 2
  have z0 : W5.frozen? ⟨WD.heap.size, 0, none⟩ = false := frozen_of_row _ _ _ _ _ K5.out
  have z1 : W5.frozen? ⟨WD.heap.size, 1, none⟩ = false := frozen_of_row _ _ _ _ _ K5.out
  have z2 : W5.frozen? ⟨WD.heap.size, 2, none⟩ = false := frozen_of_row _ _ _ _ _ K5.out
  go_simp
  refine hK.out _ _ ?_
  clear hK K
  refine AnyTo.done (by kernel_rfl) ?_ _
  refine NoPanic.normal ?_
  clear m0 m1 m2 z0 z1 z2 hS SS
  have K6 : BK 85 (((W5.setCell ⟨WD.heap.size, 0, none⟩ (.int .i64 11)).setCell ⟨WD.heap.size, 1, none⟩ (.int .i64 (fr : Int))).setCell ⟨WD.heap.size, 2, none⟩ (.int .i64 (te : Int))) WD.heap.size #[.int .i64 11, .int .i64 (fr : Int), .int .i64 (te : Int)] := ((K5.out.setCell 0 (.int .i64 11)).setCell 1 (.int .i64 (fr : Int))).setCell 2 (.int .i64 (te : Int))
  have lD := K0D.out.lt
  have sD := D2.out.size
  have s2 := H2.out.lo.size
  have l2 := H2.out.blk.lt
  have K06 := (((K0D.out.keep b5.out).other (c := WD.heap.size) (by omega) 0 (.int .i64 11)).other (c := WD.heap.size) (by omega) 1 (.int .i64 (fr : Int))).other (c := WD.heap.size) (by omega) 2 (.int .i64 (te : Int))
  have b6 : Below WD.heap.size WD (((W5.setCell ⟨WD.heap.size, 0, none⟩ (.int .i64 11)).setCell ⟨WD.heap.size, 1, none⟩ (.int .i64 (fr : Int))).setCell ⟨WD.heap.size, 2, none⟩ (.int .i64 (te : Int))) := ((b5.out.setCell (p := ⟨WD.heap.size, 0, none⟩) (Nat.le_refl _) _).setCell (p := ⟨WD.heap.size, 1, none⟩) (Nat.le_refl _) _).setCell (p := ⟨WD.heap.size, 2, none⟩) (Nat.le_refl _) _
  obtain ⟨W6, hW6⟩ : ∃ x, ((W5.setCell ⟨WD.heap.size, 0, none⟩ (.int .i64 11)).setCell ⟨WD.heap.size, 1, none⟩ (.int .i64 (fr : Int))).setCell ⟨WD.heap.size, 2, none⟩ (.int .i64 (te : Int)) = x := ⟨_, rfl⟩
  rw [hW6] at K6 K06 b6 ⊢
  have X6 := Lib.hid (XD.out.keep b6)
  have KT6 := Lib.hid K6
  have KV6 := Lib.hid K06
  have B6 := Lib.hid b6
  clear hW6 K6 K06 b6 l5
  have j1 : W6.cell? ⟨WD.heap.size, 1, none⟩ = some (.int .i64 (fr : Int)) := KT6.out.cell 1
  go_upto_region 8 with fail
  have lV := KV6.out.lt
  have s6 := B6.out.size
  have b7 := (Below.refl W6.heap.size W6).alloc (Nat.le_refl _) (.cells #[.int .i64 0, .slice none 0 0, .bool false, .string ⟨#[]⟩, .string ⟨#[]⟩, .slice none 0 0, .int .i64 (fr : Int), .int .i64 0, .slice none 0 0] 36)
  have K7 := BK.new 36 W6 #[.int .i64 0, .slice none 0 0, .bool false, .string ⟨#[]⟩, .string ⟨#[]⟩, .slice none 0 0, .int .i64 (fr : Int), .int .i64 0, .slice none 0 0]
  obtain ⟨W7, hW7⟩ : ∃ x, W6.alloc (.cells #[.int .i64 0, .slice none 0 0, .bool false, .string ⟨#[]⟩, .string ⟨#[]⟩, .slice none 0 0, .int .i64 (fr : Int), .int .i64 0, .slice none 0 0] 36) = x := ⟨_, rfl⟩
  rw [hW7] at b7 K7 ⊢
  have X7 := Lib.hid (X6.out.keep b7)
  have KT7 := Lib.hid (KT6.out.keep b7)
  have KV7 := Lib.hid (KV6.out.keep b7)
  have j0 : W7.cell? ⟨WD.heap.size, 0, none⟩ = some (.int .i64 11) := KT7.out.cell 0
  have q0 : W7.cell? ⟨W6.heap.size, 0, none⟩ = some (.int .i64 0) := K7.cell 0
  have y0 : W7.frozen? ⟨W6.heap.size, 0, none⟩ = false := frozen_of_row _ _ _ _ _ K7
  have B7 := Lib.hid b7
  have HK7 := Lib.hid K7
  clear hW7 j1 b7 K7
  go_upto_region 20 with fail
  have K8 := HK7.out.setCell 0 (.int .i64 7)
  have lT := KT6.out.lt
  have KV8 := KV7.out.other (c := W6.heap.size) (by omega) 0 (.int .i64 7)
  have X8 := X7.out.other (g := W6.heap.size) (by omega) 0 (.int .i64 7)
  have b8 := B7.out.setCell (p := ⟨W6.heap.size, 0, none⟩) (Nat.le_refl _) (.int .i64 7)
  clear j0 q0 y0
  obtain ⟨W8, hW8⟩ : ∃ x, W7.setCell ⟨W6.heap.size, 0, none⟩ (.int .i64 7) = x := ⟨_, rfl⟩
  rw [hW8] at K8 KV8 X8 b8 ⊢
  clear hW8
  obtain ⟨c0, c1, c2, c3, c4⟩ := X8.cells
  have z2 : W8.frozen? ⟨w0.heap.size, 2, none⟩ = false := frozen_of_row _ _ _ _ _ X8.blk
  have HX8 := Lib.hid X8
  have HK8 := Lib.hid K8
  have HV8 := Lib.hid KV8
  have HB8 := Lib.hid b8
  clear X8 K8 KV8 b8
  go_upto_region 21 with fail
  have N9 := HX8.out.next HD.out
  rw [show ((n + 1 : Nat) : Int) = (n : Int) + 1 by omega] at N9
  have K9 := HK8.out.other (c := w0.heap.size) (by omega) 2 (.int .i64 ((n : Int) + 1))
  have KV9 := HV8.out.other (c := w0.heap.size) (by omega) 2 (.int .i64 ((n : Int) + 1))
  clear c0 c1 c2 c3 c4 z2
  obtain ⟨W9, hW9⟩ : ∃ x, W8.setCell ⟨w0.heap.size, 2, none⟩ (.int .i64 ((n : Int) + 1)) = x := ⟨_, rfl⟩
  rw [hW9] at N9 K9 KV9 ⊢
  clear hW9
  have HN9 := Lib.hid N9
  have VV : Hid (VB W9 W6.heap.size (leafP 7 fr) nilV nilV nilV) := Lib.hid K9
  have VK := Lib.hid KV9
  clear N9 K9 KV9
  go_wp2_with (first | (refine wpl_ldV rfl _ rfl W6.heap.size 0 (leafP 7 fr) nilV nilV nilV rfl (VB.range VV.out) ?_) | (refine wpl_stV rfl _ _ rfl w.heap.size zv (leafP 7 fr) nilV nilV nilV rfl rfl VK.out rfl rfl rfl rfl ?_))
  go_wp2
  have F8 : Fr w0.heap.size w W8 := (Fr.of b0.out (Nat.le_of_lt hlt)).trans (Fr.of (HB2.out.trans ((D2.out.trans ((B6.out.trans (HB8.out.mono s6)).mono sD)).mono HB2.out.size)) (by omega))
  refine bodyPost_ret (res_bk Tryd.underlying36 rfl infoV1 rfl _ _ w.heap.size (vvl (leafP 7 fr) nilV nilV nilV) rfl (BK.set VK.out _) rfl) rfl ⟨nilV, nilV, nilV, rfl, ⟨by simp [leafP], by simp [leafP], isP_nil _ _, isP_nil _ _⟩, voP_nil _ _, HN9.out.1.setRow hlt _, Fr.setRow (F8.trans HN9.out.2) (Nat.le_refl _) (Nat.le_of_lt hlt) _⟩
set_option maxRecDepth 100000 in
set_option maxHeartbeats 4000000 in
theorem rdval_deep1 {w0 w : World} {bv lv : Value} {l : List UInt8} {all : M.Toks} {fr te : Nat} {r : M.Toks} (D : Int) (hD : D ≤ 0) (x : RdP w0 bv lv l all w (.ok ((1, fr, te) :: r))) (hT : TkIn l all) :
    Calls Tryd.prog 19 #[ptrP w0, .int .i64 D] w (RvQ w0 bv lv l all noV .nil (.error (4, (fr : Int))) w) := by
  have iD : decide (D ≤ 0) = true := by simpa using hD

  have HX := Lib.hid x
  have hlt := rdlt x
  have b0 := Lib.hid ((Below.refl w.heap.size w).alloc (Nat.le_refl _) (.cells zv 36))
  have K0 := Lib.hid (BK.new 36 w zv)
  obtain ⟨W1, hW1⟩ : ∃ x, w.alloc (.cells zv 36) = x := ⟨_, rfl⟩
  rw [hW1] at b0 K0
  have HW1 := Lib.hid (show w.alloc (.cells #[.int .i64 0, .slice none 0 0, .bool false, .string ⟨#[]⟩, .string ⟨#[]⟩, .slice none 0 0, .int .i64 0, .int .i64 0, .slice none 0 0] 36) = W1 from hW1)
  have X1 := Lib.hid (x.keep b0.out)
  have hl1 := K0.out.lt
  have IS := Lib.hid (fun (w1 : World) (h : RdP w0 bv lv l all w1 (.ok ((1, fr, te) :: r))) => (rdis_any 7 (by decide) h : Calls Tryd.prog 41 #[ptrP w0, .int .i64 7] w1 fun e w' => e = .returned (.bool false) ∧ Below w1.heap.size w1 w'))
  obtain ⟨n, x, hd⟩ := X1.out
  have hn := drop_next hd
  have hla := x.la
  have HS := Lib.hid x
  have HD := Lib.hid hd
  have hn2 : n < 20000 := by omega
  unfold ptrP at IS ⊢
  clear hW1 x hd hla
  go_enter Tryd.func19, Tryd.ntmps19
  go_upto_region 1 with fail
  rw [HW1.out]
  go_wp2_with fail
  refine (IS.out _ X1.out).mono ?_
  rintro e w2 ⟨rfl, hb⟩
  have K02 := Lib.hid (K0.out.keep hb)
  have H2 := Lib.hid (HS.out.keep hb)
  have HB2 := Lib.hid hb
  clear hb
  obtain ⟨c0, c1, c2, c3, c4⟩ := H2.out.cells
  obtain ⟨ta, cap, e0, h1, h2, h3⟩ := H2.out.toks
  obtain ⟨b, off, rfl, hb, hc⟩ := h3 hn.1
  have htk : all.getD n (0, 0, 0) = (1, fr, te) := by
    have := HD.out
    rw [List.drop_eq_getElem_cons hn.1] at this
    simp [List.getD, hn.1, (List.cons.inj this).1]
  rw [htk] at hc
  subst e0
  obtain ⟨N, hN⟩ : ∃ q, all.length = q := ⟨_, rfl⟩
  have hn1 := hn.1
  rw [hN] at h1 c1 hn1
  have hb2 : b < w2.heap.size := by have := hlt; have := H2.out.lo.size; omega
  have hc0 : w2.rangeAt b (off + n * 3) [.int .i64 1, .int .i64 (fr : Int), .int .i64 (te : Int)] := fun j u hu => by
    show w2.cell? ⟨b, off + n * 3 + j, none⟩ = some u
    rw [Nat.add_assoc]; exact hc j u hu
  have SS : ∀ V : World, Below w2.heap.size w2 V → (V.cell? ⟨w0.heap.size, 1, none⟩ = some (.slice (some ⟨b, off, none⟩) N cap) ∧ V.cell? ⟨w0.heap.size, 2, none⟩ = some (.int .i64 (n : Int)) ∧ V.rangeAt b (off + n * 3) [.int .i64 1, .int .i64 (fr : Int), .int .i64 (te : Int)]) := fun V h => ⟨by rw [h.cell (p := ⟨w0.heap.size, 1, none⟩) H2.out.blk.lt]; exact c1, by rw [h.cell (p := ⟨w0.heap.size, 2, none⟩) H2.out.blk.lt]; exact c2, fun j u hu => by rw [h.cell (p := ⟨b, off + n * 3 + j, none⟩) hb2]; exact hc0 j u hu⟩
  clear hc h3 htk hn hc0
  have i1 : (n : Int) < N := by omega
  have i2 : decide ((N : Int) ≤ n) = false := by simp; omega
  go_wp2_with fail
  go_quiet (fail)
  clear c0 c1 c2 c3 c4 i2
  go_upto_region 6 with fail
  have D2 := Lib.hid (show Below w2.heap.size w2 (w2.drewN nq).drew from ⟨rfl, rfl, rfl, Nat.le_refl _, fun _ _ => rfl⟩)
  have K0D := Lib.hid (K02.out.keep D2.out)
  have XD := Lib.hid (H2.out.keep D2.out)
  refine wp_region_noPanic ?_
  refine wp_region_to 11 (S := fun V => (V.cell? ⟨w0.heap.size, 1, none⟩ = some (.slice (some ⟨b, off, none⟩) N cap) ∧ V.cell? ⟨w0.heap.size, 2, none⟩ = some (.int .i64 (n : Int)) ∧ V.rangeAt b (off + n * 3) [.int .i64 1, .int .i64 (fr : Int), .int .i64 (te : Int)])) (by kernel_rfl) (SS _ D2.out) (fun hS => ?_)
  obtain ⟨WD, hWD⟩ : ∃ x, (w2.drewN nq).drew = x := ⟨_, rfl⟩
  rw [hWD] at D2 K0D XD hS ⊢
  clear hWD
  refine dtp 0 ?_
  refine dtp 1 ?_
  refine dtp 2 ?_
  refine dtk 3 ?_
  refine dtp 4 ?_
  refine dtp 5 ?_
  refine dtp 6 ?_
  refine dtk 7 ?_
  refine dtp (v := .pointer (some ⟨b, off + n * 3, none⟩)) 8 (hy := Or.inl ⟨by rfl, by intro V hSV; go_simp⟩) ?_
  refine dtk (v := .agg #[.int .i64 1, .int .i64 (fr : Int), .int .i64 (te : Int)]) 9 (hy := yieldsIf_load_mid (by rfl) 85 _ rfl b (off + n * 3) rfl [.int .i64 1, .int .i64 (fr : Int), .int .i64 (te : Int)] _ (fun w hS => hS.2.2) Tryd.underlying85 rfl infoTok1) ?_
  have b5 := Lib.hid ((Below.refl WD.heap.size WD).alloc (Nat.le_refl _) (.cells #[.int .i64 0, .int .i64 0, .int .i64 0] 85))
  have K5 := Lib.hid (BK.new 85 WD #[.int .i64 0, .int .i64 0, .int .i64 0])
  obtain ⟨W5, hW5⟩ : ∃ x, WD.alloc (.cells #[.int .i64 0, .int .i64 0, .int .i64 0] 85) = x := ⟨_, rfl⟩
  rw [hW5] at b5 K5
  have HW5 := Lib.hid hW5
  clear hW5
  refine AnyTo.ready (rs := [10]) (by kernel_rfl) (by simp) ?_
  refine ReadyTo.cons rfl (fun K hK => ?_) ReadyTo.nil
  go_simp
  rw [HW5.out]
  refine hK.out _ _ (SS _ (D2.out.trans (b5.out.mono D2.out.size))) (fun _ => ?_)
  clear hK K
  refine AnyTo.ready (rs := [11]) (by kernel_rfl) (by simp) ?_
  refine ReadyTo.last rfl (by kernel_rfl) (fun K hK => ?_) ReadyTo.nil
  have l5 := K5.out.lt
  have m0 : W5.cell? ⟨WD.heap.size, 0, none⟩ = some (.int .i64 0) := K5.out.cell 0
  have m1 : W5.cell? ⟨WD.heap.size, 1, none⟩ = some (.int .i64 0) := K5.out.cell 1
  have m2 : W5.cell? ⟨WD.heap.size, 2, none⟩ = some (.int .i64 0) := K5.out.cell 2
  have z0 : W5.frozen? ⟨WD.heap.size, 0, none⟩ = false := frozen_of_row _ _ _ _ _ K5.out
  have z1 : W5.frozen? ⟨WD.heap.size, 1, none⟩ = false := frozen_of_row _ _ _ _ _ K5.out
  have z2 : W5.frozen? ⟨WD.heap.size, 2, none⟩ = false := frozen_of_row _ _ _ _ _ K5.out
  go_simp
  refine hK.out _ _ ?_
  clear hK K
  refine AnyTo.done (by kernel_rfl) ?_ _
  refine NoPanic.normal ?_
  clear m0 m1 m2 z0 z1 z2 hS SS
  have K6 : BK 85 (((W5.setCell ⟨WD.heap.size, 0, none⟩ (.int .i64 1)).setCell ⟨WD.heap.size, 1, none⟩ (.int .i64 (fr : Int))).setCell ⟨WD.heap.size, 2, none⟩ (.int .i64 (te : Int))) WD.heap.size #[.int .i64 1, .int .i64 (fr : Int), .int .i64 (te : Int)] := ((K5.out.setCell 0 (.int .i64 1)).setCell 1 (.int .i64 (fr : Int))).setCell 2 (.int .i64 (te : Int))
  have lD := K0D.out.lt
  have sD := D2.out.size
  have s2 := H2.out.lo.size
  have l2 := H2.out.blk.lt
  have K06 := (((K0D.out.keep b5.out).other (c := WD.heap.size) (by omega) 0 (.int .i64 1)).other (c := WD.heap.size) (by omega) 1 (.int .i64 (fr : Int))).other (c := WD.heap.size) (by omega) 2 (.int .i64 (te : Int))
  have b6 : Below WD.heap.size WD (((W5.setCell ⟨WD.heap.size, 0, none⟩ (.int .i64 1)).setCell ⟨WD.heap.size, 1, none⟩ (.int .i64 (fr : Int))).setCell ⟨WD.heap.size, 2, none⟩ (.int .i64 (te : Int))) := ((b5.out.setCell (p := ⟨WD.heap.size, 0, none⟩) (Nat.le_refl _) _).setCell (p := ⟨WD.heap.size, 1, none⟩) (Nat.le_refl _) _).setCell (p := ⟨WD.heap.size, 2, none⟩) (Nat.le_refl _) _
  obtain ⟨W6, hW6⟩ : ∃ x, ((W5.setCell ⟨WD.heap.size, 0, none⟩ (.int .i64 1)).setCell ⟨WD.heap.size, 1, none⟩ (.int .i64 (fr : Int))).setCell ⟨WD.heap.size, 2, none⟩ (.int .i64 (te : Int)) = x := ⟨_, rfl⟩
  rw [hW6] at K6 K06 b6 ⊢
  have X6 := Lib.hid (XD.out.keep b6)
  have KT6 := Lib.hid K6
  have KV6 := Lib.hid K06
  have B6 := Lib.hid b6
  clear hW6 K6 K06 b6 l5
  have j1 : W6.cell? ⟨WD.heap.size, 1, none⟩ = some (.int .i64 (fr : Int)) := KT6.out.cell 1
  go_upto_region 8 with fail
  have lV := KV6.out.lt
  have s6 := B6.out.size
  have b7 := (Below.refl W6.heap.size W6).alloc (Nat.le_refl _) (.cells #[.int .i64 0, .slice none 0 0, .bool false, .string ⟨#[]⟩, .string ⟨#[]⟩, .slice none 0 0, .int .i64 (fr : Int), .int .i64 0, .slice none 0 0] 36)
  have K7 := BK.new 36 W6 #[.int .i64 0, .slice none 0 0, .bool false, .string ⟨#[]⟩, .string ⟨#[]⟩, .slice none 0 0, .int .i64 (fr : Int), .int .i64 0, .slice none 0 0]
  obtain ⟨W7, hW7⟩ : ∃ x, W6.alloc (.cells #[.int .i64 0, .slice none 0 0, .bool false, .string ⟨#[]⟩, .string ⟨#[]⟩, .slice none 0 0, .int .i64 (fr : Int), .int .i64 0, .slice none 0 0] 36) = x := ⟨_, rfl⟩
  rw [hW7] at b7 K7 ⊢
  have X7 := Lib.hid (X6.out.keep b7)
  have KT7 := Lib.hid (KT6.out.keep b7)
  have KV7 := Lib.hid (KV6.out.keep b7)
  have j0 : W7.cell? ⟨WD.heap.size, 0, none⟩ = some (.int .i64 1) := KT7.out.cell 0
  have q0 : W7.cell? ⟨W6.heap.size, 0, none⟩ = some (.int .i64 0) := K7.cell 0
  have y0 : W7.frozen? ⟨W6.heap.size, 0, none⟩ = false := frozen_of_row _ _ _ _ _ K7
  have B7 := Lib.hid b7
  have HK7 := Lib.hid K7
  clear hW7 j1 b7 K7
  clear q0 y0
  have FA := Lib.hid (fun (w1 : World) (h : RdP w0 bv (.slice (some ⟨b, off, none⟩) all.length cap) l all w1 (.ok ((1, fr, te) :: r))) => rdfail_any (e' := 4) (by decide) h)
  have XP := Lib.hid (show RdP w0 bv (.slice (some ⟨b, off, none⟩) all.length cap) l all W7 (.ok ((1, fr, te) :: r)) from ⟨n, X7.out, HD.out⟩)
  unfold ptrP at FA
  go_wp2_with fail
  refine (FA.out W7 XP.out).mono ?_
  rintro e w10 ⟨rfl, hq⟩
  have K3 := Lib.hid (KV7.out.frame (hq.2.oth _ KV7.out.lt (by omega)))
  have F7 : Fr w0.heap.size w W7 := (Fr.of b0.out (Nat.le_of_lt hlt)).trans (Fr.of (HB2.out.trans ((D2.out.trans ((B6.out.trans (B7.out.mono s6)).mono sD)).mono HB2.out.size)) (by omega))
  have F3 := Lib.hid (F7.trans hq.2)
  have X3 := Lib.hid hq.1
  clear hq F7
  go_wp2_with (refine wpl_stV rfl _ _ rfl w.heap.size zv noV nilV nilV nilV rfl rfl K3.out rfl rfl rfl rfl ?_)
  go_wp2
  refine bodyPost_ret (res_bk Tryd.underlying36 rfl infoV1 rfl _ _ w.heap.size (vvl noV nilV nilV nilV) rfl (BK.set K3.out _) rfl) rfl ⟨nilV, nilV, nilV, rfl, ⟨by simp [noV], by simp [noV], isP_nil _ _, isP_nil _ _⟩, voP_nil _ _, X3.out.setRow hlt _, Fr.setRow F3.out (Nat.le_refl _) (Nat.le_of_lt hlt) _⟩
set_option maxRecDepth 100000 in
set_option maxHeartbeats 4000000 in
theorem rdval_deep3 {w0 w : World} {bv lv : Value} {l : List UInt8} {all : M.Toks} {fr te : Nat} {r : M.Toks} (D : Int) (hD : D ≤ 0) (x : RdP w0 bv lv l all w (.ok ((3, fr, te) :: r))) (hT : TkIn l all) :
    Calls Tryd.prog 19 #[ptrP w0, .int .i64 D] w (RvQ w0 bv lv l all noV .nil (.error (4, (fr : Int))) w) := by
  have iD : decide (D ≤ 0) = true := by simpa using hD

  have HX := Lib.hid x
  have hlt := rdlt x
  have b0 := Lib.hid ((Below.refl w.heap.size w).alloc (Nat.le_refl _) (.cells zv 36))
  have K0 := Lib.hid (BK.new 36 w zv)
  obtain ⟨W1, hW1⟩ : ∃ x, w.alloc (.cells zv 36) = x := ⟨_, rfl⟩
  rw [hW1] at b0 K0
  have HW1 := Lib.hid (show w.alloc (.cells #[.int .i64 0, .slice none 0 0, .bool false, .string ⟨#[]⟩, .string ⟨#[]⟩, .slice none 0 0, .int .i64 0, .int .i64 0, .slice none 0 0] 36) = W1 from hW1)
  have X1 := Lib.hid (x.keep b0.out)
  have hl1 := K0.out.lt
  have IS := Lib.hid (fun (w1 : World) (h : RdP w0 bv lv l all w1 (.ok ((3, fr, te) :: r))) => (rdis_any 7 (by decide) h : Calls Tryd.prog 41 #[ptrP w0, .int .i64 7] w1 fun e w' => e = .returned (.bool false) ∧ Below w1.heap.size w1 w'))
  obtain ⟨n, x, hd⟩ := X1.out
  have hn := drop_next hd
  have hla := x.la
  have HS := Lib.hid x
  have HD := Lib.hid hd
  have hn2 : n < 20000 := by omega
  unfold ptrP at IS ⊢
  clear hW1 x hd hla
  go_enter Tryd.func19, Tryd.ntmps19
  go_upto_region 1 with fail
  rw [HW1.out]
  go_wp2_with fail
  refine (IS.out _ X1.out).mono ?_
  rintro e w2 ⟨rfl, hb⟩
  have K02 := Lib.hid (K0.out.keep hb)
  have H2 := Lib.hid (HS.out.keep hb)
  have HB2 := Lib.hid hb
  clear hb
  obtain ⟨c0, c1, c2, c3, c4⟩ := H2.out.cells
  obtain ⟨ta, cap, e0, h1, h2, h3⟩ := H2.out.toks
  obtain ⟨b, off, rfl, hb, hc⟩ := h3 hn.1
  have htk : all.getD n (0, 0, 0) = (3, fr, te) := by
    have := HD.out
    rw [List.drop_eq_getElem_cons hn.1] at this
    simp [List.getD, hn.1, (List.cons.inj this).1]
  rw [htk] at hc
  subst e0
  obtain ⟨N, hN⟩ : ∃ q, all.length = q := ⟨_, rfl⟩
  have hn1 := hn.1
  rw [hN] at h1 c1 hn1
  have hb2 : b < w2.heap.size := by have := hlt; have := H2.out.lo.size; omega
  have hc0 : w2.rangeAt b (off + n * 3) [.int .i64 3, .int .i64 (fr : Int), .int .i64 (te : Int)] := fun j u hu => by
    show w2.cell? ⟨b, off + n * 3 + j, none⟩ = some u
    rw [Nat.add_assoc]; exact hc j u hu
  have SS : ∀ V : World, Below w2.heap.size w2 V → (V.cell? ⟨w0.heap.size, 1, none⟩ = some (.slice (some ⟨b, off, none⟩) N cap) ∧ V.cell? ⟨w0.heap.size, 2, none⟩ = some (.int .i64 (n : Int)) ∧ V.rangeAt b (off + n * 3) [.int .i64 3, .int .i64 (fr : Int), .int .i64 (te : Int)]) := fun V h => ⟨by rw [h.cell (p := ⟨w0.heap.size, 1, none⟩) H2.out.blk.lt]; exact c1, by rw [h.cell (p := ⟨w0.heap.size, 2, none⟩) H2.out.blk.lt]; exact c2, fun j u hu => by rw [h.cell (p := ⟨b, off + n * 3 + j, none⟩) hb2]; exact hc0 j u hu⟩
  clear hc h3 htk hn hc0
  have i1 : (n : Int) < N := by omega
  have i2 : decide ((N : Int) ≤ n) = false := by simp; omega
  go_wp2_with fail
  go_quiet (fail)
  clear c0 c1 c2 c3 c4 i2
  go_upto_region 6 with fail
  have D2 := Lib.hid (show Below w2.heap.size w2 (w2.drewN nq).drew from ⟨rfl, rfl, rfl, Nat.le_refl _, fun _ _ => rfl⟩)
  have K0D := Lib.hid (K02.out.keep D2.out)
  have XD := Lib.hid (H2.out.keep D2.out)
  refine wp_region_noPanic ?_
  refine wp_region_to 11 (S := fun V => (V.cell? ⟨w0.heap.size, 1, none⟩ = some (.slice (some ⟨b, off, none⟩) N cap) ∧ V.cell? ⟨w0.heap.size, 2, none⟩ = some (.int .i64 (n : Int)) ∧ V.rangeAt b (off + n * 3) [.int .i64 3, .int .i64 (fr : Int), .int .i64 (te : Int)])) (by kernel_rfl) (SS _ D2.out) (fun hS => ?_)
  obtain ⟨WD, hWD⟩ : ∃ x, (w2.drewN nq).drew = x := ⟨_, rfl⟩
  rw [hWD] at D2 K0D XD hS ⊢
  clear hWD
  refine dtp 0 ?_
  refine dtp 1 ?_
  refine dtp 2 ?_
  refine dtk 3 ?_
  refine dtp 4 ?_
  refine dtp 5 ?_
  refine dtp 6 ?_
  refine dtk 7 ?_
  refine dtp (v := .pointer (some ⟨b, off + n * 3, none⟩)) 8 (hy := Or.inl ⟨by rfl, by intro V hSV; go_simp⟩) ?_
  refine dtk (v := .agg #[.int .i64 3, .int .i64 (fr : Int), .int .i64 (te : Int)]) 9 (hy := yieldsIf_load_mid (by rfl) 85 _ rfl b (off + n * 3) rfl [.int .i64 3, .int .i64 (fr : Int), .int .i64 (te : Int)] _ (fun w hS => hS.2.2) Tryd.underlying85 rfl infoTok1) ?_
  have b5 := Lib.hid ((Below.refl WD.heap.size WD).alloc (Nat.le_refl _) (.cells #[.int .i64 0, .int .i64 0, .int .i64 0] 85))
  have K5 := Lib.hid (BK.new 85 WD #[.int .i64 0, .int .i64 0, .int .i64 0])
  obtain ⟨W5, hW5⟩ : ∃ x, WD.alloc (.cells #[.int .i64 0, .int .i64 0, .int .i64 0] 85) = x := ⟨_, rfl⟩
  rw [hW5] at b5 K5
  have HW5 := Lib.hid hW5
  clear hW5
  refine AnyTo.ready (rs := [10]) (by kernel_rfl) (by simp) ?_
  refine ReadyTo.cons rfl (fun K hK => ?_) ReadyTo.nil
  go_simp
  rw [HW5.out]
  refine hK.out _ _ (SS _ (D2.out.trans (b5.out.mono D2.out.size))) (fun _ => ?_)
  clear hK K
  refine AnyTo.ready (rs := [11]) (by kernel_rfl) (by simp) ?_
  refine ReadyTo.last rfl (by kernel_rfl) (fun K hK => ?_) ReadyTo.nil
  have l5 := K5.out.lt
  have m0 : W5.cell? ⟨WD.heap.size, 0, none⟩ = some (.int .i64 0) := K5.out.cell 0
  have m1 : W5.cell? ⟨WD.heap.size, 1, none⟩ = some (.int .i64 0) := K5.out.cell 1
  have m2 : W5.cell? ⟨WD.heap.size, 2, none⟩ = some (.int .i64 0) := K5.out.cell 2
  have z0 : W5.frozen? ⟨WD.heap.size, 0, none⟩ = false := frozen_of_row _ _ _ _ _ K5.out
  have z1 : W5.frozen? ⟨WD.heap.size, 1, none⟩ = false := frozen_of_row _ _ _ _ _ K5.out
  have z2 : W5.frozen? ⟨WD.heap.size, 2, none⟩ = false := frozen_of_row _ _ _ _ _ K5.out
  go_simp
  refine hK.out _ _ ?_
  clear hK K
  refine AnyTo.done (by kernel_rfl) ?_ _
  refine NoPanic.normal ?_
  clear m0 m1 m2 z0 z1 z2 hS SS
  have K6 : BK 85 (((W5.setCell ⟨WD.heap.size, 0, none⟩ (.int .i64 3)).setCell ⟨WD.heap.size, 1, none⟩ (.int .i64 (fr : Int))).setCell ⟨WD.heap.size, 2, none⟩ (.int .i64 (te : Int))) WD.heap.size #[.int .i64 3, .int .i64 (fr : Int), .int .i64 (te : Int)] := ((K5.out.setCell 0 (.int .i64 3)).setCell 1 (.int .i64 (fr : Int))).setCell 2 (.int .i64 (te : Int))
  have lD := K0D.out.lt
  have sD := D2.out.size
  have s2 := H2.out.lo.size
  have l2 := H2.out.blk.lt
  have K06 := (((K0D.out.keep b5.out).other (c := WD.heap.size) (by omega) 0 (.int .i64 3)).other (c := WD.heap.size) (by omega) 1 (.int .i64 (fr : Int))).other (c := WD.heap.size) (by omega) 2 (.int .i64 (te : Int))
  have b6 : Below WD.heap.size WD (((W5.setCell ⟨WD.heap.size, 0, none⟩ (.int .i64 3)).setCell ⟨WD.heap.size, 1, none⟩ (.int .i64 (fr : Int))).setCell ⟨WD.heap.size, 2, none⟩ (.int .i64 (te : Int))) := ((b5.out.setCell (p := ⟨WD.heap.size, 0, none⟩) (Nat.le_refl _) _).setCell (p := ⟨WD.heap.size, 1, none⟩) (Nat.le_refl _) _).setCell (p := ⟨WD.heap.size, 2, none⟩) (Nat.le_refl _) _
  obtain ⟨W6, hW6⟩ : ∃ x, ((W5.setCell ⟨WD.heap.size, 0, none⟩ (.int .i64 3)).setCell ⟨WD.heap.size, 1, none⟩ (.int .i64 (fr : Int))).setCell ⟨WD.heap.size, 2, none⟩ (.int .i64 (te : Int)) = x := ⟨_, rfl⟩
  rw [hW6] at K6 K06 b6 ⊢
  have X6 := Lib.hid (XD.out.keep b6)
  have KT6 := Lib.hid K6
  have KV6 := Lib.hid K06
  have B6 := Lib.hid b6
  clear hW6 K6 K06 b6 l5
  have j1 : W6.cell? ⟨WD.heap.size, 1, none⟩ = some (.int .i64 (fr : Int)) := KT6.out.cell 1
  go_upto_region 8 with fail
  have lV := KV6.out.lt
  have s6 := B6.out.size
  have b7 := (Below.refl W6.heap.size W6).alloc (Nat.le_refl _) (.cells #[.int .i64 0, .slice none 0 0, .bool false, .string ⟨#[]⟩, .string ⟨#[]⟩, .slice none 0 0, .int .i64 (fr : Int), .int .i64 0, .slice none 0 0] 36)
  have K7 := BK.new 36 W6 #[.int .i64 0, .slice none 0 0, .bool false, .string ⟨#[]⟩, .string ⟨#[]⟩, .slice none 0 0, .int .i64 (fr : Int), .int .i64 0, .slice none 0 0]
  obtain ⟨W7, hW7⟩ : ∃ x, W6.alloc (.cells #[.int .i64 0, .slice none 0 0, .bool false, .string ⟨#[]⟩, .string ⟨#[]⟩, .slice none 0 0, .int .i64 (fr : Int), .int .i64 0, .slice none 0 0] 36) = x := ⟨_, rfl⟩
  rw [hW7] at b7 K7 ⊢
  have X7 := Lib.hid (X6.out.keep b7)
  have KT7 := Lib.hid (KT6.out.keep b7)
  have KV7 := Lib.hid (KV6.out.keep b7)
  have j0 : W7.cell? ⟨WD.heap.size, 0, none⟩ = some (.int .i64 3) := KT7.out.cell 0
  have q0 : W7.cell? ⟨W6.heap.size, 0, none⟩ = some (.int .i64 0) := K7.cell 0
  have y0 : W7.frozen? ⟨W6.heap.size, 0, none⟩ = false := frozen_of_row _ _ _ _ _ K7
  have B7 := Lib.hid b7
  have HK7 := Lib.hid K7
  clear hW7 j1 b7 K7
  clear q0 y0
  have FA := Lib.hid (fun (w1 : World) (h : RdP w0 bv (.slice (some ⟨b, off, none⟩) all.length cap) l all w1 (.ok ((3, fr, te) :: r))) => rdfail_any (e' := 4) (by decide) h)
  have XP := Lib.hid (show RdP w0 bv (.slice (some ⟨b, off, none⟩) all.length cap) l all W7 (.ok ((3, fr, te) :: r)) from ⟨n, X7.out, HD.out⟩)
  unfold ptrP at FA
  go_wp2_with fail
  refine (FA.out W7 XP.out).mono ?_
  rintro e w10 ⟨rfl, hq⟩
  have K3 := Lib.hid (KV7.out.frame (hq.2.oth _ KV7.out.lt (by omega)))
  have F7 : Fr w0.heap.size w W7 := (Fr.of b0.out (Nat.le_of_lt hlt)).trans (Fr.of (HB2.out.trans ((D2.out.trans ((B6.out.trans (B7.out.mono s6)).mono sD)).mono HB2.out.size)) (by omega))
  have F3 := Lib.hid (F7.trans hq.2)
  have X3 := Lib.hid hq.1
  clear hq F7
  go_wp2_with (refine wpl_stV rfl _ _ rfl w.heap.size zv noV nilV nilV nilV rfl rfl K3.out rfl rfl rfl rfl ?_)
  go_wp2
  refine bodyPost_ret (res_bk Tryd.underlying36 rfl infoV1 rfl _ _ w.heap.size (vvl noV nilV nilV nilV) rfl (BK.set K3.out _) rfl) rfl ⟨nilV, nilV, nilV, rfl, ⟨by simp [noV], by simp [noV], isP_nil _ _, isP_nil _ _⟩, voP_nil _ _, X3.out.setRow hlt _, Fr.setRow F3.out (Nat.le_refl _) (Nat.le_of_lt hlt) _⟩
set_option maxRecDepth 100000 in
set_option maxHeartbeats 4000000 in
theorem rdval_bad {w0 w : World} {bv lv : Value} {l : List UInt8} {all : M.Toks} {fr te : Nat} {r : M.Toks} (D : Int) (k : Nat) (hk : k ≠ 7 ∧ k ≠ 8 ∧ k ≠ 9 ∧ k ≠ 10 ∧ k ≠ 11 ∧ k ≠ 1 ∧ k ≠ 3) (x : RdP w0 bv lv l all w (.ok ((k, fr, te) :: r))) (hT : TkIn l all) :
    Calls Tryd.prog 19 #[ptrP w0, .int .i64 D] w (RvQ w0 bv lv l all noV .nil (.error (3, (fr : Int))) w) := by
  have e8 : ((k : Int) == 8) = false := by have := hk; simp; omega
  have e9 : ((k : Int) == 9) = false := by have := hk; simp; omega
  have e10 : ((k : Int) == 10) = false := by have := hk; simp; omega
  have e11 : ((k : Int) == 11) = false := by have := hk; simp; omega
  have e1 : ((k : Int) == 1) = false := by have := hk; simp; omega
  have e3 : ((k : Int) == 3) = false := by have := hk; simp; omega
  have hR : isR 7 (.ok ((k, fr, te) :: r)) = false := by simp [isR, kindP, hk.1]

  have HX := Lib.hid x
  have hlt := rdlt x
  have b0 := Lib.hid ((Below.refl w.heap.size w).alloc (Nat.le_refl _) (.cells zv 36))
  have K0 := Lib.hid (BK.new 36 w zv)
  obtain ⟨W1, hW1⟩ : ∃ x, w.alloc (.cells zv 36) = x := ⟨_, rfl⟩
  rw [hW1] at b0 K0
  have HW1 := Lib.hid (show w.alloc (.cells #[.int .i64 0, .slice none 0 0, .bool false, .string ⟨#[]⟩, .string ⟨#[]⟩, .slice none 0 0, .int .i64 0, .int .i64 0, .slice none 0 0] 36) = W1 from hW1)
  have X1 := Lib.hid (x.keep b0.out)
  have hl1 := K0.out.lt
  have IS := Lib.hid (fun (w1 : World) (h : RdP w0 bv lv l all w1 (.ok ((k, fr, te) :: r))) => (hR ▸ rdis_any 7 (by decide) h : Calls Tryd.prog 41 #[ptrP w0, .int .i64 7] w1 fun e w' => e = .returned (.bool false) ∧ Below w1.heap.size w1 w'))
  obtain ⟨n, x, hd⟩ := X1.out
  have hn := drop_next hd
  have hla := x.la
  have HS := Lib.hid x
  have HD := Lib.hid hd
  have hn2 : n < 20000 := by omega
  unfold ptrP at IS ⊢
  clear hW1 x hd hla
  go_enter Tryd.func19, Tryd.ntmps19
  go_upto_region 1 with fail
  rw [HW1.out]
  go_wp2_with fail
  refine (IS.out _ X1.out).mono ?_
  rintro e w2 ⟨rfl, hb⟩
  have K02 := Lib.hid (K0.out.keep hb)
  have H2 := Lib.hid (HS.out.keep hb)
  have HB2 := Lib.hid hb
  clear hb
  obtain ⟨c0, c1, c2, c3, c4⟩ := H2.out.cells
  obtain ⟨ta, cap, e0, h1, h2, h3⟩ := H2.out.toks
  obtain ⟨b, off, rfl, hb, hc⟩ := h3 hn.1
  have htk : all.getD n (0, 0, 0) = (k, fr, te) := by
    have := HD.out
    rw [List.drop_eq_getElem_cons hn.1] at this
    simp [List.getD, hn.1, (List.cons.inj this).1]
  rw [htk] at hc
  subst e0
  obtain ⟨N, hN⟩ : ∃ q, all.length = q := ⟨_, rfl⟩
  have hn1 := hn.1
  rw [hN] at h1 c1 hn1
  have hb2 : b < w2.heap.size := by have := hlt; have := H2.out.lo.size; omega
  have hc0 : w2.rangeAt b (off + n * 3) [.int .i64 k, .int .i64 (fr : Int), .int .i64 (te : Int)] := fun j u hu => by
    show w2.cell? ⟨b, off + n * 3 + j, none⟩ = some u
    rw [Nat.add_assoc]; exact hc j u hu
  have SS : ∀ V : World, Below w2.heap.size w2 V → (V.cell? ⟨w0.heap.size, 1, none⟩ = some (.slice (some ⟨b, off, none⟩) N cap) ∧ V.cell? ⟨w0.heap.size, 2, none⟩ = some (.int .i64 (n : Int)) ∧ V.rangeAt b (off + n * 3) [.int .i64 k, .int .i64 (fr : Int), .int .i64 (te : Int)]) := fun V h => ⟨by rw [h.cell (p := ⟨w0.heap.size, 1, none⟩) H2.out.blk.lt]; exact c1, by rw [h.cell (p := ⟨w0.heap.size, 2, none⟩) H2.out.blk.lt]; exact c2, fun j u hu => by rw [h.cell (p := ⟨b, off + n * 3 + j, none⟩) hb2]; exact hc0 j u hu⟩
  clear hc h3 htk hn hc0
  have i1 : (n : Int) < N := by omega
  have i2 : decide ((N : Int) ≤ n) = false := by simp; omega
  go_wp2_with fail
  go_quiet (fail)
  clear c0 c1 c2 c3 c4 i2
  go_upto_region 6 with fail
  have D2 := Lib.hid (show Below w2.heap.size w2 (w2.drewN nq).drew from ⟨rfl, rfl, rfl, Nat.le_refl _, fun _ _ => rfl⟩)
  have K0D := Lib.hid (K02.out.keep D2.out)
  have XD := Lib.hid (H2.out.keep D2.out)
  refine wp_region_noPanic ?_
  refine wp_region_to 11 (S := fun V => (V.cell? ⟨w0.heap.size, 1, none⟩ = some (.slice (some ⟨b, off, none⟩) N cap) ∧ V.cell? ⟨w0.heap.size, 2, none⟩ = some (.int .i64 (n : Int)) ∧ V.rangeAt b (off + n * 3) [.int .i64 k, .int .i64 (fr : Int), .int .i64 (te : Int)])) (by kernel_rfl) (SS _ D2.out) (fun hS => ?_)
  obtain ⟨WD, hWD⟩ : ∃ x, (w2.drewN nq).drew = x := ⟨_, rfl⟩
  rw [hWD] at D2 K0D XD hS ⊢
  clear hWD
  refine dtp 0 ?_
  refine dtp 1 ?_
  refine dtp 2 ?_
  refine dtk 3 ?_
  refine dtp 4 ?_
  refine dtp 5 ?_
  refine dtp 6 ?_
  refine dtk 7 ?_
  refine dtp (v := .pointer (some ⟨b, off + n * 3, none⟩)) 8 (hy := Or.inl ⟨by rfl, by intro V hSV; go_simp⟩) ?_
  refine dtk (v := .agg #[.int .i64 k, .int .i64 (fr : Int), .int .i64 (te : Int)]) 9 (hy := yieldsIf_load_mid (by rfl) 85 _ rfl b (off + n * 3) rfl [.int .i64 k, .int .i64 (fr : Int), .int .i64 (te : Int)] _ (fun w hS => hS.2.2) Tryd.underlying85 rfl infoTok1) ?_
  have b5 := Lib.hid ((Below.refl WD.heap.size WD).alloc (Nat.le_refl _) (.cells #[.int .i64 0, .int .i64 0, .int .i64 0] 85))
  have K5 := Lib.hid (BK.new 85 WD #[.int .i64 0, .int .i64 0, .int .i64 0])
  obtain ⟨W5, hW5⟩ : ∃ x, WD.alloc (.cells #[.int .i64 0, .int .i64 0, .int .i64 0] 85) = x := ⟨_, rfl⟩
  rw [hW5] at b5 K5
  have HW5 := Lib.hid hW5
  clear hW5
  refine AnyTo.ready (rs := [10]) (by kernel_rfl) (by simp) ?_
  refine ReadyTo.cons rfl (fun K hK => ?_) ReadyTo.nil
  go_simp
  rw [HW5.out]
  refine hK.out _ _ (SS _ (D2.out.trans (b5.out.mono D2.out.size))) (fun _ => ?_)
  clear hK K
  refine AnyTo.ready (rs := [11]) (by kernel_rfl) (by simp) ?_
  refine ReadyTo.last rfl (by kernel_rfl) (fun K hK => ?_) ReadyTo.nil
  have l5 := K5.out.lt
  have m0 : W5.cell? ⟨WD.heap.size, 0, none⟩ = some (.int .i64 0) := K5.out.cell 0
  have m1 : W5.cell? ⟨WD.heap.size, 1, none⟩ = some (.int .i64 0) := K5.out.cell 1
  have m2 : W5.cell? ⟨WD.heap.size, 2, none⟩ = some (.int .i64 0) := K5.out.cell 2
  have z0 : W5.frozen? ⟨WD.heap.size, 0, none⟩ = false := frozen_of_row _ _ _ _ _ K5.out
  have z1 : W5.frozen? ⟨WD.heap.size, 1, none⟩ = false := frozen_of_row _ _ _ _ _ K5.out
  have z2 : W5.frozen? ⟨WD.heap.size, 2, none⟩ = false := frozen_of_row _ _ _ _ _ K5.out
  go_simp
  refine hK.out _ _ ?_
  clear hK K
  refine AnyTo.done (by kernel_rfl) ?_ _
  refine NoPanic.normal ?_
  clear m0 m1 m2 z0 z1 z2 hS SS
  have K6 : BK 85 (((W5.setCell ⟨WD.heap.size, 0, none⟩ (.int .i64 k)).setCell ⟨WD.heap.size, 1, none⟩ (.int .i64 (fr : Int))).setCell ⟨WD.heap.size, 2, none⟩ (.int .i64 (te : Int))) WD.heap.size #[.int .i64 k, .int .i64 (fr : Int), .int .i64 (te : Int)] := ((K5.out.setCell 0 (.int .i64 k)).setCell 1 (.int .i64 (fr : Int))).setCell 2 (.int .i64 (te : Int))
  have lD := K0D.out.lt
  have sD := D2.out.size
  have s2 := H2.out.lo.size
  have l2 := H2.out.blk.lt
  have K06 := (((K0D.out.keep b5.out).other (c := WD.heap.size) (by omega) 0 (.int .i64 k)).other (c := WD.heap.size) (by omega) 1 (.int .i64 (fr : Int))).other (c := WD.heap.size) (by omega) 2 (.int .i64 (te : Int))
  have b6 : Below WD.heap.size WD (((W5.setCell ⟨WD.heap.size, 0, none⟩ (.int .i64 k)).setCell ⟨WD.heap.size, 1, none⟩ (.int .i64 (fr : Int))).setCell ⟨WD.heap.size, 2, none⟩ (.int .i64 (te : Int))) := ((b5.out.setCell (p := ⟨WD.heap.size, 0, none⟩) (Nat.le_refl _) _).setCell (p := ⟨WD.heap.size, 1, none⟩) (Nat.le_refl _) _).setCell (p := ⟨WD.heap.size, 2, none⟩) (Nat.le_refl _) _
  obtain ⟨W6, hW6⟩ : ∃ x, ((W5.setCell ⟨WD.heap.size, 0, none⟩ (.int .i64 k)).setCell ⟨WD.heap.size, 1, none⟩ (.int .i64 (fr : Int))).setCell ⟨WD.heap.size, 2, none⟩ (.int .i64 (te : Int)) = x := ⟨_, rfl⟩
  rw [hW6] at K6 K06 b6 ⊢
  have X6 := Lib.hid (XD.out.keep b6)
  have KT6 := Lib.hid K6
  have KV6 := Lib.hid K06
  have B6 := Lib.hid b6
  clear hW6 K6 K06 b6 l5
  have j1 : W6.cell? ⟨WD.heap.size, 1, none⟩ = some (.int .i64 (fr : Int)) := KT6.out.cell 1
  go_upto_region 8 with fail
  have lV := KV6.out.lt
  have s6 := B6.out.size
  have b7 := (Below.refl W6.heap.size W6).alloc (Nat.le_refl _) (.cells #[.int .i64 0, .slice none 0 0, .bool false, .string ⟨#[]⟩, .string ⟨#[]⟩, .slice none 0 0, .int .i64 (fr : Int), .int .i64 0, .slice none 0 0] 36)
  have K7 := BK.new 36 W6 #[.int .i64 0, .slice none 0 0, .bool false, .string ⟨#[]⟩, .string ⟨#[]⟩, .slice none 0 0, .int .i64 (fr : Int), .int .i64 0, .slice none 0 0]
  obtain ⟨W7, hW7⟩ : ∃ x, W6.alloc (.cells #[.int .i64 0, .slice none 0 0, .bool false, .string ⟨#[]⟩, .string ⟨#[]⟩, .slice none 0 0, .int .i64 (fr : Int), .int .i64 0, .slice none 0 0] 36) = x := ⟨_, rfl⟩
  rw [hW7] at b7 K7 ⊢
  have X7 := Lib.hid (X6.out.keep b7)
  have KT7 := Lib.hid (KT6.out.keep b7)
  have KV7 := Lib.hid (KV6.out.keep b7)
  have j0 : W7.cell? ⟨WD.heap.size, 0, none⟩ = some (.int .i64 k) := KT7.out.cell 0
  have q0 : W7.cell? ⟨W6.heap.size, 0, none⟩ = some (.int .i64 0) := K7.cell 0
  have y0 : W7.frozen? ⟨W6.heap.size, 0, none⟩ = false := frozen_of_row _ _ _ _ _ K7
  have B7 := Lib.hid b7
  have HK7 := Lib.hid K7
  clear hW7 j1 b7 K7
  clear q0 y0
  have FA := Lib.hid (fun (w1 : World) (h : RdP w0 bv (.slice (some ⟨b, off, none⟩) all.length cap) l all w1 (.ok ((k, fr, te) :: r))) => rdfail_any (e' := 3) (by decide) h)
  have XP := Lib.hid (show RdP w0 bv (.slice (some ⟨b, off, none⟩) all.length cap) l all W7 (.ok ((k, fr, te) :: r)) from ⟨n, X7.out, HD.out⟩)
  unfold ptrP at FA
  go_wp2_with fail
  refine (FA.out W7 XP.out).mono ?_
  rintro e w10 ⟨rfl, hq⟩
  have K3 := Lib.hid (KV7.out.frame (hq.2.oth _ KV7.out.lt (by omega)))
  have F7 : Fr w0.heap.size w W7 := (Fr.of b0.out (Nat.le_of_lt hlt)).trans (Fr.of (HB2.out.trans ((D2.out.trans ((B6.out.trans (B7.out.mono s6)).mono sD)).mono HB2.out.size)) (by omega))
  have F3 := Lib.hid (F7.trans hq.2)
  have X3 := Lib.hid hq.1
  clear hq F7
  go_wp2_with (refine wpl_stV rfl _ _ rfl w.heap.size zv noV nilV nilV nilV rfl rfl K3.out rfl rfl rfl rfl ?_)
  go_wp2
  refine bodyPost_ret (res_bk Tryd.underlying36 rfl infoV1 rfl _ _ w.heap.size (vvl noV nilV nilV nilV) rfl (BK.set K3.out _) rfl) rfl ⟨nilV, nilV, nilV, rfl, ⟨by simp [noV], by simp [noV], isP_nil _ _, isP_nil _ _⟩, voP_nil _ _, X3.out.setRow hlt _, Fr.setRow F3.out (Nat.le_refl _) (Nat.le_of_lt hlt) _⟩
end Go.Proofs.YtlobinjdgcidmaaDoor
