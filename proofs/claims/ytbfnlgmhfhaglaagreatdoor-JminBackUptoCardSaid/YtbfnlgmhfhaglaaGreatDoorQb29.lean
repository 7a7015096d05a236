import Derived.Test.YtbfnlgmhfhaglaaGreatDoorQb27
import Derived.Test.YtbfnlgmhfhaglaaGreatDoorQb28
import Derived.Deep.QuietTactic
import Derived.BigQuiet
set_option maxHeartbeats 4000000
set_option maxRecDepth 100000
namespace Go.Proofs.YtbfnlgmhfhaglaaGreatDoor
open Go.RowKit
set_option linter.unusedVariables false
set_option linter.unusedSimpArgs false
def noV : Vh := ⟨0, [], false, [], [], 0, 0, []⟩
def textR (l : List UInt8) : Rst -> Vh × Rst
 | .ok ts => (match takeP l.length 7 ts with
  | .ok (t, r) => (textV l t, .ok r)
  | .error x => (noV, .error x))
 | .error x => (noV, .error x)
theorem textR_no {l : List UInt8} {st : Rst} (h : isR 7 st = false) : textR l st = (noV, failR l.length 3 st) := by
 cases st with
 | error q => rfl
 | ok ts =>
  have h' : kindP ts ≠ 7 := by simpa [isR] using h
  cases ts with
  | nil => rfl
  | cons t r =>
   have h2 : t.1 ≠ 7 := h'
   simp [textR, takeP, h2, failR, synP]
theorem textR_yes {l : List UInt8} {st : Rst} (h : isR 7 st = true) : ∃ fr te r, st = .ok ((7, fr, te) :: r) /\ textR l st = (textV l (7, fr, te), .ok r) := by
 cases st with
 | error q => cases h
 | ok ts =>
  have h' : kindP ts = 7 := by simpa [isR] using h
  cases ts with
  | nil => simp [kindP] at h'
  | cons t r =>
   obtain ⟨k, a, b⟩ := t
   have h2 : k = 7 := h'
   subst h2
   exact ⟨a, b, r, rfl, by simp [textR, takeP]⟩
def RvQ (w0 : World) (bv lv : Value) (l : List UInt8) (all : M.Toks) (h : Vh) (kids : Vo) (st : Rst) (w : World) (e : Ending) (w' : World) : Prop :=
 ∃ tv v mv, e = .returned (.agg (vv h tv v mv)) /\ HdP (Nw w.heap.size w') w' h tv mv /\ VoP (Nw w.heap.size w') w' v kids /\ RdQ w0 bv lv l all st w w'
theorem RdS.setRow {w0 w : World} {bv lv : Value} {l : List UInt8} {all : M.Toks} {n : Nat} {er a : Int} (x : RdS w0 bv lv l all w n er a) {g : Nat} (hg : w0.heap.size < g) (cs : Array Value) : RdS w0 bv lv l all (w.setRow g cs) n er a :=
 ⟨x.blk.frame (setRow_other _ _ _ _ (by omega)), below_setRowK x.lo (Nat.le_of_lt hg) cs, x.bs, x.tk, x.tx, x.hn, x.ll, x.la⟩
theorem RdP.setRow {w0 w : World} {bv lv : Value} {l : List UInt8} {all : M.Toks} {st : Rst} (x : RdP w0 bv lv l all w st) {g : Nat} (hg : w0.heap.size < g) (cs : Array Value) : RdP w0 bv lv l all (w.setRow g cs) st := by
 cases st with
 | ok ts => obtain ⟨n, h, e⟩ := x; exact ⟨n, h.setRow hg cs, e⟩
 | error q => obtain ⟨h0, n, h⟩ := x; exact ⟨h0, n, h.setRow hg cs⟩
theorem RdP.setCell {w0 w : World} {bv lv : Value} {l : List UInt8} {all : M.Toks} {st : Rst} (x : RdP w0 bv lv l all w st) {g : Nat} (hg : w0.heap.size < g) (j : Nat) (u : Value) : RdP w0 bv lv l all (w.setCell ⟨g, j, none⟩ u) st := by
 have k : ∀ {n er a}, RdS w0 bv lv l all w n er a -> RdS w0 bv lv l all (w.setCell ⟨g, j, none⟩ u) n er a := fun x => ⟨x.blk.other (by omega) j u, x.lo.setCell (p := ⟨g, j, none⟩) (Nat.le_of_lt hg) u, x.bs, x.tk, x.tx, x.hn, x.ll, x.la⟩
 cases st with
 | ok ts => obtain ⟨n, h, e⟩ := x; exact ⟨n, k h, e⟩
 | error q => obtain ⟨h0, n, h⟩ := x; exact ⟨h0, n, k h⟩
theorem rdtext_any {w0 w : World} {bv lv : Value} {l : List UInt8} {all : M.Toks} {st : Rst} (x : RdP w0 bv lv l all w st) (hT : TkIn l all) :
  Calls Tryz.prog 49 #[ptrP w0] w (RvQ w0 bv lv l all (textR l st).1 .nil (textR l st).2 w) := by
 have HX := LH x
 have hlt := rdlt x
 have b0 := LH ((Below.refl w.heap.size w).alloc (Nat.le_refl _) (.cells zv 27))
 have K0 := LH (BK.new 27 w zv)
 obtain ⟨W1, hW1⟩ : ∃ x, w.alloc (.cells zv 27) = x := ⟨_, rfl⟩
 rw [hW1] at b0 K0
 have HW1 := LH (zvx hW1)
 have X1 := LH (x.keep b0.out)
 have hl1 := K0.out.lt
 clear hW1 x
 cases hR : isR 7 st with
 | false =>
  rw [textR_no hR]
  have IS := LH (fun (w1 : World) (h : RdP w0 bv lv l all w1 st) => (hR ▸ rdis_any 7 (by decide) h : Calls Tryz.prog 48 #[ptrP w0, .int .i64 7] w1 fun e w' => e = .returned (.bool false) /\ Below w1.heap.size w1 w'))
  have FA := LH (fun (w1 : World) (h : RdP w0 bv lv l all w1 st) => rdfail_any (e' := 3) (by decide) h)
  unfold ptrP at IS FA ⊢
  clear hR
  go_enter Tryz.func49, Tryz.ntmps49
  go_upto_region 1 with fail
  rw [HW1.out]
  go_wp2_with fail
  refine (IS.out _ X1.out).mono ?_
  rintro e w2 ⟨rfl, hb⟩
  have H2 := LH hb
  clear hb
  go_wp2_with fail
  refine (FA.out w2 (X1.out.keep H2.out)).mono ?_
  rintro e w3 ⟨rfl, hq⟩
  have H3 := LH hq
  clear hq
  have K03 := (K0.out.keep H2.out).frame (H3.out.2.oth _ (by have := H2.out.size; omega) (by omega))
  have K3 := LH K03
  clear K03
  go_wp2_with (refine wpl_stV rfl _ _ rfl w.heap.size zv noV nilV nilV nilV rfl rfl K3.out rfl rfl rfl rfl ?_)
  go_wp2
  refine bodyPost_ret (res_bk Tryz.underlying27 rfl infoV1 rfl _ _ w.heap.size (vvl noV nilV nilV nilV) rfl (BK.set K3.out _) rfl) rfl ⟨nilV, nilV, nilV, rfl, ⟨by simp [noV], by simp [noV], isP_nil _ _, isP_nil _ _⟩, voP_nil _ _, H3.out.1.setRow hlt _, Fr.setRow ?_ (Nat.le_refl _) (Nat.le_of_lt hlt) _⟩
  exact ((Fr.of b0.out (Nat.le_of_lt hlt)).trans (Fr.of H2.out (by omega))).trans H3.out.2
 | true =>
  obtain ⟨fr, te, r, rfl, hm⟩ := textR_yes (l := l) hR
  rw [hm]
  have IS := LH (fun (w1 : World) (h : RdP w0 bv lv l all w1 (.ok ((7, fr, te) :: r))) => (hR ▸ rdis_any 7 (by decide) h : Calls Tryz.prog 48 #[ptrP w0, .int .i64 7] w1 fun e w' => e = .returned (.bool true) /\ Below w1.heap.size w1 w'))
  obtain ⟨n, x, hd⟩ := X1.out
  have hn := drop_next hd
  have hla := x.la
  have HS := LH x
  have HD := LH hd
  have hn2 : n < 20000 := by omega
  unfold ptrP at IS ⊢
  clear hR hm x hd hla
  go_enter Tryz.func49, Tryz.ntmps49
  go_upto_region 1 with fail
  rw [HW1.out]
  go_wp2_with fail
  refine (IS.out _ X1.out).mono ?_
  rintro e w2 ⟨rfl, hb⟩
  have K02 := LH (K0.out.keep hb)
  have H2 := LH (HS.out.keep hb)
  have HB2 := LH hb
  clear hb
  obtain ⟨c0, c1, c2, c3, c4⟩ := H2.out.cells
  obtain ⟨ta, cap, e0, h1, h2, h3⟩ := H2.out.toks
  obtain ⟨b, off, rfl, hb, hc⟩ := h3 hn.1
  have htk : all.getD n (0, 0, 0) = (7, fr, te) := by
   have := HD.out
   rw [List.drop_eq_getElem_cons hn.1] at this
   simp [List.getD, hn.1, (List.cons.inj this).1]
  rw [htk] at hc
  have D2 := LH ((Below.refl w2.heap.size w2).drew)
  have K0D := LH (K02.out.keep D2.out)
  have XD := LH (H2.out.keep D2.out)
  subst e0
  have hc0 : w2.rangeAt b (off + n * 3) [.int .i64 7, .int .i64 (fr : Int), .int .i64 (te : Int)] := fun j u hu => by
   show w2.cell? ⟨b, off + n * 3 + j, none⟩ = some u
   rw [Nat.add_assoc]; exact hc j u hu
  obtain ⟨N, hN⟩ : ∃ q, all.length = q := ⟨_, rfl⟩
  have hn1 := hn.1
  rw [hN] at h1 c1 hn1
  have hb2 : b < w2.heap.size := by have := hlt; have := H2.out.lo.size; omega
  have SS : ∀ V : World, Below w2.heap.size w2 V -> (V.cell? ⟨w0.heap.size, 1, none⟩ = some (.slice (some ⟨b, off, none⟩) N cap) /\ V.cell? ⟨w0.heap.size, 2, none⟩ = some (.int .i64 (n : Int)) /\ V.rangeAt b (off + n * 3) [.int .i64 7, .int .i64 (fr : Int), .int .i64 (te : Int)]) := fun V h => ⟨by rw [h.cell (p := ⟨w0.heap.size, 1, none⟩) H2.out.blk.lt]; exact c1, by rw [h.cell (p := ⟨w0.heap.size, 2, none⟩) H2.out.blk.lt]; exact c2, fun j u hu => by rw [h.cell (p := ⟨b, off + n * 3 + j, none⟩) hb2]; exact hc0 j u hu⟩
  clear hc h3 htk hn c0 c1 c2 c3 c4 hc0
  have i1 : (n : Int) < N := by omega
  go_upto_region 4 with fail
  refine wp_region_noPanic ?_
  refine wp_region_to 11 (S := fun V => (V.cell? ⟨w0.heap.size, 1, none⟩ = some (.slice (some ⟨b, off, none⟩) N cap) /\ V.cell? ⟨w0.heap.size, 2, none⟩ = some (.int .i64 (n : Int)) /\ V.rangeAt b (off + n * 3) [.int .i64 7, .int .i64 (fr : Int), .int .i64 (te : Int)])) (by kernel_rfl) (SS _ D2.out) (fun hS => ?_)
  obtain ⟨WD, hWD⟩ : ∃ x, w2.drew = x := ⟨_, rfl⟩
  rw [hWD] at D2 K0D XD hS ⊢
  clear hWD
  refine dtp 0 ?_
  refine dtp 1 ?_
  refine dtp 2 ?_
  refine dtk 3 ?_
  refine dtp 4 ?_
  refine dtp 5 ?_
  refine dtp 6 ?_
  refine dtk 7 ?_
  refine dtp (v := .pointer (some ⟨b, off + n * 3, none⟩)) 8 (hy := Or.inl ⟨by rfl, by intro V hSV; go_simp⟩) ?_
  refine dtk (v := .agg #[.int .i64 7, .int .i64 (fr : Int), .int .i64 (te : Int)]) 9 (hy := yieldsIf_load_mid (by rfl) 51 _ rfl b (off + n * 3) rfl [.int .i64 7, .int .i64 (fr : Int), .int .i64 (te : Int)] _ (fun w hS => hS.2.2) Tryz.underlying51 rfl infoTok1) ?_
  have b5 := LH ((Below.refl WD.heap.size WD).alloc (Nat.le_refl _) (.cells #[.int .i64 0, .int .i64 0, .int .i64 0] 51))
  have K5 := LH (BK.new 51 WD #[.int .i64 0, .int .i64 0, .int .i64 0])
  obtain ⟨W5, hW5⟩ : ∃ x, WD.alloc (.cells #[.int .i64 0, .int .i64 0, .int .i64 0] 51) = x := ⟨_, rfl⟩
  rw [hW5] at b5 K5
  have HW5 := LH hW5
  clear hW5
  refine AnyTo.ready (rs := [10]) (by kernel_rfl) (by simp) ?_
  refine ReadyTo.one rfl fun K hK => ?_
  go_simp
  rw [HW5.out]
  refine hK.out _ _ (SS _ (D2.out.trans (b5.out.mono D2.out.size))) (fun _ => ?_)
  clear hK K
  refine AnyTo.ready (rs := [11]) (by kernel_rfl) (by simp) ?_
  refine ReadyTo.lone rfl (by kernel_rfl) fun K hK => ?_
  have l5 := K5.out.lt
  have m0 : W5.cell? ⟨WD.heap.size, 0, none⟩ = some (.int .i64 0) := K5.out.cell 0
  have m1 : W5.cell? ⟨WD.heap.size, 1, none⟩ = some (.int .i64 0) := K5.out.cell 1
  have m2 : W5.cell? ⟨WD.heap.size, 2, none⟩ = some (.int .i64 0) := K5.out.cell 2
  have z0 : W5.frozen? ⟨WD.heap.size, 0, none⟩ = false := frozen_of_row _ _ _ _ _ K5.out
  have z1 : W5.frozen? ⟨WD.heap.size, 1, none⟩ = false := frozen_of_row _ _ _ _ _ K5.out
  have z2 : W5.frozen? ⟨WD.heap.size, 2, none⟩ = false := frozen_of_row _ _ _ _ _ K5.out
  go_simp
  refine hK.out _ _ ?_
  clear hK K
  refine AnyTo.done (by kernel_rfl) ?_ _
  refine NoPanic.normal ?_
  clear m0 m1 m2 z0 z1 z2 hS SS
  have K6 : BK 51 (((W5.setCell ⟨WD.heap.size, 0, none⟩ (.int .i64 7)).setCell ⟨WD.heap.size, 1, none⟩ (.int .i64 (fr : Int))).setCell ⟨WD.heap.size, 2, none⟩ (.int .i64 (te : Int))) WD.heap.size #[.int .i64 7, .int .i64 (fr : Int), .int .i64 (te : Int)] := ((K5.out.setCell 0 (.int .i64 7)).setCell 1 (.int .i64 (fr : Int))).setCell 2 (.int .i64 (te : Int))
  have lD := K0D.out.lt
  have sD := D2.out.size
  have s2 := H2.out.lo.size
  have l2 := H2.out.blk.lt
  have K06 := (((K0D.out.keep b5.out).other (c := WD.heap.size) (by omega) 0 (.int .i64 7)).other (c := WD.heap.size) (by omega) 1 (.int .i64 (fr : Int))).other (c := WD.heap.size) (by omega) 2 (.int .i64 (te : Int))
  have b6 : Below WD.heap.size WD (((W5.setCell ⟨WD.heap.size, 0, none⟩ (.int .i64 7)).setCell ⟨WD.heap.size, 1, none⟩ (.int .i64 (fr : Int))).setCell ⟨WD.heap.size, 2, none⟩ (.int .i64 (te : Int))) := ((b5.out.setCell (p := ⟨WD.heap.size, 0, none⟩) (Nat.le_refl _) _).setCell (p := ⟨WD.heap.size, 1, none⟩) (Nat.le_refl _) _).setCell (p := ⟨WD.heap.size, 2, none⟩) (Nat.le_refl _) _
  obtain ⟨W6, hW6⟩ : ∃ x, ((W5.setCell ⟨WD.heap.size, 0, none⟩ (.int .i64 7)).setCell ⟨WD.heap.size, 1, none⟩ (.int .i64 (fr : Int))).setCell ⟨WD.heap.size, 2, none⟩ (.int .i64 (te : Int)) = x := ⟨_, rfl⟩
  rw [hW6] at K6 K06 b6 ⊢
  have X6 := LH (XD.out.keep b6)
  have KT6 := LH K6
  have KV6 := LH K06
  have B6 := LH b6
  clear hW6 K6 K06 b6 l5
  obtain ⟨c0, c1, c2, c3, c4⟩ := X6.out.cells
  have z2 : W6.frozen? ⟨w0.heap.size, 2, none⟩ = false := frozen_of_row _ _ _ _ _ X6.out.blk
  go_upto_region 6 with fail
  have N7 := X6.out.next HD.out
  rw [show ((n + 1 : Nat) : Int) = (n : Int) + 1 by omega] at N7
  have KT7 := KT6.out.other (c := w0.heap.size) (by omega) 2 (.int .i64 ((n : Int) + 1))
  have KV7 := KV6.out.other (c := w0.heap.size) (by omega) 2 (.int .i64 ((n : Int) + 1))
  obtain ⟨W7, hW7⟩ : ∃ x, W6.setCell ⟨w0.heap.size, 2, none⟩ (.int .i64 ((n : Int) + 1)) = x := ⟨_, rfl⟩
  rw [hW7] at N7 KT7 KV7 ⊢
  have F7 := LH (((Fr.of b0.out (Nat.le_of_lt hlt)).trans (Fr.of (HB2.out.trans ((D2.out.trans (B6.out.mono sD)).mono HB2.out.size)) (by omega))).trans N7.2)
  have X7 := LH N7.1
  have KT := LH KT7
  have KV := LH KV7
  obtain ⟨n7, x7, hd7⟩ := N7.1
  clear N7 KT7 KV7 hW7
  have hin : fr < te /\ te <= l.length := by
   have := hT (7, fr, te) (List.mem_of_mem_drop (i := n) (by rw [HD.out]; exact List.mem_cons_self))
   exact this
  have hll := x7.ll
  obtain ⟨ba, bcap, hbv, g1, g2, g3⟩ := x7.bs
  obtain ⟨bb, boff, rfl, hbb, hbc⟩ := g3 (by omega)
  obtain ⟨M, hM⟩ : ∃ n, l.length = n := ⟨_, rfl⟩
  rw [hM] at hbv g1
  subst hbv
  have hpt := bs_part (show Bs w0 (.slice (some ⟨bb, boff, none⟩) M bcap) l from x7.bs) fr te (by omega) (by omega)
  have ttb : (l.drop fr).take (te - fr) = tokB l (7, fr, te) := rfl
  rw [ttb] at hpt
  have tbl : (tokB l (7, fr, te)).length <= 20000 := by unfold tokB; simp only [List.length_take, List.length_drop]; omega
  have D7 := LH ((Below.refl W7.heap.size W7).drew)
  have KTD := LH (KT.out.keep D7.out)
  have KVD := LH (KV.out.keep D7.out)
  have XD7 := LH (X7.out.keep D7.out)
  have XS7 := LH (x7.keep D7.out)
  refine wp_region_noPanic ?_
  have UA := LH (junitsz_any _ _ W7.drew (hpt.keep XS7.out.lo) (by omega))
  have SS : ∀ V : World, RdS w0 (.slice (some ⟨bb, boff, none⟩) M bcap) (.slice (some ⟨b, off, none⟩) all.length cap) l all V n7 0 0 -> BK 51 V WD.heap.size #[.int .i64 7, .int .i64 (fr : Int), .int .i64 (te : Int)] -> (V.cell? ⟨w0.heap.size, 0, none⟩ = some (.slice (some ⟨bb, boff, none⟩) M bcap) /\ V.cell? ⟨WD.heap.size, 1, none⟩ = some (.int .i64 (fr : Int)) /\ V.cell? ⟨WD.heap.size, 2, none⟩ = some (.int .i64 (te : Int))) := fun V h k => ⟨h.cells.1, k.cell 1, k.cell 2⟩
  refine wp_region_to 14 (S := fun V => (V.cell? ⟨w0.heap.size, 0, none⟩ = some (.slice (some ⟨bb, boff, none⟩) M bcap) /\ V.cell? ⟨WD.heap.size, 1, none⟩ = some (.int .i64 (fr : Int)) /\ V.cell? ⟨WD.heap.size, 2, none⟩ = some (.int .i64 (te : Int)))) (by kernel_rfl) (SS _ XS7.out KTD.out) (fun hS => ?_)
  have i1 : (fr : Int) <= te := by omega
  have i2 : (te : Int) <= M := by omega
  have i3 : (M : Int) <= bcap := by omega
  have i4 : ¬ bcap - fr = 0 := by omega
  have i5 : (te : Int) <= bcap := by omega
  obtain ⟨WE, hWE⟩ : ∃ x, W7.drew = x := ⟨_, rfl⟩
  rw [hWE] at UA KTD KVD XD7 XS7 hS D7 ⊢
  clear hWE
  refine dtp 0 ?_
  refine dtp 1 ?_
  refine dtp 2 ?_
  refine dtk 3 ?_
  refine dtp 4 ?_
  refine dtk 5 ?_
  refine dtp 6 ?_
  refine dtk 7 ?_
  refine dtp (v := .slice (some ⟨bb, boff + fr, none⟩) (te - fr) (bcap - fr)) 8 (hy := Or.inl ⟨by rfl, by intro V hSV; go_simp; omega⟩) ?_
  refine AnyTo.ready (rs := [9]) (by kernel_rfl) (by simp) ?_
  refine ReadyTo.one rfl fun K hK => ?_
  go_simp
  refine UA.out.mono ?_
  rintro e w8 ⟨tv, ub, rfl, ip, hb8⟩
  refine hK.out _ _ (SS _ (XS7.out.keep hb8) (KTD.out.keep hb8)) (fun hS => ?_)
  clear hK K
  have KT8 := LH (KTD.out.keep hb8)
  have KV8 := LH (KVD.out.keep hb8)
  have X8 := LH (XD7.out.keep hb8)
  refine dtp 10 ?_
  refine dtp 11 ?_
  refine dtp 12 ?_
  refine dtp 13 ?_
  refine AnyTo.ready (rs := [14]) (by kernel_rfl) (by simp) ?_
  refine ReadyTo.lone rfl (by kernel_rfl) fun K hK => ?_
  go_simp
  refine hK.out _ _ ?_
  clear hK K
  refine AnyTo.done (by kernel_rfl) ?_ _
  refine NoPanic.normal ?_
  obtain ⟨ta, tcap, htv⟩ := ip.slice
  obtain ⟨q, hq⟩ : ∃ q, (iN ((unitsV (tokB l (7, fr, te))).getD [])).length = q := ⟨_, rfl⟩
  rw [hq] at htv
  subst htv
  clear hq
  have t1 := ip.one
  have k1 : w8.cell? ⟨WD.heap.size, 1, none⟩ = some (.int .i64 (fr : Int)) := KT8.out.cell 1
  have IP := LH ip
  have HB8 := LH hb8
  clear ip hb8 hS SS
  go_wp2_with (refine wpl_stV rfl _ _ rfl w.heap.size zv (textV l (7, fr, te)) (.slice ta q tcap) nilV nilV rfl rfl KV8.out rfl t1 rfl rfl ?_)
  go_wp2
  have l7 := rdlt X7.out
  have sD7 := D7.out.size
  have lE := KVD.out.lt
  refine bodyPost_ret (res_bk Tryz.underlying27 rfl infoV1 rfl _ _ w.heap.size (vvl (textV l (7, fr, te)) (.slice ta q tcap) nilV nilV) rfl (BK.set KV8.out _) rfl) rfl ⟨.slice ta q tcap, nilV, nilV, rfl, ⟨by simp [textV], by simp [textV], ?_, isP_nil _ _⟩, voP_nil _ _, X8.out.setRow hlt _, Fr.setRow ?_ (Nat.le_refl _) (Nat.le_of_lt hlt) _⟩
  ·exact (IP.out.keep (fun b hb => setRow_other _ _ _ _ (by have := hb.1; omega))).mono (fun b hb => ⟨by have := hb.1; omega, Nat.lt_of_lt_of_le hb.2 (below_setRowK (Below.refl 0 w8) (Nat.zero_le _) _).size⟩)
  ·exact (F7.out.trans (Fr.of D7.out (by omega))).trans (Fr.of HB8.out (by omega))
end Go.Proofs.YtbfnlgmhfhaglaaGreatDoor
namespace Go.Proofs.YtbfnlgmhfhaglaaGreatDoor
set_option linter.unusedVariables false
set_option linter.unusedSimpArgs false
abbrev RRes := Vh × Vo × Rst
def itemR (l : List UInt8) (val : Rst -> RRes) (obj : Bool) (st : Rst) (ms : List Int) (L : Vo) : List Int × Vo × Rst :=
 if obj then
  (ms ++ [(markR l.length 5 (textR l st).2).1], (L.snoc (textR l st).1 .nil).snoc (val (markR l.length 5 (textR l st).2).2).1 (val (markR l.length 5 (textR l st).2).2).2.1, (val (markR l.length 5 (textR l st).2).2).2.2)
 else (ms, L.snoc (val st).1 (val st).2.1, (val st).2.2)
def listR (obj : Bool) (fr : Nat) (tt : Int) (ms : List Int) : Vh := ⟨kdL obj, [], false, [], [], fr, tt, ms⟩
mutual
def valR (l : List UInt8) : Nat -> Nat -> Rst -> RRes
 | 0, _, st => (noV, .nil, failR l.length 3 st)
 | f + 1, deep, st => match st with
  | .error x => (noV, .nil, .error x)
  | .ok [] => (noV, .nil, .error (synP l.length []))
  | .ok (t :: r) =>
   if t.1 = 7 then (textV l t, .nil, .ok r)
   else if t.1 = 8 then (numbV l t, .nil, .ok r)
   else if t.1 = 9 \/ t.1 = 10 \/ t.1 = 11 then (leafP ((t.1 : Int) - 4) t.2.1, .nil, .ok r)
   else if t.1 = 1 \/ t.1 = 3 then
    (match deep with
     | 0 => (noV, .nil, .error (4, (t.2.1 : Int)))
     | d + 1 =>
      if kindP r = t.1 + 1 then tailR l f (decide (t.1 = 1)) d t.2.1 (.ok r) [] .nil
      else tailR l f (decide (t.1 = 1)) d t.2.1 (itemR l (valR l f d) (decide (t.1 = 1)) (.ok r) [] .nil).2.2 (itemR l (valR l f d) (decide (t.1 = 1)) (.ok r) [] .nil).1 (itemR l (valR l f d) (decide (t.1 = 1)) (.ok r) [] .nil).2.1)
   else (noV, .nil, .error (synP l.length (t :: r)))
def tailR (l : List UInt8) : Nat -> Bool -> Nat -> Nat -> Rst -> List Int -> Vo -> RRes
 | 0, obj, _, fr, st, ms, L => (listR obj fr 0 ms, L, failR l.length 3 st)
 | f + 1, obj, d, fr, st, ms, L =>
  if isR 6 st then
   tailR l f obj d fr (itemR l (valR l f d) obj (markR l.length 6 st).2 (ms ++ [(markR l.length 6 st).1]) L).2.2 (itemR l (valR l f d) obj (markR l.length 6 st).2 (ms ++ [(markR l.length 6 st).1]) L).1 (itemR l (valR l f d) obj (markR l.length 6 st).2 (ms ++ [(markR l.length 6 st).1]) L).2.1
  else (listR obj fr (markR l.length (shL obj) st).1 ms, L, (markR l.length (shL obj) st).2)
end
def Agr (p : PRes) (q : RRes) : Prop := match p with
 | .ok (h, k, r) => q = (h, k, .ok r)
 | .error e => q.2.2 = .error e
def AgrI (p : LRes) (q : List Int × Vo × Rst) : Prop := match p with
 | .ok (ms, L, r) => q = (ms, L, .ok r)
 | .error e => q.2.2 = .error e
theorem valR_bad (l : List UInt8) (f deep : Nat) (x : Int × Int) : valR l f deep (.error x) = (noV, .nil, .error x) := by
 cases f with
 | zero => simp [valR, failR]
 | succ f => simp [valR]
theorem tailR_bad (l : List UInt8) (f : Nat) (obj : Bool) (d fr : Nat) (x : Int × Int) (ms : List Int) (L : Vo) : tailR l f obj d fr (.error x) ms L = (listR obj fr 0 ms, L, .error x) := by
 cases f with
 | zero => simp [tailR, failR]
 | succ f => simp [tailR, isR, markR]
theorem item_agr (l : List UInt8) (val : M.Toks -> PRes) (val' : Rst -> RRes) (hb : ∀ x, val' (.error x) = (noV, .nil, .error x)) (hv : ∀ ts, Agr (val ts) (val' (.ok ts))) (obj : Bool) (ts : M.Toks) (ms : List Int) (L : Vo) :
  AgrI (itemW l val obj ts ms L) (itemR l val' obj (.ok ts) ms L) := by
 unfold itemW itemR
 cases obj with
 | false =>
  simp only [Bool.false_eq_true, if_false]
  have := hv ts
  cases h : val ts with
  | error e => rw [h] at this; exact this
  | ok q =>
   obtain ⟨a, b, c⟩ := q
   rw [h] at this
   simp only [Agr] at this
   simp [AgrI, this]
 | true =>
  simp only [if_true]
  cases h7 : takeP l.length 7 ts with
  | error e => simp [AgrI, textR, h7, markR, hb]
  | ok q =>
   obtain ⟨t, r⟩ := q
   simp only
   cases h5 : takeP l.length 5 r with
   | error e => simp [AgrI, textR, h7, markR, h5, hb]
   | ok q =>
    obtain ⟨c, r2⟩ := q
    simp only
    have := hv r2
    cases h : val r2 with
    | error e =>
     rw [h] at this
     simp only [Agr] at this
     simp [AgrI, textR, h7, markR, h5, this]
    | ok q =>
     obtain ⟨a, b, c2⟩ := q
     rw [h] at this
     simp only [Agr] at this
     simp [AgrI, textR, h7, markR, h5, this]
theorem val_agr (l : List UInt8) : ∀ f, (∀ deep ts, Agr (valP l f deep ts) (valR l f deep (.ok ts))) /\ (∀ obj d fr ts ms L, Agr (restP l f obj d fr ts ms L) (tailR l f obj d fr (.ok ts) ms L)) := by
 intro f
 induction f with
 | zero => exact ⟨fun deep ts => by simp [valP, valR, Agr, failR, synP], fun obj d fr ts ms L => by simp [restP, tailR, Agr, failR, synP]⟩
 | succ f ih =>
  obtain ⟨iv, ir⟩ := ih
  have it := fun d obj ts ms L => item_agr l (valP l f d) (valR l f d) (valR_bad l f d) (iv d) obj ts ms L
  have step : ∀ obj d fr ts ms L, Agr (match itemW l (valP l f d) obj ts ms L with
       | .error e => .error e
       | .ok (ms, L, r2) => restP l f obj d fr r2 ms L) (tailR l f obj d fr (itemR l (valR l f d) obj (.ok ts) ms L).2.2 (itemR l (valR l f d) obj (.ok ts) ms L).1 (itemR l (valR l f d) obj (.ok ts) ms L).2.1) := by
   intro obj d fr ts ms L
   have h := it d obj ts ms L
   cases hw : itemW l (valP l f d) obj ts ms L with
   | error e =>
    rw [hw] at h
    simp only [AgrI] at h
    simp only
    rw [h, tailR_bad]
    rfl
   | ok q =>
    obtain ⟨a, b, c⟩ := q
    rw [hw] at h
    simp only [AgrI] at h
    rw [h]
    exact ir obj d fr c a b
  refine ⟨fun deep ts => ?_, fun obj d fr ts ms L => ?_⟩
  ·cases ts with
   | nil => simp [valP, valR, Agr]
   | cons t r =>
    unfold valP valR
    simp only
    by_cases h7 : t.1 = 7
    ·rw [if_pos h7, if_pos h7]; rfl
    ·rw [if_neg h7, if_neg h7]
     by_cases h8 : t.1 = 8
     ·rw [if_pos h8, if_pos h8]; rfl
     ·rw [if_neg h8, if_neg h8]
      by_cases h9 : t.1 = 9 \/ t.1 = 10 \/ t.1 = 11
      ·rw [if_pos h9, if_pos h9]; rfl
      ·rw [if_neg h9, if_neg h9]
       by_cases h1 : t.1 = 1 \/ t.1 = 3
       ·rw [if_pos h1, if_pos h1]
        cases deep with
        | zero => rfl
        | succ d =>
         simp only
         by_cases hk : kindP r = t.1 + 1
         ·rw [if_pos hk, if_pos hk]
          exact ir _ _ _ _ _ _
         ·rw [if_neg hk, if_neg hk]
          exact step _ _ _ _ _ _
       ·rw [if_neg h1, if_neg h1]; rfl
  ·unfold restP tailR
   by_cases hs : kindP ts = shL obj
   ·have h6 : isR 6 (.ok ts) = false := by
     simp only [isR, hs, decide_eq_false_iff_not]
     cases obj <;> simp [shL]
    rw [if_pos hs, h6]
    simp only [Bool.false_eq_true, if_false]
    cases ht : takeP l.length (shL obj) ts with
    | error e => simp [markR, ht, Agr]
    | ok q => obtain ⟨t, r⟩ := q; simp [markR, ht, Agr, listR]
   ·rw [if_neg hs]
    cases h6 : takeP l.length 6 ts with
    | error e =>
     have hne : kindP ts ≠ 6 := by
      cases ts with
      | nil => simp [kindP]
      | cons t r =>
       intro hk
       have hk' : t.1 = 6 := hk
       simp [takeP, hk'] at h6
     have h6' : isR 6 (.ok ts) = false := by simp [isR, hne]
     rw [h6']
     simp only [Bool.false_eq_true, if_false]
     have e1 : e = synP l.length ts := by
      cases ts with
      | nil => simp [takeP] at h6; exact h6.symm
      | cons t r =>
       have hk' : t.1 ≠ 6 := hne
       simp [takeP, hk'] at h6; exact h6.symm
     have hh : markR l.length (shL obj) (.ok ts) = (0, .error (synP l.length ts)) := by
      cases ts with
      | nil => rfl
      | cons t r =>
       have hk' : t.1 ≠ shL obj := hs
       simp [markR, takeP, hk']
     rw [hh, e1]
     rfl
    | ok q =>
     obtain ⟨c, r⟩ := q
     have hc := take_len h6
     have h6' : isR 6 (.ok ts) = true := by
      cases ts with
      | nil => simp [takeP] at h6
      | cons t r =>
       by_cases hk : t.1 = 6
       ·simp [isR, kindP, hk]
       ·simp [takeP, hk] at h6
     rw [h6']
     simp only [if_true]
     have hm : markR l.length 6 (.ok ts) = ((c.2.1 : Int), .ok r) := by simp [markR, h6]
     rw [hm]
     exact step _ _ _ _ _ _
def parR (l : List UInt8) (deep : Nat) (ts : M.Toks) : Except (Int × Int) (Vh × Vo) := match (valR l (2 * ts.length + 2) deep (.ok ts)).2.2 with
 | .error x => .error x
 | .ok [] => .ok ((valR l (2 * ts.length + 2) deep (.ok ts)).1, (valR l (2 * ts.length + 2) deep (.ok ts)).2.1)
 | .ok (t :: r) => .error (synP l.length (t :: r))
theorem par_agr (l : List UInt8) (deep : Nat) (ts : M.Toks) : parR l deep ts = parP l deep ts := by
 have h := (val_agr l (2 * ts.length + 2)).1 deep ts
 unfold parR parP
 cases hv : valP l (2 * ts.length + 2) deep ts with
 | error e =>
  rw [hv] at h
  simp only [Agr] at h
  rw [h]
 | ok q =>
  obtain ⟨a, b, c⟩ := q
  rw [hv] at h
  simp only [Agr] at h
  rw [h]
  cases c with
  | nil => rfl
  | cons t r => rfl
end Go.Proofs.YtbfnlgmhfhaglaaGreatDoor
namespace Go.Proofs.YtbfnlgmhfhaglaaGreatDoor
open Go.RowKit
set_option linter.unusedVariables false
set_option linter.unusedSimpArgs false
def NoTok : Rst -> Prop
 | .ok ts => ts = []
 | .error _ => True
theorem valR_none {l : List UInt8} {f deep : Nat} {st : Rst} (h : NoTok st) : valR l f deep st = (noV, .nil, failR l.length 3 st) := by
 cases st with
 | error x => rw [valR_bad]; rfl
 | ok ts =>
  obtain rfl : ts = [] := h
  cases f with
  | zero => simp [valR]
  | succ f => simp [valR, failR, synP]
theorem notok_is {k : Nat} {st : Rst} (hk : 1 <= k) (h : NoTok st) : isR k st = false := by
 cases st with
 | error x => rfl
 | ok ts =>
  obtain rfl : ts = [] := h
  exact decide_eq_false (by show ¬ 0 = k; omega)
theorem rdval_none {w0 w : World} {bv lv : Value} {l : List UInt8} {all : M.Toks} {st : Rst} (D : Int) (x : RdP w0 bv lv l all w st) (hN : NoTok st) :
  Calls Tryz.prog 29 #[ptrP w0, .int .i64 D] w (RvQ w0 bv lv l all noV .nil (failR l.length 3 st) w) := by
 have HX := LH x
 have hlt := rdlt x
 have b0 := LH ((Below.refl w.heap.size w).alloc (Nat.le_refl _) (.cells zv 27))
 have K0 := LH (BK.new 27 w zv)
 obtain ⟨W1, hW1⟩ : ∃ x, w.alloc (.cells zv 27) = x := ⟨_, rfl⟩
 rw [hW1] at b0 K0
 have HW1 := LH (zvx hW1)
 have X1 := LH (x.keep b0.out)
 have hl1 := K0.out.lt
 have hR := notok_is (k := 7) (by decide) hN
 have IS := LH (fun (w1 : World) (h : RdP w0 bv lv l all w1 st) => (hR ▸ rdis_any 7 (by decide) h : Calls Tryz.prog 48 #[ptrP w0, .int .i64 7] w1 fun e w' => e = .returned (.bool false) /\ Below w1.heap.size w1 w'))
 have FA := LH (fun (w1 : World) (h : RdP w0 bv lv l all w1 st) => rdfail_any (e' := 3) (by decide) h)
 have FIN := LH (fun (w2 w3 : World) (hb : Below W1.heap.size W1 w2) (hq : RdQ w0 bv lv l all (failR l.length 3 st) w2 w3) => (by
  have K03 := (K0.out.keep hb).frame (hq.2.oth _ (by have := hb.size; omega) (by omega))
  refine ⟨K03, hq.1, ((Fr.of b0.out (Nat.le_of_lt hlt)).trans (Fr.of hb (by omega))).trans hq.2⟩ : BK 27 w3 w.heap.size zv /\ RdP w0 bv lv l all w3 (failR l.length 3 st) /\ Fr w0.heap.size w w3))
 unfold ptrP at IS FA ⊢
 clear hR hW1
 cases st with
 | error q =>
  clear x hN
  go_enter Tryz.func29, Tryz.ntmps29
  go_upto_region 1 with fail
  rw [HW1.out]
  go_wp2_with fail
  refine (IS.out _ X1.out).mono ?_
  rintro e w2 ⟨rfl, hb⟩
  have H2 := LH hb
  obtain ⟨h0, n, x2⟩ := X1.out.keep hb
  have HX2 := LH x2
  obtain ⟨c0, c1, c2, c3, c4⟩ := x2.cells
  have t0 : (q.1 != 0) = true := by simpa using h0
  obtain ⟨E, hE⟩ : ∃ E, q.1 = E := ⟨_, rfl⟩
  rw [hE] at c3 t0
  clear hb x2 h0 hE
  go_wp2_with fail
  go_quiet (fail)
  go_wp2_with fail
  have HQ : Below W1.heap.size W1 (w2.drewN nq) := H2.out.trans (show Below W1.heap.size w2 (w2.drewN nq) from ⟨rfl, rfl, rfl, Nat.le_refl _, fun _ _ => rfl⟩)
  refine (FA.out (w2.drewN nq) (X1.out.keep HQ)).mono ?_
  rintro e w3 ⟨rfl, hq⟩
  obtain ⟨K3, X3, F3⟩ := FIN.out (w2.drewN nq) w3 HQ hq
  have K3 := LH K3
  have X3 := LH X3
  have F3 := LH F3
  clear hq
  go_wp2_with (refine wpl_stV rfl _ _ rfl w.heap.size zv noV nilV nilV nilV rfl rfl K3.out rfl rfl rfl rfl ?_)
  go_wp2
  refine bodyPost_ret (res_bk Tryz.underlying27 rfl infoV1 rfl _ _ w.heap.size (vvl noV nilV nilV nilV) rfl (BK.set K3.out _) rfl) rfl ⟨nilV, nilV, nilV, rfl, ⟨by simp [noV], by simp [noV], isP_nil _ _, isP_nil _ _⟩, voP_nil _ _, X3.out.setRow hlt _, Fr.setRow F3.out (Nat.le_refl _) (Nat.le_of_lt hlt) _⟩
 | ok ts =>
  obtain rfl : ts = [] := hN
  clear x
  go_enter Tryz.func29, Tryz.ntmps29
  go_upto_region 1 with fail
  rw [HW1.out]
  go_wp2_with fail
  refine (IS.out _ X1.out).mono ?_
  rintro e w2 ⟨rfl, hb⟩
  have H2 := LH hb
  obtain ⟨n, x2, hd⟩ := X1.out.keep hb
  have HX2 := LH x2
  obtain ⟨c0, c1, c2, c3, c4⟩ := x2.cells
  obtain ⟨ta, cap, rfl, h1, h2, h3⟩ := x2.toks
  have hn : n = all.length := by
   have := x2.hn
   have h5 := List.drop_eq_nil_iff.1 hd
   omega
  subst hn
  clear hb x2 hd h3
  go_wp2_with fail
  go_quiet (fail)
  go_wp2_with fail
  have HQ : Below W1.heap.size W1 (w2.drewN nq) := H2.out.trans (show Below W1.heap.size w2 (w2.drewN nq) from ⟨rfl, rfl, rfl, Nat.le_refl _, fun _ _ => rfl⟩)
  refine (FA.out (w2.drewN nq) (X1.out.keep HQ)).mono ?_
  rintro e w3 ⟨rfl, hq⟩
  obtain ⟨K3, X3, F3⟩ := FIN.out (w2.drewN nq) w3 HQ hq
  have K3 := LH K3
  have X3 := LH X3
  have F3 := LH F3
  clear hq
  go_wp2_with (refine wpl_stV rfl _ _ rfl w.heap.size zv noV nilV nilV nilV rfl rfl K3.out rfl rfl rfl rfl ?_)
  go_wp2
  refine bodyPost_ret (res_bk Tryz.underlying27 rfl infoV1 rfl _ _ w.heap.size (vvl noV nilV nilV nilV) rfl (BK.set K3.out _) rfl) rfl ⟨nilV, nilV, nilV, rfl, ⟨by simp [noV], by simp [noV], isP_nil _ _, isP_nil _ _⟩, voP_nil _ _, X3.out.setRow hlt _, Fr.setRow F3.out (Nat.le_refl _) (Nat.le_of_lt hlt) _⟩
theorem RvQ.row {w0 w w1 w' : World} {bv lv : Value} {l : List UInt8} {all : M.Toks} {h : Vh} {kids : Vo} {st : Rst} {tv v mv : Value} {g : Nat} (cs : Array Value)
  (hd : HdP (Nw w1.heap.size w') w' h tv mv) (hv : VoP (Nw w1.heap.size w') w' v kids) (q : RdQ w0 bv lv l all st w1 w') (f : Fr w0.heap.size w w1) (hg : w.heap.size <= g) (hg1 : g < w1.heap.size) (hlt : w0.heap.size < w.heap.size) :
  HdP (Nw w.heap.size (w'.setRow g cs)) (w'.setRow g cs) h tv mv /\ VoP (Nw w.heap.size (w'.setRow g cs)) (w'.setRow g cs) v kids /\ RdQ w0 bv lv l all st w (w'.setRow g cs) := by
 have hk : ∀ b, Nw w1.heap.size w' b -> (w'.setRow g cs).heap[b]? = w'.heap[b]? := fun b hb => setRow_other _ _ _ _ (by have := hb.1; omega)
 have hm : ∀ b, Nw w1.heap.size w' b -> Nw w.heap.size (w'.setRow g cs) b := fun b hb => ⟨by have := hb.1; omega, Nat.lt_of_lt_of_le hb.2 (below_setRowK (Below.refl 0 w') (Nat.zero_le _) _).size⟩
 exact ⟨(hd.keep hk).mono hm, (hv.keep hk).mono hm, q.1.setRow (by omega) _, Fr.setRow (f.trans q.2) hg (by omega) _⟩
theorem rdval_text {w0 w : World} {bv lv : Value} {l : List UInt8} {all : M.Toks} {st : Rst} (D : Int) (x : RdP w0 bv lv l all w st) (hT : TkIn l all) (hR : isR 7 st = true) :
  Calls Tryz.prog 29 #[ptrP w0, .int .i64 D] w (RvQ w0 bv lv l all (textR l st).1 .nil (textR l st).2 w) := by
 have HX := LH x
 have hlt := rdlt x
 have b0 := LH ((Below.refl w.heap.size w).alloc (Nat.le_refl _) (.cells zv 27))
 have K0 := LH (BK.new 27 w zv)
 obtain ⟨W1, hW1⟩ : ∃ x, w.alloc (.cells zv 27) = x := ⟨_, rfl⟩
 rw [hW1] at b0 K0
 have HW1 := LH (zvx hW1)
 have X1 := LH (x.keep b0.out)
 have hl1 := K0.out.lt
 have IS := LH (fun (w1 : World) (h : RdP w0 bv lv l all w1 st) => (hR ▸ rdis_any 7 (by decide) h : Calls Tryz.prog 48 #[ptrP w0, .int .i64 7] w1 fun e w' => e = .returned (.bool true) /\ Below w1.heap.size w1 w'))
 have TX := LH (fun (w1 : World) (h : RdP w0 bv lv l all w1 st) => rdtext_any h hT)
 obtain ⟨Q, hQ⟩ : ∃ q, textR l st = q := ⟨_, rfl⟩
 rw [hQ] at TX ⊢
 unfold ptrP at IS TX ⊢
 clear hR hW1 x hQ
 go_enter Tryz.func29, Tryz.ntmps29
 go_upto_region 1 with fail
 rw [HW1.out]
 go_wp2_with fail
 refine (IS.out _ X1.out).mono ?_
 rintro e w2 ⟨rfl, hb⟩
 have H2 := LH hb
 clear hb
 go_wp2_with fail
 refine (TX.out w2 (X1.out.keep H2.out)).mono ?_
 rintro e w3 ⟨tv, v, mv, rfl, hd, hv, hq⟩
 have s1 := H2.out.size
 have K3 := LH ((K0.out.keep H2.out).frame (hq.2.oth _ (by omega) (by omega)))
 have R3 := LH (fun cs => RvQ.row cs hd hv hq ((Fr.of b0.out (Nat.le_of_lt hlt)).trans (Fr.of H2.out (by omega))) (Nat.le_refl _) (by omega) hlt)
 have t1 := hd.t.one
 have t2 := hv.one
 have t3 := hd.m.one
 clear hd hv hq
 go_wp2_with (refine wpl_stV rfl _ _ rfl w.heap.size zv Q.1 tv v mv rfl rfl K3.out rfl t1 t2 t3 ?_)
 go_wp2
 obtain ⟨r1, r2, r3⟩ := R3.out (vv Q.1 tv v mv)
 refine bodyPost_ret (res_bk Tryz.underlying27 rfl infoV1 rfl _ _ w.heap.size (vvl Q.1 tv v mv) rfl (BK.set K3.out _) rfl) rfl ⟨tv, v, mv, rfl, r1, r2, r3⟩
end Go.Proofs.YtbfnlgmhfhaglaaGreatDoor
