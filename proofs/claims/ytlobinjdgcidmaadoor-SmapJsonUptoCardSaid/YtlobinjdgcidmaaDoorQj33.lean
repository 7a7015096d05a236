/- Texts of ours in one: ZRz. -/
import Derived.Test.YtlobinjdgcidmaaDoorQj32
import Derived.Test.YtlobinjdgcidmaaDoorQj16
import Derived.Deep.QuietTactic
import Derived.BigQuiet
/- The page's reader of JSON: value, where there is an array or an object. -/
namespace Go.Proofs.YtlobinjdgcidmaaDoor
open Go.RowKit
set_option linter.unusedVariables false
set_option linter.unusedSimpArgs false

theorem RdS.keepB {w0 w w' : World} {bv lv : Value} {l : List UInt8} {all : M.Toks} {n : Nat} {er a : Int} (x : RdS w0 bv lv l all w n er a) {B : Nat} (h : Below B w w') (hB : w0.heap.size < B) : RdS w0 bv lv l all w' n er a :=
  ⟨x.blk.keepB h hB, x.lo.trans (h.mono (Nat.le_of_lt hB)), x.bs, x.tk, x.tx, x.hn, x.ll, x.la⟩
theorem RdP.keepB {w0 w w' : World} {bv lv : Value} {l : List UInt8} {all : M.Toks} {st : Rst} (x : RdP w0 bv lv l all w st) {B : Nat} (h : Below B w w') (hB : w0.heap.size < B) : RdP w0 bv lv l all w' st := by
  cases st with
  | ok ts => obtain ⟨n, k, e⟩ := x; exact ⟨n, k.keepB h hB, e⟩
  | error q => obtain ⟨h0, n, k⟩ := x; exact ⟨h0, n, k.keepB h hB⟩
theorem stL_text (l : List UInt8) (st : Rst) : stL (textR l st).2 ≤ stL st := by
  cases st with
  | error q => exact Nat.le_refl _
  | ok ts =>
    unfold textR
    simp only
    cases h : takeP l.length 7 ts with
    | error e => exact Nat.zero_le _
    | ok q =>
      obtain ⟨t, r⟩ := q
      rw [take_len h]
      simp [stL]
theorem stL_mark (n k : Nat) (st : Rst) : stL (markR n k st).2 ≤ stL st := by
  cases st with
  | error q => exact Nat.le_refl _
  | ok ts =>
    unfold markR
    simp only
    cases h : takeP n k ts with
    | error e => exact Nat.zero_le _
    | ok q =>
      obtain ⟨t, r⟩ := q
      rw [take_len h]
      simp [stL]
theorem lst_begin {pb bx : Nat} {W : World} {obj : Bool} {fr : Nat} (hV : VB W bx (listR obj fr 0 []) nilV nilV nilV) (hp : pb < bx) : Lst pb bx W (listR obj fr 0 []) nilV nilV [] .nil :=
  ⟨hV, rfl, rfl, rfl, hp, ⟨World.ownsRow_nil _ _ _ _, by simp, by simp⟩, rfl, ⟨World.ownsRow_nil _ _ _ _, by simp [icl, listR], by simp [icl, listR]⟩⟩
def RInv (w0 : World) (bv lv : Value) (l : List UInt8) (all : M.Toks) (obj : Bool) (d fr N : Nat) (R : RRes) (bx : Nat) (wa : World) (g : Nat) (wx : World) : Prop :=
  ∃ (ts : M.Toks) (f : Nat) (ms : List Int) (L : Vo) (ia : Option Addr) (n icap : Nat) (ma : Option Addr) (m mcap : Nat) (cs : List (List Value)), ts.length = g ∧ ts.length ≤ N ∧ 2 * ts.length + 1 ≤ f ∧ stepR l f obj d fr (.ok ts) ms L = R ∧
    RdP w0 bv lv l all wx (.ok ts) ∧ Lst w0.heap.size bx wx (listR obj fr 0 ms) (.slice ia n icap) (.slice ma m mcap) cs L ∧ FrB w0.heap.size bx wa wx ∧ n + ts.length ≤ 40000 ∧ m + ts.length ≤ 40000 ∧ cs.length = n ∧ ms.length = m
theorem RInv.of {w0 : World} {bv lv : Value} {l : List UInt8} {all : M.Toks} {obj : Bool} {d fr N : Nat} {R : RRes} {bx : Nat} {wa wx : World} {ts : M.Toks} {f : Nat} {ms : List Int} {L : Vo} {iv mv : Value} {cs : List (List Value)} (h1 : ts.length ≤ N) (h3 : 2 * ts.length + 1 ≤ f) (h4 : stepR l f obj d fr (.ok ts) ms L = R)
    (x : RdP w0 bv lv l all wx (.ok ts)) (L1 : Lst w0.heap.size bx wx (listR obj fr 0 ms) iv mv cs L) (F : FrB w0.heap.size bx wa wx) (c1 : L.len + ts.length ≤ 40000) (c2 : ms.length + ts.length ≤ 40000) : RInv w0 bv lv l all obj d fr N R bx wa ts.length wx := by
  have hl := KidsC.len L cs L1.ks
  obtain ⟨ia, icap, rfl, -⟩ := OwnV.vs L1.io
  obtain ⟨ma, mcap, rfl, -⟩ := OwnV.vs L1.mo
  exact ⟨ts, f, ms, L, ia, cs.length, icap, ma, (icl ms).length, mcap, cs, rfl, h1, h3, h4, x, L1, F, by omega, by simp only [icl, List.length_map]; omega, rfl, by simp [icl]⟩
set_option maxRecDepth 100000 in
set_option maxHeartbeats 8000000 in
theorem rdval_list3 {w0 w : World} {bv lv : Value} {l : List UInt8} {all : M.Toks} {fr te : Nat} {r : M.Toks} (f d : Nat) (D : Int) (hD : D - 1 = d ∧ 0 < D ∧ D ≤ 1000) (hf : 2 * r.length + 2 ≤ f) (hlr : r.length ≤ 20000)
    (hval : ∀ (g d : Nat) (E : Int) (st : Rst) (V : World), (d : Int) = E → d ≤ 1000 → stL st ≤ r.length → 2 * stL st + 1 ≤ g → RdP w0 bv lv l all V st → Calls Tryd.prog 19 #[ptrP w0, .int .i64 E] V (RvQ w0 bv lv l all (valR l g d st).1 (valR l g d st).2.1 (valR l g d st).2.2 V))
    (x : RdP w0 bv lv l all w (.ok ((3, fr, te) :: r))) (hT : TkIn l all) :
    Calls Tryd.prog 19 #[ptrP w0, .int .i64 D] w (RvQ w0 bv lv l all (valR l (f + 1) (d + 1) (.ok ((3, fr, te) :: r))).1 (valR l (f + 1) (d + 1) (.ok ((3, fr, te) :: r))).2.1 (valR l (f + 1) (d + 1) (.ok ((3, fr, te) :: r))).2.2 w) := by
  have hE := valR_list l false f d fr te r
  rw [show opL false = 3 from rfl, show shL false = 4 from rfl] at hE
  rw [hE]
  obtain ⟨RR, hRR⟩ : ∃ x, (if kindP r = 4 then tailR l f false d fr (.ok r) [] .nil else stepR l f false d fr (.ok r) [] .nil) = x := ⟨_, rfl⟩
  rw [hRR]
  have HRR := Lib.hid hRR
  have HV := Lib.hid hval
  have iD : decide (D ≤ 0) = false := by simp; omega
  obtain ⟨hD1, hD2, hD3⟩ := hD
  have HD1 := Lib.hid hD1
  have HWR : Hid (IntKind.i64.wrap (D - 1) = D - 1) := Lib.hid (by rw [IntKind.wrap_i64]; omega)
  clear hE hRR hval hD1
  have HX := Lib.hid x
  have hlt := rdlt x
  have b0 := Lib.hid ((Below.refl w.heap.size w).alloc (Nat.le_refl _) (.cells zv 36))
  have K0 := Lib.hid (BK.new 36 w zv)
  obtain ⟨W1, hW1⟩ : ∃ x, w.alloc (.cells zv 36) = x := ⟨_, rfl⟩
  rw [hW1] at b0 K0
  have HW1 := Lib.hid (show w.alloc (.cells #[.int .i64 0, .slice none 0 0, .bool false, .string ⟨#[]⟩, .string ⟨#[]⟩, .slice none 0 0, .int .i64 0, .int .i64 0, .slice none 0 0] 36) = W1 from hW1)
  have X1 := Lib.hid (x.keep b0.out)
  have hl1 := K0.out.lt
  have IS := Lib.hid (fun (w1 : World) (h : RdP w0 bv lv l all w1 (.ok ((3, fr, te) :: r))) => (rdis_any 7 (by decide) h : Calls Tryd.prog 41 #[ptrP w0, .int .i64 7] w1 fun e w' => e = .returned (.bool false) ∧ Below w1.heap.size w1 w'))
  obtain ⟨n, x, hd⟩ := X1.out
  have hn := drop_next hd
  have hla := x.la
  have HS := Lib.hid x
  have HD := Lib.hid hd
  have hn2 : n < 20000 := by omega
  unfold ptrP at IS ⊢
  clear hW1 x hd hla
  go_enter Tryd.func19, Tryd.ntmps19
  go_upto_region 1 with fail
  rw [HW1.out]
  go_wp2_with fail
  refine (IS.out _ X1.out).mono ?_
  rintro e w2 ⟨rfl, hb⟩
  have K02 := Lib.hid (K0.out.keep hb)
  have H2 := Lib.hid (HS.out.keep hb)
  have HB2 := Lib.hid hb
  clear hb
  obtain ⟨c0, c1, c2, c3, c4⟩ := H2.out.cells
  obtain ⟨ta, cap, e0, h1, h2, h3⟩ := H2.out.toks
  obtain ⟨b, off, rfl, hb, hc⟩ := h3 hn.1
  have htk : all.getD n (0, 0, 0) = (3, fr, te) := by
    have := HD.out
    rw [List.drop_eq_getElem_cons hn.1] at this
    simp [List.getD, hn.1, (List.cons.inj this).1]
  rw [htk] at hc
  subst e0
  obtain ⟨N, hN⟩ : ∃ q, all.length = q := ⟨_, rfl⟩
  have hn1 := hn.1
  rw [hN] at h1 c1 hn1
  have hb2 : b < w2.heap.size := by have := hlt; have := H2.out.lo.size; omega
  have hc0 : w2.rangeAt b (off + n * 3) [.int .i64 3, .int .i64 (fr : Int), .int .i64 (te : Int)] := fun j u hu => by
    show w2.cell? ⟨b, off + n * 3 + j, none⟩ = some u
    rw [Nat.add_assoc]; exact hc j u hu
  have SS : ∀ V : World, Below w2.heap.size w2 V → (V.cell? ⟨w0.heap.size, 1, none⟩ = some (.slice (some ⟨b, off, none⟩) N cap) ∧ V.cell? ⟨w0.heap.size, 2, none⟩ = some (.int .i64 (n : Int)) ∧ V.rangeAt b (off + n * 3) [.int .i64 3, .int .i64 (fr : Int), .int .i64 (te : Int)]) := fun V h => ⟨by rw [h.cell (p := ⟨w0.heap.size, 1, none⟩) H2.out.blk.lt]; exact c1, by rw [h.cell (p := ⟨w0.heap.size, 2, none⟩) H2.out.blk.lt]; exact c2, fun j u hu => by rw [h.cell (p := ⟨b, off + n * 3 + j, none⟩) hb2]; exact hc0 j u hu⟩
  clear hc h3 htk hn hc0
  have i1 : (n : Int) < N := by omega
  have i2 : decide ((N : Int) ≤ n) = false := by simp; omega
  go_wp2_with fail
  go_quiet (fail)
  clear c0 c1 c2 c3 c4 i2
  go_upto_region 6 with fail
  have D2 := Lib.hid (show Below w2.heap.size w2 (w2.drewN nq).drew from ⟨rfl, rfl, rfl, Nat.le_refl _, fun _ _ => rfl⟩)
  have K0D := Lib.hid (K02.out.keep D2.out)
  have XD := Lib.hid (H2.out.keep D2.out)
  refine wp_region_noPanic ?_
  refine wp_region_to 11 (S := fun V => (V.cell? ⟨w0.heap.size, 1, none⟩ = some (.slice (some ⟨b, off, none⟩) N cap) ∧ V.cell? ⟨w0.heap.size, 2, none⟩ = some (.int .i64 (n : Int)) ∧ V.rangeAt b (off + n * 3) [.int .i64 3, .int .i64 (fr : Int), .int .i64 (te : Int)])) (by kernel_rfl) (SS _ D2.out) (fun hS => ?_)
  obtain ⟨WD, hWD⟩ : ∃ x, (w2.drewN nq).drew = x := ⟨_, rfl⟩
  rw [hWD] at D2 K0D XD hS ⊢
  clear hWD
  refine dtp 0 ?_
  refine dtp 1 ?_
  refine dtp 2 ?_
  refine dtk 3 ?_
  refine dtp 4 ?_
  refine dtp 5 ?_
  refine dtp 6 ?_
  refine dtk 7 ?_
  refine dtp (v := .pointer (some ⟨b, off + n * 3, none⟩)) 8 (hy := Or.inl ⟨by rfl, by intro V hSV; go_simp⟩) ?_
  refine dtk (v := .agg #[.int .i64 3, .int .i64 (fr : Int), .int .i64 (te : Int)]) 9 (hy := yieldsIf_load_mid (by rfl) 85 _ rfl b (off + n * 3) rfl [.int .i64 3, .int .i64 (fr : Int), .int .i64 (te : Int)] _ (fun w hS => hS.2.2) Tryd.underlying85 rfl infoTok1) ?_
  have b5 := Lib.hid ((Below.refl WD.heap.size WD).alloc (Nat.le_refl _) (.cells #[.int .i64 0, .int .i64 0, .int .i64 0] 85))
  have K5 := Lib.hid (BK.new 85 WD #[.int .i64 0, .int .i64 0, .int .i64 0])
  obtain ⟨W5, hW5⟩ : ∃ x, WD.alloc (.cells #[.int .i64 0, .int .i64 0, .int .i64 0] 85) = x := ⟨_, rfl⟩
  rw [hW5] at b5 K5
  have HW5 := Lib.hid hW5
  clear hW5
  refine AnyTo.ready (rs := [10]) (by kernel_rfl) (by simp) ?_
  refine ReadyTo.cons rfl (fun K hK => ?_) ReadyTo.nil
  go_simp
  rw [HW5.out]
  refine hK.out _ _ (SS _ (D2.out.trans (b5.out.mono D2.out.size))) (fun _ => ?_)
  clear hK K
  refine AnyTo.ready (rs := [11]) (by kernel_rfl) (by simp) ?_
  refine ReadyTo.last rfl (by kernel_rfl) (fun K hK => ?_) ReadyTo.nil
  have l5 := K5.out.lt
  have m0 : W5.cell? ⟨WD.heap.size, 0, none⟩ = some (.int .i64 0) := K5.out.cell 0
  have m1 : W5.cell? ⟨WD.heap.size, 1, none⟩ = some (.int .i64 0) := K5.out.cell 1
  have m2 : W5.cell? ⟨WD.heap.size, 2, none⟩ = some (.int .i64 0) := K5.out.cell 2
  have z0 : W5.frozen? ⟨WD.heap.size, 0, none⟩ = false := frozen_of_row _ _ _ _ _ K5.out
  have z1 : W5.frozen? ⟨WD.heap.size, 1, none⟩ = false := frozen_of_row _ _ _ _ _ K5.out
  have z2 : W5.frozen? ⟨WD.heap.size, 2, none⟩ = false := frozen_of_row _ _ _ _ _ K5.out
  go_simp
  refine hK.out _ _ ?_
  clear hK K
  refine AnyTo.done (by kernel_rfl) ?_ _
  refine NoPanic.normal ?_
  clear m0 m1 m2 z0 z1 z2 hS SS
  have K6 : BK 85 (((W5.setCell ⟨WD.heap.size, 0, none⟩ (.int .i64 3)).setCell ⟨WD.heap.size, 1, none⟩ (.int .i64 (fr : Int))).setCell ⟨WD.heap.size, 2, none⟩ (.int .i64 (te : Int))) WD.heap.size #[.int .i64 3, .int .i64 (fr : Int), .int .i64 (te : Int)] := ((K5.out.setCell 0 (.int .i64 3)).setCell 1 (.int .i64 (fr : Int))).setCell 2 (.int .i64 (te : Int))
  have lD := K0D.out.lt
  have sD := D2.out.size
  have s2 := H2.out.lo.size
  have l2 := H2.out.blk.lt
  have K06 := (((K0D.out.keep b5.out).other (c := WD.heap.size) (by omega) 0 (.int .i64 3)).other (c := WD.heap.size) (by omega) 1 (.int .i64 (fr : Int))).other (c := WD.heap.size) (by omega) 2 (.int .i64 (te : Int))
  have b6 : Below WD.heap.size WD (((W5.setCell ⟨WD.heap.size, 0, none⟩ (.int .i64 3)).setCell ⟨WD.heap.size, 1, none⟩ (.int .i64 (fr : Int))).setCell ⟨WD.heap.size, 2, none⟩ (.int .i64 (te : Int))) := ((b5.out.setCell (p := ⟨WD.heap.size, 0, none⟩) (Nat.le_refl _) _).setCell (p := ⟨WD.heap.size, 1, none⟩) (Nat.le_refl _) _).setCell (p := ⟨WD.heap.size, 2, none⟩) (Nat.le_refl _) _
  obtain ⟨W6, hW6⟩ : ∃ x, ((W5.setCell ⟨WD.heap.size, 0, none⟩ (.int .i64 3)).setCell ⟨WD.heap.size, 1, none⟩ (.int .i64 (fr : Int))).setCell ⟨WD.heap.size, 2, none⟩ (.int .i64 (te : Int)) = x := ⟨_, rfl⟩
  rw [hW6] at K6 K06 b6 ⊢
  have X6 := Lib.hid (XD.out.keep b6)
  have KT6 := Lib.hid K6
  have KV6 := Lib.hid K06
  have B6 := Lib.hid b6
  clear hW6 K6 K06 b6 l5
  have j1 : W6.cell? ⟨WD.heap.size, 1, none⟩ = some (.int .i64 (fr : Int)) := KT6.out.cell 1
  go_upto_region 8 with fail
  have lV := KV6.out.lt
  have s6 := B6.out.size
  have b7 := (Below.refl W6.heap.size W6).alloc (Nat.le_refl _) (.cells #[.int .i64 0, .slice none 0 0, .bool false, .string ⟨#[]⟩, .string ⟨#[]⟩, .slice none 0 0, .int .i64 (fr : Int), .int .i64 0, .slice none 0 0] 36)
  have K7 := BK.new 36 W6 #[.int .i64 0, .slice none 0 0, .bool false, .string ⟨#[]⟩, .string ⟨#[]⟩, .slice none 0 0, .int .i64 (fr : Int), .int .i64 0, .slice none 0 0]
  obtain ⟨W7, hW7⟩ : ∃ x, W6.alloc (.cells #[.int .i64 0, .slice none 0 0, .bool false, .string ⟨#[]⟩, .string ⟨#[]⟩, .slice none 0 0, .int .i64 (fr : Int), .int .i64 0, .slice none 0 0] 36) = x := ⟨_, rfl⟩
  rw [hW7] at b7 K7 ⊢
  have X7 := Lib.hid (X6.out.keep b7)
  have KT7 := Lib.hid (KT6.out.keep b7)
  have KV7 := Lib.hid (KV6.out.keep b7)
  have j0 : W7.cell? ⟨WD.heap.size, 0, none⟩ = some (.int .i64 3) := KT7.out.cell 0
  have q0 : W7.cell? ⟨W6.heap.size, 0, none⟩ = some (.int .i64 0) := K7.cell 0
  have y0 : W7.frozen? ⟨W6.heap.size, 0, none⟩ = false := frozen_of_row _ _ _ _ _ K7
  have B7 := Lib.hid b7
  have HK7 := Lib.hid K7
  clear hW7 j1 b7 K7
  go_upto_region 27 with fail
  obtain ⟨c0, c1, c2, c3, c4⟩ := X7.out.cells
  have z2 : W7.frozen? ⟨w0.heap.size, 2, none⟩ = false := frozen_of_row _ _ _ _ _ X7.out.blk
  clear j0 q0 y0 iD
  go_upto_region 28 with fail
  have lT := KT6.out.lt
  have N9 := X7.out.next HD.out
  rw [show ((n + 1 : Nat) : Int) = (n : Int) + 1 by omega] at N9
  have K9 := HK7.out.other (c := w0.heap.size) (by omega) 2 (.int .i64 ((n : Int) + 1))
  have KV9 := KV7.out.other (c := w0.heap.size) (by omega) 2 (.int .i64 ((n : Int) + 1))
  have KT9 := KT7.out.other (c := w0.heap.size) (by omega) 2 (.int .i64 ((n : Int) + 1))
  clear c0 c1 c2 c3 c4 z2
  obtain ⟨W9, hW9⟩ : ∃ x, W7.setCell ⟨w0.heap.size, 2, none⟩ (.int .i64 ((n : Int) + 1)) = x := ⟨_, rfl⟩
  rw [hW9] at N9 K9 KV9 KT9 ⊢
  clear hW9
  have q0 : W9.cell? ⟨W6.heap.size, 0, none⟩ = some (.int .i64 0) := K9.cell 0
  have y0 : W9.frozen? ⟨W6.heap.size, 0, none⟩ = false := frozen_of_row _ _ _ _ _ K9
  have HN9 := Lib.hid N9
  have HK9 := Lib.hid K9
  have HV9 := Lib.hid KV9
  have HT9 := Lib.hid KT9
  clear N9 K9 KV9 KT9
  go_upto_region 30 with fail
  have KA := HK9.out.setCell 0 (.int .i64 2)
  have KVA := HV9.out.other (c := W6.heap.size) (by omega) 0 (.int .i64 2)
  have KTA := HT9.out.other (c := W6.heap.size) (by omega) 0 (.int .i64 2)
  have XA := HN9.out.1.setCell (g := W6.heap.size) (by omega) 0 (.int .i64 2)
  have F7 : Fr w0.heap.size w W7 := (Fr.of b0.out (Nat.le_of_lt hlt)).trans (Fr.of (HB2.out.trans ((D2.out.trans ((B6.out.trans (B7.out.mono s6)).mono sD)).mono HB2.out.size)) (by omega))
  have FA := (F7.trans HN9.out.2).setCell (g := W6.heap.size) (by have := b0.out.size; have := HB2.out.size; omega) (by omega) 0 (.int .i64 2)
  clear q0 y0
  obtain ⟨WA, hWA⟩ : ∃ x, W9.setCell ⟨W6.heap.size, 0, none⟩ (.int .i64 2) = x := ⟨_, rfl⟩
  rw [hWA] at KA KVA KTA XA FA ⊢
  clear hWA
  have j0 : WA.cell? ⟨WD.heap.size, 0, none⟩ = some (.int .i64 3) := KTA.cell 0
  clear KTA
  have HKA := Lib.hid KA
  have HVA := Lib.hid KVA
  have HXA := Lib.hid XA
  have HFA := Lib.hid FA
  clear KA KVA XA FA
  go_upto_region 33 with fail
  have KA := HKA.out
  have KVA := HVA.out
  have XA := HXA.out
  have FA := HFA.out
  clear j0
  obtain ⟨WS, hWS⟩ : ∃ x, WA = x := ⟨_, rfl⟩
  rw [hWS] at KA KVA XA FA ⊢
  clear hWS
  have hbw : w.heap.size < W6.heap.size := by have := b0.out.size; have := HB2.out.size; omega
  have hpb : w0.heap.size < W6.heap.size := by omega
  obtain ⟨bx, hbx⟩ : ∃ x, W6.heap.size = x := ⟨_, rfl⟩
  rw [hbx] at KA hbw hpb ⊢
  have LS := Lib.hid (lst_begin (obj := false) (fr := fr) (show VB WS bx (listR false fr 0 []) nilV nilV nilV from KA) hpb)
  have K0S := Lib.hid KVA
  have XS := Lib.hid XA
  have FS := Lib.hid FA
  have TM : Hid (TkIn l all) := Lib.hid hT
  clear KA KVA XA FA hbx HKA HVA HXA HFA HN9 HK9 HV9 HT9 F7 X7 KT7 KV7 B7 HK7 X6 KT6 KV6 B6 s6 lV s2 l2 lD sD K0D XD D2 lT hb2 HD H2 K02 HB2 IS HX X1 hl1 K0 b0
  have IS2 := Lib.hid (fun (w1 : World) (st : Rst) (k : Nat) (hk : 1 ≤ k) (h : RdP w0 bv (.slice (some ⟨b, off, none⟩) all.length cap) l all w1 st) => rdis_any k hk h)
  have IS3 := Lib.hid (IS2.out WS _ 4 (by decide) XS.out)
  unfold ptrP at IS3
  by_cases hk : kindP r = 4
  · have hE : isR 4 (.ok r) = true := by simp [isR, hk]
    rw [hE] at IS3
    have hR := HRR.out
    rw [if_pos hk] at hR
    obtain ⟨f, rfl⟩ : ∃ q, f = q + 1 := ⟨f - 1, by omega⟩
    rw [tailR_no (show isR 6 (.ok r) = false by simp [isR, hk])] at hR
    rw [show shL false = 4 from rfl] at hR
    clear HRR hE
    subst hR
    go_wp2_with fail
    refine IS3.out.mono ?_
    rintro e WW ⟨rfl, hb3⟩
    have LW := Lib.hid (LS.out.fr (Fr.of hb3 (by have := LS.out.vb.lt; omega)))
    have xW := Lib.hid (XS.out.keep hb3)
    have K0W := Lib.hid (K0S.out.keep hb3)
    have FW := Lib.hid (FS.out.trans (Fr.of (pb := w0.heap.size) hb3 (by have := LS.out.vb.lt; omega)))
    clear hb3
    have MK := Lib.hid (rdmark_any 4 (by decide) xW.out)
    obtain ⟨zt, ezt⟩ : ∃ x, (markR l.length 4 (.ok r)).1 = x := ⟨_, rfl⟩
    rw [ezt] at MK
    obtain ⟨hV, hhV⟩ : ∃ x, listR false fr zt [] = x := ⟨_, rfl⟩
    have EZT := Lib.hid ezt
    have HHV := Lib.hid hhV
    unfold ptrP at MK
    go_wp2_with fail
    refine MK.out.mono ?_
    rintro e w5 ⟨rfl, hq5⟩
    have L5 := Lib.hid (LW.out.fr hq5.2)
    have hpW := LW.out.lt
    have hbW := LW.out.vb.lt
    have cc : w5.cell? ⟨bx, 7, none⟩ = some (.int .i64 0) := L5.out.vb.cells.2.2.2.2.2.2.2.1
    have zz : w5.frozen? ⟨bx, 7, none⟩ = false := frozen_of_row _ _ _ _ _ L5.out.vb
    obtain ⟨v6, h6, k6⟩ := L5.out.shut zt
    have K5 := K0W.out.frame (hq5.2.oth _ K0W.out.lt (by omega))
    have K6 := K5.other (c := bx) (by omega) 7 (.int .i64 zt)
    have x6 := hq5.1.setCell (g := bx) (by omega) 7 (.int .i64 zt)
    have F6 := ((FW.out).trans hq5.2).setCell (g := bx) (by omega) (by omega) 7 (.int .i64 zt)
    have hsz : w5.heap.size = (w5.setCell ⟨bx, 7, none⟩ (.int .i64 zt)).heap.size := (World.size_setCell _ _ _).symm
    obtain ⟨W6', hW6⟩ : ∃ x, w5.setCell ⟨bx, 7, none⟩ (.int .i64 zt) = x := ⟨_, rfl⟩
    rw [hW6] at v6 h6 k6 K6 x6 F6 hsz
    have HW6 := Lib.hid hW6
    have v7 : VB W6' bx hV nilV nilV nilV := by rw [← hhV]; exact v6
    have h7 : HdP (fun b => bx < b ∧ b < w5.heap.size) W6' hV nilV nilV := by rw [← hhV]; exact h6
    have X6 := Lib.hid x6
    have FF6 := Lib.hid F6
    clear hW6 v6 h6 K5 hq5 hhV x6 F6 MK ezt
    go_upto_region 35 with fail
    rw [HW6.out]
    go_wp2_with (first | (refine wpl_ldV rfl _ rfl bx 0 hV nilV nilV nilV rfl (VB.range v7) ?_) | (refine wpl_stV rfl _ _ rfl w.heap.size zv hV nilV nilV nilV rfl rfl K6 rfl rfl rfl rfl ?_))
    go_wp2
    refine bodyPost_ret (res_bk Tryd.underlying36 rfl infoV1 rfl _ _ w.heap.size (vvl hV nilV nilV nilV) rfl (BK.set K6 _) rfl) rfl ?_
    have bS := below_setRowK (Below.refl 0 W6') (Nat.zero_le w.heap.size) (vv hV nilV nilV nilV)
    have ke : ∀ b, (bx < b ∧ b < w5.heap.size) → (W6'.setRow w.heap.size (vv hV nilV nilV nilV)).heap[b]? = W6'.heap[b]? := fun b hb => setRow_other _ _ _ _ (by omega)
    have km : ∀ b, (bx < b ∧ b < w5.heap.size) → Nw w.heap.size (W6'.setRow w.heap.size (vv hV nilV nilV nilV)) b := fun b hb => ⟨by omega, by have := bS.size; omega⟩
    unfold RvQ
    (try dsimp only)
    rw [EZT.out, HHV.out]
    exact ⟨nilV, nilV, nilV, rfl, (h7.keep ke).mono km, (k6.keep ke).mono km, X6.out.setRow hlt _, Fr.setRow FF6.out (Nat.le_refl _) (Nat.le_of_lt hlt) _⟩
  · have hE : isR 4 (.ok r) = false := by simp [isR, hk]
    rw [hE] at IS3
    have hR := HRR.out
    rw [if_neg hk] at hR
    go_wp2_with fail
    refine IS3.out.mono ?_
    rintro e W3 ⟨rfl, hb3⟩
    have L3 := LS.out.fr (Fr.of hb3 (by have := LS.out.vb.lt; omega))
    have X3 := XS.out.keep hb3
    have K03 := Lib.hid (K0S.out.keep hb3)
    have F3 := Lib.hid (FS.out.trans (Fr.of (pb := w0.heap.size) hb3 (by have := LS.out.vb.lt; omega)))
    have hl3 := L3.vb.lt
    have inv : Hid (RInv w0 bv (.slice (some ⟨b, off, none⟩) all.length cap) l all false d fr r.length RR bx W3 r.length W3) := Lib.hid (RInv.of (Nat.le_refl _) (by omega) hR X3 L3 (FrB.refl _ _ _) (by simp only [Vo.len]; omega) (by simp only [List.length_nil]; omega))
    clear hb3 L3 X3 LS XS K0S FS hR HRR IS3 hE
    go_wp2
    go_loopg [] r.length (fun g wr => RInv w0 bv (.slice (some ⟨b, off, none⟩) all.length cap) l all false d fr r.length RR bx W3 g wr)
    case atStart => exact inv.out
    case round =>
      obtain ⟨ts, f, ms, L, ia, n, icap, ma, m, mcap, cs, hgl, hle, hfu, hR, hX, hL, hF, hn1, hm1, hcn, hcm⟩ := hrel
      have HSF := Lib.hid (fun r' (h : (itemR l (valR l f d) false (.ok ts) ms L).2.2 = .ok r') => itemR_suf l f d false ts ms L r' h)
      have HCN := Lib.hid hcn
      have HCM := Lib.hid hcm
      have LW := Lib.hid hL
      have xW := Lib.hid hX
      obtain ⟨nr, xs, hdr⟩ := hX
      obtain ⟨c0, c1, c2, c3, c4⟩ := xs.cells
      have k0 := hL.vb.cells.1
      have k0 : wr.cell? ⟨bx, 0, none⟩ = some (.int .i64 2) := k0
      have hbW := hL.vb.lt
      have HR := Lib.hid hR
      have hLn : Hid (L.len = n) := Lib.hid (by rw [← hcn]; exact (KidsC.len L cs hL.ks).symm)
      obtain ⟨WW, hWW⟩ : ∃ x, wr = x := ⟨_, rfl⟩
      have HW : Hid (FrB w0.heap.size bx W3 WW) := Lib.hid (by rw [← hWW]; exact hF)
      rw [hWW] at LW xW c0 c1 c2 c3 c4 k0 hbW ⊢
      clear hR hF hL xs hdr hcn hcm hWW
      have CV := Lib.hid (fun (V : World) (h : RdP w0 bv (.slice (some ⟨b, off, none⟩) all.length cap) l all V (.ok ts)) => HV.out f d (D - 1) (.ok ts) V HD1.out.symm (by have := HD1.out; omega) (by have : stL (.ok ts) = ts.length := rfl; omega) (by have : stL (.ok ts) = ts.length := rfl; omega) h)
      obtain ⟨st3, hst3⟩ : ∃ x, valR l f d (.ok ts) = x := ⟨_, rfl⟩
      rw [hst3] at CV
      have hIt : itemR l (valR l f d) false (.ok ts) ms L = (ms, L.snoc st3.1 st3.2.1, st3.2.2) := by
        unfold itemR
        rw [if_neg (by decide), hst3]
      unfold ptrP at CV
      clear hst3
      go_upto_region 40 with fail
      refine wp_region_noPanic ?_
      have S5 : ∀ V : World, VB V bx (listR false fr 0 ms) nilV (.slice ia n icap) (.slice ma m mcap) → V.cell? ⟨bx, 5, none⟩ = some (.slice ia n icap) := fun V hv => hv.cells.2.2.2.2.2.1
      have hbW := LW.out.vb.lt
      have hpW := LW.out.lt
      have LD := Lib.hid (LW.out.fr (Fr.of ((Below.refl _ _).drew) (by omega)))
      have xD := Lib.hid (xW.out.keep ((Below.refl _ _).drew))
      have BD := Lib.hid ((Below.refl WW.heap.size WW).drew)
      refine wp_region_to 9 (S := fun V => V.cell? ⟨bx, 5, none⟩ = some (.slice ia n icap)) (by kernel_rfl) (S5 _ LD.out.vb) (fun hS => ?_)
      obtain ⟨WD, hWD⟩ : ∃ x, WW.drew = x := ⟨_, rfl⟩
      rw [hWD] at LD xD BD hS ⊢
      clear hWD
      refine dtp 0 ?_
      refine dtk 1 ?_
      refine dtp 2 ?_
      refine dtp 3 ?_
      refine dtp (v := .int .i64 (D - 1)) 4 (hy := Or.inl ⟨by rfl, by intro V hSV; go_simp; exact HWR.out⟩) ?_
      refine AnyTo.ready (rs := [5]) (by kernel_rfl) (by simp) ?_
      refine ReadyTo.cons rfl (fun K hK => ?_) ReadyTo.nil
      go_simp
      refine (CV.out WD xD.out).mono ?_
      rintro e w1 ⟨tv, v2, mv2, rfl, hd1, hv1, hq1⟩
      refine hK.out _ _ (S5 _ (LD.out.fr hq1.2).vb) (fun hS => ?_)
      clear hK K
      have L1 := LD.out.fr hq1.2
      have hbD := LD.out.vb.lt
      have hs1 := hq1.2.lo.size
      obtain ⟨hh, ehh⟩ : ∃ x, st3.1 = x := ⟨_, rfl⟩
      rw [ehh] at hd1 ⊢
      refine AnyTo.ready (rs := [6]) (by kernel_rfl) (by simp) ?_
      refine ReadyTo.cons rfl (fun K hK => ?_) ReadyTo.nil
      rw [if_pos (by rfl)]
      refine wp_bsz _ rfl (.int .i64 hh.k) tv (.bool hh.ng) (.string (bytes hh.dg)) (.string (bytes hh.ex)) v2 (.int .i64 hh.fr) (.int .i64 hh.tt) mv2 rfl ?_
      have al := (Below.refl w1.heap.size w1).alloc (Nat.le_refl _) (.cells (vv hh tv v2 mv2) 36)
      have xT := Lib.hid (hq1.1.keep al)
      have LT := Lib.hid (L1.fr (Fr.of al (by omega)))
      have RT := Lib.hid (VB.range (VB.new w1 hh tv v2 mv2))
      have hdT := Lib.hid ((hd1.keep (fun b hb => al.block b hb.2)).mono (Q := Nw WD.heap.size (w1.alloc (.cells (vv hh tv v2 mv2) 36))) (fun b hb => ⟨hb.1, Nat.lt_of_lt_of_le hb.2 al.size⟩))
      have hvT := Lib.hid ((hv1.keep (fun b hb => al.block b hb.2)).mono (Q := Nw WD.heap.size (w1.alloc (.cells (vv hh tv v2 mv2) 36))) (fun b hb => ⟨hb.1, Nat.lt_of_lt_of_le hb.2 al.size⟩))
      have FT := Lib.hid ((hq1.2.box (bx := bx) (by omega)).trans ((Fr.of (pb := w0.heap.size) al (by omega)).box (bx := bx) (by omega)))
      have PKN := Lib.hid (fun b (hb : Nw WD.heap.size (w1.alloc (.cells (vv hh tv v2 mv2) 36)) b) => pk_new LD.out hb)
      obtain ⟨bz, hbz⟩ : ∃ x, w1.heap.size = x := ⟨_, rfl⟩
      obtain ⟨WT, hWT⟩ : ∃ x, w1.alloc (.cells (vv hh tv v2 mv2) 36) = x := ⟨_, rfl⟩
      have hWT' : w1.alloc (.cells #[.int .i64 hh.k, tv, .bool hh.ng, .string (bytes hh.dg), .string (bytes hh.ex), v2, .int .i64 hh.fr, .int .i64 hh.tt, mv2] 36) = WT := hWT
      rw [hWT] at xT LT RT hdT hvT FT PKN
      rw [hWT', hbz]
      rw [hbz] at RT
      refine hK.out _ _ (S5 _ LT.out.vb) (fun hS => ?_)
      clear hK K
      have hlT := LT.out.vb.lt
      clear hWT hWT' al L1 hd1 hv1 hq1
      refine AnyTo.ready (rs := [7]) (by kernel_rfl) (by simp) ?_
      refine ReadyTo.cons rfl (fun K hK => ?_) ReadyTo.nil
      rw [if_pos (by rfl)]
      refine wp_appV _ _ rfl Tryd.underlying34 infoValz rfl (by decide) (bx + 1) (.slice ia n icap) cs (cs ++ [vvl hh tv v2 mv2]) (vvl hh tv v2 mv2) bz 1 (n) HCN.out rfl LT.out.io rfl RT.out rfl (vvl_nine hh hdT.out.t.one hvT.out.one hdT.out.m.one) (by omega) (by decide) (by omega) rfl ?_
      intro g gc W8 ho8 hb8 hf8 hg8 hgl8
      have vb8 := Lib.hid (LT.out.vb.frame (hb8.block _ (by omega)))
      refine hK.out _ _ (S5 _ vb8.out) (fun hS => ?_)
      clear hK K
      have c5 : W8.cell? ⟨bx, 5, none⟩ = some (.slice ia n icap) := S5 _ vb8.out
      have f5 : W8.frozen? ⟨bx, 5, none⟩ = false := frozen_of_row W8 bx 5 _ _ vb8.out
      have pu := LT.out.push hdT.out hvT.out PKN.out ho8 hb8 hf8 (by
        rcases hg8 with e | e
        · exact .inl e.symm
        · exact .inr (by rw [← e]; rfl))
      have x9 := (xT.out.keepB hb8 (by omega)).setCell (g := bx) (by omega) 5 (.slice (some ⟨g, 0, none⟩) (n + 1) gc)
      refine dtp 8 ?_
      refine AnyTo.ready (rs := [9]) (by kernel_rfl) (by simp) ?_
      refine ReadyTo.last rfl (by kernel_rfl) (fun K hK => ?_) ReadyTo.nil
      go_simp
      refine hK.out _ _ ?_
      clear hK K
      refine AnyTo.done (by kernel_rfl) ?_ _
      obtain ⟨W9, hW9⟩ : ∃ x, W8.setCell ⟨bx, 5, none⟩ (.slice (some ⟨g, 0, none⟩) (n + 1) gc) = x := ⟨_, rfl⟩
      rw [hW9] at pu x9 ⊢
      have L9 : Hid (Lst w0.heap.size bx W9 (listR false fr 0 ms) (.slice (some ⟨g, 0, none⟩) (n + 1) gc) (.slice ma m mcap) (cs ++ [vvl hh tv v2 mv2]) (L.snoc st3.1 st3.2.1)) := Lib.hid (by rw [ehh]; exact pu.1)
      have HCN9 : Hid ((cs ++ [vvl hh tv v2 mv2]).length = n + 1) := Lib.hid (by rw [List.length_append, List.length_singleton, HCN.out])
      have x9 := Lib.hid x9
      have F9 := Lib.hid (HW.out.trans (((Fr.of (pb := w0.heap.size) BD.out (by omega)).box (bx := bx) (by omega)).trans (FT.out.trans pu.2)))
      clear pu hW9 ho8 hb8 hf8 hg8 hgl8 vb8 c5 f5 xT LT RT hdT hvT FT PKN LD xD BD hS S5 hbz hlT hs1 hbD hbW hpW LW xW HW HCN ehh
      refine NoPanic.normal ?_
      clear c0 c1 c2 c3 c4 k0
      have HR' := HR.out
      unfold stepR at HR'
      rw [hIt] at HR' HSF
      simp only at HR' HSF
      obtain ⟨f, rfl⟩ : ∃ q, f = q + 1 := ⟨f - 1, by omega⟩
      have IS6 := Lib.hid (IS2.out W9 _ 6 (by decide) x9.out)
      unfold ptrP at IS6
      clear hIt CV HR
      cases hb6 : isR 6 st3.2.2 with
      | false =>
        rw [hb6] at IS6
        rw [tailR_no hb6, show shL false = 4 from rfl] at HR'
        clear HSF hb6
        subst HR'
        go_wp2_with fail
        refine IS6.out.mono ?_
        rintro e WW ⟨rfl, hb7⟩
        have hlb := L9.out.vb.lt
        have LW := Lib.hid (L9.out.fr (Fr.of (pb := w0.heap.size) hb7 (by omega)))
        have xW := Lib.hid (x9.out.keep hb7)
        have FB := Lib.hid (F9.out.trans ((Fr.of (pb := w0.heap.size) hb7 (by omega)).box (bx := bx) (by omega)))
        have K0W := Lib.hid (K03.out.frame (FB.out.oth _ hbw (by omega)))
        have FW := Lib.hid (F3.out.transB FB.out (by omega))
        clear hb7
        have MK := Lib.hid (rdmark_any 4 (by decide) xW.out)
        obtain ⟨zt, ezt⟩ : ∃ x, (markR l.length 4 st3.2.2).1 = x := ⟨_, rfl⟩
        rw [ezt] at MK
        obtain ⟨hV, hhV⟩ : ∃ x, listR false fr zt ms = x := ⟨_, rfl⟩
        have EZT := Lib.hid ezt
        have HHV := Lib.hid hhV
        unfold ptrP at MK
        go_wp2_with fail
        refine MK.out.mono ?_
        rintro e w5 ⟨rfl, hq5⟩
        have L5 := Lib.hid (LW.out.fr hq5.2)
        have hpW := LW.out.lt
        have hbW := LW.out.vb.lt
        have cc : w5.cell? ⟨bx, 7, none⟩ = some (.int .i64 0) := L5.out.vb.cells.2.2.2.2.2.2.2.1
        have zz : w5.frozen? ⟨bx, 7, none⟩ = false := frozen_of_row _ _ _ _ _ L5.out.vb
        obtain ⟨v6, h6, k6⟩ := L5.out.shut zt
        have K5 := K0W.out.frame (hq5.2.oth _ K0W.out.lt (by omega))
        have K6 := K5.other (c := bx) (by omega) 7 (.int .i64 zt)
        have x6 := hq5.1.setCell (g := bx) (by omega) 7 (.int .i64 zt)
        have F6 := ((FW.out).trans hq5.2).setCell (g := bx) (by omega) (by omega) 7 (.int .i64 zt)
        have hsz : w5.heap.size = (w5.setCell ⟨bx, 7, none⟩ (.int .i64 zt)).heap.size := (World.size_setCell _ _ _).symm
        obtain ⟨W6', hW6⟩ : ∃ x, w5.setCell ⟨bx, 7, none⟩ (.int .i64 zt) = x := ⟨_, rfl⟩
        rw [hW6] at v6 h6 k6 K6 x6 F6 hsz
        have HW6 := Lib.hid hW6
        have v7 : VB W6' bx hV nilV (.slice (some ⟨g, 0, none⟩) (n + 1) gc) (.slice ma m mcap) := by rw [← hhV]; exact v6
        have h7 : HdP (fun b => bx < b ∧ b < w5.heap.size) W6' hV nilV (.slice ma m mcap) := by rw [← hhV]; exact h6
        have X6 := Lib.hid x6
        have FF6 := Lib.hid F6
        clear hW6 v6 h6 K5 hq5 hhV x6 F6 MK ezt
        go_upto_region 43 with fail
        rw [HW6.out]
        go_wp2_with (first | (refine wpl_ldV rfl _ rfl bx 0 hV nilV (.slice (some ⟨g, 0, none⟩) (n + 1) gc) (.slice ma m mcap) rfl (VB.range v7) ?_) | (refine wpl_stV rfl _ _ rfl w.heap.size zv hV nilV (.slice (some ⟨g, 0, none⟩) (n + 1) gc) (.slice ma m mcap) rfl rfl K6 rfl rfl rfl rfl ?_))
        go_wp2
        refine bodyPost_ret (res_bk Tryd.underlying36 rfl infoV1 rfl _ _ w.heap.size (vvl hV nilV (.slice (some ⟨g, 0, none⟩) (n + 1) gc) (.slice ma m mcap)) rfl (BK.set K6 _) rfl) rfl ?_
        have bS := below_setRowK (Below.refl 0 W6') (Nat.zero_le w.heap.size) (vv hV nilV (.slice (some ⟨g, 0, none⟩) (n + 1) gc) (.slice ma m mcap))
        have ke : ∀ b, (bx < b ∧ b < w5.heap.size) → (W6'.setRow w.heap.size (vv hV nilV (.slice (some ⟨g, 0, none⟩) (n + 1) gc) (.slice ma m mcap))).heap[b]? = W6'.heap[b]? := fun b hb => setRow_other _ _ _ _ (by omega)
        have km : ∀ b, (bx < b ∧ b < w5.heap.size) → Nw w.heap.size (W6'.setRow w.heap.size (vv hV nilV (.slice (some ⟨g, 0, none⟩) (n + 1) gc) (.slice ma m mcap))) b := fun b hb => ⟨by omega, by have := bS.size; omega⟩
        unfold RvQ
        (try dsimp only)
        rw [EZT.out, HHV.out]
        exact ⟨nilV, (.slice (some ⟨g, 0, none⟩) (n + 1) gc), (.slice ma m mcap), rfl, (h7.keep ke).mono km, (k6.keep ke).mono km, X6.out.setRow hlt _, Fr.setRow FF6.out (Nat.le_refl _) (Nat.le_of_lt hlt) _⟩
      | true =>
        rw [hb6] at IS6
        obtain ⟨t6, r6, e6, k6, m6⟩ := markR_yes (n := l.length) (by decide) hb6
        rw [tailR_yes hb6, m6] at HR'
        simp only at HR'
        obtain ⟨sf1, sf2, sf3⟩ := HSF.out _ e6
        have sl := sf1.len
        simp only [List.length_cons] at sl sf2 sf3
        have C6 := Lib.hid (fun (V : World) (h : RdP w0 bv (.slice (some ⟨b, off, none⟩) all.length cap) l all V st3.2.2) => rdmark_any 6 (by decide) h)
        rw [m6] at C6
        simp only at C6
        unfold ptrP at C6
        have HR6 := Lib.hid HR'
        have hLn2 := hLn.out
        have hcm2 := HCM.out
        obtain ⟨gi, hgi⟩ : ∃ x, (t6.2.1 : Int) = x := ⟨_, rfl⟩
        rw [hgi] at C6 HR6
        clear HR' HSF hb6 e6 k6 m6 hgi
        go_wp2_with fail
        refine IS6.out.mono ?_
        rintro e WW ⟨rfl, hb7⟩
        have hlb := L9.out.vb.lt
        have LW := Lib.hid (L9.out.fr (Fr.of (pb := w0.heap.size) hb7 (by omega)))
        have xW := Lib.hid (x9.out.keep hb7)
        have HW := Lib.hid (F9.out.trans ((Fr.of (pb := w0.heap.size) hb7 (by omega)).box (bx := bx) (by omega)))
        obtain ⟨cs3, hcs3⟩ : ∃ x, cs ++ [vvl hh tv v2 mv2] = x := ⟨_, rfl⟩
        rw [hcs3] at LW
        obtain ⟨ia3, hia3⟩ : ∃ x, some (⟨g, 0, none⟩ : Addr) = x := ⟨_, rfl⟩
        rw [hia3] at LW
        obtain ⟨gc3, hgc3⟩ : ∃ x, gc = x := ⟨_, rfl⟩
        rw [hgc3] at LW
        clear hb7 L9 x9 F9 IS6 hcs3 hia3 hgc3
        go_upto_region 44 with fail
        refine wp_region_noPanic ?_
        have S8 : ∀ V : World, VB V bx (listR false fr 0 ms) nilV (.slice ia3 (n + 1) gc3) (.slice ma m mcap) → V.cell? ⟨bx, 8, none⟩ = some (.slice ma m mcap) := fun V hv => hv.cells.2.2.2.2.2.2.2.2
        have hbW := LW.out.vb.lt
        have hpW := LW.out.lt
        have LD := Lib.hid (LW.out.fr (Fr.of ((Below.refl _ _).drew) (by omega)))
        have xD := Lib.hid (xW.out.keep ((Below.refl _ _).drew))
        have BD := Lib.hid ((Below.refl WW.heap.size WW).drew)
        refine wp_region_to 7 (S := fun V => V.cell? ⟨bx, 8, none⟩ = some (.slice ma m mcap)) (by kernel_rfl) (S8 _ LD.out.vb) (fun hS => ?_)
        obtain ⟨WD, hWD⟩ : ∃ x, WW.drew = x := ⟨_, rfl⟩
        rw [hWD] at LD xD BD hS ⊢
        clear hWD
        refine dtp 0 ?_
        refine dtk 1 ?_
        refine dtp 2 ?_
        refine AnyTo.ready (rs := [3]) (by kernel_rfl) (by simp) ?_
        refine ReadyTo.cons rfl (fun K hK => ?_) ReadyTo.nil
        go_simp
        refine (C6.out WD xD.out).mono ?_
        rintro e w1 ⟨rfl, hq1⟩
        refine hK.out _ _ (S8 _ (LD.out.fr hq1.2).vb) (fun hS => ?_)
        clear hK K
        have L1 := LD.out.fr hq1.2
        have hbD := LD.out.vb.lt
        have hs1 := hq1.2.lo.size
        obtain ⟨zz, ezz⟩ : ∃ x, gi = x := ⟨_, rfl⟩
        rw [ezz]
        refine AnyTo.ready (rs := [4]) (by kernel_rfl) (by simp) ?_
        refine ReadyTo.cons rfl (fun K hK => ?_) ReadyTo.nil
        go_simp
        have al := (Below.refl w1.heap.size w1).alloc (Nat.le_refl _) (.cells #[.int .i64 zz] 3)
        have xT := Lib.hid (hq1.1.keep al)
        have LT := Lib.hid (L1.fr (Fr.of al (by omega)))
        have RT : Hid ((w1.alloc (.cells #[.int .i64 zz] 3)).rangeAt w1.heap.size 0 [.int .i64 zz]) := Lib.hid (BK.range (BK.new 3 w1 #[.int .i64 zz]) 0 _ (fun j u hu => by rw [Nat.zero_add]; simpa using hu))
        have FT := Lib.hid ((hq1.2.box (bx := bx) (by omega)).trans ((Fr.of (pb := w0.heap.size) al (by omega)).box (bx := bx) (by omega)))
        refine hK.out _ _ (S8 _ LT.out.vb) (fun hS => ?_)
        clear hK K
        obtain ⟨bz, hbz⟩ : ∃ x, w1.heap.size = x := ⟨_, rfl⟩
        obtain ⟨WT, hWT⟩ : ∃ x, w1.alloc (.cells #[.int .i64 zz] 3) = x := ⟨_, rfl⟩
        rw [hWT] at xT LT RT FT hS ⊢
        rw [hbz] at RT ⊢
        have hlT := LT.out.vb.lt
        clear hWT hbz al L1 hq1
        refine AnyTo.ready (rs := [5]) (by kernel_rfl) (by simp) ?_
        refine ReadyTo.cons rfl (fun K hK => ?_) ReadyTo.nil
        rw [if_pos (by rfl)]
        refine wp_appV _ _ rfl Tryd.underlying31 infoI rfl (by decide) (bx + 1) (.slice ma m mcap) (icl ms) (icl (ms ++ [zz])) [.int .i64 zz] bz 1 (m) (by simp only [icl, List.length_map]; exact HCM.out) rfl LT.out.mo rfl RT.out rfl (fun c hc => by simp only [List.mem_cons, List.mem_nil_iff, or_false] at hc; subst hc; rfl) (by omega) (by decide) (by omega) (by simp [icl]) ?_
        intro g gc W8 ho8 hb8 hf8 hg8 hgl8
        have vb8 := Lib.hid (LT.out.vb.frame (hb8.block bx (by omega)))
        refine hK.out _ _ (S8 _ vb8.out) (fun hS => ?_)
        clear hK K
        have mk := LT.out.mark ho8 hb8 hf8 (by
          rcases hg8 with e | e
          · exact .inl e.symm
          · exact .inr (by rw [← e]; rfl))
        have c8 : W8.cell? ⟨bx, 8, none⟩ = some (.slice ma m mcap) := S8 _ vb8.out
        have f8 : W8.frozen? ⟨bx, 8, none⟩ = false := frozen_of_row W8 bx 8 _ _ vb8.out
        have x9 := (xT.out.keepB hb8 (by omega)).setCell (g := bx) (by omega) 8 (.slice (some ⟨g, 0, none⟩) (m + 1) gc)
        refine dtp 6 ?_
        refine AnyTo.ready (rs := [7]) (by kernel_rfl) (by simp) ?_
        refine ReadyTo.last rfl (by kernel_rfl) (fun K hK => ?_) ReadyTo.nil
        go_simp
        refine hK.out _ _ ?_
        clear hK K
        refine AnyTo.done (by kernel_rfl) ?_ _
        obtain ⟨W9, hW9⟩ : ∃ x, W8.setCell ⟨bx, 8, none⟩ (.slice (some ⟨g, 0, none⟩) (m + 1) gc) = x := ⟨_, rfl⟩
        rw [hW9] at mk x9 ⊢
        have L9 : Hid (Lst w0.heap.size bx W9 (listR false fr 0 (ms ++ [gi])) (.slice ia3 (n + 1) gc3) (.slice (some ⟨g, 0, none⟩) (m + 1) gc) cs3 (L.snoc st3.1 st3.2.1)) := Lib.hid (by rw [ezz]; exact mk.1)
        have HCM9 : Hid ((ms ++ [gi]).length = m + 1) := Lib.hid (by rw [List.length_append, List.length_singleton, HCM.out])
        have x9 := Lib.hid x9
        have F9 := Lib.hid (HW.out.trans (((Fr.of (pb := w0.heap.size) BD.out (by omega)).box (bx := bx) (by omega)).trans (FT.out.trans mk.2)))
        clear mk hW9 ho8 hb8 hf8 hg8 hgl8 vb8 c8 f8 xT LT RT FT LD xD BD hS S8 hlT hs1 hbD hbW hpW LW xW HW HCM ezz
        refine NoPanic.normal ?_
        have lenL : L.len = n := hLn2
        have inv : Hid (RInv w0 bv (.slice (some ⟨b, off, none⟩) all.length cap) l all false d fr r.length RR bx W3 r6.length W9) := Lib.hid (RInv.of (by omega) (by omega) HR6.out x9.out L9.out F9.out (by (try simp only [snoc_len] at sf2); (try simp only [snoc_len]); omega) (by rw [HCM9.out]; (try simp only [List.length_append, List.length_cons, List.length_nil] at sf3); (try simp only [List.length_append, List.length_cons, List.length_nil] at hcm2); omega))
        clear L9 x9 F9
        go_wp2
        go_roundg r6.length
        case rel => exact inv.out
        case measure => omega
set_option maxRecDepth 100000 in
set_option maxHeartbeats 8000000 in
theorem rdval_list1 {w0 w : World} {bv lv : Value} {l : List UInt8} {all : M.Toks} {fr te : Nat} {r : M.Toks} (f d : Nat) (D : Int) (hD : D - 1 = d ∧ 0 < D ∧ D ≤ 1000) (hf : 2 * r.length + 2 ≤ f) (hlr : r.length ≤ 20000)
    (hval : ∀ (g d : Nat) (E : Int) (st : Rst) (V : World), (d : Int) = E → d ≤ 1000 → stL st ≤ r.length → 2 * stL st + 1 ≤ g → RdP w0 bv lv l all V st → Calls Tryd.prog 19 #[ptrP w0, .int .i64 E] V (RvQ w0 bv lv l all (valR l g d st).1 (valR l g d st).2.1 (valR l g d st).2.2 V))
    (x : RdP w0 bv lv l all w (.ok ((1, fr, te) :: r))) (hT : TkIn l all) :
    Calls Tryd.prog 19 #[ptrP w0, .int .i64 D] w (RvQ w0 bv lv l all (valR l (f + 1) (d + 1) (.ok ((1, fr, te) :: r))).1 (valR l (f + 1) (d + 1) (.ok ((1, fr, te) :: r))).2.1 (valR l (f + 1) (d + 1) (.ok ((1, fr, te) :: r))).2.2 w) := by
  have hE := valR_list l true f d fr te r
  rw [show opL true = 1 from rfl, show shL true = 2 from rfl] at hE
  rw [hE]
  obtain ⟨RR, hRR⟩ : ∃ x, (if kindP r = 2 then tailR l f true d fr (.ok r) [] .nil else stepR l f true d fr (.ok r) [] .nil) = x := ⟨_, rfl⟩
  rw [hRR]
  have HRR := Lib.hid hRR
  have HV := Lib.hid hval
  have iD : decide (D ≤ 0) = false := by simp; omega
  obtain ⟨hD1, hD2, hD3⟩ := hD
  have HD1 := Lib.hid hD1
  have HWR : Hid (IntKind.i64.wrap (D - 1) = D - 1) := Lib.hid (by rw [IntKind.wrap_i64]; omega)
  clear hE hRR hval hD1
  have HX := Lib.hid x
  have hlt := rdlt x
  have b0 := Lib.hid ((Below.refl w.heap.size w).alloc (Nat.le_refl _) (.cells zv 36))
  have K0 := Lib.hid (BK.new 36 w zv)
  obtain ⟨W1, hW1⟩ : ∃ x, w.alloc (.cells zv 36) = x := ⟨_, rfl⟩
  rw [hW1] at b0 K0
  have HW1 := Lib.hid (show w.alloc (.cells #[.int .i64 0, .slice none 0 0, .bool false, .string ⟨#[]⟩, .string ⟨#[]⟩, .slice none 0 0, .int .i64 0, .int .i64 0, .slice none 0 0] 36) = W1 from hW1)
  have X1 := Lib.hid (x.keep b0.out)
  have hl1 := K0.out.lt
  have IS := Lib.hid (fun (w1 : World) (h : RdP w0 bv lv l all w1 (.ok ((1, fr, te) :: r))) => (rdis_any 7 (by decide) h : Calls Tryd.prog 41 #[ptrP w0, .int .i64 7] w1 fun e w' => e = .returned (.bool false) ∧ Below w1.heap.size w1 w'))
  obtain ⟨n, x, hd⟩ := X1.out
  have hn := drop_next hd
  have hla := x.la
  have HS := Lib.hid x
  have HD := Lib.hid hd
  have hn2 : n < 20000 := by omega
  unfold ptrP at IS ⊢
  clear hW1 x hd hla
  go_enter Tryd.func19, Tryd.ntmps19
  go_upto_region 1 with fail
  rw [HW1.out]
  go_wp2_with fail
  refine (IS.out _ X1.out).mono ?_
  rintro e w2 ⟨rfl, hb⟩
  have K02 := Lib.hid (K0.out.keep hb)
  have H2 := Lib.hid (HS.out.keep hb)
  have HB2 := Lib.hid hb
  clear hb
  obtain ⟨c0, c1, c2, c3, c4⟩ := H2.out.cells
  obtain ⟨ta, cap, e0, h1, h2, h3⟩ := H2.out.toks
  obtain ⟨b, off, rfl, hb, hc⟩ := h3 hn.1
  have htk : all.getD n (0, 0, 0) = (1, fr, te) := by
    have := HD.out
    rw [List.drop_eq_getElem_cons hn.1] at this
    simp [List.getD, hn.1, (List.cons.inj this).1]
  rw [htk] at hc
  subst e0
  obtain ⟨N, hN⟩ : ∃ q, all.length = q := ⟨_, rfl⟩
  have hn1 := hn.1
  rw [hN] at h1 c1 hn1
  have hb2 : b < w2.heap.size := by have := hlt; have := H2.out.lo.size; omega
  have hc0 : w2.rangeAt b (off + n * 3) [.int .i64 1, .int .i64 (fr : Int), .int .i64 (te : Int)] := fun j u hu => by
    show w2.cell? ⟨b, off + n * 3 + j, none⟩ = some u
    rw [Nat.add_assoc]; exact hc j u hu
  have SS : ∀ V : World, Below w2.heap.size w2 V → (V.cell? ⟨w0.heap.size, 1, none⟩ = some (.slice (some ⟨b, off, none⟩) N cap) ∧ V.cell? ⟨w0.heap.size, 2, none⟩ = some (.int .i64 (n : Int)) ∧ V.rangeAt b (off + n * 3) [.int .i64 1, .int .i64 (fr : Int), .int .i64 (te : Int)]) := fun V h => ⟨by rw [h.cell (p := ⟨w0.heap.size, 1, none⟩) H2.out.blk.lt]; exact c1, by rw [h.cell (p := ⟨w0.heap.size, 2, none⟩) H2.out.blk.lt]; exact c2, fun j u hu => by rw [h.cell (p := ⟨b, off + n * 3 + j, none⟩) hb2]; exact hc0 j u hu⟩
  clear hc h3 htk hn hc0
  have i1 : (n : Int) < N := by omega
  have i2 : decide ((N : Int) ≤ n) = false := by simp; omega
  go_wp2_with fail
  go_quiet (fail)
  clear c0 c1 c2 c3 c4 i2
  go_upto_region 6 with fail
  have D2 := Lib.hid (show Below w2.heap.size w2 (w2.drewN nq).drew from ⟨rfl, rfl, rfl, Nat.le_refl _, fun _ _ => rfl⟩)
  have K0D := Lib.hid (K02.out.keep D2.out)
  have XD := Lib.hid (H2.out.keep D2.out)
  refine wp_region_noPanic ?_
  refine wp_region_to 11 (S := fun V => (V.cell? ⟨w0.heap.size, 1, none⟩ = some (.slice (some ⟨b, off, none⟩) N cap) ∧ V.cell? ⟨w0.heap.size, 2, none⟩ = some (.int .i64 (n : Int)) ∧ V.rangeAt b (off + n * 3) [.int .i64 1, .int .i64 (fr : Int), .int .i64 (te : Int)])) (by kernel_rfl) (SS _ D2.out) (fun hS => ?_)
  obtain ⟨WD, hWD⟩ : ∃ x, (w2.drewN nq).drew = x := ⟨_, rfl⟩
  rw [hWD] at D2 K0D XD hS ⊢
  clear hWD
  refine dtp 0 ?_
  refine dtp 1 ?_
  refine dtp 2 ?_
  refine dtk 3 ?_
  refine dtp 4 ?_
  refine dtp 5 ?_
  refine dtp 6 ?_
  refine dtk 7 ?_
  refine dtp (v := .pointer (some ⟨b, off + n * 3, none⟩)) 8 (hy := Or.inl ⟨by rfl, by intro V hSV; go_simp⟩) ?_
  refine dtk (v := .agg #[.int .i64 1, .int .i64 (fr : Int), .int .i64 (te : Int)]) 9 (hy := yieldsIf_load_mid (by rfl) 85 _ rfl b (off + n * 3) rfl [.int .i64 1, .int .i64 (fr : Int), .int .i64 (te : Int)] _ (fun w hS => hS.2.2) Tryd.underlying85 rfl infoTok1) ?_
  have b5 := Lib.hid ((Below.refl WD.heap.size WD).alloc (Nat.le_refl _) (.cells #[.int .i64 0, .int .i64 0, .int .i64 0] 85))
  have K5 := Lib.hid (BK.new 85 WD #[.int .i64 0, .int .i64 0, .int .i64 0])
  obtain ⟨W5, hW5⟩ : ∃ x, WD.alloc (.cells #[.int .i64 0, .int .i64 0, .int .i64 0] 85) = x := ⟨_, rfl⟩
  rw [hW5] at b5 K5
  have HW5 := Lib.hid hW5
  clear hW5
  refine AnyTo.ready (rs := [10]) (by kernel_rfl) (by simp) ?_
  refine ReadyTo.cons rfl (fun K hK => ?_) ReadyTo.nil
  go_simp
  rw [HW5.out]
  refine hK.out _ _ (SS _ (D2.out.trans (b5.out.mono D2.out.size))) (fun _ => ?_)
  clear hK K
  refine AnyTo.ready (rs := [11]) (by kernel_rfl) (by simp) ?_
  refine ReadyTo.last rfl (by kernel_rfl) (fun K hK => ?_) ReadyTo.nil
  have l5 := K5.out.lt
  have m0 : W5.cell? ⟨WD.heap.size, 0, none⟩ = some (.int .i64 0) := K5.out.cell 0
  have m1 : W5.cell? ⟨WD.heap.size, 1, none⟩ = some (.int .i64 0) := K5.out.cell 1
  have m2 : W5.cell? ⟨WD.heap.size, 2, none⟩ = some (.int .i64 0) := K5.out.cell 2
  have z0 : W5.frozen? ⟨WD.heap.size, 0, none⟩ = false := frozen_of_row _ _ _ _ _ K5.out
  have z1 : W5.frozen? ⟨WD.heap.size, 1, none⟩ = false := frozen_of_row _ _ _ _ _ K5.out
  have z2 : W5.frozen? ⟨WD.heap.size, 2, none⟩ = false := frozen_of_row _ _ _ _ _ K5.out
  go_simp
  refine hK.out _ _ ?_
  clear hK K
  refine AnyTo.done (by kernel_rfl) ?_ _
  refine NoPanic.normal ?_
  clear m0 m1 m2 z0 z1 z2 hS SS
  have K6 : BK 85 (((W5.setCell ⟨WD.heap.size, 0, none⟩ (.int .i64 1)).setCell ⟨WD.heap.size, 1, none⟩ (.int .i64 (fr : Int))).setCell ⟨WD.heap.size, 2, none⟩ (.int .i64 (te : Int))) WD.heap.size #[.int .i64 1, .int .i64 (fr : Int), .int .i64 (te : Int)] := ((K5.out.setCell 0 (.int .i64 1)).setCell 1 (.int .i64 (fr : Int))).setCell 2 (.int .i64 (te : Int))
  have lD := K0D.out.lt
  have sD := D2.out.size
  have s2 := H2.out.lo.size
  have l2 := H2.out.blk.lt
  have K06 := (((K0D.out.keep b5.out).other (c := WD.heap.size) (by omega) 0 (.int .i64 1)).other (c := WD.heap.size) (by omega) 1 (.int .i64 (fr : Int))).other (c := WD.heap.size) (by omega) 2 (.int .i64 (te : Int))
  have b6 : Below WD.heap.size WD (((W5.setCell ⟨WD.heap.size, 0, none⟩ (.int .i64 1)).setCell ⟨WD.heap.size, 1, none⟩ (.int .i64 (fr : Int))).setCell ⟨WD.heap.size, 2, none⟩ (.int .i64 (te : Int))) := ((b5.out.setCell (p := ⟨WD.heap.size, 0, none⟩) (Nat.le_refl _) _).setCell (p := ⟨WD.heap.size, 1, none⟩) (Nat.le_refl _) _).setCell (p := ⟨WD.heap.size, 2, none⟩) (Nat.le_refl _) _
  obtain ⟨W6, hW6⟩ : ∃ x, ((W5.setCell ⟨WD.heap.size, 0, none⟩ (.int .i64 1)).setCell ⟨WD.heap.size, 1, none⟩ (.int .i64 (fr : Int))).setCell ⟨WD.heap.size, 2, none⟩ (.int .i64 (te : Int)) = x := ⟨_, rfl⟩
  rw [hW6] at K6 K06 b6 ⊢
  have X6 := Lib.hid (XD.out.keep b6)
  have KT6 := Lib.hid K6
  have KV6 := Lib.hid K06
  have B6 := Lib.hid b6
  clear hW6 K6 K06 b6 l5
  have j1 : W6.cell? ⟨WD.heap.size, 1, none⟩ = some (.int .i64 (fr : Int)) := KT6.out.cell 1
  go_upto_region 8 with fail
  have lV := KV6.out.lt
  have s6 := B6.out.size
  have b7 := (Below.refl W6.heap.size W6).alloc (Nat.le_refl _) (.cells #[.int .i64 0, .slice none 0 0, .bool false, .string ⟨#[]⟩, .string ⟨#[]⟩, .slice none 0 0, .int .i64 (fr : Int), .int .i64 0, .slice none 0 0] 36)
  have K7 := BK.new 36 W6 #[.int .i64 0, .slice none 0 0, .bool false, .string ⟨#[]⟩, .string ⟨#[]⟩, .slice none 0 0, .int .i64 (fr : Int), .int .i64 0, .slice none 0 0]
  obtain ⟨W7, hW7⟩ : ∃ x, W6.alloc (.cells #[.int .i64 0, .slice none 0 0, .bool false, .string ⟨#[]⟩, .string ⟨#[]⟩, .slice none 0 0, .int .i64 (fr : Int), .int .i64 0, .slice none 0 0] 36) = x := ⟨_, rfl⟩
  rw [hW7] at b7 K7 ⊢
  have X7 := Lib.hid (X6.out.keep b7)
  have KT7 := Lib.hid (KT6.out.keep b7)
  have KV7 := Lib.hid (KV6.out.keep b7)
  have j0 : W7.cell? ⟨WD.heap.size, 0, none⟩ = some (.int .i64 1) := KT7.out.cell 0
  have q0 : W7.cell? ⟨W6.heap.size, 0, none⟩ = some (.int .i64 0) := K7.cell 0
  have y0 : W7.frozen? ⟨W6.heap.size, 0, none⟩ = false := frozen_of_row _ _ _ _ _ K7
  have B7 := Lib.hid b7
  have HK7 := Lib.hid K7
  clear hW7 j1 b7 K7
  go_upto_region 27 with fail
  obtain ⟨c0, c1, c2, c3, c4⟩ := X7.out.cells
  have z2 : W7.frozen? ⟨w0.heap.size, 2, none⟩ = false := frozen_of_row _ _ _ _ _ X7.out.blk
  clear j0 q0 y0 iD
  go_upto_region 28 with fail
  have lT := KT6.out.lt
  have N9 := X7.out.next HD.out
  rw [show ((n + 1 : Nat) : Int) = (n : Int) + 1 by omega] at N9
  have K9 := HK7.out.other (c := w0.heap.size) (by omega) 2 (.int .i64 ((n : Int) + 1))
  have KV9 := KV7.out.other (c := w0.heap.size) (by omega) 2 (.int .i64 ((n : Int) + 1))
  have KT9 := KT7.out.other (c := w0.heap.size) (by omega) 2 (.int .i64 ((n : Int) + 1))
  clear c0 c1 c2 c3 c4 z2
  obtain ⟨W9, hW9⟩ : ∃ x, W7.setCell ⟨w0.heap.size, 2, none⟩ (.int .i64 ((n : Int) + 1)) = x := ⟨_, rfl⟩
  rw [hW9] at N9 K9 KV9 KT9 ⊢
  clear hW9
  have q0 : W9.cell? ⟨W6.heap.size, 0, none⟩ = some (.int .i64 0) := K9.cell 0
  have y0 : W9.frozen? ⟨W6.heap.size, 0, none⟩ = false := frozen_of_row _ _ _ _ _ K9
  have HN9 := Lib.hid N9
  have HK9 := Lib.hid K9
  have HV9 := Lib.hid KV9
  have HT9 := Lib.hid KT9
  clear N9 K9 KV9 KT9
  go_upto_region 30 with fail
  have KA := HK9.out.setCell 0 (.int .i64 2)
  have KVA := HV9.out.other (c := W6.heap.size) (by omega) 0 (.int .i64 2)
  have KTA := HT9.out.other (c := W6.heap.size) (by omega) 0 (.int .i64 2)
  have XA := HN9.out.1.setCell (g := W6.heap.size) (by omega) 0 (.int .i64 2)
  have F7 : Fr w0.heap.size w W7 := (Fr.of b0.out (Nat.le_of_lt hlt)).trans (Fr.of (HB2.out.trans ((D2.out.trans ((B6.out.trans (B7.out.mono s6)).mono sD)).mono HB2.out.size)) (by omega))
  have FA := (F7.trans HN9.out.2).setCell (g := W6.heap.size) (by have := b0.out.size; have := HB2.out.size; omega) (by omega) 0 (.int .i64 2)
  clear q0 y0
  obtain ⟨WA, hWA⟩ : ∃ x, W9.setCell ⟨W6.heap.size, 0, none⟩ (.int .i64 2) = x := ⟨_, rfl⟩
  rw [hWA] at KA KVA KTA XA FA ⊢
  clear hWA
  have j0 : WA.cell? ⟨WD.heap.size, 0, none⟩ = some (.int .i64 1) := KTA.cell 0
  have q0 : WA.cell? ⟨W6.heap.size, 0, none⟩ = some (.int .i64 2) := KA.cell 0
  have y0 : WA.frozen? ⟨W6.heap.size, 0, none⟩ = false := frozen_of_row _ _ _ _ _ KA
  have HKA := Lib.hid KA
  have HVA := Lib.hid KVA
  have HXA := Lib.hid XA
  have HFA := Lib.hid FA
  clear KA KVA KTA XA FA
  go_upto_region 33 with fail
  have KA := HKA.out.setCell 0 (.int .i64 1)
  have KVA := HVA.out.other (c := W6.heap.size) (by omega) 0 (.int .i64 1)
  have XA := HXA.out.setCell (g := W6.heap.size) (by omega) 0 (.int .i64 1)
  have FA := HFA.out.setCell (g := W6.heap.size) (by have := b0.out.size; have := HB2.out.size; omega) (by omega) 0 (.int .i64 1)
  clear q0 y0 j0
  obtain ⟨WS, hWS⟩ : ∃ x, WA.setCell ⟨W6.heap.size, 0, none⟩ (.int .i64 1) = x := ⟨_, rfl⟩
  rw [hWS] at KA KVA XA FA ⊢
  clear hWS
  have hbw : w.heap.size < W6.heap.size := by have := b0.out.size; have := HB2.out.size; omega
  have hpb : w0.heap.size < W6.heap.size := by omega
  obtain ⟨bx, hbx⟩ : ∃ x, W6.heap.size = x := ⟨_, rfl⟩
  rw [hbx] at KA hbw hpb ⊢
  have LS := Lib.hid (lst_begin (obj := true) (fr := fr) (show VB WS bx (listR true fr 0 []) nilV nilV nilV from KA) hpb)
  have K0S := Lib.hid KVA
  have XS := Lib.hid XA
  have FS := Lib.hid FA
  have TM : Hid (TkIn l all) := Lib.hid hT
  clear KA KVA XA FA hbx HKA HVA HXA HFA HN9 HK9 HV9 HT9 F7 X7 KT7 KV7 B7 HK7 X6 KT6 KV6 B6 s6 lV s2 l2 lD sD K0D XD D2 lT hb2 HD H2 K02 HB2 IS HX X1 hl1 K0 b0
  have IS2 := Lib.hid (fun (w1 : World) (st : Rst) (k : Nat) (hk : 1 ≤ k) (h : RdP w0 bv (.slice (some ⟨b, off, none⟩) all.length cap) l all w1 st) => rdis_any k hk h)
  have IS3 := Lib.hid (IS2.out WS _ 2 (by decide) XS.out)
  unfold ptrP at IS3
  by_cases hk : kindP r = 2
  · have hE : isR 2 (.ok r) = true := by simp [isR, hk]
    rw [hE] at IS3
    have hR := HRR.out
    rw [if_pos hk] at hR
    obtain ⟨f, rfl⟩ : ∃ q, f = q + 1 := ⟨f - 1, by omega⟩
    rw [tailR_no (show isR 6 (.ok r) = false by simp [isR, hk])] at hR
    rw [show shL true = 2 from rfl] at hR
    clear HRR hE
    subst hR
    go_wp2_with fail
    refine IS3.out.mono ?_
    rintro e WW ⟨rfl, hb3⟩
    have LW := Lib.hid (LS.out.fr (Fr.of hb3 (by have := LS.out.vb.lt; omega)))
    have xW := Lib.hid (XS.out.keep hb3)
    have K0W := Lib.hid (K0S.out.keep hb3)
    have FW := Lib.hid (FS.out.trans (Fr.of (pb := w0.heap.size) hb3 (by have := LS.out.vb.lt; omega)))
    clear hb3
    have MK := Lib.hid (rdmark_any 2 (by decide) xW.out)
    obtain ⟨zt, ezt⟩ : ∃ x, (markR l.length 2 (.ok r)).1 = x := ⟨_, rfl⟩
    rw [ezt] at MK
    obtain ⟨hV, hhV⟩ : ∃ x, listR true fr zt [] = x := ⟨_, rfl⟩
    have EZT := Lib.hid ezt
    have HHV := Lib.hid hhV
    unfold ptrP at MK
    go_wp2_with fail
    refine MK.out.mono ?_
    rintro e w5 ⟨rfl, hq5⟩
    have L5 := Lib.hid (LW.out.fr hq5.2)
    have hpW := LW.out.lt
    have hbW := LW.out.vb.lt
    have cc : w5.cell? ⟨bx, 7, none⟩ = some (.int .i64 0) := L5.out.vb.cells.2.2.2.2.2.2.2.1
    have zz : w5.frozen? ⟨bx, 7, none⟩ = false := frozen_of_row _ _ _ _ _ L5.out.vb
    obtain ⟨v6, h6, k6⟩ := L5.out.shut zt
    have K5 := K0W.out.frame (hq5.2.oth _ K0W.out.lt (by omega))
    have K6 := K5.other (c := bx) (by omega) 7 (.int .i64 zt)
    have x6 := hq5.1.setCell (g := bx) (by omega) 7 (.int .i64 zt)
    have F6 := ((FW.out).trans hq5.2).setCell (g := bx) (by omega) (by omega) 7 (.int .i64 zt)
    have hsz : w5.heap.size = (w5.setCell ⟨bx, 7, none⟩ (.int .i64 zt)).heap.size := (World.size_setCell _ _ _).symm
    obtain ⟨W6', hW6⟩ : ∃ x, w5.setCell ⟨bx, 7, none⟩ (.int .i64 zt) = x := ⟨_, rfl⟩
    rw [hW6] at v6 h6 k6 K6 x6 F6 hsz
    have HW6 := Lib.hid hW6
    have v7 : VB W6' bx hV nilV nilV nilV := by rw [← hhV]; exact v6
    have h7 : HdP (fun b => bx < b ∧ b < w5.heap.size) W6' hV nilV nilV := by rw [← hhV]; exact h6
    have X6 := Lib.hid x6
    have FF6 := Lib.hid F6
    clear hW6 v6 h6 K5 hq5 hhV x6 F6 MK ezt
    go_upto_region 35 with fail
    rw [HW6.out]
    go_wp2_with (first | (refine wpl_ldV rfl _ rfl bx 0 hV nilV nilV nilV rfl (VB.range v7) ?_) | (refine wpl_stV rfl _ _ rfl w.heap.size zv hV nilV nilV nilV rfl rfl K6 rfl rfl rfl rfl ?_))
    go_wp2
    refine bodyPost_ret (res_bk Tryd.underlying36 rfl infoV1 rfl _ _ w.heap.size (vvl hV nilV nilV nilV) rfl (BK.set K6 _) rfl) rfl ?_
    have bS := below_setRowK (Below.refl 0 W6') (Nat.zero_le w.heap.size) (vv hV nilV nilV nilV)
    have ke : ∀ b, (bx < b ∧ b < w5.heap.size) → (W6'.setRow w.heap.size (vv hV nilV nilV nilV)).heap[b]? = W6'.heap[b]? := fun b hb => setRow_other _ _ _ _ (by omega)
    have km : ∀ b, (bx < b ∧ b < w5.heap.size) → Nw w.heap.size (W6'.setRow w.heap.size (vv hV nilV nilV nilV)) b := fun b hb => ⟨by omega, by have := bS.size; omega⟩
    unfold RvQ
    (try dsimp only)
    rw [EZT.out, HHV.out]
    exact ⟨nilV, nilV, nilV, rfl, (h7.keep ke).mono km, (k6.keep ke).mono km, X6.out.setRow hlt _, Fr.setRow FF6.out (Nat.le_refl _) (Nat.le_of_lt hlt) _⟩
  · have hE : isR 2 (.ok r) = false := by simp [isR, hk]
    rw [hE] at IS3
    have hR := HRR.out
    rw [if_neg hk] at hR
    go_wp2_with fail
    refine IS3.out.mono ?_
    rintro e W3 ⟨rfl, hb3⟩
    have L3 := LS.out.fr (Fr.of hb3 (by have := LS.out.vb.lt; omega))
    have X3 := XS.out.keep hb3
    have K03 := Lib.hid (K0S.out.keep hb3)
    have F3 := Lib.hid (FS.out.trans (Fr.of (pb := w0.heap.size) hb3 (by have := LS.out.vb.lt; omega)))
    have hl3 := L3.vb.lt
    have inv : Hid (RInv w0 bv (.slice (some ⟨b, off, none⟩) all.length cap) l all true d fr r.length RR bx W3 r.length W3) := Lib.hid (RInv.of (Nat.le_refl _) (by omega) hR X3 L3 (FrB.refl _ _ _) (by simp only [Vo.len]; omega) (by simp only [List.length_nil]; omega))
    clear hb3 L3 X3 LS XS K0S FS hR HRR IS3 hE
    go_wp2
    go_loopg [] r.length (fun g wr => RInv w0 bv (.slice (some ⟨b, off, none⟩) all.length cap) l all true d fr r.length RR bx W3 g wr)
    case atStart => exact inv.out
    case round =>
      obtain ⟨ts, f, ms, L, ia, n, icap, ma, m, mcap, cs, hgl, hle, hfu, hR, hX, hL, hF, hn1, hm1, hcn, hcm⟩ := hrel
      have HSF := Lib.hid (fun r' (h : (itemR l (valR l f d) true (.ok ts) ms L).2.2 = .ok r') => itemR_suf l f d true ts ms L r' h)
      have HCN := Lib.hid hcn
      have HCM := Lib.hid hcm
      have LW := Lib.hid hL
      have xW := Lib.hid hX
      obtain ⟨nr, xs, hdr⟩ := hX
      obtain ⟨c0, c1, c2, c3, c4⟩ := xs.cells
      have k0 := hL.vb.cells.1
      have k0 : wr.cell? ⟨bx, 0, none⟩ = some (.int .i64 1) := k0
      have hbW := hL.vb.lt
      have HR := Lib.hid hR
      have hLn : Hid (L.len = n) := Lib.hid (by rw [← hcn]; exact (KidsC.len L cs hL.ks).symm)
      obtain ⟨WW, hWW⟩ : ∃ x, wr = x := ⟨_, rfl⟩
      have HW : Hid (FrB w0.heap.size bx W3 WW) := Lib.hid (by rw [← hWW]; exact hF)
      rw [hWW] at LW xW c0 c1 c2 c3 c4 k0 hbW ⊢
      clear hR hF hL xs hdr hcn hcm hWW
      have CT := Lib.hid (fun (V : World) (h : RdP w0 bv (.slice (some ⟨b, off, none⟩) all.length cap) l all V (.ok ts)) => rdtext_any h TM.out)
      have hs1 := stL_text l (.ok ts)
      obtain ⟨st1, hst1⟩ : ∃ x, textR l (.ok ts) = x := ⟨_, rfl⟩
      rw [hst1] at CT hs1
      have C5 := Lib.hid (fun (V : World) (h : RdP w0 bv (.slice (some ⟨b, off, none⟩) all.length cap) l all V st1.2) => rdmark_any 5 (by decide) h)
      have hs2 := stL_mark l.length 5 st1.2
      obtain ⟨st2, hst2⟩ : ∃ x, markR l.length 5 st1.2 = x := ⟨_, rfl⟩
      rw [hst2] at C5 hs2
      have CV := Lib.hid (fun (V : World) (h : RdP w0 bv (.slice (some ⟨b, off, none⟩) all.length cap) l all V st2.2) => HV.out f d (D - 1) st2.2 V HD1.out.symm (by have := HD1.out; omega) (by have : stL (.ok ts) = ts.length := rfl; omega) (by have : stL (.ok ts) = ts.length := rfl; omega) h)
      obtain ⟨st3, hst3⟩ : ∃ x, valR l f d st2.2 = x := ⟨_, rfl⟩
      rw [hst3] at CV
      have hIt : itemR l (valR l f d) true (.ok ts) ms L = (ms ++ [st2.1], (L.snoc st1.1 .nil).snoc st3.1 st3.2.1, st3.2.2) := by
        unfold itemR
        rw [if_pos rfl, hst1, hst2, hst3]
      unfold ptrP at CT C5 CV
      clear hst1 hst2 hst3 hs1 hs2
      go_upto_region 38 with fail
      refine wp_region_noPanic ?_
      have S5 : ∀ V : World, VB V bx (listR true fr 0 ms) nilV (.slice ia n icap) (.slice ma m mcap) → V.cell? ⟨bx, 5, none⟩ = some (.slice ia n icap) := fun V hv => hv.cells.2.2.2.2.2.1
      have hbW := LW.out.vb.lt
      have hpW := LW.out.lt
      have LD := Lib.hid (LW.out.fr (Fr.of ((Below.refl _ _).drew) (by omega)))
      have xD := Lib.hid (xW.out.keep ((Below.refl _ _).drew))
      have BD := Lib.hid ((Below.refl WW.heap.size WW).drew)
      refine wp_region_to 7 (S := fun V => V.cell? ⟨bx, 5, none⟩ = some (.slice ia n icap)) (by kernel_rfl) (S5 _ LD.out.vb) (fun hS => ?_)
      obtain ⟨WD, hWD⟩ : ∃ x, WW.drew = x := ⟨_, rfl⟩
      rw [hWD] at LD xD BD hS ⊢
      clear hWD
      refine dtp 0 ?_
      refine dtk 1 ?_
      refine dtp 2 ?_
      refine AnyTo.ready (rs := [3]) (by kernel_rfl) (by simp) ?_
      refine ReadyTo.cons rfl (fun K hK => ?_) ReadyTo.nil
      go_simp
      refine (CT.out WD xD.out).mono ?_
      rintro e w1 ⟨tv, v2, mv2, rfl, hd1, hv1, hq1⟩
      refine hK.out _ _ (S5 _ (LD.out.fr hq1.2).vb) (fun hS => ?_)
      clear hK K
      have L1 := LD.out.fr hq1.2
      have hbD := LD.out.vb.lt
      have hs1 := hq1.2.lo.size
      obtain ⟨hh, ehh⟩ : ∃ x, st1.1 = x := ⟨_, rfl⟩
      rw [ehh] at hd1 ⊢
      refine AnyTo.ready (rs := [4]) (by kernel_rfl) (by simp) ?_
      refine ReadyTo.cons rfl (fun K hK => ?_) ReadyTo.nil
      rw [if_pos (by rfl)]
      refine wp_bsz _ rfl (.int .i64 hh.k) tv (.bool hh.ng) (.string (bytes hh.dg)) (.string (bytes hh.ex)) v2 (.int .i64 hh.fr) (.int .i64 hh.tt) mv2 rfl ?_
      have al := (Below.refl w1.heap.size w1).alloc (Nat.le_refl _) (.cells (vv hh tv v2 mv2) 36)
      have xT := Lib.hid (hq1.1.keep al)
      have LT := Lib.hid (L1.fr (Fr.of al (by omega)))
      have RT := Lib.hid (VB.range (VB.new w1 hh tv v2 mv2))
      have hdT := Lib.hid ((hd1.keep (fun b hb => al.block b hb.2)).mono (Q := Nw WD.heap.size (w1.alloc (.cells (vv hh tv v2 mv2) 36))) (fun b hb => ⟨hb.1, Nat.lt_of_lt_of_le hb.2 al.size⟩))
      have hvT := Lib.hid ((hv1.keep (fun b hb => al.block b hb.2)).mono (Q := Nw WD.heap.size (w1.alloc (.cells (vv hh tv v2 mv2) 36))) (fun b hb => ⟨hb.1, Nat.lt_of_lt_of_le hb.2 al.size⟩))
      have FT := Lib.hid ((hq1.2.box (bx := bx) (by omega)).trans ((Fr.of (pb := w0.heap.size) al (by omega)).box (bx := bx) (by omega)))
      have PKN := Lib.hid (fun b (hb : Nw WD.heap.size (w1.alloc (.cells (vv hh tv v2 mv2) 36)) b) => pk_new LD.out hb)
      obtain ⟨bz, hbz⟩ : ∃ x, w1.heap.size = x := ⟨_, rfl⟩
      obtain ⟨WT, hWT⟩ : ∃ x, w1.alloc (.cells (vv hh tv v2 mv2) 36) = x := ⟨_, rfl⟩
      have hWT' : w1.alloc (.cells #[.int .i64 hh.k, tv, .bool hh.ng, .string (bytes hh.dg), .string (bytes hh.ex), v2, .int .i64 hh.fr, .int .i64 hh.tt, mv2] 36) = WT := hWT
      rw [hWT] at xT LT RT hdT hvT FT PKN
      rw [hWT', hbz]
      rw [hbz] at RT
      refine hK.out _ _ (S5 _ LT.out.vb) (fun hS => ?_)
      clear hK K
      have hlT := LT.out.vb.lt
      clear hWT hWT' al L1 hd1 hv1 hq1
      refine AnyTo.ready (rs := [5]) (by kernel_rfl) (by simp) ?_
      refine ReadyTo.cons rfl (fun K hK => ?_) ReadyTo.nil
      rw [if_pos (by rfl)]
      refine wp_appV _ _ rfl Tryd.underlying34 infoValz rfl (by decide) (bx + 1) (.slice ia n icap) cs (cs ++ [vvl hh tv v2 mv2]) (vvl hh tv v2 mv2) bz 1 (n) HCN.out rfl LT.out.io rfl RT.out rfl (vvl_nine hh hdT.out.t.one hvT.out.one hdT.out.m.one) (by omega) (by decide) (by omega) rfl ?_
      intro g gc W8 ho8 hb8 hf8 hg8 hgl8
      have vb8 := Lib.hid (LT.out.vb.frame (hb8.block _ (by omega)))
      refine hK.out _ _ (S5 _ vb8.out) (fun hS => ?_)
      clear hK K
      have c5 : W8.cell? ⟨bx, 5, none⟩ = some (.slice ia n icap) := S5 _ vb8.out
      have f5 : W8.frozen? ⟨bx, 5, none⟩ = false := frozen_of_row W8 bx 5 _ _ vb8.out
      have pu := LT.out.push hdT.out hvT.out PKN.out ho8 hb8 hf8 (by
        rcases hg8 with e | e
        · exact .inl e.symm
        · exact .inr (by rw [← e]; rfl))
      have x9 := (xT.out.keepB hb8 (by omega)).setCell (g := bx) (by omega) 5 (.slice (some ⟨g, 0, none⟩) (n + 1) gc)
      refine dtp 6 ?_
      refine AnyTo.ready (rs := [7]) (by kernel_rfl) (by simp) ?_
      refine ReadyTo.last rfl (by kernel_rfl) (fun K hK => ?_) ReadyTo.nil
      go_simp
      refine hK.out _ _ ?_
      clear hK K
      refine AnyTo.done (by kernel_rfl) ?_ _
      obtain ⟨W9, hW9⟩ : ∃ x, W8.setCell ⟨bx, 5, none⟩ (.slice (some ⟨g, 0, none⟩) (n + 1) gc) = x := ⟨_, rfl⟩
      rw [hW9] at pu x9 ⊢
      have L9 : Hid (Lst w0.heap.size bx W9 (listR true fr 0 ms) (.slice (some ⟨g, 0, none⟩) (n + 1) gc) (.slice ma m mcap) (cs ++ [vvl hh tv v2 mv2]) (L.snoc st1.1 .nil)) := Lib.hid (by rw [ehh]; exact pu.1)
      have HCN9 : Hid ((cs ++ [vvl hh tv v2 mv2]).length = n + 1) := Lib.hid (by rw [List.length_append, List.length_singleton, HCN.out])
      have x9 := Lib.hid x9
      have F9 := Lib.hid (HW.out.trans (((Fr.of (pb := w0.heap.size) BD.out (by omega)).box (bx := bx) (by omega)).trans (FT.out.trans pu.2)))
      clear pu hW9 ho8 hb8 hf8 hg8 hgl8 vb8 c5 f5 xT LT RT hdT hvT FT PKN LD xD BD hS S5 hbz hlT hs1 hbD hbW hpW LW xW HW HCN ehh
      refine NoPanic.normal ?_
      go_upto_region 39 with fail
      obtain ⟨WW, hWW⟩ : ∃ x, W9 = x := ⟨_, rfl⟩
      rw [hWW] at L9 x9 F9 ⊢
      have LW := Lib.hid L9.out
      have xW := Lib.hid x9.out
      have HW := Lib.hid F9.out
      obtain ⟨cs2, hcs2⟩ : ∃ x, cs ++ [vvl hh tv v2 mv2] = x := ⟨_, rfl⟩
      rw [hcs2] at LW HCN9
      obtain ⟨ia2, hia2⟩ : ∃ x, some (⟨g, 0, none⟩ : Addr) = x := ⟨_, rfl⟩
      rw [hia2] at LW
      obtain ⟨gcI, hgcI⟩ : ∃ x, gc = x := ⟨_, rfl⟩
      rw [hgcI] at LW
      have HCN := Lib.hid HCN9.out
      clear hWW L9 x9 F9 hcs2 hia2 HCN9 hgcI
      obtain ⟨n2, hn2⟩ : ∃ x, n + 1 = x := ⟨_, rfl⟩
      rw [hn2] at LW HCN
      refine wp_region_noPanic ?_
      have S8 : ∀ V : World, VB V bx (listR true fr 0 ms) nilV (.slice ia2 n2 gcI) (.slice ma m mcap) → V.cell? ⟨bx, 8, none⟩ = some (.slice ma m mcap) := fun V hv => hv.cells.2.2.2.2.2.2.2.2
      have hbW := LW.out.vb.lt
      have hpW := LW.out.lt
      have LD := Lib.hid (LW.out.fr (Fr.of ((Below.refl _ _).drew) (by omega)))
      have xD := Lib.hid (xW.out.keep ((Below.refl _ _).drew))
      have BD := Lib.hid ((Below.refl WW.heap.size WW).drew)
      refine wp_region_to 7 (S := fun V => V.cell? ⟨bx, 8, none⟩ = some (.slice ma m mcap)) (by kernel_rfl) (S8 _ LD.out.vb) (fun hS => ?_)
      obtain ⟨WD, hWD⟩ : ∃ x, WW.drew = x := ⟨_, rfl⟩
      rw [hWD] at LD xD BD hS ⊢
      clear hWD
      refine dtp 0 ?_
      refine dtk 1 ?_
      refine dtp 2 ?_
      refine AnyTo.ready (rs := [3]) (by kernel_rfl) (by simp) ?_
      refine ReadyTo.cons rfl (fun K hK => ?_) ReadyTo.nil
      go_simp
      refine (C5.out WD xD.out).mono ?_
      rintro e w1 ⟨rfl, hq1⟩
      refine hK.out _ _ (S8 _ (LD.out.fr hq1.2).vb) (fun hS => ?_)
      clear hK K
      have L1 := LD.out.fr hq1.2
      have hbD := LD.out.vb.lt
      have hs1 := hq1.2.lo.size
      obtain ⟨zz, ezz⟩ : ∃ x, st2.1 = x := ⟨_, rfl⟩
      rw [ezz]
      refine AnyTo.ready (rs := [4]) (by kernel_rfl) (by simp) ?_
      refine ReadyTo.cons rfl (fun K hK => ?_) ReadyTo.nil
      go_simp
      have al := (Below.refl w1.heap.size w1).alloc (Nat.le_refl _) (.cells #[.int .i64 zz] 3)
      have xT := Lib.hid (hq1.1.keep al)
      have LT := Lib.hid (L1.fr (Fr.of al (by omega)))
      have RT : Hid ((w1.alloc (.cells #[.int .i64 zz] 3)).rangeAt w1.heap.size 0 [.int .i64 zz]) := Lib.hid (BK.range (BK.new 3 w1 #[.int .i64 zz]) 0 _ (fun j u hu => by rw [Nat.zero_add]; simpa using hu))
      have FT := Lib.hid ((hq1.2.box (bx := bx) (by omega)).trans ((Fr.of (pb := w0.heap.size) al (by omega)).box (bx := bx) (by omega)))
      refine hK.out _ _ (S8 _ LT.out.vb) (fun hS => ?_)
      clear hK K
      obtain ⟨bz, hbz⟩ : ∃ x, w1.heap.size = x := ⟨_, rfl⟩
      obtain ⟨WT, hWT⟩ : ∃ x, w1.alloc (.cells #[.int .i64 zz] 3) = x := ⟨_, rfl⟩
      rw [hWT] at xT LT RT FT hS ⊢
      rw [hbz] at RT ⊢
      have hlT := LT.out.vb.lt
      clear hWT hbz al L1 hq1
      refine AnyTo.ready (rs := [5]) (by kernel_rfl) (by simp) ?_
      refine ReadyTo.cons rfl (fun K hK => ?_) ReadyTo.nil
      rw [if_pos (by rfl)]
      refine wp_appV _ _ rfl Tryd.underlying31 infoI rfl (by decide) (bx + 1) (.slice ma m mcap) (icl ms) (icl (ms ++ [zz])) [.int .i64 zz] bz 1 (m) (by simp only [icl, List.length_map]; exact HCM.out) rfl LT.out.mo rfl RT.out rfl (fun c hc => by simp only [List.mem_cons, List.mem_nil_iff, or_false] at hc; subst hc; rfl) (by omega) (by decide) (by omega) (by simp [icl]) ?_
      intro g gc W8 ho8 hb8 hf8 hg8 hgl8
      have vb8 := Lib.hid (LT.out.vb.frame (hb8.block bx (by omega)))
      refine hK.out _ _ (S8 _ vb8.out) (fun hS => ?_)
      clear hK K
      have mk := LT.out.mark ho8 hb8 hf8 (by
        rcases hg8 with e | e
        · exact .inl e.symm
        · exact .inr (by rw [← e]; rfl))
      have c8 : W8.cell? ⟨bx, 8, none⟩ = some (.slice ma m mcap) := S8 _ vb8.out
      have f8 : W8.frozen? ⟨bx, 8, none⟩ = false := frozen_of_row W8 bx 8 _ _ vb8.out
      have x9 := (xT.out.keepB hb8 (by omega)).setCell (g := bx) (by omega) 8 (.slice (some ⟨g, 0, none⟩) (m + 1) gc)
      refine dtp 6 ?_
      refine AnyTo.ready (rs := [7]) (by kernel_rfl) (by simp) ?_
      refine ReadyTo.last rfl (by kernel_rfl) (fun K hK => ?_) ReadyTo.nil
      go_simp
      refine hK.out _ _ ?_
      clear hK K
      refine AnyTo.done (by kernel_rfl) ?_ _
      obtain ⟨W9, hW9⟩ : ∃ x, W8.setCell ⟨bx, 8, none⟩ (.slice (some ⟨g, 0, none⟩) (m + 1) gc) = x := ⟨_, rfl⟩
      rw [hW9] at mk x9 ⊢
      have L9 : Hid (Lst w0.heap.size bx W9 (listR true fr 0 (ms ++ [st2.1])) (.slice ia2 n2 gcI) (.slice (some ⟨g, 0, none⟩) (m + 1) gc) cs2 (L.snoc st1.1 .nil)) := Lib.hid (by rw [ezz]; exact mk.1)
      have HCM9 : Hid ((ms ++ [st2.1]).length = m + 1) := Lib.hid (by rw [List.length_append, List.length_singleton, HCM.out])
      have x9 := Lib.hid x9
      have F9 := Lib.hid (HW.out.trans (((Fr.of (pb := w0.heap.size) BD.out (by omega)).box (bx := bx) (by omega)).trans (FT.out.trans mk.2)))
      clear mk hW9 ho8 hb8 hf8 hg8 hgl8 vb8 c8 f8 xT LT RT FT LD xD BD hS S8 hlT hs1 hbD hbW hpW LW xW HW HCM ezz
      refine NoPanic.normal ?_
      go_upto_region 40 with fail
      obtain ⟨WW, hWW⟩ : ∃ x, W9 = x := ⟨_, rfl⟩
      rw [hWW] at L9 x9 F9 ⊢
      have LW := Lib.hid L9.out
      have xW := Lib.hid x9.out
      have HW := Lib.hid F9.out
      have HCM := Lib.hid HCM9.out
      obtain ⟨ma2, hma2⟩ : ∃ x, some (⟨g, 0, none⟩ : Addr) = x := ⟨_, rfl⟩
      rw [hma2] at LW
      obtain ⟨gcM, hgcM⟩ : ∃ x, gc = x := ⟨_, rfl⟩
      rw [hgcM] at LW
      obtain ⟨m2, hm2⟩ : ∃ x, m + 1 = x := ⟨_, rfl⟩
      rw [hm2] at LW HCM
      clear hWW L9 x9 F9 hma2 HCM9 hgcM
      refine wp_region_noPanic ?_
      have S5 : ∀ V : World, VB V bx (listR true fr 0 (ms ++ [st2.1])) nilV (.slice ia2 n2 gcI) (.slice ma2 m2 gcM) → V.cell? ⟨bx, 5, none⟩ = some (.slice ia2 n2 gcI) := fun V hv => hv.cells.2.2.2.2.2.1
      have hbW := LW.out.vb.lt
      have hpW := LW.out.lt
      have LD := Lib.hid (LW.out.fr (Fr.of ((Below.refl _ _).drew) (by omega)))
      have xD := Lib.hid (xW.out.keep ((Below.refl _ _).drew))
      have BD := Lib.hid ((Below.refl WW.heap.size WW).drew)
      refine wp_region_to 9 (S := fun V => V.cell? ⟨bx, 5, none⟩ = some (.slice ia2 n2 gcI)) (by kernel_rfl) (S5 _ LD.out.vb) (fun hS => ?_)
      obtain ⟨WD, hWD⟩ : ∃ x, WW.drew = x := ⟨_, rfl⟩
      rw [hWD] at LD xD BD hS ⊢
      clear hWD
      refine dtp 0 ?_
      refine dtk 1 ?_
      refine dtp 2 ?_
      refine dtp 3 ?_
      refine dtp (v := .int .i64 (D - 1)) 4 (hy := Or.inl ⟨by rfl, by intro V hSV; go_simp; exact HWR.out⟩) ?_
      refine AnyTo.ready (rs := [5]) (by kernel_rfl) (by simp) ?_
      refine ReadyTo.cons rfl (fun K hK => ?_) ReadyTo.nil
      go_simp
      refine (CV.out WD xD.out).mono ?_
      rintro e w1 ⟨tv, v2, mv2, rfl, hd1, hv1, hq1⟩
      refine hK.out _ _ (S5 _ (LD.out.fr hq1.2).vb) (fun hS => ?_)
      clear hK K
      have L1 := LD.out.fr hq1.2
      have hbD := LD.out.vb.lt
      have hs1 := hq1.2.lo.size
      obtain ⟨hh, ehh⟩ : ∃ x, st3.1 = x := ⟨_, rfl⟩
      rw [ehh] at hd1 ⊢
      refine AnyTo.ready (rs := [6]) (by kernel_rfl) (by simp) ?_
      refine ReadyTo.cons rfl (fun K hK => ?_) ReadyTo.nil
      rw [if_pos (by rfl)]
      refine wp_bsz _ rfl (.int .i64 hh.k) tv (.bool hh.ng) (.string (bytes hh.dg)) (.string (bytes hh.ex)) v2 (.int .i64 hh.fr) (.int .i64 hh.tt) mv2 rfl ?_
      have al := (Below.refl w1.heap.size w1).alloc (Nat.le_refl _) (.cells (vv hh tv v2 mv2) 36)
      have xT := Lib.hid (hq1.1.keep al)
      have LT := Lib.hid (L1.fr (Fr.of al (by omega)))
      have RT := Lib.hid (VB.range (VB.new w1 hh tv v2 mv2))
      have hdT := Lib.hid ((hd1.keep (fun b hb => al.block b hb.2)).mono (Q := Nw WD.heap.size (w1.alloc (.cells (vv hh tv v2 mv2) 36))) (fun b hb => ⟨hb.1, Nat.lt_of_lt_of_le hb.2 al.size⟩))
      have hvT := Lib.hid ((hv1.keep (fun b hb => al.block b hb.2)).mono (Q := Nw WD.heap.size (w1.alloc (.cells (vv hh tv v2 mv2) 36))) (fun b hb => ⟨hb.1, Nat.lt_of_lt_of_le hb.2 al.size⟩))
      have FT := Lib.hid ((hq1.2.box (bx := bx) (by omega)).trans ((Fr.of (pb := w0.heap.size) al (by omega)).box (bx := bx) (by omega)))
      have PKN := Lib.hid (fun b (hb : Nw WD.heap.size (w1.alloc (.cells (vv hh tv v2 mv2) 36)) b) => pk_new LD.out hb)
      obtain ⟨bz, hbz⟩ : ∃ x, w1.heap.size = x := ⟨_, rfl⟩
      obtain ⟨WT, hWT⟩ : ∃ x, w1.alloc (.cells (vv hh tv v2 mv2) 36) = x := ⟨_, rfl⟩
      have hWT' : w1.alloc (.cells #[.int .i64 hh.k, tv, .bool hh.ng, .string (bytes hh.dg), .string (bytes hh.ex), v2, .int .i64 hh.fr, .int .i64 hh.tt, mv2] 36) = WT := hWT
      rw [hWT] at xT LT RT hdT hvT FT PKN
      rw [hWT', hbz]
      rw [hbz] at RT
      refine hK.out _ _ (S5 _ LT.out.vb) (fun hS => ?_)
      clear hK K
      have hlT := LT.out.vb.lt
      clear hWT hWT' al L1 hd1 hv1 hq1
      refine AnyTo.ready (rs := [7]) (by kernel_rfl) (by simp) ?_
      refine ReadyTo.cons rfl (fun K hK => ?_) ReadyTo.nil
      rw [if_pos (by rfl)]
      refine wp_appV _ _ rfl Tryd.underlying34 infoValz rfl (by decide) (bx + 1) (.slice ia2 n2 gcI) cs2 (cs2 ++ [vvl hh tv v2 mv2]) (vvl hh tv v2 mv2) bz 1 (n2) HCN.out rfl LT.out.io rfl RT.out rfl (vvl_nine hh hdT.out.t.one hvT.out.one hdT.out.m.one) (by omega) (by decide) (by omega) rfl ?_
      intro g gc W8 ho8 hb8 hf8 hg8 hgl8
      have vb8 := Lib.hid (LT.out.vb.frame (hb8.block _ (by omega)))
      refine hK.out _ _ (S5 _ vb8.out) (fun hS => ?_)
      clear hK K
      have c5 : W8.cell? ⟨bx, 5, none⟩ = some (.slice ia2 n2 gcI) := S5 _ vb8.out
      have f5 : W8.frozen? ⟨bx, 5, none⟩ = false := frozen_of_row W8 bx 5 _ _ vb8.out
      have pu := LT.out.push hdT.out hvT.out PKN.out ho8 hb8 hf8 (by
        rcases hg8 with e | e
        · exact .inl e.symm
        · exact .inr (by rw [← e]; rfl))
      have x9 := (xT.out.keepB hb8 (by omega)).setCell (g := bx) (by omega) 5 (.slice (some ⟨g, 0, none⟩) (n2 + 1) gc)
      refine dtp 8 ?_
      refine AnyTo.ready (rs := [9]) (by kernel_rfl) (by simp) ?_
      refine ReadyTo.last rfl (by kernel_rfl) (fun K hK => ?_) ReadyTo.nil
      go_simp
      refine hK.out _ _ ?_
      clear hK K
      refine AnyTo.done (by kernel_rfl) ?_ _
      obtain ⟨W9, hW9⟩ : ∃ x, W8.setCell ⟨bx, 5, none⟩ (.slice (some ⟨g, 0, none⟩) (n2 + 1) gc) = x := ⟨_, rfl⟩
      rw [hW9] at pu x9 ⊢
      have L9 : Hid (Lst w0.heap.size bx W9 (listR true fr 0 (ms ++ [st2.1])) (.slice (some ⟨g, 0, none⟩) (n2 + 1) gc) (.slice ma2 m2 gcM) (cs2 ++ [vvl hh tv v2 mv2]) ((L.snoc st1.1 .nil).snoc st3.1 st3.2.1)) := Lib.hid (by rw [ehh]; exact pu.1)
      have HCN9 : Hid ((cs2 ++ [vvl hh tv v2 mv2]).length = n2 + 1) := Lib.hid (by rw [List.length_append, List.length_singleton, HCN.out])
      have x9 := Lib.hid x9
      have F9 := Lib.hid (HW.out.trans (((Fr.of (pb := w0.heap.size) BD.out (by omega)).box (bx := bx) (by omega)).trans (FT.out.trans pu.2)))
      clear pu hW9 ho8 hb8 hf8 hg8 hgl8 vb8 c5 f5 xT LT RT hdT hvT FT PKN LD xD BD hS S5 hbz hlT hs1 hbD hbW hpW LW xW HW HCN ehh
      refine NoPanic.normal ?_
      clear c0 c1 c2 c3 c4 k0
      have HR' := HR.out
      unfold stepR at HR'
      rw [hIt] at HR' HSF
      simp only at HR' HSF
      obtain ⟨f, rfl⟩ : ∃ q, f = q + 1 := ⟨f - 1, by omega⟩
      have IS6 := Lib.hid (IS2.out W9 _ 6 (by decide) x9.out)
      unfold ptrP at IS6
      clear hIt CV HR
      cases hb6 : isR 6 st3.2.2 with
      | false =>
        rw [hb6] at IS6
        rw [tailR_no hb6, show shL true = 2 from rfl] at HR'
        clear HSF hb6
        subst HR'
        go_wp2_with fail
        refine IS6.out.mono ?_
        rintro e WW ⟨rfl, hb7⟩
        have hlb := L9.out.vb.lt
        have LW := Lib.hid (L9.out.fr (Fr.of (pb := w0.heap.size) hb7 (by omega)))
        have xW := Lib.hid (x9.out.keep hb7)
        have FB := Lib.hid (F9.out.trans ((Fr.of (pb := w0.heap.size) hb7 (by omega)).box (bx := bx) (by omega)))
        have K0W := Lib.hid (K03.out.frame (FB.out.oth _ hbw (by omega)))
        have FW := Lib.hid (F3.out.transB FB.out (by omega))
        clear hb7
        have MK := Lib.hid (rdmark_any 2 (by decide) xW.out)
        obtain ⟨zt, ezt⟩ : ∃ x, (markR l.length 2 st3.2.2).1 = x := ⟨_, rfl⟩
        rw [ezt] at MK
        obtain ⟨hV, hhV⟩ : ∃ x, listR true fr zt (ms ++ [st2.1]) = x := ⟨_, rfl⟩
        have EZT := Lib.hid ezt
        have HHV := Lib.hid hhV
        unfold ptrP at MK
        go_wp2_with fail
        refine MK.out.mono ?_
        rintro e w5 ⟨rfl, hq5⟩
        have L5 := Lib.hid (LW.out.fr hq5.2)
        have hpW := LW.out.lt
        have hbW := LW.out.vb.lt
        have cc : w5.cell? ⟨bx, 7, none⟩ = some (.int .i64 0) := L5.out.vb.cells.2.2.2.2.2.2.2.1
        have zz : w5.frozen? ⟨bx, 7, none⟩ = false := frozen_of_row _ _ _ _ _ L5.out.vb
        obtain ⟨v6, h6, k6⟩ := L5.out.shut zt
        have K5 := K0W.out.frame (hq5.2.oth _ K0W.out.lt (by omega))
        have K6 := K5.other (c := bx) (by omega) 7 (.int .i64 zt)
        have x6 := hq5.1.setCell (g := bx) (by omega) 7 (.int .i64 zt)
        have F6 := ((FW.out).trans hq5.2).setCell (g := bx) (by omega) (by omega) 7 (.int .i64 zt)
        have hsz : w5.heap.size = (w5.setCell ⟨bx, 7, none⟩ (.int .i64 zt)).heap.size := (World.size_setCell _ _ _).symm
        obtain ⟨W6', hW6⟩ : ∃ x, w5.setCell ⟨bx, 7, none⟩ (.int .i64 zt) = x := ⟨_, rfl⟩
        rw [hW6] at v6 h6 k6 K6 x6 F6 hsz
        have HW6 := Lib.hid hW6
        have v7 : VB W6' bx hV nilV (.slice (some ⟨g, 0, none⟩) (n2 + 1) gc) (.slice ma2 m2 gcM) := by rw [← hhV]; exact v6
        have h7 : HdP (fun b => bx < b ∧ b < w5.heap.size) W6' hV nilV (.slice ma2 m2 gcM) := by rw [← hhV]; exact h6
        have X6 := Lib.hid x6
        have FF6 := Lib.hid F6
        clear hW6 v6 h6 K5 hq5 hhV x6 F6 MK ezt
        go_upto_region 43 with fail
        rw [HW6.out]
        go_wp2_with (first | (refine wpl_ldV rfl _ rfl bx 0 hV nilV (.slice (some ⟨g, 0, none⟩) (n2 + 1) gc) (.slice ma2 m2 gcM) rfl (VB.range v7) ?_) | (refine wpl_stV rfl _ _ rfl w.heap.size zv hV nilV (.slice (some ⟨g, 0, none⟩) (n2 + 1) gc) (.slice ma2 m2 gcM) rfl rfl K6 rfl rfl rfl rfl ?_))
        go_wp2
        refine bodyPost_ret (res_bk Tryd.underlying36 rfl infoV1 rfl _ _ w.heap.size (vvl hV nilV (.slice (some ⟨g, 0, none⟩) (n2 + 1) gc) (.slice ma2 m2 gcM)) rfl (BK.set K6 _) rfl) rfl ?_
        have bS := below_setRowK (Below.refl 0 W6') (Nat.zero_le w.heap.size) (vv hV nilV (.slice (some ⟨g, 0, none⟩) (n2 + 1) gc) (.slice ma2 m2 gcM))
        have ke : ∀ b, (bx < b ∧ b < w5.heap.size) → (W6'.setRow w.heap.size (vv hV nilV (.slice (some ⟨g, 0, none⟩) (n2 + 1) gc) (.slice ma2 m2 gcM))).heap[b]? = W6'.heap[b]? := fun b hb => setRow_other _ _ _ _ (by omega)
        have km : ∀ b, (bx < b ∧ b < w5.heap.size) → Nw w.heap.size (W6'.setRow w.heap.size (vv hV nilV (.slice (some ⟨g, 0, none⟩) (n2 + 1) gc) (.slice ma2 m2 gcM))) b := fun b hb => ⟨by omega, by have := bS.size; omega⟩
        unfold RvQ
        (try dsimp only)
        rw [EZT.out, HHV.out]
        exact ⟨nilV, (.slice (some ⟨g, 0, none⟩) (n2 + 1) gc), (.slice ma2 m2 gcM), rfl, (h7.keep ke).mono km, (k6.keep ke).mono km, X6.out.setRow hlt _, Fr.setRow FF6.out (Nat.le_refl _) (Nat.le_of_lt hlt) _⟩
      | true =>
        rw [hb6] at IS6
        obtain ⟨t6, r6, e6, k6, m6⟩ := markR_yes (n := l.length) (by decide) hb6
        rw [tailR_yes hb6, m6] at HR'
        simp only at HR'
        obtain ⟨sf1, sf2, sf3⟩ := HSF.out _ e6
        have sl := sf1.len
        simp only [List.length_cons] at sl sf2 sf3
        have C6 := Lib.hid (fun (V : World) (h : RdP w0 bv (.slice (some ⟨b, off, none⟩) all.length cap) l all V st3.2.2) => rdmark_any 6 (by decide) h)
        rw [m6] at C6
        simp only at C6
        unfold ptrP at C6
        have HR6 := Lib.hid HR'
        have hLn2 := hLn.out
        have hcm2 := HCM.out
        obtain ⟨gi, hgi⟩ : ∃ x, (t6.2.1 : Int) = x := ⟨_, rfl⟩
        rw [hgi] at C6 HR6
        clear HR' HSF hb6 e6 k6 m6 hgi
        go_wp2_with fail
        refine IS6.out.mono ?_
        rintro e WW ⟨rfl, hb7⟩
        have hlb := L9.out.vb.lt
        have LW := Lib.hid (L9.out.fr (Fr.of (pb := w0.heap.size) hb7 (by omega)))
        have xW := Lib.hid (x9.out.keep hb7)
        have HW := Lib.hid (F9.out.trans ((Fr.of (pb := w0.heap.size) hb7 (by omega)).box (bx := bx) (by omega)))
        obtain ⟨cs3, hcs3⟩ : ∃ x, cs2 ++ [vvl hh tv v2 mv2] = x := ⟨_, rfl⟩
        rw [hcs3] at LW
        obtain ⟨ia3, hia3⟩ : ∃ x, some (⟨g, 0, none⟩ : Addr) = x := ⟨_, rfl⟩
        rw [hia3] at LW
        obtain ⟨gc3, hgc3⟩ : ∃ x, gc = x := ⟨_, rfl⟩
        rw [hgc3] at LW
        clear hb7 L9 x9 F9 IS6 hcs3 hia3 hgc3
        go_upto_region 44 with fail
        refine wp_region_noPanic ?_
        have S8 : ∀ V : World, VB V bx (listR true fr 0 (ms ++ [st2.1])) nilV (.slice ia3 (n2 + 1) gc3) (.slice ma2 m2 gcM) → V.cell? ⟨bx, 8, none⟩ = some (.slice ma2 m2 gcM) := fun V hv => hv.cells.2.2.2.2.2.2.2.2
        have hbW := LW.out.vb.lt
        have hpW := LW.out.lt
        have LD := Lib.hid (LW.out.fr (Fr.of ((Below.refl _ _).drew) (by omega)))
        have xD := Lib.hid (xW.out.keep ((Below.refl _ _).drew))
        have BD := Lib.hid ((Below.refl WW.heap.size WW).drew)
        refine wp_region_to 7 (S := fun V => V.cell? ⟨bx, 8, none⟩ = some (.slice ma2 m2 gcM)) (by kernel_rfl) (S8 _ LD.out.vb) (fun hS => ?_)
        obtain ⟨WD, hWD⟩ : ∃ x, WW.drew = x := ⟨_, rfl⟩
        rw [hWD] at LD xD BD hS ⊢
        clear hWD
        refine dtp 0 ?_
        refine dtk 1 ?_
        refine dtp 2 ?_
        refine AnyTo.ready (rs := [3]) (by kernel_rfl) (by simp) ?_
        refine ReadyTo.cons rfl (fun K hK => ?_) ReadyTo.nil
        go_simp
        refine (C6.out WD xD.out).mono ?_
        rintro e w1 ⟨rfl, hq1⟩
        refine hK.out _ _ (S8 _ (LD.out.fr hq1.2).vb) (fun hS => ?_)
        clear hK K
        have L1 := LD.out.fr hq1.2
        have hbD := LD.out.vb.lt
        have hs1 := hq1.2.lo.size
        obtain ⟨zz, ezz⟩ : ∃ x, gi = x := ⟨_, rfl⟩
        rw [ezz]
        refine AnyTo.ready (rs := [4]) (by kernel_rfl) (by simp) ?_
        refine ReadyTo.cons rfl (fun K hK => ?_) ReadyTo.nil
        go_simp
        have al := (Below.refl w1.heap.size w1).alloc (Nat.le_refl _) (.cells #[.int .i64 zz] 3)
        have xT := Lib.hid (hq1.1.keep al)
        have LT := Lib.hid (L1.fr (Fr.of al (by omega)))
        have RT : Hid ((w1.alloc (.cells #[.int .i64 zz] 3)).rangeAt w1.heap.size 0 [.int .i64 zz]) := Lib.hid (BK.range (BK.new 3 w1 #[.int .i64 zz]) 0 _ (fun j u hu => by rw [Nat.zero_add]; simpa using hu))
        have FT := Lib.hid ((hq1.2.box (bx := bx) (by omega)).trans ((Fr.of (pb := w0.heap.size) al (by omega)).box (bx := bx) (by omega)))
        refine hK.out _ _ (S8 _ LT.out.vb) (fun hS => ?_)
        clear hK K
        obtain ⟨bz, hbz⟩ : ∃ x, w1.heap.size = x := ⟨_, rfl⟩
        obtain ⟨WT, hWT⟩ : ∃ x, w1.alloc (.cells #[.int .i64 zz] 3) = x := ⟨_, rfl⟩
        rw [hWT] at xT LT RT FT hS ⊢
        rw [hbz] at RT ⊢
        have hlT := LT.out.vb.lt
        clear hWT hbz al L1 hq1
        refine AnyTo.ready (rs := [5]) (by kernel_rfl) (by simp) ?_
        refine ReadyTo.cons rfl (fun K hK => ?_) ReadyTo.nil
        rw [if_pos (by rfl)]
        refine wp_appV _ _ rfl Tryd.underlying31 infoI rfl (by decide) (bx + 1) (.slice ma2 m2 gcM) (icl (ms ++ [st2.1])) (icl ((ms ++ [st2.1]) ++ [zz])) [.int .i64 zz] bz 1 (m2) (by simp only [icl, List.length_map]; exact HCM.out) rfl LT.out.mo rfl RT.out rfl (fun c hc => by simp only [List.mem_cons, List.mem_nil_iff, or_false] at hc; subst hc; rfl) (by omega) (by decide) (by omega) (by simp [icl]) ?_
        intro g gc W8 ho8 hb8 hf8 hg8 hgl8
        have vb8 := Lib.hid (LT.out.vb.frame (hb8.block bx (by omega)))
        refine hK.out _ _ (S8 _ vb8.out) (fun hS => ?_)
        clear hK K
        have mk := LT.out.mark ho8 hb8 hf8 (by
          rcases hg8 with e | e
          · exact .inl e.symm
          · exact .inr (by rw [← e]; rfl))
        have c8 : W8.cell? ⟨bx, 8, none⟩ = some (.slice ma2 m2 gcM) := S8 _ vb8.out
        have f8 : W8.frozen? ⟨bx, 8, none⟩ = false := frozen_of_row W8 bx 8 _ _ vb8.out
        have x9 := (xT.out.keepB hb8 (by omega)).setCell (g := bx) (by omega) 8 (.slice (some ⟨g, 0, none⟩) (m2 + 1) gc)
        refine dtp 6 ?_
        refine AnyTo.ready (rs := [7]) (by kernel_rfl) (by simp) ?_
        refine ReadyTo.last rfl (by kernel_rfl) (fun K hK => ?_) ReadyTo.nil
        go_simp
        refine hK.out _ _ ?_
        clear hK K
        refine AnyTo.done (by kernel_rfl) ?_ _
        obtain ⟨W9, hW9⟩ : ∃ x, W8.setCell ⟨bx, 8, none⟩ (.slice (some ⟨g, 0, none⟩) (m2 + 1) gc) = x := ⟨_, rfl⟩
        rw [hW9] at mk x9 ⊢
        have L9 : Hid (Lst w0.heap.size bx W9 (listR true fr 0 ((ms ++ [st2.1]) ++ [gi])) (.slice ia3 (n2 + 1) gc3) (.slice (some ⟨g, 0, none⟩) (m2 + 1) gc) cs3 ((L.snoc st1.1 .nil).snoc st3.1 st3.2.1)) := Lib.hid (by rw [ezz]; exact mk.1)
        have HCM9 : Hid (((ms ++ [st2.1]) ++ [gi]).length = m2 + 1) := Lib.hid (by rw [List.length_append, List.length_singleton, HCM.out])
        have x9 := Lib.hid x9
        have F9 := Lib.hid (HW.out.trans (((Fr.of (pb := w0.heap.size) BD.out (by omega)).box (bx := bx) (by omega)).trans (FT.out.trans mk.2)))
        clear mk hW9 ho8 hb8 hf8 hg8 hgl8 vb8 c8 f8 xT LT RT FT LD xD BD hS S8 hlT hs1 hbD hbW hpW LW xW HW HCM ezz
        refine NoPanic.normal ?_
        have lenL : L.len = n := hLn2
        have inv : Hid (RInv w0 bv (.slice (some ⟨b, off, none⟩) all.length cap) l all true d fr r.length RR bx W3 r6.length W9) := Lib.hid (RInv.of (by omega) (by omega) HR6.out x9.out L9.out F9.out (by (try simp only [snoc_len] at sf2); (try simp only [snoc_len]); omega) (by rw [HCM9.out]; (try simp only [List.length_append, List.length_cons, List.length_nil] at sf3); (try simp only [List.length_append, List.length_cons, List.length_nil] at hcm2); omega))
        clear L9 x9 F9
        go_wp2
        go_roundg r6.length
        case rel => exact inv.out
        case measure => omega
end Go.Proofs.YtlobinjdgcidmaaDoor
