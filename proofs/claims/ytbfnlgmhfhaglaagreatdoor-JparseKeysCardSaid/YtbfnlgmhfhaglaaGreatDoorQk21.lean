/- Texts of ours in one: ZRec ZTxt ZNum. -/
import Derived.Test.YtbfnlgmhfhaglaaGreatDoorQk17
import Derived.Test.YtbfnlgmhfhaglaaGreatDoorQk20
import Derived.Tactics
import Derived.Tactics2
import Derived.Defers
import Derived.Recover
import Derived.Laws.Pointers
import Derived.Test.YtbfnlgmhfhaglaaGreatDoorQk13
/- jparse.Parse's deferred closure: what it does to a frame that panics with a stop, and to one that returns. -/
namespace Go.Proofs.YtbfnlgmhfhaglaaGreatDoor
open Go.RowKit
set_option linter.unusedVariables false
set_option linter.unusedSimpArgs false

theorem ta_nil (xT : TypeId) (w : World) : (Instr.typeAssert .nilIface xT 57 true).run Tryz.prog w = .ok (.tuple #[.agg #[.int .i64 0, .int .i64 0], .bool false]) w := by kernel_rfl
theorem ta_stop (v : Value) (xT : TypeId) (w : World) : (Instr.typeAssert (.iface 57 v) xT 57 true).run Tryz.prog w = .ok (.tuple #[v, .bool true]) w := by kernel_rfl
set_option maxRecDepth 100000 in
set_option maxHeartbeats 2000000 in
theorem catch_idle (p q : Addr) (w : World) :
    CallsD Tryz.prog 25 #[.pointer (some p), .pointer (some q)] .returning w fun e u' w' => e = .returned (.tuple #[]) ∧ u' = .returning ∧ Below w.heap.size w w' := by
  have h1 := ta_nil
  refine callsD_of_wpS Tryz.func25 rfl fun c₀ cs hu => ?_
  apply wpS_seq
  apply wpS_region
  simp [wpOpsS, go_sem, recoverD, hu, Tryz.ntmps25, Exit.thenS, h1]
  apply wpS_seq
  apply wpS_region
  simp [wpOpsS, go_sem, Exit.thenS, Array.replicate]
  refine wpS_cond (t := false) (by simp [Act.eval]) ?_
  simp only [Bool.false_eq_true, if_false]
  refine wpS_of_wp (wp_skip ?_)
  cases c₀
  simp_all [bodyPostS, results, Tryz.results25]
  exact (Below.refl _ _).alloc (Nat.le_refl _) _
theorem infoF1 : (Tryz.prog.info? 34).map (·.size) = some 2 := by kernel_rfl
structure Fr2 (p q : Nat) (w w' : World) : Prop where
  lo : Below 0 w w'
  oth : ∀ j, j < w.heap.size → j ≠ p → j ≠ q → w'.heap[j]? = w.heap[j]?
def zvl : List Value := vvl ⟨0, [], false, [], [], 0, 0, []⟩ nilV nilV nilV
set_option maxRecDepth 100000 in
set_option maxHeartbeats 2000000 in
theorem catch_stop (bp bq : Nat) (er at' : Int) (oldp oldq : Array Value) (older : List PanicEntry) (w : World) (hp : BK 27 w bp oldp) (hq : BK 34 w bq oldq) (hne : bp ≠ bq) (np : oldp.size = 9) (nq : oldq.size = 2) :
    CallsD Tryz.prog 25 #[.pointer (some ⟨bp, 0, none⟩), .pointer (some ⟨bq, 0, none⟩)] (.panicking ({ v := .iface 57 (.agg #[.int .i64 er, .int .i64 at']), recovered := false } :: older)) w fun e u' w' =>
      e = .returned (.tuple #[]) ∧ u' = .panicking ({ v := .iface 57 (.agg #[.int .i64 er, .int .i64 at']), recovered := true } :: older) ∧ BK 27 w' bp zvl.toArray ∧ BK 34 w' bq #[.int .i64 er, .int .i64 at'] ∧ Fr2 bp bq w w' := by
  have h1 := ta_stop
  have l1 := hp.lt
  have l2 := hq.lt
  refine callsD_of_wpS Tryz.func25 rfl fun c₀ cs hu => ?_
  apply wpS_seq
  apply wpS_region
  simp [wpOpsS, go_sem, recoverD, hu, Tryz.ntmps25, Exit.thenS, h1]
  apply wpS_seq
  apply wpS_region
  simp [wpOpsS, go_sem, Exit.thenS, Array.replicate]
  refine wpS_cond (t := true) (by simp [Act.eval]) ?_
  simp only [if_true]
  refine wpS_of_wp ?_
  have bN : Below w.heap.size w (w.alloc (.cells #[.int .i64 er, .int .i64 at'] 57)).drew := ((Below.refl w.heap.size w).alloc (Nat.le_refl _) _).drew
  have K2 : BK 57 (w.alloc (.cells #[.int .i64 er, .int .i64 at'] 57)).drew w.heap.size #[.int .i64 er, .int .i64 at'] := (BK.new 57 w #[.int .i64 er, .int .i64 at']).keep ((Below.refl _ _).drew)
  have hp2 := hp.keep bN
  have hq2 := hq.keep bN
  refine wp_region_to 4 (S := fun V => V.cell? ⟨w.heap.size, 0, none⟩ = some (.int .i64 er) ∧ V.cell? ⟨w.heap.size, 1, none⟩ = some (.int .i64 at')) (by kernel_rfl) ⟨K2.cell 0, K2.cell 1⟩ (fun hS => ?_)
  obtain ⟨W1, hW1⟩ : ∃ x, (w.alloc (.cells #[.int .i64 er, .int .i64 at'] 57)).drew = x := ⟨_, rfl⟩
  rw [hW1] at bN K2 hp2 hq2 hS ⊢
  clear hW1
  refine dtp 0 ?_
  refine dtp 1 ?_
  refine dtk 2 ?_
  refine AnyTo.ready (rs := [3]) (by kernel_rfl) (by simp) ?_
  refine ReadyTo.cons rfl (fun K hK => ?_) ReadyTo.nil
  rw [if_pos (by rfl)]
  refine wp_store_row 27 _ _ rfl bp zvl.toArray rfl rfl 27 oldp hp2 infoV1 (by rw [np]; rfl) (vv_one ⟨0, [], false, [], [], 0, 0, []⟩ rfl rfl rfl) ?_
  have K3 := K2.frame (setRow_other W1 bp w.heap.size zvl.toArray (by omega))
  have hp3 := hp2.set zvl.toArray
  have hq3 := hq2.frame (setRow_other W1 bp bq zvl.toArray (by omega))
  refine hK.out _ _ (⟨K3.cell 0, K3.cell 1⟩) (fun hS => ?_)
  clear hK K
  refine AnyTo.ready (rs := [4]) (by kernel_rfl) (by simp) ?_
  refine ReadyTo.last rfl (by kernel_rfl) (fun K hK => ?_) ReadyTo.nil
  rw [if_pos (by rfl)]
  refine wp_store_row 34 _ _ rfl bq #[.int .i64 er, .int .i64 at'] rfl rfl 34 oldq hq3 infoF1 (by rw [nq]; rfl) (by simp [Value.oneCell']) ?_
  refine hK.out _ _ ?_
  clear hK K
  refine AnyTo.done (by kernel_rfl) ?_ _
  have hp4 := hp3.frame (setRow_other (W1.setRow bp zvl.toArray) bq bp #[.int .i64 er, .int .i64 at'] (by omega))
  have hq4 := hq3.set #[.int .i64 er, .int .i64 at']
  have fr : Fr2 bp bq w ((W1.setRow bp zvl.toArray).setRow bq #[.int .i64 er, .int .i64 at']) := ⟨below_setRowK (below_setRowK (bN.mono (Nat.zero_le _)) (Nat.zero_le _) _) (Nat.zero_le _) _, fun j hj h1 h2 => by rw [setRow_other _ _ _ _ (by omega), setRow_other _ _ _ _ (by omega)]; exact bN.block j hj⟩
  obtain ⟨W4, hW4⟩ : ∃ x, (W1.setRow bp zvl.toArray).setRow bq #[.int .i64 er, .int .i64 at'] = x := ⟨_, rfl⟩
  rw [hW4] at hp4 hq4 fr ⊢
  simp [bodyPostS, results, Tryz.results25, Act.put]
  exact ⟨hp4, hq4, fr⟩
end Go.Proofs.YtbfnlgmhfhaglaaGreatDoor
/- jparse: text and number. -/
namespace Go.Proofs.YtbfnlgmhfhaglaaGreatDoor
open Go.RowKit
set_option linter.unusedVariables false
set_option linter.unusedSimpArgs false

def Nw (B : Nat) (w : World) (b : Nat) : Prop := B ≤ b ∧ b < w.heap.size
theorem ownI_isP {B : Nat} {w : World} {v : Value} {l : List Int} (h : OwnI B w v l) : IsP (Nw B w) w v l := by
  have hn := OwnI.nn h
  have hlt := World.ownsRow.lt h
  have hh := h
  obtain ⟨a, cap, rfl, h1, h2, h3⟩ := OwnI.is h
  refine ⟨a, cap, rfl, h1, h2, fun e => by subst e; exact hn _ _ rfl, fun h0 => ?_⟩
  obtain ⟨b, off, rfl, hb, hc⟩ := h3 h0
  refine ⟨b, off, rfl, ⟨?_, hb⟩, hc⟩
  obtain ⟨_, ⟨e, _⟩ | ⟨g, c, cur, e, _⟩⟩ := hh
  · simp at e
  · simp only [Value.slice.injEq, Option.some.injEq, Addr.mk.injEq] at e
    rw [e.1.1]
    exact (hlt g (by rw [e.1.1, e.1.2.1]; rfl)).1
def ValQ (w0 : World) (bv : Value) (D : Int) (l : List UInt8) (R : PRes) (w : World) (e : Ending) (w' : World) : Prop := match R with
  | .ok (h, kids, r) => ∃ tv v mv tw', e = .returned (.agg (vv h tv v mv)) ∧ HdP (Nw w.heap.size w') w' h tv mv ∧ VoP (Nw w.heap.size w') w' v kids ∧ PsW w0 bv D l w' tw' r ∧ Fr w0.heap.size w w'
  | .error x => Pan e x ∧ Below w0.heap.size w w'
theorem PsW.setOther {w0 w : World} {bv tw : Value} {D : Int} {l : List UInt8} {ts : M.Toks} (x : PsW w0 bv D l w tw ts) {g : Nat} (hg : w0.heap.size < g) (j : Nat) (u : Value) : PsW w0 bv D l (w.setCell ⟨g, j, none⟩ u) tw ts :=
  ⟨x.blk.other (by omega) j u, x.lo.setCell (p := ⟨g, j, none⟩) (Nat.le_of_lt hg) u, x.bs, x.tk, x.tb, x.ll⟩
theorem Fr.setCell {pb : Nat} {w w' : World} (h : Fr pb w w') {g : Nat} (hg : w.heap.size ≤ g) (hp : pb ≤ g) (j : Nat) (u : Value) : Fr pb w (w'.setCell ⟨g, j, none⟩ u) :=
  ⟨h.lo.setCell (p := ⟨g, j, none⟩) hp u, fun i hi hn => by rw [heap_setCell_other _ _ _ _ (by show i ≠ g; omega)]; exact h.oth i hi hn⟩
theorem info3 : (Tryz.prog.info? 24).map (·.size) = some 3 := by kernel_rfl
set_option maxRecDepth 100000 in
set_option maxHeartbeats 4000000 in
theorem jptext_any {w0 w : World} {bv tw : Value} {D : Int} {l : List UInt8} {fr te : Nat} {r : M.Toks} (x : PsW w0 bv D l w tw ((7, fr, te) :: r)) (hX : TabX w0) (ht : fr < te ∧ te ≤ l.length) (hl : l.length ≤ 20000) :
    Calls Tryz.prog 45 #[ptrP w0] w (ValQ w0 bv D l (.ok (textV l (7, fr, te), .nil, r)) w) := by
  have hlt := x.lt
  obtain ⟨b, off, cap, rfl, h1, h2, hb, d0, d1, d2, h3⟩ := x.first
  have b0 := Lib.hid ((Below.refl w.heap.size w).alloc (Nat.le_refl _) (.cells zv 27))
  have K0 := Lib.hid (BK.new 27 w zv)
  obtain ⟨W1, hW1⟩ : ∃ x, w.alloc (.cells zv 27) = x := ⟨_, rfl⟩
  rw [hW1] at b0 K0
  have HW1 := Lib.hid (show w.alloc (.cells #[.int .i64 0, .slice none 0 0, .bool false, .string ⟨#[]⟩, .string ⟨#[]⟩, .slice none 0 0, .int .i64 0, .int .i64 0, .slice none 0 0] 27) = W1 from hW1)
  have x1 := x.keep b0.out
  obtain ⟨b', off', cap', e', h1', h2', hb', d0', d1', d2', h3'⟩ := x1.first
  simp only [Value.slice.injEq, Option.some.injEq, Addr.mk.injEq, and_true, true_and] at e'
  obtain ⟨⟨rfl, rfl⟩, rfl⟩ := e'
  obtain ⟨c0, c1, c2⟩ := x1.cells
  have d0'' : W1.cell? ⟨b, off, none⟩ = some (.int .i64 7) := d0'
  have q2 : (0 : Int) < (r.length : Int) + 1 := by omega
  have b1 := Lib.hid ((Below.refl W1.heap.size W1).alloc (Nat.le_refl _) (.cells #[.int .i64 7, .int .i64 (fr : Int), .int .i64 (te : Int)] 51))
  have K1 := Lib.hid (BK.new 51 W1 #[.int .i64 7, .int .i64 (fr : Int), .int .i64 (te : Int)])
  obtain ⟨W2, hW2⟩ : ∃ x, W1.alloc (.cells #[.int .i64 7, .int .i64 (fr : Int), .int .i64 (te : Int)] 51) = x := ⟨_, rfl⟩
  rw [hW2] at b1 K1
  have HW2 := Lib.hid hW2
  have x2 := x1.keep b1.out
  have SA0 := single_any 3 7 (by decide) x2
  have hR : takeP l.length 7 ((7, fr, te) :: r) = .ok ((7, fr, te), r) := by simp [takeP]
  unfold SingQ at SA0
  rw [hR] at SA0
  dsimp only at SA0
  unfold ValQ
  dsimp only
  unfold ptrP at SA0 ⊢
  have SA : Hid (Calls Tryz.prog 47 #[.pointer (some ⟨w0.heap.size, 0, none⟩), .int .i64 3, .int .i64 7] W2 fun e w' => (∃ tw, PsW w0 bv D l w' tw r) ∧ e = .returned (.agg #[.int .i64 3, .slice none 0 0, .bool false, .string (bytes []), .string (bytes []), .slice none 0 0, .int .i64 (fr : Int), .int .i64 0, .slice none 0 0]) ∧ Fr w0.heap.size W2 w') := Lib.hid SA0
  have X2 := Lib.hid x2
  have hl1 := K0.out.lt
  have hl2 := K1.out.lt
  have hs1 := b0.out.size
  have hs2 := b1.out.size
  clear hW1 hW2 x1 h3 h3' d0 d1 d2 d0' hR h1' h2' hb' SA0 x2 x
  go_enter Tryz.func45, Tryz.ntmps45
  go_upto_region 1 with fail
  rw [HW1.out]
  go_upto_region 2 with fail
  rw [HW2.out]
  go_wp2_with fail
  refine SA.out.mono ?_
  rintro e w3 ⟨⟨tw3, x3⟩, rfl, f3⟩
  have K03 := Lib.hid (K0.out.frame ((f3.oth _ (by omega) (by omega)).trans (b1.out.block _ (by omega))))
  have K13 := Lib.hid (K1.out.frame (f3.oth _ hl2 (by omega)))
  have hs3 := f3.lo.size
  have b3 := Lib.hid ((Below.refl w3.heap.size w3).alloc (Nat.le_refl _) (.cells #[.int .i64 3, .slice none 0 0, .bool false, .string (bytes []), .string (bytes []), .slice none 0 0, .int .i64 (fr : Int), .int .i64 0, .slice none 0 0] 27))
  have K3 := Lib.hid (BK.new 27 w3 #[.int .i64 3, .slice none 0 0, .bool false, .string (bytes []), .string (bytes []), .slice none 0 0, .int .i64 (fr : Int), .int .i64 0, .slice none 0 0])
  obtain ⟨W3, hW3⟩ : ∃ x, w3.alloc (.cells #[.int .i64 3, .slice none 0 0, .bool false, .string (bytes []), .string (bytes []), .slice none 0 0, .int .i64 (fr : Int), .int .i64 0, .slice none 0 0] 27) = x := ⟨_, rfl⟩
  rw [hW3] at b3 K3
  have HW3 := Lib.hid hW3
  clear hW3
  go_upto_region 3 with fail
  rw [HW3.out]
  obtain ⟨ba, bcap, hbv, g1, g2, g3⟩ := x3.bs
  obtain ⟨bb, boff, rfl, hbb, hbc⟩ := g3 (by omega)
  obtain ⟨n, hn⟩ : ∃ n, l.length = n := ⟨_, rfl⟩
  rw [hn] at hbv g1
  subst hbv
  have hx3bs : Bs w0 (.slice (some ⟨bb, boff, none⟩) n bcap) l := x3.bs
  have hpt := bs_part hx3bs fr te (by omega) (by omega)
  have ttb : (l.drop fr).take (te - fr) = tokB l (7, fr, te) := rfl
  rw [ttb] at hpt
  have tbl : (tokB l (7, fr, te)).length ≤ 20000 := by unfold tokB; simp only [List.length_take, List.length_drop]; omega
  have BD := Lib.hid (x3.lo.trans (((b3.out.trans ((Below.refl W3.heap.size W3).drew.mono b3.out.size))).mono (by have := x3.lo.size; omega)))
  have D3 := Lib.hid ((Below.refl W3.heap.size W3).drew)
  refine wp_region_noPanic ?_
  have KD := Lib.hid ((K3.out.keep (D3.out)))
  have KD0 := Lib.hid ((K03.out.keep b3.out).keep D3.out)
  have KD1 := Lib.hid ((K13.out.keep b3.out).keep D3.out)
  have xD := Lib.hid ((x3.keep b3.out).keep D3.out)
  have UA0 := unitsz_any _ _ W3.drew (hX.keep BD.out) (hpt.keep BD.out) (by omega)
  have UA : Hid (Calls Tryz.prog 67 #[.slice (some ⟨bb, boff + fr, none⟩) (te - fr) (bcap - fr)] W3.drew fun e w' => ∃ tv b, e = .returned (.tuple #[tv, .bool b]) ∧ IsP (Nw W3.drew.heap.size w') w' tv (txtL l (7, fr, te)) ∧ Below W3.drew.heap.size W3.drew w') := by
    refine Lib.hid (UA0.mono ?_)
    intro e w' h
    unfold txtL
    cases hu : unitsV (tokB l (7, fr, te)) with
    | none => rw [hu] at h; exact ⟨_, _, h.1, isP_nil _ _, h.2⟩
    | some us => rw [hu] at h; obtain ⟨v', h1, h2, h3⟩ := h; exact ⟨_, _, h1, ownI_isP h2, h3⟩
  clear UA0
  have SS : ∀ V : World, PsW w0 (.slice (some ⟨bb, boff, none⟩) n bcap) D l V tw3 r → BK 51 V W1.heap.size #[.int .i64 7, .int .i64 (fr : Int), .int .i64 (te : Int)] → (V.cell? ⟨w0.heap.size, 0, none⟩ = some (.slice (some ⟨bb, boff, none⟩) n bcap) ∧ V.cell? ⟨W1.heap.size, 1, none⟩ = some (.int .i64 (fr : Int)) ∧ V.cell? ⟨W1.heap.size, 2, none⟩ = some (.int .i64 (te : Int))) := fun V h k => ⟨h.cells.1, k.cell 1, k.cell 2⟩
  refine wp_region_to 14 (S := fun V => (V.cell? ⟨w0.heap.size, 0, none⟩ = some (.slice (some ⟨bb, boff, none⟩) n bcap) ∧ V.cell? ⟨W1.heap.size, 1, none⟩ = some (.int .i64 (fr : Int)) ∧ V.cell? ⟨W1.heap.size, 2, none⟩ = some (.int .i64 (te : Int)))) (by kernel_rfl) (SS _ xD.out KD1.out) (fun hS => ?_)
  have i1 : (fr : Int) ≤ te := by omega
  have i2 : (te : Int) ≤ n := by omega
  have i3 : (n : Int) ≤ bcap := by omega
  have i4 : ¬ bcap - fr = 0 := by omega
  have i5 : (te : Int) ≤ bcap := by omega
  obtain ⟨WD, hWD⟩ : ∃ x, W3.drew = x := ⟨_, rfl⟩
  rw [hWD] at UA KD KD0 KD1 xD hS BD D3 ⊢
  clear hWD
  refine dtp 0 ?_
  refine dtp 1 ?_
  refine dtp 2 ?_
  refine dtk 3 ?_
  refine dtp 4 ?_
  refine dtk 5 ?_
  refine dtp 6 ?_
  refine dtk 7 ?_
  refine dtp (v := .slice (some ⟨bb, boff + fr, none⟩) (te - fr) (bcap - fr)) 8 (hy := Or.inl ⟨by rfl, by intro V hSV; go_simp; omega⟩) ?_
  refine AnyTo.ready (rs := [9]) (by kernel_rfl) (by simp) ?_
  refine ReadyTo.cons rfl (fun K hK => ?_) ReadyTo.nil
  go_simp
  refine UA.out.mono ?_
  rintro e w4 ⟨tv, ub, rfl, ip, hb4⟩
  refine hK.out _ _ (SS _ (xD.out.keep hb4) (KD1.out.keep hb4)) (fun hS => ?_)
  clear hK K
  have K4 := Lib.hid (KD.out.keep hb4)
  have K04 := Lib.hid (KD0.out.keep hb4)
  have x4 := Lib.hid (xD.out.keep hb4)
  refine dtp 10 ?_
  refine dtp 11 ?_
  refine dtp 12 ?_
  refine dtp 13 ?_
  obtain ⟨ta, tcap, htv⟩ := ip.slice
  have cc : w4.cell? ⟨w3.heap.size, 1, none⟩ = some (.slice none 0 0) := K4.out.cell 1
  have zz : w4.frozen? ⟨w3.heap.size, 1, none⟩ = false := frozen_of_row _ _ _ _ _ K4.out
  refine AnyTo.ready (rs := [14]) (by kernel_rfl) (by simp) ?_
  refine ReadyTo.last rfl (by kernel_rfl) (fun K hK => ?_) ReadyTo.nil
  go_simp
  refine hK.out _ _ ?_
  clear hK K
  refine AnyTo.done (by kernel_rfl) ?_ _
  refine NoPanic.normal ?_
  have K5 : VB (w4.setCell ⟨w3.heap.size, 1, none⟩ tv) w3.heap.size (textV l (7, fr, te)) tv nilV nilV := K4.out.setCell 1 tv
  have K05 := K04.out.other (c := w3.heap.size) (by omega) 1 tv
  have x5 := x4.out.setOther (g := w3.heap.size) (by omega) 1 tv
  have F1 := ((Fr.of b0.out (Nat.le_of_lt hlt)).trans (Fr.of b1.out (by omega))).trans f3
  have F2 := (F1.trans (Fr.of b3.out (by omega))).trans (Fr.of D3.out (by have := b3.out.size; omega))
  have F4 := F2.trans (Fr.of hb4 (by have := b3.out.size; have := D3.out.size; omega))
  have F5 := F4.setCell (g := w3.heap.size) (by omega) (by omega) 1 tv
  have hz4 := hb4.size
  have hz3 := b3.out.size
  have hzD := D3.out.size
  have hzw : w3.heap.size < WD.heap.size := KD.out.lt
  have t1 := ip.one
  obtain ⟨W5, hW5⟩ : ∃ x, w4.setCell ⟨w3.heap.size, 1, none⟩ tv = x := ⟨_, rfl⟩
  have ip5 : IsP (Nw WD.heap.size W5) W5 tv (txtL l (7, fr, te)) := by
    rw [← hW5]
    refine (ip.keep (w' := w4.setCell ⟨w3.heap.size, 1, none⟩ tv) (fun b hb => heap_setCell_other _ _ _ _ (by show b ≠ w3.heap.size; have := hb.1; omega))).mono (fun b hb => ⟨hb.1, by rw [World.size_setCell]; exact hb.2⟩)
  have hs5 : W5.heap.size = w4.heap.size := by rw [← hW5, World.size_setCell]
  rw [hW5] at K5 K05 x5 F5
  have HS5 := Lib.hid hW5
  have VV := Lib.hid K5
  have VK := Lib.hid K05
  rw [htv] at HS5
  clear hW5 htv ip hb4 K5 K05 cc zz hS
  rw [HS5.out]
  have hVx : vv (textV l (7, fr, te)) tv nilV nilV = #[.int .i64 3, tv, .bool false, .string (bytes []), .string (bytes []), .slice none 0 0, .int .i64 (fr : Int), .int .i64 0, .slice none 0 0] := rfl
  go_wp2_with (first | (refine wpl_ldV rfl _ rfl w3.heap.size 0 (textV l (7, fr, te)) tv nilV nilV rfl (VB.range VV.out) ?_) | (refine wpl_stV rfl _ _ rfl w.heap.size zv (textV l (7, fr, te)) tv nilV nilV rfl rfl VK.out rfl t1 rfl rfl ?_))
  go_wp2
  refine bodyPost_ret (res_bk Tryz.underlying27 rfl infoV1 rfl _ _ w.heap.size (vvl (textV l (7, fr, te)) tv nilV nilV) rfl (BK.set VK.out _) rfl) rfl ⟨tv, nilV, nilV, tw3, rfl, ⟨by simp [textV], by simp [textV], ?_, isP_nil _ _⟩, voP_nil _ _, x5.setRow hlt _, F5.setRow (Nat.le_refl _) (Nat.le_of_lt hlt) _⟩
  exact (ip5.keep (fun b hb => setRow_other _ _ _ _ (by have := hb.1; omega))).mono (fun b hb => ⟨by have := hb.1; omega, Nat.lt_of_lt_of_le hb.2 (below_setRowK (Below.refl 0 W5) (Nat.zero_le _) _).size⟩)
end Go.Proofs.YtbfnlgmhfhaglaaGreatDoor
/- jparse: number. -/
namespace Go.Proofs.YtbfnlgmhfhaglaaGreatDoor
open Go.RowKit
set_option linter.unusedVariables false
set_option linter.unusedSimpArgs false

theorem readN_len (l : List UInt8) (hl : l.length ≤ 90000) : (M.readN l).1.2.1.length ≤ maxLen ∧ (M.readN l).1.2.2.length ≤ maxLen := by
  unfold M.readN
  cases h : (M.divW l).2 with
  | false => simp
  | true =>
    rw [if_pos rfl]
    have hp : M.divW l = ((M.divW l).1, true) := by rw [← h]
    have k := divW_dig l _ hp
    obtain ⟨p, hpp⟩ : ∃ p, (M.divW l).1 = p := ⟨_, rfl⟩
    rw [hpp] at k ⊢
    simp only
    unfold M.norm
    by_cases h0 : M.rstrip (M.strip (p.2.1 ++ p.2.2.1)) = []
    · rw [if_pos h0]; simp
    · rw [if_neg h0]
      have a1 := M.rstrip_len (M.strip (p.2.1 ++ p.2.2.1))
      have a2 := M.strip_len2 (p.2.1 ++ p.2.2.1)
      have a3 := k.2.2.1
      have a4 := M.dval_lt _ k.2.1
      have a5 := k.2.2.2
      refine ⟨by show (M.rstrip (M.strip (p.2.1 ++ p.2.2.1))).length ≤ _; unfold maxLen; omega, ?_⟩
      have a6 : p.2.2.1.length ≤ l.length := by rw [List.length_append] at a3; omega
      have hz : ((M.expV p - p.2.2.1.length) + ((M.strip (p.2.1 ++ p.2.2.1)).length - (M.rstrip (M.strip (p.2.1 ++ p.2.2.1))).length - (0 : Int))).natAbs < 10 ^ (l.length + 6) := by
        have e1 : (M.expV p).natAbs = M.dval p.2.2.2.2.2 := by unfold M.expV; split <;> omega
        have e2 : (10 : Nat) ^ p.2.2.2.2.2.length ≤ 10 ^ l.length := Nat.pow_le_pow_right (by decide) (by omega)
        have e3 : (10 : Nat) ^ (l.length + 6) = 10 ^ l.length * 1000000 := by rw [Nat.pow_add]
        have e4 : 1 ≤ (10 : Nat) ^ l.length := Nat.pos_of_ne_zero (by simp)
        rw [e3]
        generalize (10 : Nat) ^ l.length = T at *
        generalize (10 : Nat) ^ p.2.2.2.2.2.length = U at *
        omega
      have := M.txt_len _ _ (by omega) hz
      show (M.txt _).length ≤ _
      unfold maxLen
      omega
theorem PsW.setMid {w0 w : World} {bv tw : Value} {D : Int} {l : List UInt8} {ts : M.Toks} (x : PsW w0 bv D l w tw ts) {g : Nat} (hg : w0.heap.size < g) (o : Nat) (vs : List Value) : PsW w0 bv D l (w.setCells g o vs) tw ts :=
  ⟨x.blk.frame (setCells_other _ _ _ _ _ (by omega)), below_setCells x.lo (Nat.le_of_lt hg) vs o, x.bs, x.tk, x.tb, x.ll⟩
theorem Fr.setMid {pb : Nat} {w w' : World} (h : Fr pb w w') {g : Nat} (hg : w.heap.size ≤ g) (hp : pb ≤ g) (o : Nat) (vs : List Value) : Fr pb w (w'.setCells g o vs) :=
  ⟨below_setCells h.lo hp vs o, fun i hi hn => by rw [setCells_other _ _ _ _ _ (by omega)]; exact h.oth i hi hn⟩
set_option maxRecDepth 100000 in
set_option maxHeartbeats 4000000 in
theorem jpnum_any {w0 w : World} {bv tw : Value} {D : Int} {l : List UInt8} {fr te : Nat} {r : M.Toks} (x : PsW w0 bv D l w tw ((8, fr, te) :: r)) (hX : TabX w0) (ht : fr < te ∧ te ≤ l.length) (hl : l.length ≤ 20000) :
    Calls Tryz.prog 46 #[ptrP w0] w (ValQ w0 bv D l (.ok (numbV l (8, fr, te), .nil, r)) w) := by
  have hlt := x.lt
  obtain ⟨b, off, cap, rfl, h1, h2, hb, d0, d1, d2, h3⟩ := x.first
  have b0 := Lib.hid ((Below.refl w.heap.size w).alloc (Nat.le_refl _) (.cells zv 27))
  have K0 := Lib.hid (BK.new 27 w zv)
  obtain ⟨W1, hW1⟩ : ∃ x, w.alloc (.cells zv 27) = x := ⟨_, rfl⟩
  rw [hW1] at b0 K0
  have HW1 := Lib.hid (show w.alloc (.cells #[.int .i64 0, .slice none 0 0, .bool false, .string ⟨#[]⟩, .string ⟨#[]⟩, .slice none 0 0, .int .i64 0, .int .i64 0, .slice none 0 0] 27) = W1 from hW1)
  have x1 := x.keep b0.out
  obtain ⟨b', off', cap', e', h1', h2', hb', d0', d1', d2', h3'⟩ := x1.first
  simp only [Value.slice.injEq, Option.some.injEq, Addr.mk.injEq, and_true, true_and] at e'
  obtain ⟨⟨rfl, rfl⟩, rfl⟩ := e'
  obtain ⟨c0, c1, c2⟩ := x1.cells
  have d0'' : W1.cell? ⟨b, off, none⟩ = some (.int .i64 8) := d0'
  have q2 : (0 : Int) < (r.length : Int) + 1 := by omega
  have b1 := Lib.hid ((Below.refl W1.heap.size W1).alloc (Nat.le_refl _) (.cells #[.int .i64 8, .int .i64 (fr : Int), .int .i64 (te : Int)] 51))
  have K1 := Lib.hid (BK.new 51 W1 #[.int .i64 8, .int .i64 (fr : Int), .int .i64 (te : Int)])
  obtain ⟨W2, hW2⟩ : ∃ x, W1.alloc (.cells #[.int .i64 8, .int .i64 (fr : Int), .int .i64 (te : Int)] 51) = x := ⟨_, rfl⟩
  rw [hW2] at b1 K1
  have HW2 := Lib.hid hW2
  have x2 := x1.keep b1.out
  have SA0 := single_any 4 8 (by decide) x2
  have hR : takeP l.length 8 ((8, fr, te) :: r) = .ok ((8, fr, te), r) := by simp [takeP]
  unfold SingQ at SA0
  rw [hR] at SA0
  dsimp only at SA0
  unfold ValQ
  dsimp only
  unfold ptrP at SA0 ⊢
  have SA : Hid (Calls Tryz.prog 47 #[.pointer (some ⟨w0.heap.size, 0, none⟩), .int .i64 4, .int .i64 8] W2 fun e w' => (∃ tw, PsW w0 bv D l w' tw r) ∧ e = .returned (.agg #[.int .i64 4, .slice none 0 0, .bool false, .string (bytes []), .string (bytes []), .slice none 0 0, .int .i64 (fr : Int), .int .i64 0, .slice none 0 0]) ∧ Fr w0.heap.size W2 w') := Lib.hid SA0
  have X2 := Lib.hid x2
  have hl1 := K0.out.lt
  have hl2 := K1.out.lt
  have hs1 := b0.out.size
  have hs2 := b1.out.size
  clear hW1 hW2 x1 h3 h3' d0 d1 d2 d0' hR h1' h2' hb' SA0 x2 x
  go_enter Tryz.func46, Tryz.ntmps46
  go_upto_region 1 with fail
  rw [HW1.out]
  go_upto_region 2 with fail
  rw [HW2.out]
  go_wp2_with fail
  refine SA.out.mono ?_
  rintro e w3 ⟨⟨tw3, x3⟩, rfl, f3⟩
  have K03 := Lib.hid (K0.out.frame ((f3.oth _ (by omega) (by omega)).trans (b1.out.block _ (by omega))))
  have K13 := Lib.hid (K1.out.frame (f3.oth _ hl2 (by omega)))
  have hs3 := f3.lo.size
  have b3 := Lib.hid ((Below.refl w3.heap.size w3).alloc (Nat.le_refl _) (.cells #[.int .i64 4, .slice none 0 0, .bool false, .string (bytes []), .string (bytes []), .slice none 0 0, .int .i64 (fr : Int), .int .i64 0, .slice none 0 0] 27))
  have K3 := Lib.hid (BK.new 27 w3 #[.int .i64 4, .slice none 0 0, .bool false, .string (bytes []), .string (bytes []), .slice none 0 0, .int .i64 (fr : Int), .int .i64 0, .slice none 0 0])
  obtain ⟨W3, hW3⟩ : ∃ x, w3.alloc (.cells #[.int .i64 4, .slice none 0 0, .bool false, .string (bytes []), .string (bytes []), .slice none 0 0, .int .i64 (fr : Int), .int .i64 0, .slice none 0 0] 27) = x := ⟨_, rfl⟩
  rw [hW3] at b3 K3
  have HW3 := Lib.hid hW3
  clear hW3
  go_upto_region 3 with fail
  rw [HW3.out]
  obtain ⟨ba, bcap, hbv, g1, g2, g3⟩ := x3.bs
  obtain ⟨bb, boff, rfl, hbb, hbc⟩ := g3 (by omega)
  obtain ⟨n, hn⟩ : ∃ n, l.length = n := ⟨_, rfl⟩
  rw [hn] at hbv g1
  subst hbv
  have hx3bs : Bs w0 (.slice (some ⟨bb, boff, none⟩) n bcap) l := x3.bs
  have hpt := bs_part hx3bs fr te (by omega) (by omega)
  have ttb : (l.drop fr).take (te - fr) = tokB l (8, fr, te) := rfl
  rw [ttb] at hpt
  have tbl : (tokB l (8, fr, te)).length ≤ 20000 := by unfold tokB; simp only [List.length_take, List.length_drop]; omega
  have BD := Lib.hid (x3.lo.trans (((b3.out.trans ((Below.refl W3.heap.size W3).drew.mono b3.out.size))).mono (by have := x3.lo.size; omega)))
  have D3 := Lib.hid ((Below.refl W3.heap.size W3).drew)
  refine wp_region_noPanic ?_
  have KD := Lib.hid ((K3.out.keep (D3.out)))
  have KD0 := Lib.hid ((K03.out.keep b3.out).keep D3.out)
  have KD1 := Lib.hid ((K13.out.keep b3.out).keep D3.out)
  have xD := Lib.hid ((x3.keep b3.out).keep D3.out)
  obtain ⟨TB, hTB⟩ : ∃ x, tokB l (8, fr, te) = x := ⟨_, rfl⟩
  rw [hTB] at hpt tbl
  have UA0 := read_any TB (M.readN TB).1 (M.readN TB).2 W3.drew (hX.keep BD.out).tab (by omega) rfl
  have hNl := readN_len TB (by omega)
  have hNV : numbV l (8, fr, te) = ⟨4, [], (M.readN TB).1.1, (M.readN TB).1.2.1, (M.readN TB).1.2.2, fr, 0, []⟩ := by unfold numbV; rw [hTB]
  obtain ⟨⟨⟨ng, dg, ex⟩, okr⟩, hRN⟩ : ∃ x, M.readN TB = x := ⟨_, rfl⟩
  rw [hRN] at UA0 hNl hNV
  simp only at UA0 hNl hNV
  have UA := Lib.hid UA0
  unfold numV at UA
  simp only at UA
  have hcv : ∀ V, Bs V (.slice (some ⟨bb, boff + fr, none⟩) (te - fr) (bcap - fr)) TB → (convert 37 9 (.slice (some ⟨bb, boff + fr, none⟩) (te - fr) (bcap - fr))).run Tryz.prog V = .ok (.string (bytes TB)) V := fun V h => conv_bs h
  clear UA0
  have SS : ∀ V : World, PsW w0 (.slice (some ⟨bb, boff, none⟩) n bcap) D l V tw3 r → BK 51 V W1.heap.size #[.int .i64 8, .int .i64 (fr : Int), .int .i64 (te : Int)] → Below w0.heap.size w0 V → (V.cell? ⟨w0.heap.size, 0, none⟩ = some (.slice (some ⟨bb, boff, none⟩) n bcap) ∧ V.cell? ⟨W1.heap.size, 1, none⟩ = some (.int .i64 (fr : Int)) ∧ V.cell? ⟨W1.heap.size, 2, none⟩ = some (.int .i64 (te : Int)) ∧ Bs V (.slice (some ⟨bb, boff + fr, none⟩) (te - fr) (bcap - fr)) TB) := fun V h k lo => ⟨h.cells.1, k.cell 1, k.cell 2, hpt.keep lo⟩
  refine wp_region_to 15 (S := fun V => (V.cell? ⟨w0.heap.size, 0, none⟩ = some (.slice (some ⟨bb, boff, none⟩) n bcap) ∧ V.cell? ⟨W1.heap.size, 1, none⟩ = some (.int .i64 (fr : Int)) ∧ V.cell? ⟨W1.heap.size, 2, none⟩ = some (.int .i64 (te : Int)) ∧ Bs V (.slice (some ⟨bb, boff + fr, none⟩) (te - fr) (bcap - fr)) TB)) (by kernel_rfl) (SS _ xD.out KD1.out BD.out) (fun hS => ?_)
  have i1 : (fr : Int) ≤ te := by omega
  have i2 : (te : Int) ≤ n := by omega
  have i3 : (n : Int) ≤ bcap := by omega
  have i4 : ¬ bcap - fr = 0 := by omega
  have i5 : (te : Int) ≤ bcap := by omega
  obtain ⟨WD, hWD⟩ : ∃ x, W3.drew = x := ⟨_, rfl⟩
  rw [hWD] at UA KD KD0 KD1 xD hS BD D3 ⊢
  clear hWD
  refine dtp 0 ?_
  refine dtp 1 ?_
  refine dtp 2 ?_
  refine dtk 3 ?_
  refine dtp 4 ?_
  refine dtk 5 ?_
  refine dtp 6 ?_
  refine dtk 7 ?_
  refine dtp (v := .slice (some ⟨bb, boff + fr, none⟩) (te - fr) (bcap - fr)) 8 (hy := Or.inl ⟨by rfl, by intro V hSV; go_simp; omega⟩) ?_
  refine dtk (v := .string (bytes TB)) 9 (hy := Or.inl ⟨by rfl, by intro V hSV; have hc := hcv V hSV.2.2.2; go_simp⟩) ?_
  refine AnyTo.ready (rs := [10]) (by kernel_rfl) (by simp) ?_
  refine ReadyTo.cons rfl (fun K hK => ?_) ReadyTo.nil
  go_simp
  refine UA.out.mono ?_
  rintro e w4 ⟨rfl, hb4⟩
  refine hK.out _ _ (SS _ (xD.out.keep hb4) (KD1.out.keep hb4) (BD.out.trans (hb4.mono BD.out.size))) (fun hS => ?_)
  clear hK K
  have K4 := Lib.hid (KD.out.keep hb4)
  have K04 := Lib.hid (KD0.out.keep hb4)
  have x4 := Lib.hid (xD.out.keep hb4)
  refine dtp 11 ?_
  refine dtp 12 ?_
  refine dtp 13 ?_
  refine dtp 14 ?_
  refine AnyTo.ready (rs := [15]) (by kernel_rfl) (by simp) ?_
  refine ReadyTo.last rfl (by kernel_rfl) (fun K hK => ?_) ReadyTo.nil
  rw [if_pos (by rfl)]
  refine wp_store_mid 24 _ _ rfl w3.heap.size 2 #[.bool ng, .string (bytes dg), .string (bytes ex)] rfl rfl (K4.out.there 2 3 (show 2 + 3 ≤ 9 by decide)) info3 (by simp [Value.oneCell']) ?_
  refine hK.out _ _ ?_
  clear hK K
  refine AnyTo.done (by kernel_rfl) ?_ _
  refine NoPanic.normal ?_
  have K5 : VB (w4.setCells w3.heap.size 2 [.bool ng, .string (bytes dg), .string (bytes ex)]) w3.heap.size (numbV l (8, fr, te)) nilV nilV nilV := by rw [hNV]; exact K4.out.setCells [.bool ng, .string (bytes dg), .string (bytes ex)] _ _ 2
  have K05 := K04.out.frame (setCells_other w3.heap.size [.bool ng, .string (bytes dg), .string (bytes ex)] 2 w4 w.heap.size (by omega))
  have x5 := x4.out.setMid (g := w3.heap.size) (by omega) 2 [.bool ng, .string (bytes dg), .string (bytes ex)]
  have F1 := ((Fr.of b0.out (Nat.le_of_lt hlt)).trans (Fr.of b1.out (by omega))).trans f3
  have F2 := (F1.trans (Fr.of b3.out (by omega))).trans (Fr.of D3.out (by have := b3.out.size; omega))
  have F4 := F2.trans (Fr.of hb4 (by have := b3.out.size; have := D3.out.size; omega))
  have F5 := F4.setMid (g := w3.heap.size) (by omega) (by omega) 2 [.bool ng, .string (bytes dg), .string (bytes ex)]
  have hz4 := hb4.size
  have hz3 := b3.out.size
  have hzD := D3.out.size
  have hzw : w3.heap.size < WD.heap.size := KD.out.lt
  obtain ⟨W5, hW5⟩ : ∃ x, w4.setCells w3.heap.size 2 [.bool ng, .string (bytes dg), .string (bytes ex)] = x := ⟨_, rfl⟩
  rw [hW5] at K5 K05 x5 F5
  have HS5 := Lib.hid hW5
  have VV := Lib.hid K5
  have VK := Lib.hid K05
  clear hW5 hb4 K5 K05 hS
  rw [HS5.out]
  have hVx : vv (numbV l (8, fr, te)) nilV nilV nilV = #[.int .i64 4, .slice none 0 0, .bool ng, .string (bytes dg), .string (bytes ex), .slice none 0 0, .int .i64 (fr : Int), .int .i64 0, .slice none 0 0] := by rw [hNV]; rfl
  go_wp2_with (first | (refine wpl_ldV rfl _ rfl w3.heap.size 0 (numbV l (8, fr, te)) nilV nilV nilV rfl (VB.range VV.out) ?_) | (refine wpl_stV rfl _ _ rfl w.heap.size zv (numbV l (8, fr, te)) nilV nilV nilV rfl rfl VK.out rfl rfl rfl rfl ?_))
  go_wp2
  refine bodyPost_ret (res_bk Tryz.underlying27 rfl infoV1 rfl _ _ w.heap.size (vvl (numbV l (8, fr, te)) nilV nilV nilV) rfl (BK.set VK.out _) rfl) rfl ⟨nilV, nilV, nilV, tw3, rfl, ⟨by rw [hNV]; exact hNl.1, by rw [hNV]; exact hNl.2, by rw [hNV]; exact isP_nil _ _, by rw [hNV]; exact isP_nil _ _⟩, voP_nil _ _, x5.setRow hlt _, F5.setRow (Nat.le_refl _) (Nat.le_of_lt hlt) _⟩
end Go.Proofs.YtbfnlgmhfhaglaaGreatDoor
