/- Texts of ours in one: ZLst ZItA ZList ZParse BSam0 ZSame. -/
import Derived.Test.YtbfnlgmhfhaglaaGreatDoorQl19
import Derived.Test.YtbfnlgmhfhaglaaGreatDoorQl20
import Derived.Deep.DeepCutAuto
import Derived.Great.BuildSlice
import Derived.Test.YtbfnlgmhfhaglaaGreatDoorQl13
import Derived.Test.YtbfnlgmhfhaglaaGreatDoorQl02
import Derived.Laws.StructEq
import Derived.ChangeKeysEq
import Derived.Deep.QuietTactic
import Derived.BigQuiet
import Derived.Outline
import Derived.StillTail
import Derived.StillTailTactics
/- jparse: a list of values that is being read: its box, the row of its items, the row of its marks. -/
namespace Go.Proofs.YtbfnlgmhfhaglaaGreatDoor
open Go.RowKit
set_option linter.unusedVariables false
set_option linter.unusedSimpArgs false

theorem ownV_frame' {E sz B : Nat} {w w' : World} {v : Value} {l : List (List Value)} (h : OwnV E sz B w v l) (hf : ∀ j, v.ownBlock = some j → w'.heap[j]? = w.heap[j]?) : OwnV E sz B w' v l := by
  obtain ⟨⟨h1, h2⟩, h3, h4⟩ := h
  refine ⟨⟨h1, ?_⟩, h3, h4⟩
  rcases h2 with h2 | ⟨g, cap, cur, rfl, a, b, c⟩
  · exact .inl h2
  · exact .inr ⟨g, cap, cur, rfl, a, by rw [hf g rfl]; exact b, c⟩
theorem own_types' {E1 E2 s1 s2 B : Nat} {w : World} {v1 v2 : Value} {l1 l2 : List (List Value)} (h1 : OwnV E1 s1 B w v1 l1) (h2 : OwnV E2 s2 B w v2 l2) (hne : E1 ≠ E2) : ∀ j, v1.ownBlock = some j → some j ≠ v2.ownBlock := by
  intro j hj e
  obtain ⟨⟨_, h1⟩, _⟩ := h1
  obtain ⟨⟨_, h2⟩, _⟩ := h2
  rcases h1 with ⟨rfl, _⟩ | ⟨g, cap, cur, rfl, _, b, _⟩
  · simp [Value.ownBlock] at hj
  · rcases h2 with ⟨rfl, _⟩ | ⟨g', cap', cur', rfl, _, b', _⟩
    · simp [Value.ownBlock] at e
    · simp only [Value.ownBlock, Option.some.injEq] at hj e
      subst hj
      subst e
      rw [b] at b'
      simp only [Option.some.injEq, Obj.cells.injEq] at b'
      exact hne b'.2.1
theorem tneVI : 27 ≠ 3 := by decide
def icl (l : List Int) : List (List Value) := l.map fun z => [.int .i64 z]
def KidsC (P : Nat → Prop) (w : World) : List (List Value) → Vo → Prop
  | L, .nil => L = []
  | L, .cons h kids rest => ∃ tv v mv L', L = vvl h tv v mv :: L' ∧ HdP P w h tv mv ∧ VoP P w v kids ∧ KidsC P w L' rest
theorem KidsC.keep {P P' : Nat → Prop} {w w' : World} (hf : ∀ b, P b → w'.heap[b]? = w.heap[b]?) (hP : ∀ b, P b → P' b) (F : Vo) : ∀ L, KidsC P w L F → KidsC P' w' L F := by
  induction F with
  | nil => intro L h; exact h
  | cons k kids rest ih1 ih2 =>
    rintro L ⟨tv, v, mv, L', rfl, h1, h2, h3⟩
    exact ⟨tv, v, mv, L', rfl, (h1.keep hf).mono hP, (h2.keep hf).mono hP, ih2 L' h3⟩
theorem KidsC.len {P : Nat → Prop} {w : World} (F : Vo) : ∀ L, KidsC P w L F → L.length = F.len := by
  induction F with
  | nil => intro L h; rw [show L = [] from h]; rfl
  | cons k kids rest ih1 ih2 =>
    rintro L ⟨tv, v, mv, L', rfl, h1, h2, h3⟩
    simp only [List.length_cons, Vo.len, ih2 L' h3]
theorem KidsC.snoc {P : Nat → Prop} {w : World} {h : Vh} {tv v mv : Value} {kids : Vo} (hd : HdP P w h tv mv) (hv : VoP P w v kids) (F : Vo) : ∀ L, KidsC P w L F → KidsC P w (L ++ [vvl h tv v mv]) (F.snoc h kids) := by
  induction F with
  | nil => intro L h; rw [show L = [] from h]; exact ⟨tv, v, mv, [], rfl, hd, hv, rfl⟩
  | cons k1 kids1 rest ih1 ih2 =>
    rintro L ⟨tv1, v1, mv1, L', rfl, h1, h2, h3⟩
    exact ⟨tv1, v1, mv1, L' ++ [vvl h tv v mv], rfl, h1, h2, ih2 L' h3⟩
theorem kidsC_at {P : Nat → Prop} {w : World} {b : Nat} (F : Vo) : ∀ L off, KidsC P w L F → (∀ j (h : j < L.length) i u, L[j][i]? = some u → w.cell? ⟨b, off + (j * 9 + i), none⟩ = some u) → VoAt P w F b off := by
  induction F with
  | nil => intro L off _ _; trivial
  | cons h kids rest ih1 ih2 =>
    rintro L off ⟨tv, v, mv, L', rfl, h1, h2, h3⟩ hc
    obtain ⟨a, cap, rfl, p1, p2, p3, p4⟩ := h2
    refine ⟨⟨tv, mv, a, cap, h1, fun i u hu => ?_, p1, p2, p3, p4⟩, ih2 L' (off + 9) h3 fun j hj i u hu => ?_⟩
    · have := hc 0 (by simp) i u hu
      rw [Nat.zero_mul, Nat.zero_add] at this
      exact this
    · have := hc (j + 1) (by simp only [List.length_cons]; omega) i u (by simpa using hu)
      rw [show off + ((j + 1) * 9 + i) = off + 9 + (j * 9 + i) by omega] at this
      exact this
def Pk (bx : Nat) (W : World) (iv mv : Value) (b : Nat) : Prop := bx < b ∧ b < W.heap.size ∧ iv.ownBlock ≠ some b ∧ mv.ownBlock ≠ some b
structure Lst (pb bx : Nat) (W : World) (h : Vh) (iv mv : Value) (cs : List (List Value)) (L : Vo) : Prop where
  vb : VB W bx h nilV iv mv
  tx : h.tx = []
  dg : h.dg = []
  ex : h.ex = []
  lt : pb < bx
  io : OwnV 27 9 (bx + 1) W iv cs
  ks : KidsC (Pk bx W iv mv) W cs L
  mo : OwnV 3 1 (bx + 1) W mv (icl h.ms)
structure FrB (pb bx : Nat) (w w' : World) : Prop where
  lo : Below pb w w'
  oth : ∀ j, j < bx → j ≠ pb → w'.heap[j]? = w.heap[j]?
theorem FrB.refl (pb bx : Nat) (w : World) : FrB pb bx w w := ⟨Below.refl _ _, fun _ _ _ => rfl⟩
theorem FrB.trans {pb bx : Nat} {a b c : World} (h : FrB pb bx a b) (k : FrB pb bx b c) : FrB pb bx a c := ⟨h.lo.trans k.lo, fun j hj hn => (k.oth j hj hn).trans (h.oth j hj hn)⟩
theorem Fr.box {pb bx : Nat} {w w' : World} (h : Fr pb w w') (hb : bx ≤ w.heap.size) : FrB pb bx w w' := ⟨h.lo, fun j hj hn => h.oth j (by omega) hn⟩
theorem FrB.fr {pb bx : Nat} {w w' : World} (h : FrB pb bx w w') (hb : w.heap.size ≤ bx) : Fr pb w w' := ⟨h.lo, fun j hj hn => h.oth j (by omega) hn⟩
theorem FrB.of {pb bx : Nat} {w w' : World} (h : Below bx w w') (hp : pb ≤ bx) : FrB pb bx w w' := ⟨h.mono hp, fun j hj _ => h.block j hj⟩
theorem Lst.fr {pb bx : Nat} {W W' : World} {h : Vh} {iv mv : Value} {cs : List (List Value)} {L : Vo} (x : Lst pb bx W h iv mv cs L) (f : Fr pb W W') : Lst pb bx W' h iv mv cs L := by
  have lt := x.lt
  have lb := x.vb.lt
  refine ⟨x.vb.frame (f.oth _ lb (by omega)), x.tx, x.dg, x.ex, x.lt, ownV_frame' x.io fun j hj => ?_, x.ks.keep (fun b hb => ?_) (fun b hb => ?_), ownV_frame' x.mo fun j hj => ?_⟩
  · have := own_in x.io j hj; exact f.oth j this.2 (by omega)
  · exact f.oth b hb.2.1 (by have := hb.1; omega)
  · exact ⟨hb.1, Nat.lt_of_lt_of_le hb.2.1 f.lo.size, hb.2.2.1, hb.2.2.2⟩
  · have := own_in x.mo j hj; exact f.oth j this.2 (by omega)
theorem Lst.push {pb bx : Nat} {W W' : World} {h h2 : Vh} {iv mv iv' tv2 v2 mv2 : Value} {cs : List (List Value)} {L kids : Vo} (x : Lst pb bx W h iv mv cs L) {Q : Nat → Prop} (hd : HdP Q W h2 tv2 mv2) (hv : VoP Q W v2 kids)
    (hQ : ∀ b, Q b → Pk bx W iv mv b) (ho : OwnV 27 9 (bx + 1) W' iv' (cs ++ [vvl h2 tv2 v2 mv2])) (hb : Below (bx + 1) W W') (hf : ∀ j, j < W.heap.size → some j ≠ iv.ownBlock → W'.heap[j]? = W.heap[j]?) (hw : iv'.ownBlock = iv.ownBlock ∨ iv'.ownBlock = some W.heap.size) :
    Lst pb bx (W'.setCell ⟨bx, 5, none⟩ iv') h iv' mv (cs ++ [vvl h2 tv2 v2 mv2]) (L.snoc h2 kids) ∧ FrB pb bx W (W'.setCell ⟨bx, 5, none⟩ iv') := by
  have lt := x.lt
  have lb := x.vb.lt
  have hv1 := x.vb.frame (hb.block _ (by omega))
  have ne : ∀ {E s : Nat} {v : Value} {l : List (List Value)}, OwnV E s (bx + 1) W' v l → v.ownBlock ≠ some bx := fun h e => by have := (own_in h _ e).1; omega
  have m1 := ownV_frame' x.mo (w' := W') fun j hj => hf j (own_in x.mo j hj).2 (fun e => own_types' x.io x.mo tneVI j e.symm hj.symm)
  have nb : ∀ b, Pk bx W iv mv b → W'.heap[b]? = W.heap[b]? := fun b hp => hf b hp.2.1 (fun e => hp.2.2.1 e.symm)
  have nP : ∀ b, Pk bx W iv mv b → Pk bx (W'.setCell ⟨bx, 5, none⟩ iv') iv' mv b := fun b hp => ⟨hp.1, by rw [World.size_setCell]; exact Nat.lt_of_lt_of_le hp.2.1 hb.size, (by
    rcases hw with e | e
    · rw [e]; exact hp.2.2.1
    · rw [e]; intro e2; simp only [Option.some.injEq] at e2; have := hp.2.1; omega), hp.2.2.2⟩
  have nc : ∀ b, Pk bx W iv mv b → (W'.setCell ⟨bx, 5, none⟩ iv').heap[b]? = W.heap[b]? := fun b hp => by
    rw [heap_setCell_other _ _ _ _ (by show b ≠ bx; have := hp.1; omega)]; exact nb b hp
  refine ⟨⟨BK.setCell hv1 5 iv', x.tx, x.dg, x.ex, x.lt, OwnV.setOther ho _ _ (ne ho), ?_, OwnV.setOther m1 _ _ (ne m1)⟩, ?_⟩
  · exact KidsC.snoc ((hd.mono hQ |>.keep nc).mono nP) ((hv.mono hQ |>.keep nc).mono nP) L cs (x.ks.keep nc nP)
  · refine ⟨(hb.mono (by omega)).setCell (p := ⟨bx, 5, none⟩) (by show pb ≤ bx; omega) iv', fun j hj hn => ?_⟩
    rw [heap_setCell_other _ _ _ _ (by show j ≠ bx; omega)]
    exact hb.block j (by omega)
theorem Lst.mark {pb bx : Nat} {W W' : World} {h : Vh} {iv mv mv' : Value} {cs : List (List Value)} {L : Vo} {z : Int} (x : Lst pb bx W h iv mv cs L)
    (ho : OwnV 3 1 (bx + 1) W' mv' (icl (h.ms ++ [z]))) (hb : Below (bx + 1) W W') (hf : ∀ j, j < W.heap.size → some j ≠ mv.ownBlock → W'.heap[j]? = W.heap[j]?) (hw : mv'.ownBlock = mv.ownBlock ∨ mv'.ownBlock = some W.heap.size) :
    Lst pb bx (W'.setCell ⟨bx, 8, none⟩ mv') { h with ms := h.ms ++ [z] } iv mv' cs L ∧ FrB pb bx W (W'.setCell ⟨bx, 8, none⟩ mv') := by
  have lt := x.lt
  have lb := x.vb.lt
  have hv1 := x.vb.frame (hb.block _ (by omega))
  have ne : ∀ {E s : Nat} {v : Value} {l : List (List Value)}, OwnV E s (bx + 1) W' v l → v.ownBlock ≠ some bx := fun h e => by have := (own_in h _ e).1; omega
  have i1 := ownV_frame' x.io (w' := W') fun j hj => hf j (own_in x.io j hj).2 (own_types' x.io x.mo tneVI j hj)
  have nb : ∀ b, Pk bx W iv mv b → W'.heap[b]? = W.heap[b]? := fun b hp => hf b hp.2.1 (fun e => hp.2.2.2 e.symm)
  have nP : ∀ b, Pk bx W iv mv b → Pk bx (W'.setCell ⟨bx, 8, none⟩ mv') iv mv' b := fun b hp => ⟨hp.1, by rw [World.size_setCell]; exact Nat.lt_of_lt_of_le hp.2.1 hb.size, hp.2.2.1, (by
    rcases hw with e | e
    · rw [e]; exact hp.2.2.2
    · rw [e]; intro e2; simp only [Option.some.injEq] at e2; have := hp.2.1; omega)⟩
  have nc : ∀ b, Pk bx W iv mv b → (W'.setCell ⟨bx, 8, none⟩ mv').heap[b]? = W.heap[b]? := fun b hp => by
    rw [heap_setCell_other _ _ _ _ (by show b ≠ bx; have := hp.1; omega)]; exact nb b hp
  refine ⟨⟨BK.setCell hv1 8 mv', x.tx, x.dg, x.ex, x.lt, OwnV.setOther i1 _ _ (ne i1), x.ks.keep nc nP, OwnV.setOther ho _ _ (ne ho)⟩, ?_⟩
  · refine ⟨(hb.mono (by omega)).setCell (p := ⟨bx, 8, none⟩) (by show pb ≤ bx; omega) mv', fun j hj hn => ?_⟩
    rw [heap_setCell_other _ _ _ _ (by show j ≠ bx; omega)]
    exact hb.block j (by omega)
theorem icl_isP {B : Nat} {P : Nat → Prop} {W : World} {mv : Value} {ml : List Int} (h : OwnV 3 1 B W mv (icl ml)) (hP : ∀ b, B ≤ b → b < W.heap.size → P b) : IsP P W mv ml := by
  have hn := OwnV.nn h
  have hin := own_in h
  obtain ⟨a, cap, rfl, h1, h2, h3⟩ := OwnV.vs h
  have hl : (icl ml).length = ml.length := by simp [icl]
  refine ⟨a, cap, by rw [hl], by omega, h2, fun e => by subst e; exact hn _ _ rfl, fun h0 => ?_⟩
  obtain ⟨b, off, rfl, hb, hc⟩ := h3 (by omega)
  refine ⟨b, off, rfl, hP b ?_ hb, fun j hj => ?_⟩
  · obtain ⟨⟨_, q⟩, _⟩ := h
    rcases q with ⟨e, _⟩ | ⟨g, c, cur, e, _⟩
    · simp at e
    · simp only [Value.slice.injEq, Option.some.injEq, Addr.mk.injEq] at e
      rw [e.1.1]
      have := (hin g (by rw [e.1.1, e.1.2.1]; rfl)).1
      exact this
  · have := hc j (by omega) 0 (.int .i64 ml[j]) (by simp [icl])
    rw [Nat.mul_one, Nat.add_zero] at this
    exact this
theorem Lst.done {pb bx : Nat} {W : World} {h : Vh} {iv mv : Value} {cs : List (List Value)} {L : Vo} (x : Lst pb bx W h iv mv cs L) : HdP (fun b => bx ≤ b ∧ b < W.heap.size) W h nilV mv ∧ VoP (fun b => bx ≤ b ∧ b < W.heap.size) W iv L := by
  refine ⟨⟨by rw [x.dg]; exact Nat.zero_le _, by rw [x.ex]; exact Nat.zero_le _, by rw [x.tx]; exact isP_nil _ _, icl_isP x.mo fun b h1 h2 => ⟨by omega, h2⟩⟩, ?_⟩
  have hn := OwnV.nn x.io
  have hin := own_in x.io
  have hl := KidsC.len L cs x.ks
  have io := x.io
  obtain ⟨a, cap, rfl, h1, h2, h3⟩ := OwnV.vs x.io
  refine ⟨a, cap, by rw [← hl], by omega, h2, fun e => by subst e; exact hn _ _ rfl, fun h0 => ?_⟩
  obtain ⟨b, off, rfl, hb, hc⟩ := h3 (by omega)
  refine ⟨b, off, rfl, ⟨?_, hb⟩, voAt_mono (fun b hb => ⟨Nat.le_of_lt hb.1, hb.2.1⟩) L b off (kidsC_at L cs off x.ks hc)⟩
  obtain ⟨⟨_, q⟩, _⟩ := io
  rcases q with ⟨e, _⟩ | ⟨g, c, cur, e, _⟩
  · simp at e
  · simp only [Value.slice.injEq, Option.some.injEq, Addr.mk.injEq] at e
    rw [e.1.1]
    have := (hin g (by rw [e.1.1, e.1.2.1]; rfl)).1
    omega
end Go.Proofs.YtbfnlgmhfhaglaaGreatDoor
/- jparse: item: what both forms want; an item of an array. -/
namespace Go.Proofs.YtbfnlgmhfhaglaaGreatDoor
open Go.RowKit
set_option linter.unusedVariables false
set_option linter.unusedSimpArgs false

theorem infoValz : (Tryz.prog.info? 27).map (fun i => (i.zero, i.size, i.bytes)) = some (some (.agg zv), 9, 136) := by kernel_rfl
theorem fillz (c0 c1 c2 c3 c4 c5 c6 c7 c8 : Value) (s : Nat) (hs : s = 9) (zc : Array Value) (hz : zc.size = 9) : Instr.fill (fun i => some (i * s, s)) zc [(0, .agg #[c0, c1, c2, c3, c4, c5, c6, c7, c8])] = some #[c0, c1, c2, c3, c4, c5, c6, c7, c8] := by
  subst hs
  have e : zc = #[zc[0], zc[1], zc[2], zc[3], zc[4], zc[5], zc[6], zc[7], zc[8]] := by
    apply Array.ext
    · simp [hz]
    · intro i h1 h2
      have : i = 0 ∨ i = 1 ∨ i = 2 ∨ i = 3 ∨ i = 4 ∨ i = 5 ∨ i = 6 ∨ i = 7 ∨ i = 8 := by omega
      rcases this with rfl | rfl | rfl | rfl | rfl | rfl | rfl | rfl | rfl <;> rfl
  rw [e]
  simp [Instr.fill, Value.cells, List.zipIdx]
theorem wp_bsz {o : Oper} {a : Act} {w : World} {K : Act → World → Prop} {Q : Exit → Act → World → Prop} (x : Operand) (ho : o.op = .buildSlice 25 1 #[(0, x)])
    (c0 c1 c2 c3 c4 c5 c6 c7 c8 : Value) (hx : a.eval x = .agg #[c0, c1, c2, c3, c4, c5, c6, c7, c8])
    (h : K (a.put o.dst (.slice (some ⟨w.heap.size, 0, none⟩) 1 1)) (w.alloc (.cells #[c0, c1, c2, c3, c4, c5, c6, c7, c8] 27))) : o.wp Tryz.prog a w K Q := by
  obtain ⟨i0, hi, hz0, hz1, hz2⟩ := info_parts infoValz
  refine wp_buildSlice 25 27 1 _ ho #[c0, c1, c2, c3, c4, c5, c6, c7, c8] i0 _ Tryz.underlying25 hi hz0 (by rw [hz1]; decide) (by rw [hz1]; decide) ?_ h
  simp only [List.map_toArray, List.map_cons, List.map_nil, hx]
  exact fillz c0 c1 c2 c3 c4 c5 c6 c7 c8 _ hz1 _ (by rw [hz1]; simp)
theorem PsW.keepB {w0 w w' : World} {bv tw : Value} {D : Int} {l : List UInt8} {ts : M.Toks} (x : PsW w0 bv D l w tw ts) {B : Nat} (h : Below B w w') (hB : w0.heap.size < B) : PsW w0 bv D l w' tw ts :=
  ⟨x.blk.keepB h hB, x.lo.trans (h.mono (Nat.le_of_lt hB)), x.bs, x.tk, x.tb, x.ll⟩
theorem pk_new {pb bx : Nat} {W W' : World} {h : Vh} {iv mv : Value} {cs : List (List Value)} {L : Vo} (x : Lst pb bx W h iv mv cs L) {b : Nat} (hb : Nw W.heap.size W' b) : Pk bx W' iv mv b := by
  have lb := x.vb.lt
  refine ⟨by have := hb.1; omega, hb.2, fun e => ?_, fun e => ?_⟩
  · have := (own_in x.io b e).2; have := hb.1; omega
  · have := (own_in x.mo b e).2; have := hb.1; omega
theorem vvl_nine (h : Vh) {tv v mv : Value} (h1 : tv.oneCell' = true) (h2 : v.oneCell' = true) (h3 : mv.oneCell' = true) : ∀ c ∈ vvl h tv v mv, c.oneCell' = true := fun c hc =>
  (Array.all_eq_true_iff_forall_mem.1 (vv_one h h1 h2 h3)) c (by simpa [vv] using hc)
end Go.Proofs.YtbfnlgmhfhaglaaGreatDoor
/- jparse: list: an array or an object. -/
namespace Go.Proofs.YtbfnlgmhfhaglaaGreatDoor
open Go.RowKit
set_option linter.unusedVariables false
set_option linter.unusedSimpArgs false

theorem Lst.done2 {pb bx : Nat} {W : World} {h : Vh} {iv mv : Value} {cs : List (List Value)} {L : Vo} (x : Lst pb bx W h iv mv cs L) : HdP (fun b => bx < b ∧ b < W.heap.size) W h nilV mv ∧ VoP (fun b => bx < b ∧ b < W.heap.size) W iv L := by
  refine ⟨⟨by rw [x.dg]; exact Nat.zero_le _, by rw [x.ex]; exact Nat.zero_le _, by rw [x.tx]; exact isP_nil _ _, icl_isP x.mo fun b h1 h2 => ⟨by omega, h2⟩⟩, ?_⟩
  have hn := OwnV.nn x.io
  have hin := own_in x.io
  have hl := KidsC.len L cs x.ks
  have io := x.io
  obtain ⟨a, cap, rfl, h1, h2, h3⟩ := OwnV.vs x.io
  refine ⟨a, cap, by rw [← hl], by omega, h2, fun e => by subst e; exact hn _ _ rfl, fun h0 => ?_⟩
  obtain ⟨b, off, rfl, hb, hc⟩ := h3 (by omega)
  refine ⟨b, off, rfl, ⟨?_, hb⟩, voAt_mono (fun b hb => ⟨hb.1, hb.2.1⟩) L b off (kidsC_at L cs off x.ks hc)⟩
  obtain ⟨⟨_, q⟩, _⟩ := io
  rcases q with ⟨e, _⟩ | ⟨g, c, cur, e, _⟩
  · simp at e
  · simp only [Value.slice.injEq, Option.some.injEq, Addr.mk.injEq] at e
    rw [e.1.1]
    have := (hin g (by rw [e.1.1, e.1.2.1]; rfl)).1
    omega
theorem Fr.transB {pb bx : Nat} {a b c : World} (h : Fr pb a b) (k : FrB pb bx b c) (ha : a.heap.size ≤ bx) : Fr pb a c := ⟨h.lo.trans k.lo, fun j hj hn => (k.oth j (by omega) hn).trans (h.oth j hj hn)⟩
theorem Lst.shut {pb bx : Nat} {W : World} {h : Vh} {iv mv : Value} {cs : List (List Value)} {L : Vo} (x : Lst pb bx W h iv mv cs L) (z : Int) :
    VB (W.setCell ⟨bx, 7, none⟩ (.int .i64 z)) bx { h with tt := z } nilV iv mv ∧ HdP (fun b => bx < b ∧ b < W.heap.size) (W.setCell ⟨bx, 7, none⟩ (.int .i64 z)) { h with tt := z } nilV mv ∧ VoP (fun b => bx < b ∧ b < W.heap.size) (W.setCell ⟨bx, 7, none⟩ (.int .i64 z)) iv L := by
  obtain ⟨h1, h2⟩ := x.done2
  have ne : ∀ b, (bx < b ∧ b < W.heap.size) → (W.setCell ⟨bx, 7, none⟩ (.int .i64 z)).heap[b]? = W.heap[b]? := fun b hb => heap_setCell_other _ _ _ _ (by show b ≠ bx; omega)
  have k := h1.keep ne
  exact ⟨BK.setCell x.vb 7 (.int .i64 z), ⟨k.d, k.e, k.t, k.m⟩, h2.keep ne⟩
def LInv (w0 : World) (bv : Value) (Dn : Nat) (l : List UInt8) (obj : Bool) (d fr : Nat) (r : M.Toks) (R : PRes) (bx : Nat) (wa : World) (g : Nat) (wx : World) : Prop :=
  ∃ (ts' : M.Toks) (f' : Nat) (ms : List Int) (L : Vo) (ia : Option Addr) (n icap : Nat) (ma : Option Addr) (m mcap : Nat) (cs : List (List Value)) (tw' : Value), ts'.length = g ∧ ts'.length ≤ r.length ∧ TkIn l ts' ∧ 2 * ts'.length + 2 ≤ f' ∧ restP l f' obj d fr ts' ms L = R ∧
    PsW w0 bv (Dn : Int) l wx tw' ts' ∧ Lst w0.heap.size bx wx ⟨kdL obj, [], false, [], [], fr, 0, ms⟩ (.slice ia n icap) (.slice ma m mcap) cs L ∧ FrB w0.heap.size bx wa wx ∧ n + ts'.length ≤ 40000 ∧ m + ts'.length ≤ 40000 ∧ cs.length = n ∧ ms.length = m
theorem LInv.of {w0 : World} {bv : Value} {Dn : Nat} {l : List UInt8} {obj : Bool} {d fr : Nat} {r : M.Toks} {R : PRes} {bx : Nat} {wa wx : World} {ts' : M.Toks} {f' : Nat} {ms : List Int} {L : Vo} {iv mv : Value} {cs : List (List Value)} {tw' : Value} (h1 : ts'.length ≤ r.length) (h2 : TkIn l ts') (h3 : 2 * ts'.length + 2 ≤ f') (h4 : restP l f' obj d fr ts' ms L = R)
    (x : PsW w0 bv (Dn : Int) l wx tw' ts') (L1 : Lst w0.heap.size bx wx ⟨kdL obj, [], false, [], [], fr, 0, ms⟩ iv mv cs L) (F : FrB w0.heap.size bx wa wx) (c1 : L.len + ts'.length ≤ 40000) (c2 : ms.length + ts'.length ≤ 40000) : LInv w0 bv Dn l obj d fr r R bx wa ts'.length wx := by
  have hl := KidsC.len L cs L1.ks
  obtain ⟨ia, icap, rfl, -⟩ := OwnV.vs L1.io
  obtain ⟨ma, mcap, rfl, -⟩ := OwnV.vs L1.mo
  exact ⟨ts', f', ms, L, ia, cs.length, icap, ma, (icl ms).length, mcap, cs, tw', rfl, h1, h2, h3, h4, x, L1, F, by omega, by simp only [icl, List.length_map]; omega, rfl, by simp [icl]⟩
end Go.Proofs.YtbfnlgmhfhaglaaGreatDoor
/- jparse.Parse. -/
namespace Go.Proofs.YtbfnlgmhfhaglaaGreatDoor
open Go.RowKit
set_option linter.unusedVariables false
set_option linter.unusedSimpArgs false

def dpN (depth : Int) : Nat := (max 0 (min depth 60)).toNat
def parseV (l : List UInt8) (depth : Int) : Except (Int × Int) (Vh × Vo) := if (M.splitV l).2.1 = 0 then parP l (dpN depth) (M.splitV l).1 else .error ((M.splitV l).2.1, (M.splitV l).2.2)
def ParQ (R : Except (Int × Int) (Vh × Vo)) (w : World) (e : Ending) (w' : World) : Prop := match R with
  | .ok (h, kids) => ∃ tv v mv, e = .returned (.tuple #[.agg (vv h tv v mv), .agg #[.int .i64 0, .int .i64 0]]) ∧ HdP (Nw w.heap.size w') w' h tv mv ∧ VoP (Nw w.heap.size w') w' v kids ∧ Below w.heap.size w w'
  | .error x => e = .returned (.tuple #[.agg zvl.toArray, .agg #[.int .i64 x.1, .int .i64 x.2]]) ∧ Below w.heap.size w w'
theorem res_vf {fn : Func} {p q : Tmp} (h : fn.results = #[.cell p 27, .cell q 34]) (tmps : Array Value) (w : World) (g g2 : Nat) (cs ds : List Value)
    (hp : tmps.getD p undef = .pointer (some ⟨g, 0, none⟩)) (hq : tmps.getD q undef = .pointer (some ⟨g2, 0, none⟩)) (hg : BK 27 w g cs.toArray) (hs : cs.length = 9) (hg2 : BK 34 w g2 ds.toArray) (hs2 : ds.length = 2) :
    (results fn tmps).run Tryz.prog w = .ok (.tuple #[.agg cs.toArray, .agg ds.toArray]) w := by
  have e : (results fn tmps).run Tryz.prog w = ((asAddr (tmps.getD p undef)).run Tryz.prog w).andThen fun a w₁ => ((loadVar 27 a).run Tryz.prog w₁).andThen fun x w₂ => ((asAddr (tmps.getD q undef)).run Tryz.prog w₂).andThen fun b w₃ => ((loadVar 34 b).run Tryz.prog w₃).andThen fun y w₄ => .ok (.tuple #[x, y]) w₄ := by
    simp only [results, h]
    simp [Sem.run_bind, Result.andThen]
  rw [e, hp, hq]
  have a1 : (asAddr (.pointer (some ⟨g, 0, none⟩))).run Tryz.prog w = .ok ⟨g, 0, none⟩ w := rfl
  have a2 : (asAddr (.pointer (some ⟨g2, 0, none⟩))).run Tryz.prog w = .ok ⟨g2, 0, none⟩ w := rfl
  rw [a1]
  simp only [Result.andThen]
  rw [run_loadVar_mid w g 0 27 cs _ (hg.range 0 cs (by intro j u h; simpa using h)) Tryz.underlying27 rfl (by rw [hs]; exact infoV1)]
  simp only [Result.andThen]
  rw [a2]
  simp only [Result.andThen]
  rw [run_loadVar_mid w g2 0 34 ds _ (hg2.range 0 ds (by intro j u h; simpa using h)) Tryz.underlying34 rfl (by rw [hs2]; exact infoF1)]
theorem split_zero (l : List UInt8) (ts : M.Toks) (a : Int) (h : M.splitV l = (ts, 0, a)) : l.length ≤ 20000 ∧ a = 0 ∧ M.lexS l 0 = .ok ts ∧ (M.validAll l).2 = true := by
  unfold M.splitV at h
  split at h
  · simp at h
  · split at h
    · simp at h
    · cases hx : M.lexS l 0 with
      | error e => rw [hx] at h; simp at h
      | ok r =>
        rw [hx] at h
        simp only [Prod.mk.injEq] at h
        rename_i h1 h2
        exact ⟨by omega, by omega, by rw [h.1], by simpa using h2⟩
theorem cov_in (l : List UInt8) (r : M.Toks) : ∀ p, M.Cov l p r → TkIn l r := by
  induction r with
  | nil => intro p _ x hx; simp at hx
  | cons t r ih =>
    rintro p ⟨h1, h2, h3, h4, h5⟩ x hx
    rcases List.mem_cons.1 hx with rfl | hx
    · exact ⟨h2, h3⟩
    · exact ih _ h5 x hx
theorem lex_in (l : List UInt8) (r : M.Toks) (h : M.lexS l 0 = .ok r) : TkIn l r ∧ r.length ≤ l.length :=
  ⟨cov_in l r 0 (M.lex_cov l.length l 0 r (by omega) (by omega) (by simpa using h)), M.lex_len l r h⟩
theorem dpN_int (depth : Int) : ((dpN depth : Nat) : Int) = max 0 (min depth 60) ∧ dpN depth ≤ 60 := by unfold dpN; omega
end Go.Proofs.YtbfnlgmhfhaglaaGreatDoor
/- Values of any shape: when two are one, plain; == of numbers. -/
namespace Go.Proofs.YtbfnlgmhfhaglaaGreatDoor
open Go.RowKit
set_option linter.unusedVariables false
set_option linter.unusedSimpArgs false

def Vo.app : Vo → Vo → Vo
  | .nil, K => K
  | .cons h k r, K => .cons h k (r.app K)
end Go.Proofs.YtbfnlgmhfhaglaaGreatDoor
/- jparse.Same: of any two values. -/
namespace Go.Proofs.YtbfnlgmhfhaglaaGreatDoor
open Go.RowKit
set_option linter.unusedVariables false
set_option linter.unusedSimpArgs false

theorem KidsC.app {P : Nat → Prop} {w : World} {B : List (List Value)} {K : Vo} (hk : KidsC P w B K) (L : Vo) : ∀ A, KidsC P w A L → KidsC P w (A ++ B) (L.app K) := by
  induction L with
  | nil => intro A h; rw [show A = [] from h]; exact hk
  | cons k1 kids1 rest ih1 ih2 =>
    rintro A ⟨tv1, v1, mv1, L', rfl, h1, h2, h3⟩
    exact ⟨tv1, v1, mv1, L' ++ B, rfl, h1, h2, ih2 L' h3⟩
structure SmI (w : World) (wr : World) (lv rv : Value) (cs1 cs2 : List (List Value)) (L1 L2 : Vo) : Prop where
  lo : Below w.heap.size w wr
  o1 : OwnV 27 9 w.heap.size wr lv cs1
  o2 : OwnV 27 9 w.heap.size wr rv cs2
  k1 : KidsC (In w) w cs1 L1
  k2 : KidsC (In w) w cs2 L2
  ne : ∀ j, lv.ownBlock = some j → rv.ownBlock ≠ some j
theorem SmI.keep {w wr wx : World} {lv rv : Value} {cs1 cs2 : List (List Value)} {L1 L2 : Vo} (x : SmI w wr lv rv cs1 cs2 L1 L2) (hb : Below wr.heap.size wr wx) : SmI w wx lv rv cs1 cs2 L1 L2 :=
  ⟨x.lo.trans (hb.mono x.lo.size), OwnV.keep x.o1 hb, OwnV.keep x.o2 hb, x.k1, x.k2, x.ne⟩
end Go.Proofs.YtbfnlgmhfhaglaaGreatDoor
