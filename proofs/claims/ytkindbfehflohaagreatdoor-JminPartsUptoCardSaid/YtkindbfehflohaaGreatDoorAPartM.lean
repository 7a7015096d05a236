/- JminParts: the state of its loop, plain; the page's RightValue. -/
import Derived.Test.YtkindbfehflohaaGreatDoorAAlive
import Derived.Test.YtkindbfehflohaaGreatDoorARef
import Derived.Test.YtkindbfehflohaaGreatDoorWTd
namespace Go.Proofs.YtkindbfehflohaaGreatDoor
open Go.RowKit
set_option linter.unusedVariables false
set_option linter.unusedSimpArgs false

set_option maxRecDepth 100000 in
set_option maxHeartbeats 2000000 in
theorem rrtop_any (h : Vh) (kids : Vo) (tv v mv : Value) (w : World) (hC : 1 + h.tx.length + h.ms.length + VoC kids ≤ 2097152) (hL : VoL 100000 (.cons h kids .nil)) (ht : HdS w h tv mv) (hv : VoS w v kids) :
    Calls Tryz.prog 24 #[.agg (vv h tv v mv)] w fun e w' => e = .returned (.bool (rightH h kids 60)) ∧ Below w.heap.size w w' := by
  have b0 := Lib.hid ((Below.refl w.heap.size w).alloc (Nat.le_refl _) (.cells (vv h tv v mv) 33))
  have R := Lib.hid (rr_any h kids 60 _ tv v mv (by decide) hC hL (ht.below b0.out) (hv.below b0.out))
  have X := Lib.hid (VB.new w h tv v mv)
  obtain ⟨W1, hW1⟩ : ∃ x, w.alloc (.cells (vv h tv v mv) 33) = x := ⟨_, rfl⟩
  rw [hW1] at b0 R X
  have HW1 := Lib.hid hW1
  obtain ⟨a, c, rfl⟩ := hv.slice
  obtain ⟨ta, tc, htv⟩ := ht.t.slice
  obtain ⟨ma, mc, hmv⟩ := ht.m.slice
  subst htv hmv
  obtain ⟨ans, hans⟩ : ∃ b, rightH h kids 60 = b := ⟨_, rfl⟩
  rw [hans] at R ⊢
  have EXP := Lib.hid (show vv h (.slice ta h.tx.length tc) (.slice a kids.len c) (.slice ma h.ms.length mc) = #[.int .i64 h.k, .slice ta h.tx.length tc, .bool h.ng, .string (bytes h.dg), .string (bytes h.ex), .slice a kids.len c, .int .i64 h.fr, .int .i64 h.tt, .slice ma h.ms.length mc] from rfl)
  have HW2 := Lib.hid HW1.out
  rw [EXP.out] at HW2 ⊢
  clear hW1 hans hv ht hC hL HW1
  go_enter Tryz.func24, Tryz.ntmps24
  go_upto_region 1 with fail
  rw [HW2.out]
  go_wp2_with (first | (refine wpl_ldV rfl _ rfl w.heap.size 0 h _ _ _ rfl X.out.range ?_) | fail)
  refine (R.out).mono ?_
  rintro e w1 ⟨rfl, hb1⟩
  have d1 := b0.out.trans (hb1.mono b0.out.size)
  clear hb1
  go_wp2
  go_ret
  exact ⟨rfl, d1⟩
theorem ownV_frame {E sz B : Nat} {w w' : World} {v : Value} {l : List (List Value)} (h : OwnV E sz B w v l) (hf : ∀ j, v.ownBlock = some j → w'.heap[j]? = w.heap[j]?) : OwnV E sz B w' v l := by
  obtain ⟨⟨h1, h2⟩, h3, h4⟩ := h
  refine ⟨⟨h1, ?_⟩, h3, h4⟩
  rcases h2 with h2 | ⟨g, cap, cur, rfl, a, b, c⟩
  · exact .inl h2
  · exact .inr ⟨g, cap, cur, rfl, a, by rw [hf g rfl]; exact b, c⟩
theorem own_types {E1 E2 s1 s2 B : Nat} {w : World} {v1 v2 : Value} {l1 l2 : List (List Value)} (h1 : OwnV E1 s1 B w v1 l1) (h2 : OwnV E2 s2 B w v2 l2) (hne : E1 ≠ E2) : ∀ j, v1.ownBlock = some j → some j ≠ v2.ownBlock := by
  intro j hj e
  obtain ⟨⟨_, h1⟩, _⟩ := h1
  obtain ⟨⟨_, h2⟩, _⟩ := h2
  rcases h1 with ⟨rfl, _⟩ | ⟨g, cap, cur, rfl, _, b, _⟩
  · simp [Value.ownBlock] at hj
  · rcases h2 with ⟨rfl, _⟩ | ⟨g', cap', cur', rfl, _, b', _⟩
    · simp [Value.ownBlock] at e
    · simp only [Value.ownBlock, Option.some.injEq] at hj e
      subst hj
      subst e
      rw [b] at b'
      simp only [Option.some.injEq, Obj.cells.injEq] at b'
      exact hne b'.2.1
/-- The nine cells of the first i of a list that lies in memory. -/
def CellsOf (w0 : World) (L : Vo) (cs : List (List Value)) : Prop := ∀ j (hj : j < cs.length), ∃ h kids tv v mv, L.at? j = some (h, kids) ∧ HdS w0 h tv mv ∧ VoS w0 v kids ∧ cs[j] = vvl h tv v mv
def vp (fr ze : Int) : Vh := ⟨2, [], false, [], [], fr, ze, []⟩
def ic1 (l : List Int) : List (List Value) := l.map fun z => [.int .i64 z]
/-- Where the loop of JminParts stands. -/
structure Pst (w0 w1 : World) (fr ze : Int) (ml : List Int) (W : World) (iv mv wv : Value) (cs : List (List Value)) (wl : List Jp) : Prop where
  bl : Below w1.heap.size w1 W
  lo : Below w0.heap.size w0 W
  vb : VB W w1.heap.size (vp fr ze) (.slice none 0 0) iv mv
  io : OwnV 33 9 (w1.heap.size + 1) W iv cs
  mo : OwnV 3 1 (w1.heap.size + 1) W mv (ic1 ml)
  wo : OwnJ (w1.heap.size + 1) W wv wl
  hw : Below w0.heap.size w0 w1
theorem Pst.keep {w0 w1 W W' : World} {fr ze : Int} {ml : List Int} {iv mv wv : Value} {cs : List (List Value)} {wl : List Jp} (x : Pst w0 w1 fr ze ml W iv mv wv cs wl) (hb : Below W.heap.size W W') : Pst w0 w1 fr ze ml W' iv mv wv cs wl :=
  ⟨x.bl.trans (hb.mono x.bl.size), x.lo.trans (hb.mono x.lo.size), x.vb.keep hb, OwnV.keep x.io hb, OwnV.keep x.mo hb, OwnV.keep x.wo hb, x.hw⟩
theorem tne1 : 33 ≠ 3 := by decide
theorem tne2 : 33 ≠ 58 := by decide
theorem tne3 : 3 ≠ 58 := by decide
/-- want has grown. -/
theorem Pst.want {w0 w1 W W' : World} {fr ze : Int} {ml : List Int} {iv mv wv wv' : Value} {cs : List (List Value)} {wl wl' : List Jp} (x : Pst w0 w1 fr ze ml W iv mv wv cs wl) (ho : OwnJ (w1.heap.size + 1) W' wv' wl') (hb : Below (w1.heap.size + 1) W W')
    (hf : ∀ j, j < W.heap.size → some j ≠ wv.ownBlock → W'.heap[j]? = W.heap[j]?) : Pst w0 w1 fr ze ml W' iv mv wv' cs wl' :=
  ⟨x.bl.trans (hb.mono (by omega)), x.lo.trans (hb.mono (by have := x.hw.size; omega)), x.vb.frame (hb.block _ (by omega)), ownV_frame x.io fun j hj => hf j (own_in x.io j hj).2 (own_types x.io x.wo tne2 j hj), ownV_frame x.mo fun j hj => hf j (own_in x.mo j hj).2 (own_types x.mo x.wo tne3 j hj), ho, x.hw⟩
/-- The marks have grown, and are stored. -/
theorem Pst.marks {w0 w1 W W' : World} {fr ze : Int} {ml ml' : List Int} {iv mv wv mv' : Value} {cs : List (List Value)} {wl : List Jp} (x : Pst w0 w1 fr ze ml W iv mv wv cs wl) (ho : OwnV 3 1 (w1.heap.size + 1) W' mv' (ic1 ml')) (hb : Below (w1.heap.size + 1) W W')
    (hf : ∀ j, j < W.heap.size → some j ≠ mv.ownBlock → W'.heap[j]? = W.heap[j]?) : Pst w0 w1 fr ze ml' (W'.setCell ⟨w1.heap.size, 8, none⟩ mv') iv mv' wv cs wl := by
  have hv := x.vb.frame (hb.block _ (by omega))
  have ne : ∀ {E s : Nat} {v : Value} {l : List (List Value)}, OwnV E s (w1.heap.size + 1) W' v l → v.ownBlock ≠ some w1.heap.size := fun h e => by have := (own_in h _ e).1; omega
  have i1 := ownV_frame x.io (w' := W') fun j hj => hf j (own_in x.io j hj).2 (own_types x.io x.mo tne1 j hj)
  have w1' := ownV_frame x.wo (w' := W') fun j hj => hf j (own_in x.wo j hj).2 (fun e => own_types x.mo x.wo tne3 j e.symm hj.symm)
  refine ⟨(x.bl.trans (hb.mono (by omega))).setCell (p := ⟨w1.heap.size, 8, none⟩) (Nat.le_refl _) mv', (x.lo.trans (hb.mono (by have := x.hw.size; omega))).setCell (p := ⟨w1.heap.size, 8, none⟩) x.hw.size mv', ?_, OwnV.setOther i1 _ _ (ne i1), OwnV.setOther ho _ _ (ne ho), OwnV.setOther w1' _ _ (ne w1'), x.hw⟩
  exact BK.setCell hv 8 mv'
/-- The items have grown, and are stored. -/
theorem Pst.items {w0 w1 W W' : World} {fr ze : Int} {ml : List Int} {iv mv wv iv' : Value} {cs cs' : List (List Value)} {wl : List Jp} (x : Pst w0 w1 fr ze ml W iv mv wv cs wl) (ho : OwnV 33 9 (w1.heap.size + 1) W' iv' cs') (hb : Below (w1.heap.size + 1) W W')
    (hf : ∀ j, j < W.heap.size → some j ≠ iv.ownBlock → W'.heap[j]? = W.heap[j]?) : Pst w0 w1 fr ze ml (W'.setCell ⟨w1.heap.size, 5, none⟩ iv') iv' mv wv cs' wl := by
  have hv := x.vb.frame (hb.block _ (by omega))
  have ne : ∀ {E s : Nat} {v : Value} {l : List (List Value)}, OwnV E s (w1.heap.size + 1) W' v l → v.ownBlock ≠ some w1.heap.size := fun h e => by have := (own_in h _ e).1; omega
  have m1 := ownV_frame x.mo (w' := W') fun j hj => hf j (own_in x.mo j hj).2 (fun e => own_types x.io x.mo tne1 j e.symm hj.symm)
  have w1' := ownV_frame x.wo (w' := W') fun j hj => hf j (own_in x.wo j hj).2 (fun e => own_types x.io x.wo tne2 j e.symm hj.symm)
  refine ⟨(x.bl.trans (hb.mono (by omega))).setCell (p := ⟨w1.heap.size, 5, none⟩) (Nat.le_refl _) iv', (x.lo.trans (hb.mono (by have := x.hw.size; omega))).setCell (p := ⟨w1.heap.size, 5, none⟩) x.hw.size iv', ?_, OwnV.setOther ho _ _ (ne ho), OwnV.setOther m1 _ _ (ne m1), OwnV.setOther w1' _ _ (ne w1'), x.hw⟩
  exact BK.setCell hv 5 iv'
theorem ic1_len (l : List Int) : ∀ y ∈ ic1 l, y.length = 1 := by
  intro y hy; obtain ⟨p, _, rfl⟩ := List.mem_map.1 hy; rfl
/-- The marks' row is a slice of those ints. -/
theorem ic1_isP {B : Nat} {W : World} {mv : Value} {ml : List Int} (h : OwnV 3 1 B W mv (ic1 ml)) : IsP (In W) W mv ml := by
  have hn := OwnV.nn h
  obtain ⟨a, cap, rfl, h1, h2, h3⟩ := OwnV.vs h
  have hl : (ic1 ml).length = ml.length := by simp [ic1]
  refine ⟨a, cap, by rw [hl], by omega, h2, fun e => by subst e; exact hn _ _ rfl, fun h0 => ?_⟩
  obtain ⟨b, off, rfl, hb, hc⟩ := h3 (by omega)
  refine ⟨b, off, rfl, hb, fun j hj => ?_⟩
  have := hc j (by omega) 0 (.int .i64 ml[j]) (by simp [ic1])
  rw [Nat.mul_one, Nat.add_zero] at this
  exact this
/-- The items' row is a slice of those values. -/
theorem items_vos {B : Nat} {w0 W : World} {iv : Value} {L : Vo} {cs : List (List Value)} (h : OwnV 33 9 B W iv cs) (hc : CellsOf w0 L cs) (hn : cs.length = L.len) (hlo : Below w0.heap.size w0 W) : VoS W iv L := by
  have hnn := OwnV.nn h
  obtain ⟨a, cap, rfl, h1, h2, h3⟩ := OwnV.vs h
  refine ⟨a, cap, by rw [← hn], by omega, h2, fun e => by subst e; exact hnn _ _ rfl, fun h0 => ?_⟩
  obtain ⟨b, off, rfl, hb, hcc⟩ := h3 (by omega)
  refine ⟨b, off, rfl, hb, ?_⟩
  have key : ∀ (R : Vo) (i : Nat), (∀ j, R.at? j = L.at? (i + j)) → i + R.len = cs.length → VoAt (In W) W R b (off + i * 9) := by
    intro R
    induction R with
    | nil => intro i _ _; trivial
    | cons h' kids rest _ ih =>
      intro i hat hlen
      simp only [Vo.len] at hlen
      obtain ⟨h2', kids2, tv, v, mv, e1, e2, e3, e4⟩ := hc i (by omega)
      have e0 := hat 0
      rw [Nat.add_zero, e1] at e0
      simp only [Vo.at?, Option.some.injEq, Prod.mk.injEq] at e0
      obtain ⟨rfl, rfl⟩ := e0
      have e3' := e3.below hlo
      obtain ⟨a', cap', rfl, q1, q2, q3, q4⟩ := e3'
      refine ⟨⟨tv, mv, a', cap', e2.below hlo, fun u x hx => ?_, q1, q2, q3, q4⟩, ?_⟩
      · have := hcc i (by omega) u x (by rw [e4]; exact hx)
        rw [← Nat.add_assoc] at this
        exact this
      · have := ih (i + 1) (fun j => by have := hat (j + 1); rw [show i + 1 + j = i + (j + 1) by omega]; exact this) (by omega)
        rw [show off + (i + 1) * 9 = off + i * 9 + 9 by omega] at this
        exact this
  have := key L 0 (fun j => by rw [Nat.zero_add]) (by omega)
  rw [Nat.zero_mul, Nat.add_zero] at this
  exact this
end Go.Proofs.YtkindbfehflohaaGreatDoor
