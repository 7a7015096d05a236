/- Texts of ours in one: ZLst. -/
import Derived.Test.YtbfnlgmhfhaglaaGreatDoorQk17
/- jparse: a list of values that is being read: its box, the row of its items, the row of its marks. -/
namespace Go.Proofs.YtbfnlgmhfhaglaaGreatDoor
open Go.RowKit
set_option linter.unusedVariables false
set_option linter.unusedSimpArgs false

theorem ownV_frame' {E sz B : Nat} {w w' : World} {v : Value} {l : List (List Value)} (h : OwnV E sz B w v l) (hf : ∀ j, v.ownBlock = some j → w'.heap[j]? = w.heap[j]?) : OwnV E sz B w' v l := by
  obtain ⟨⟨h1, h2⟩, h3, h4⟩ := h
  refine ⟨⟨h1, ?_⟩, h3, h4⟩
  rcases h2 with h2 | ⟨g, cap, cur, rfl, a, b, c⟩
  · exact .inl h2
  · exact .inr ⟨g, cap, cur, rfl, a, by rw [hf g rfl]; exact b, c⟩
theorem own_types' {E1 E2 s1 s2 B : Nat} {w : World} {v1 v2 : Value} {l1 l2 : List (List Value)} (h1 : OwnV E1 s1 B w v1 l1) (h2 : OwnV E2 s2 B w v2 l2) (hne : E1 ≠ E2) : ∀ j, v1.ownBlock = some j → some j ≠ v2.ownBlock := by
  intro j hj e
  obtain ⟨⟨_, h1⟩, _⟩ := h1
  obtain ⟨⟨_, h2⟩, _⟩ := h2
  rcases h1 with ⟨rfl, _⟩ | ⟨g, cap, cur, rfl, _, b, _⟩
  · simp [Value.ownBlock] at hj
  · rcases h2 with ⟨rfl, _⟩ | ⟨g', cap', cur', rfl, _, b', _⟩
    · simp [Value.ownBlock] at e
    · simp only [Value.ownBlock, Option.some.injEq] at hj e
      subst hj
      subst e
      rw [b] at b'
      simp only [Option.some.injEq, Obj.cells.injEq] at b'
      exact hne b'.2.1
theorem tneVI : 27 ≠ 3 := by decide
def icl (l : List Int) : List (List Value) := l.map fun z => [.int .i64 z]
def KidsC (P : Nat → Prop) (w : World) : List (List Value) → Vo → Prop
  | L, .nil => L = []
  | L, .cons h kids rest => ∃ tv v mv L', L = vvl h tv v mv :: L' ∧ HdP P w h tv mv ∧ VoP P w v kids ∧ KidsC P w L' rest
theorem KidsC.keep {P P' : Nat → Prop} {w w' : World} (hf : ∀ b, P b → w'.heap[b]? = w.heap[b]?) (hP : ∀ b, P b → P' b) (F : Vo) : ∀ L, KidsC P w L F → KidsC P' w' L F := by
  induction F with
  | nil => intro L h; exact h
  | cons k kids rest ih1 ih2 =>
    rintro L ⟨tv, v, mv, L', rfl, h1, h2, h3⟩
    exact ⟨tv, v, mv, L', rfl, (h1.keep hf).mono hP, (h2.keep hf).mono hP, ih2 L' h3⟩
theorem KidsC.len {P : Nat → Prop} {w : World} (F : Vo) : ∀ L, KidsC P w L F → L.length = F.len := by
  induction F with
  | nil => intro L h; rw [show L = [] from h]; rfl
  | cons k kids rest ih1 ih2 =>
    rintro L ⟨tv, v, mv, L', rfl, h1, h2, h3⟩
    simp only [List.length_cons, Vo.len, ih2 L' h3]
theorem KidsC.snoc {P : Nat → Prop} {w : World} {h : Vh} {tv v mv : Value} {kids : Vo} (hd : HdP P w h tv mv) (hv : VoP P w v kids) (F : Vo) : ∀ L, KidsC P w L F → KidsC P w (L ++ [vvl h tv v mv]) (F.snoc h kids) := by
  induction F with
  | nil => intro L h; rw [show L = [] from h]; exact ⟨tv, v, mv, [], rfl, hd, hv, rfl⟩
  | cons k1 kids1 rest ih1 ih2 =>
    rintro L ⟨tv1, v1, mv1, L', rfl, h1, h2, h3⟩
    exact ⟨tv1, v1, mv1, L' ++ [vvl h tv v mv], rfl, h1, h2, ih2 L' h3⟩
theorem kidsC_at {P : Nat → Prop} {w : World} {b : Nat} (F : Vo) : ∀ L off, KidsC P w L F → (∀ j (h : j < L.length) i u, L[j][i]? = some u → w.cell? ⟨b, off + (j * 9 + i), none⟩ = some u) → VoAt P w F b off := by
  induction F with
  | nil => intro L off _ _; trivial
  | cons h kids rest ih1 ih2 =>
    rintro L off ⟨tv, v, mv, L', rfl, h1, h2, h3⟩ hc
    obtain ⟨a, cap, rfl, p1, p2, p3, p4⟩ := h2
    refine ⟨⟨tv, mv, a, cap, h1, fun i u hu => ?_, p1, p2, p3, p4⟩, ih2 L' (off + 9) h3 fun j hj i u hu => ?_⟩
    · have := hc 0 (by simp) i u hu
      rw [Nat.zero_mul, Nat.zero_add] at this
      exact this
    · have := hc (j + 1) (by simp only [List.length_cons]; omega) i u (by simpa using hu)
      rw [show off + ((j + 1) * 9 + i) = off + 9 + (j * 9 + i) by omega] at this
      exact this
theorem kidsC_nine {P : Nat → Prop} {w : World} (F : Vo) : ∀ L, KidsC P w L F → ∀ y ∈ L, y.length = 9 ∧ ∀ c ∈ y, c.oneCell' = true := by
  induction F with
  | nil => intro L h; rw [show L = [] from h]; simp
  | cons h kids rest ih1 ih2 =>
    rintro L ⟨tv, v, mv, L', rfl, h1, h2, h3⟩ y hy
    rcases List.mem_cons.1 hy with rfl | hy
    · refine ⟨rfl, fun c hc => ?_⟩
      have a1 := h1.t.one
      have a2 := h1.m.one
      have a3 := h2.one
      simp only [vvl, List.mem_cons, List.mem_nil_iff, or_false] at hc
      rcases hc with rfl | rfl | rfl | rfl | rfl | rfl | rfl | rfl | rfl
      all_goals first | rfl | assumption
    · exact ih2 L' h3 y hy
def Pk (bx : Nat) (W : World) (iv mv : Value) (b : Nat) : Prop := bx < b ∧ b < W.heap.size ∧ iv.ownBlock ≠ some b ∧ mv.ownBlock ≠ some b
structure Lst (pb bx : Nat) (W : World) (h : Vh) (iv mv : Value) (cs : List (List Value)) (L : Vo) : Prop where
  vb : VB W bx h nilV iv mv
  tx : h.tx = []
  dg : h.dg = []
  ex : h.ex = []
  lt : pb < bx
  io : OwnV 27 9 (bx + 1) W iv cs
  ks : KidsC (Pk bx W iv mv) W cs L
  mo : OwnV 3 1 (bx + 1) W mv (icl h.ms)
structure FrB (pb bx : Nat) (w w' : World) : Prop where
  lo : Below pb w w'
  oth : ∀ j, j < bx → j ≠ pb → w'.heap[j]? = w.heap[j]?
theorem FrB.refl (pb bx : Nat) (w : World) : FrB pb bx w w := ⟨Below.refl _ _, fun _ _ _ => rfl⟩
theorem FrB.trans {pb bx : Nat} {a b c : World} (h : FrB pb bx a b) (k : FrB pb bx b c) : FrB pb bx a c := ⟨h.lo.trans k.lo, fun j hj hn => (k.oth j hj hn).trans (h.oth j hj hn)⟩
theorem Fr.box {pb bx : Nat} {w w' : World} (h : Fr pb w w') (hb : bx ≤ w.heap.size) : FrB pb bx w w' := ⟨h.lo, fun j hj hn => h.oth j (by omega) hn⟩
theorem Lst.fr {pb bx : Nat} {W W' : World} {h : Vh} {iv mv : Value} {cs : List (List Value)} {L : Vo} (x : Lst pb bx W h iv mv cs L) (f : Fr pb W W') : Lst pb bx W' h iv mv cs L := by
  have lt := x.lt
  have lb := x.vb.lt
  refine ⟨x.vb.frame (f.oth _ lb (by omega)), x.tx, x.dg, x.ex, x.lt, ownV_frame' x.io fun j hj => ?_, x.ks.keep (fun b hb => ?_) (fun b hb => ?_), ownV_frame' x.mo fun j hj => ?_⟩
  · have := own_in x.io j hj; exact f.oth j this.2 (by omega)
  · exact f.oth b hb.2.1 (by have := hb.1; omega)
  · exact ⟨hb.1, Nat.lt_of_lt_of_le hb.2.1 f.lo.size, hb.2.2.1, hb.2.2.2⟩
  · have := own_in x.mo j hj; exact f.oth j this.2 (by omega)
theorem Lst.push {pb bx : Nat} {W W' : World} {h h2 : Vh} {iv mv iv' tv2 v2 mv2 : Value} {cs : List (List Value)} {L kids : Vo} (x : Lst pb bx W h iv mv cs L) {Q : Nat → Prop} (hd : HdP Q W h2 tv2 mv2) (hv : VoP Q W v2 kids)
    (hQ : ∀ b, Q b → Pk bx W iv mv b) (ho : OwnV 27 9 (bx + 1) W' iv' (cs ++ [vvl h2 tv2 v2 mv2])) (hb : Below (bx + 1) W W') (hf : ∀ j, j < W.heap.size → some j ≠ iv.ownBlock → W'.heap[j]? = W.heap[j]?) (hw : iv'.ownBlock = iv.ownBlock ∨ iv'.ownBlock = some W.heap.size) :
    Lst pb bx (W'.setCell ⟨bx, 5, none⟩ iv') h iv' mv (cs ++ [vvl h2 tv2 v2 mv2]) (L.snoc h2 kids) ∧ FrB pb bx W (W'.setCell ⟨bx, 5, none⟩ iv') := by
  have lt := x.lt
  have lb := x.vb.lt
  have hv1 := x.vb.frame (hb.block _ (by omega))
  have ne : ∀ {E s : Nat} {v : Value} {l : List (List Value)}, OwnV E s (bx + 1) W' v l → v.ownBlock ≠ some bx := fun h e => by have := (own_in h _ e).1; omega
  have m1 := ownV_frame' x.mo (w' := W') fun j hj => hf j (own_in x.mo j hj).2 (fun e => own_types' x.io x.mo tneVI j e.symm hj.symm)
  have nb : ∀ b, Pk bx W iv mv b → W'.heap[b]? = W.heap[b]? := fun b hp => hf b hp.2.1 (fun e => hp.2.2.1 e.symm)
  have nP : ∀ b, Pk bx W iv mv b → Pk bx (W'.setCell ⟨bx, 5, none⟩ iv') iv' mv b := fun b hp => ⟨hp.1, by rw [World.size_setCell]; exact Nat.lt_of_lt_of_le hp.2.1 hb.size, (by
    rcases hw with e | e
    · rw [e]; exact hp.2.2.1
    · rw [e]; intro e2; simp only [Option.some.injEq] at e2; have := hp.2.1; omega), hp.2.2.2⟩
  have nc : ∀ b, Pk bx W iv mv b → (W'.setCell ⟨bx, 5, none⟩ iv').heap[b]? = W.heap[b]? := fun b hp => by
    rw [heap_setCell_other _ _ _ _ (by show b ≠ bx; have := hp.1; omega)]; exact nb b hp
  refine ⟨⟨BK.setCell hv1 5 iv', x.tx, x.dg, x.ex, x.lt, OwnV.setOther ho _ _ (ne ho), ?_, OwnV.setOther m1 _ _ (ne m1)⟩, ?_⟩
  · exact KidsC.snoc ((hd.mono hQ |>.keep nc).mono nP) ((hv.mono hQ |>.keep nc).mono nP) L cs (x.ks.keep nc nP)
  · refine ⟨(hb.mono (by omega)).setCell (p := ⟨bx, 5, none⟩) (by show pb ≤ bx; omega) iv', fun j hj hn => ?_⟩
    rw [heap_setCell_other _ _ _ _ (by show j ≠ bx; omega)]
    exact hb.block j (by omega)
theorem Lst.mark {pb bx : Nat} {W W' : World} {h : Vh} {iv mv mv' : Value} {cs : List (List Value)} {L : Vo} {z : Int} (x : Lst pb bx W h iv mv cs L)
    (ho : OwnV 3 1 (bx + 1) W' mv' (icl (h.ms ++ [z]))) (hb : Below (bx + 1) W W') (hf : ∀ j, j < W.heap.size → some j ≠ mv.ownBlock → W'.heap[j]? = W.heap[j]?) (hw : mv'.ownBlock = mv.ownBlock ∨ mv'.ownBlock = some W.heap.size) :
    Lst pb bx (W'.setCell ⟨bx, 8, none⟩ mv') { h with ms := h.ms ++ [z] } iv mv' cs L ∧ FrB pb bx W (W'.setCell ⟨bx, 8, none⟩ mv') := by
  have lt := x.lt
  have lb := x.vb.lt
  have hv1 := x.vb.frame (hb.block _ (by omega))
  have ne : ∀ {E s : Nat} {v : Value} {l : List (List Value)}, OwnV E s (bx + 1) W' v l → v.ownBlock ≠ some bx := fun h e => by have := (own_in h _ e).1; omega
  have i1 := ownV_frame' x.io (w' := W') fun j hj => hf j (own_in x.io j hj).2 (own_types' x.io x.mo tneVI j hj)
  have nb : ∀ b, Pk bx W iv mv b → W'.heap[b]? = W.heap[b]? := fun b hp => hf b hp.2.1 (fun e => hp.2.2.2 e.symm)
  have nP : ∀ b, Pk bx W iv mv b → Pk bx (W'.setCell ⟨bx, 8, none⟩ mv') iv mv' b := fun b hp => ⟨hp.1, by rw [World.size_setCell]; exact Nat.lt_of_lt_of_le hp.2.1 hb.size, hp.2.2.1, (by
    rcases hw with e | e
    · rw [e]; exact hp.2.2.2
    · rw [e]; intro e2; simp only [Option.some.injEq] at e2; have := hp.2.1; omega)⟩
  have nc : ∀ b, Pk bx W iv mv b → (W'.setCell ⟨bx, 8, none⟩ mv').heap[b]? = W.heap[b]? := fun b hp => by
    rw [heap_setCell_other _ _ _ _ (by show b ≠ bx; have := hp.1; omega)]; exact nb b hp
  refine ⟨⟨BK.setCell hv1 8 mv', x.tx, x.dg, x.ex, x.lt, OwnV.setOther i1 _ _ (ne i1), x.ks.keep nc nP, OwnV.setOther ho _ _ (ne ho)⟩, ?_⟩
  · refine ⟨(hb.mono (by omega)).setCell (p := ⟨bx, 8, none⟩) (by show pb ≤ bx; omega) mv', fun j hj hn => ?_⟩
    rw [heap_setCell_other _ _ _ _ (by show j ≠ bx; omega)]
    exact hb.block j (by omega)
theorem icl_isP {B : Nat} {P : Nat → Prop} {W : World} {mv : Value} {ml : List Int} (h : OwnV 3 1 B W mv (icl ml)) (hP : ∀ b, B ≤ b → b < W.heap.size → P b) : IsP P W mv ml := by
  have hn := OwnV.nn h
  have hin := own_in h
  obtain ⟨a, cap, rfl, h1, h2, h3⟩ := OwnV.vs h
  have hl : (icl ml).length = ml.length := by simp [icl]
  refine ⟨a, cap, by rw [hl], by omega, h2, fun e => by subst e; exact hn _ _ rfl, fun h0 => ?_⟩
  obtain ⟨b, off, rfl, hb, hc⟩ := h3 (by omega)
  refine ⟨b, off, rfl, hP b ?_ hb, fun j hj => ?_⟩
  · obtain ⟨⟨_, q⟩, _⟩ := h
    rcases q with ⟨e, _⟩ | ⟨g, c, cur, e, _⟩
    · simp at e
    · simp only [Value.slice.injEq, Option.some.injEq, Addr.mk.injEq] at e
      rw [e.1.1]
      have := (hin g (by rw [e.1.1, e.1.2.1]; rfl)).1
      exact this
  · have := hc j (by omega) 0 (.int .i64 ml[j]) (by simp [icl])
    rw [Nat.mul_one, Nat.add_zero] at this
    exact this
end Go.Proofs.YtbfnlgmhfhaglaaGreatDoor
