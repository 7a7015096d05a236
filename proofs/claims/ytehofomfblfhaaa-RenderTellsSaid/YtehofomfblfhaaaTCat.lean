/- doc.Cat of any documents. -/
import Derived.Test.YtehofomfblfhaaaTCatM
import Derived.Deep.LoopGhost
import Derived.Deep.DeepCutAuto
namespace Go.Proofs.Ytehofomfblfhaaa
open Go.RowKit
set_option linter.unusedVariables false
set_option linter.unusedSimpArgs false

/-- What slices.Clone gives of any documents: a slice with the same cells. -/
def CloneOf (n : Nat) (ua : Option Addr) (w : World) (e : Ending) (w' : World) : Prop :=
  ∃ a' c', e = .returned (.slice a' n c') ∧ n ≤ c' ∧ c' ≤ maxLen ∧ (a' = none → c' = 0) ∧ Below w.heap.size w w' ∧ (0 < n → ∃ b off g, ua = some ⟨b, off, none⟩ ∧ a' = some ⟨g, 0, none⟩ ∧ w.heap.size ≤ g ∧ DocB w' g ∧ ∀ j, j < n * 4 → w'.cell? ⟨g, 0 + j, none⟩ = w'.cell? ⟨b, off + j, none⟩)
theorem nil_or_snoc {α : Type} (G : List α) : G = [] ∨ ∃ l b, G = l ++ [b] := by
  rcases List.eq_nil_or_concat G with h | ⟨l, b, h⟩
  · exact .inl h
  · exact .inr ⟨l, b, by rw [h, List.concat_eq_append]⟩
/-- The list of lists that are still the arguments'. -/
def FoNs : List (Value × Fo) → Nat
  | [] => 0
  | x :: r => 1 + FoN x.2 + FoNs r
theorem foNs_append (l k : List (Value × Fo)) : FoNs (l ++ k) = FoNs l + FoNs k := by
  induction l with
  | nil => simp [FoNs]
  | cons x l ih => simp only [List.cons_append, FoNs, ih]; omega
theorem foNs_len (l : List (Value × Fo)) : l.length ≤ FoNs l := by
  induction l with
  | nil => exact Nat.le_refl _
  | cons x l ih => simp only [List.length_cons, FoNs]; omega
def WLi (N b5 : Nat) (w : World) (x : Value × Fo) : Prop := FoP (PW N b5 w) w x.1 x.2 ∧ (0 < x.2.len → ∃ g c, x.1 = .slice (some ⟨g, 0, none⟩) x.2.len c ∧ N < g)
theorem WLi.step {N b5 : Nat} {w w' : World} {x : Value × Fo} (h : WLi N b5 w x) (k : KP N b5 w w') : WLi N b5 w' x := ⟨k.fo _ _ h.1, h.2⟩
/-- A world on the way. -/
structure CatF (w : World) (b5 bB : Nat) (v1 : Value) (L : Fo) (k : Int) (wr : World) : Prop where
  fo : FoP (PW w.heap.size b5 wr) wr v1 L
  d5 : DB wr b5 (dv k 0 ⟨#[]⟩ v1)
  dw : DB wr w.heap.size (dv 0 0 ⟨#[]⟩ (.slice none 0 0))
  bl : Below w.heap.size w wr
  bB : bB ≤ wr.heap.size
theorem pw_lt {N b5 : Nat} {w : World} {b : Nat} (h : PW N b5 w b) (hN : N ≤ w.heap.size) : b < w.heap.size := by
  rcases h with h | ⟨_, _, h⟩
  · omega
  · exact h.lt
theorem FoP.fos {N b5 : Nat} {w : World} {v : Value} {L : Fo} (h : FoP (PW N b5 w) w v L) (hN : N ≤ w.heap.size) : FoS w v L := (h.mono fun b hb => pw_lt hb hN).to
theorem foPA_get {P : Nat → Prop} {w : World} (L : Fo) : ∀ b off j k f s kids, FoPA P w L b off → L.at? j = some (k, f, s, kids) →
    ∃ v, w.cell? ⟨b, off + (j * 4 + 3), none⟩ = some v ∧ FoP P w v kids := by
  induction L with
  | nil => intro b off j k f s kids _ h; simp [Fo.at?] at h
  | cons k0 f0 s0 kids0 rest ih1 ih2 =>
    intro b off j k f s kids h hj
    obtain ⟨⟨hs, c0, c1, c2, a, cap, c3, h1, h2, h3, h4⟩, h5⟩ := h
    cases j with
    | zero =>
      simp only [Fo.at?, Option.some.injEq, Prod.mk.injEq] at hj
      obtain ⟨rfl, rfl, rfl, rfl⟩ := hj
      simp only [Nat.zero_mul, Nat.zero_add]
      exact ⟨_, c3, a, cap, rfl, h1, h2, h3, h4⟩
    | succ j =>
      have := ih2 b (off + 4) j k f s kids h5 hj
      rw [show off + ((j + 1) * 4 + 3) = off + 4 + (j * 4 + 3) by omega]
      exact this
/-- On the way through one list: what is left of it, what was put behind. -/
def InF (F R : Fo) (j : Nat) (D : List (Value × Fo)) : Prop := R.len + j = F.len ∧ (∀ i, R.at? i = F.at? (j + i)) ∧ FoNs D + FoN R = FoN F
theorem InF.go {F rest kids : Fo} {k f : Int} {s : ByteArray} {j : Nat} {D : List (Value × Fo)} (h : InF F (.cons k f s kids rest) j D) (u : Value) : InF F rest (j + 1) (D ++ [(u, kids)]) ∧ F.at? j = some (k, f, s, kids) := by
  obtain ⟨h1, h2, h3⟩ := h
  simp only [Fo.len, FoN] at h1 h3
  refine ⟨⟨by omega, fun i => ?_, ?_⟩, (h2 0).symm⟩
  · have := h2 (i + 1)
    rw [show j + (i + 1) = j + 1 + i by omega] at this
    exact this
  · rw [foNs_append]
    simp only [FoNs]
    omega
theorem ownL_ne {B : Nat} {w : World} {v : Value} {l : List Value} (h : OwnL B w v l) {b : Nat} (hb : DocB w b) : some b ≠ v.ownBlock := by
  intro hj
  obtain ⟨⟨_, ⟨rfl, _⟩ | ⟨g, cap, cur, rfl, _, hh, _⟩⟩, _⟩ := h
  · simp [Value.ownBlock] at hj
  · simp [Value.ownBlock] at hj
    subst hj
    obtain ⟨cs, hb⟩ := hb
    rw [hh] at hb
    simp at hb
theorem ownL_lt' {B : Nat} {w : World} {v : Value} {l : List Value} (h : OwnL B w v l) : ∀ j, v.ownBlock = some j → B ≤ j ∧ j < w.heap.size := fun j hj => World.ownsRow.lt h.1 j hj
section
variable {w wr w1 w2 w3 : World} {b5 bB : Nat} {v1 : Value} {L : Fo} {k : Int}
theorem CatF.below (h : CatF w b5 bB v1 L k wr) (hb : Below wr.heap.size wr w1) : CatF w b5 bB v1 L k w1 ∧ KP w.heap.size b5 wr w1 := by
  have hk := KP.of_below (N := w.heap.size) (b5 := b5) hb h.bl.size
  exact ⟨⟨hk.fo _ _ h.fo, h.d5.keep hb h.d5.lt, h.dw.keep hb h.dw.lt, h.bl.trans (hb.mono h.bl.size), Nat.le_trans h.bB hb.size⟩, hk⟩
theorem CatF.store {g o : Nat} {ua ua' : Option Addr} {un uc uc' : Nat} (h : CatF w b5 bB v1 L k wr) (hg : w.heap.size < g) (hg5 : g ≠ b5) (hc : wr.cell? ⟨g, o, none⟩ = some (.slice ua un uc)) (hn : un ≤ uc') (hm : uc' ≤ maxLen) (hz : ua' = none → uc' = 0)
    (H : ∀ K, FoP (PW w.heap.size b5 wr) wr (.slice ua un uc) K → FoP (PW w.heap.size b5 wr) wr (.slice ua' un uc') K) :
    CatF w b5 bB v1 L k (wr.setCell ⟨g, o, none⟩ (.slice ua' un uc')) ∧ KP w.heap.size b5 wr (wr.setCell ⟨g, o, none⟩ (.slice ua' un uc')) := by
  have hk := KP.of_store hc hn hm hz H
  exact ⟨⟨hk.fo _ _ h.fo, h.d5.other (fun e => hg5 e.symm) _ _, h.dw.other (by omega) _ _, h.bl.setCell (Nat.le_of_lt hg) _, by have := h.bB; simpa using this⟩, hk⟩
theorem CatF.append {sv : Value} {l : List Value} (h : CatF w b5 bB v1 L k wr) (ho : OwnL bB wr sv l) (h5 : b5 < bB) (hw : w.heap.size < bB) (hb : Below bB wr w1) (hf : ∀ j, j < wr.heap.size → some j ≠ sv.ownBlock → w1.heap[j]? = wr.heap[j]?) :
    CatF w b5 bB v1 L k w1 ∧ KP w.heap.size b5 wr w1 := by
  have hk : KP w.heap.size b5 wr w1 := .of_frame fun b hb' => by
    refine hf b (pw_lt hb' h.bl.size) ?_
    rcases hb' with hb' | ⟨_, _, hb'⟩
    · intro e
      have := (ownL_lt' ho b e.symm).1
      omega
    · exact ownL_ne ho hb'
  exact ⟨⟨hk.fo _ _ h.fo, h.d5.keep hb h5, h.dw.keep hb hw, h.bl.trans (hb.mono (Nat.le_of_lt hw)), Nat.le_trans h.bB hb.size⟩, hk⟩
end
/-- A clone reads as what it was made of. -/
theorem clone_reads {N b5 : Nat} {w w' : World} {ua a' : Option Addr} {n uc c' : Nat} (h1 : n ≤ c') (h2 : c' ≤ maxLen) (h3 : a' = none → c' = 0) (hN : N < w.heap.size) (h5 : ∀ g, w.heap.size ≤ g → DocB w' g → g ≠ b5)
    (hc : 0 < n → ∃ b off g, ua = some ⟨b, off, none⟩ ∧ a' = some ⟨g, 0, none⟩ ∧ w.heap.size ≤ g ∧ DocB w' g ∧ ∀ j, j < n * 4 → w'.cell? ⟨g, 0 + j, none⟩ = w'.cell? ⟨b, off + j, none⟩) :
    ∀ K, FoP (PW N b5 w') w' (.slice ua n uc) K → FoP (PW N b5 w') w' (.slice a' n c') K := by
  intro K ⟨a0, c0, e0, k1, k2, k3, k4⟩
  simp only [Value.slice.injEq] at e0
  obtain ⟨rfl, rfl, rfl⟩ := e0
  refine ⟨a', c', rfl, h1, h2, h3, fun h0 => ?_⟩
  obtain ⟨b, off, g, e1, e2, e3, e4, e5⟩ := hc h0
  obtain ⟨b', off', e6, hp, hk⟩ := k4 h0
  rw [e1] at e6
  simp only [Option.some.injEq, Addr.mk.injEq, and_true] at e6
  obtain ⟨rfl, rfl⟩ := e6
  exact ⟨g, 0, e2, .inr ⟨by omega, h5 g e3 e4, e4⟩, foPA_copy K b off g 0 e5 hk⟩
end Go.Proofs.Ytehofomfblfhaaa
