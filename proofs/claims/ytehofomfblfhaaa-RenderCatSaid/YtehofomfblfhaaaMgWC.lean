/- Several texts of ours in one: TCatM TCat TCat2. -/
import Derived.Test.YtehofomfblfhaaaMgWF
import Derived.Test.YtehofomfblfhaaaVAppG
import Derived.Deep.LoopGhost
import Derived.Deep.DeepCutAuto
import Derived.Test.YtehofomfblfhaaaTDoc5
/- doc.Cat of any documents: what it does to memory, plain side. -/
namespace Go.Proofs.Ytehofomfblfhaaa
open Go.RowKit
set_option linter.unusedVariables false
set_option linter.unusedSimpArgs false

/-- A list of documents in memory, its kids in blocks of some kind. -/
def FoPA (P : Nat → Prop) (w : World) : Fo → Nat → Nat → Prop
  | .nil, _, _ => True
  | .cons k f s kids rest, b, off => (s.size ≤ maxLen ∧ w.cell? ⟨b, off, none⟩ = some (.int .i64 k) ∧ w.cell? ⟨b, off + 1, none⟩ = some (.int .i64 f) ∧ w.cell? ⟨b, off + 2, none⟩ = some (.string s) ∧
      ∃ a cap, w.cell? ⟨b, off + 3, none⟩ = some (.slice a kids.len cap) ∧ kids.len ≤ cap ∧ cap ≤ maxLen ∧ (a = none → cap = 0) ∧ (0 < kids.len → ∃ b' off', a = some ⟨b', off', none⟩ ∧ P b' ∧ FoPA P w kids b' off')) ∧
      FoPA P w rest b (off + 4)
def FoP (P : Nat → Prop) (w : World) (v : Value) (L : Fo) : Prop :=
  ∃ a cap, v = .slice a L.len cap ∧ L.len ≤ cap ∧ cap ≤ maxLen ∧ (a = none → cap = 0) ∧ (0 < L.len → ∃ b off, a = some ⟨b, off, none⟩ ∧ P b ∧ FoPA P w L b off)
theorem foPA_mono {P Q : Nat → Prop} {w : World} (h : ∀ b, P b → Q b) (L : Fo) : ∀ b off, FoPA P w L b off → FoPA Q w L b off := by
  induction L with
  | nil => intros; trivial
  | cons k f s kids rest ih1 ih2 =>
    intro b off ⟨⟨hs, c0, c1, c2, a, cap, c3, h1, h2, h3, h4⟩, h5⟩
    refine ⟨⟨hs, c0, c1, c2, a, cap, c3, h1, h2, h3, fun h0 => ?_⟩, ih2 b (off + 4) h5⟩
    obtain ⟨b', off', e, hp, hk⟩ := h4 h0
    exact ⟨b', off', e, h b' hp, ih1 b' off' hk⟩
theorem FoP.mono {P Q : Nat → Prop} {w : World} {v : Value} {L : Fo} (h : FoP P w v L) (hpq : ∀ b, P b → Q b) : FoP Q w v L := by
  obtain ⟨a, cap, rfl, h1, h2, h3, h4⟩ := h
  refine ⟨a, cap, rfl, h1, h2, h3, fun h0 => ?_⟩
  obtain ⟨b, off, e, hl, hk⟩ := h4 h0
  exact ⟨b, off, e, hpq b hl, foPA_mono hpq L b off hk⟩
theorem foPA_of {w : World} (L : Fo) : ∀ b off, FoAt w L b off → FoPA (fun b => b < w.heap.size) w L b off := by
  induction L with
  | nil => intros; trivial
  | cons k f s kids rest ih1 ih2 =>
    intro b off ⟨⟨hs, c0, c1, c2, a, cap, c3, h1, h2, h3, h4⟩, h5⟩
    refine ⟨⟨hs, c0, c1, c2, a, cap, c3, h1, h2, h3, fun h0 => ?_⟩, ih2 b (off + 4) h5⟩
    obtain ⟨b', off', e, hp, hk⟩ := h4 h0
    exact ⟨b', off', e, hp, ih1 b' off' hk⟩
theorem foAt_ofP {w : World} (L : Fo) : ∀ b off, FoPA (fun b => b < w.heap.size) w L b off → FoAt w L b off := by
  induction L with
  | nil => intros; trivial
  | cons k f s kids rest ih1 ih2 =>
    intro b off ⟨⟨hs, c0, c1, c2, a, cap, c3, h1, h2, h3, h4⟩, h5⟩
    refine ⟨⟨hs, c0, c1, c2, a, cap, c3, h1, h2, h3, fun h0 => ?_⟩, ih2 b (off + 4) h5⟩
    obtain ⟨b', off', e, hp, hk⟩ := h4 h0
    exact ⟨b', off', e, hp, ih1 b' off' hk⟩
theorem FoP.of {w : World} {v : Value} {L : Fo} (h : FoS w v L) : FoP (fun b => b < w.heap.size) w v L := by
  obtain ⟨a, cap, rfl, h1, h2, h3, h4⟩ := h
  refine ⟨a, cap, rfl, h1, h2, h3, fun h0 => ?_⟩
  obtain ⟨b, off, e, hl, hk⟩ := h4 h0
  exact ⟨b, off, e, hl, foPA_of L b off hk⟩
theorem FoP.to {w : World} {v : Value} {L : Fo} (h : FoP (fun b => b < w.heap.size) w v L) : FoS w v L := by
  obtain ⟨a, cap, rfl, h1, h2, h3, h4⟩ := h
  refine ⟨a, cap, rfl, h1, h2, h3, fun h0 => ?_⟩
  obtain ⟨b, off, e, hl, hk⟩ := h4 h0
  exact ⟨b, off, e, hl, foAt_ofP L b off hk⟩
theorem cell_sameT {w w' : World} {b o : Nat} (h : w'.heap[b]? = w.heap[b]?) : w'.cell? ⟨b, o, none⟩ = w.cell? ⟨b, o, none⟩ := by
  unfold World.cell?; rw [h]
/-- What lies in blocks that stand reads as it did. -/
theorem foPA_keep {P : Nat → Prop} {w w' : World} (h : ∀ b, P b → w'.heap[b]? = w.heap[b]?) (L : Fo) : ∀ b off, P b → FoPA P w L b off → FoPA P w' L b off := by
  induction L with
  | nil => intros; trivial
  | cons k f s kids rest ih1 ih2 =>
    intro b off hb ⟨⟨hs, c0, c1, c2, a, cap, c3, h1, h2, h3, h4⟩, h5⟩
    have e := h b hb
    refine ⟨⟨hs, (cell_sameT e).trans c0, (cell_sameT e).trans c1, (cell_sameT e).trans c2, a, cap, (cell_sameT e).trans c3, h1, h2, h3, fun h0 => ?_⟩, ih2 b (off + 4) hb h5⟩
    obtain ⟨b', off', e, hp, hk⟩ := h4 h0
    exact ⟨b', off', e, hp, ih1 b' off' hp hk⟩
theorem FoP.keep {P : Nat → Prop} {w w' : World} {v : Value} {L : Fo} (h : FoP P w v L) (hf : ∀ b, P b → w'.heap[b]? = w.heap[b]?) : FoP P w' v L := by
  obtain ⟨a, cap, rfl, h1, h2, h3, h4⟩ := h
  refine ⟨a, cap, rfl, h1, h2, h3, fun h0 => ?_⟩
  obtain ⟨b, off, e, hl, hk⟩ := h4 h0
  exact ⟨b, off, e, hl, foPA_keep hf L b off hl hk⟩
/-- One slice is put in another one's place, which reads the same. -/
theorem foPA_store {P : Nat → Prop} {w : World} {g o : Nat} {ua ua' : Option Addr} {un uc uc' : Nat} (hc : w.cell? ⟨g, o, none⟩ = some (.slice ua un uc)) (hn : un ≤ uc') (hm : uc' ≤ maxLen) (hz : ua' = none → uc' = 0)
    (H : ∀ K, FoP P w (.slice ua un uc) K → FoP P w (.slice ua' un uc') K) (L : Fo) : ∀ b off, FoPA P w L b off → FoPA P (w.setCell ⟨g, o, none⟩ (.slice ua' un uc')) L b off := by
  have oth : ∀ b i v, w.cell? ⟨b, i, none⟩ = some v → (∀ a n c, v ≠ .slice a n c) → (w.setCell ⟨g, o, none⟩ (.slice ua' un uc')).cell? ⟨b, i, none⟩ = some v := by
    intro b i v hv hne
    rw [World.cell?_setCell_other _ _ _ _ (by
      intro e
      injection e with e1 e2
      subst e1; subst e2
      rw [hc] at hv
      exact hne _ _ _ (Option.some.inj hv).symm)]
    exact hv
  induction L with
  | nil => intros; trivial
  | cons k f s kids rest ih1 ih2 =>
    intro b off ⟨⟨hs, c0, c1, c2, a, cap, c3, h1, h2, h3, h4⟩, h5⟩
    by_cases he : g = b ∧ o = off + 3
    · obtain ⟨rfl, rfl⟩ := he
      have e := hc.symm.trans c3
      simp only [Option.some.injEq, Value.slice.injEq] at e
      obtain ⟨rfl, rfl, rfl⟩ := e
      obtain ⟨a2, cap2, e2, g1, g2, g3, g4⟩ := H kids ⟨_, _, rfl, h1, h2, h3, h4⟩
      simp only [Value.slice.injEq] at e2
      obtain ⟨rfl, -, rfl⟩ := e2
      refine ⟨⟨hs, oth _ _ _ c0 (by intros; simp), oth _ _ _ c1 (by intros; simp), oth _ _ _ c2 (by intros; simp), _, _, World.cell?_setCell_same _ _ _ hc, g1, g2, g3, fun h0 => ?_⟩, ih2 g (off + 4) h5⟩
      obtain ⟨b', off', e, hp, hk⟩ := g4 h0
      exact ⟨b', off', e, hp, ih1 b' off' hk⟩
    · refine ⟨⟨hs, oth _ _ _ c0 (by intros; simp), oth _ _ _ c1 (by intros; simp), oth _ _ _ c2 (by intros; simp), a, cap, ?_, h1, h2, h3, fun h0 => ?_⟩, ih2 b (off + 4) h5⟩
      · rw [World.cell?_setCell_other _ _ _ _ (by
          intro e
          injection e with e1 e2
          exact he ⟨e1, e2⟩)]
        exact c3
      · obtain ⟨b', off', e, hp, hk⟩ := h4 h0
        exact ⟨b', off', e, hp, ih1 b' off' hk⟩
theorem FoP.store {P : Nat → Prop} {w : World} {g o : Nat} {ua ua' : Option Addr} {un uc uc' : Nat} {v : Value} {L : Fo} (h : FoP P w v L) (hc : w.cell? ⟨g, o, none⟩ = some (.slice ua un uc)) (hn : un ≤ uc') (hm : uc' ≤ maxLen) (hz : ua' = none → uc' = 0)
    (H : ∀ K, FoP P w (.slice ua un uc) K → FoP P w (.slice ua' un uc') K) : FoP P (w.setCell ⟨g, o, none⟩ (.slice ua' un uc')) v L := by
  obtain ⟨a, cap, rfl, h1, h2, h3, h4⟩ := h
  refine ⟨a, cap, rfl, h1, h2, h3, fun h0 => ?_⟩
  obtain ⟨b, off, e, hl, hk⟩ := h4 h0
  exact ⟨b, off, e, hl, foPA_store hc hn hm hz H L b off hk⟩
/-- A copy of the cells reads the same. -/
theorem foPA_copy {P : Nat → Prop} {w : World} (L : Fo) : ∀ b off g o, (∀ j, j < L.len * 4 → w.cell? ⟨g, o + j, none⟩ = w.cell? ⟨b, off + j, none⟩) → FoPA P w L b off → FoPA P w L g o := by
  induction L with
  | nil => intros; trivial
  | cons k f s kids rest _ ih2 =>
    intro b off g o hc ⟨⟨hs, c0, c1, c2, a, cap, c3, h1, h2, h3, h4⟩, h5⟩
    simp only [Fo.len] at hc
    have e0 := hc 0 (by omega)
    have e1 := hc 1 (by omega)
    have e2 := hc 2 (by omega)
    have e3 := hc 3 (by omega)
    refine ⟨⟨hs, e0.trans c0, e1.trans c1, e2.trans c2, a, cap, e3.trans c3, h1, h2, h3, h4⟩, ih2 b (off + 4) g (o + 4) (fun j hj => ?_) h5⟩
    have := hc (4 + j) (by omega)
    rwa [← Nat.add_assoc, ← Nat.add_assoc] at this
/-- The cells of a list. -/
theorem foAt_cells {w : World} (L : Fo) : ∀ b off, FoAt w L b off → ∃ l : List (List Value), l.length = L.len ∧ (∀ y ∈ l, y.length = 4) ∧ (∀ y ∈ l, ∀ c ∈ y, c.oneCell' = true) ∧ ∀ j (h : j < l.length) i u, l[j][i]? = some u → w.cell? ⟨b, off + (j * 4 + i), none⟩ = some u := by
  induction L with
  | nil => intro b off _; exact ⟨[], rfl, by simp, by simp, by simp⟩
  | cons k f s kids rest _ ih2 =>
    intro b off ⟨⟨hs, c0, c1, c2, a, cap, c3, h1, h2, h3, h4⟩, h5⟩
    obtain ⟨l, e1, e2, e3, e4⟩ := ih2 b (off + 4) h5
    refine ⟨[.int .i64 k, .int .i64 f, .string s, .slice a kids.len cap] :: l, by simp [Fo.len, e1], ?_, ?_, ?_⟩
    · intro y hy
      rcases List.mem_cons.1 hy with rfl | hy
      · rfl
      · exact e2 y hy
    · intro y hy c hc
      rcases List.mem_cons.1 hy with rfl | hy
      · simp only [List.mem_cons, List.mem_nil_iff, or_false] at hc
        rcases hc with rfl | rfl | rfl | rfl <;> rfl
      · exact e3 y hy c hc
    · intro j hj i u hu
      cases j with
      | zero =>
        simp only [List.getElem_cons_zero, Nat.zero_mul, Nat.zero_add] at hu ⊢
        match i, hu with
        | 0, hu => simp at hu; subst hu; exact c0
        | 1, hu => simp at hu; subst hu; exact c1
        | 2, hu => simp at hu; subst hu; exact c2
        | 3, hu => simp at hu; subst hu; exact c3
      | succ j =>
        have := e4 j (by simpa using hj) i u (by simpa using hu)
        rw [show off + ((j + 1) * 4 + i) = off + 4 + (j * 4 + i) by omega]
        exact this
theorem foS_cells {w : World} {v : Value} {L : Fo} (h : FoS w v L) : ∃ l : List (List Value), l.length = L.len ∧ Vs 4 w v l ∧ (∀ y ∈ l, y.length = 4) ∧ ∀ y ∈ l, ∀ c ∈ y, c.oneCell' = true := by
  obtain ⟨a, cap, rfl, h1, h2, h3, h4⟩ := h
  rcases Nat.eq_zero_or_pos L.len with h0 | h0
  · exact ⟨[], by simp [h0], ⟨a, cap, by rw [h0]; rfl, by simp, h2, by simp⟩, by simp, by simp⟩
  · obtain ⟨b, off, rfl, hl, hat⟩ := h4 h0
    obtain ⟨l, e1, e2, e3, e4⟩ := foAt_cells L b off hat
    exact ⟨l, e1, ⟨_, cap, by rw [e1], by rw [e1]; exact h1, h2, fun _ => ⟨b, off, rfl, hl, e4⟩⟩, e2, e3⟩
/-- How many documents a list has, kids and all. -/
def FoN : Fo → Nat
  | .nil => 0
  | .cons _ _ _ kids rest => 1 + FoN kids + FoN rest
theorem fo_len_n (L : Fo) : L.len ≤ FoN L := by
  induction L with
  | nil => exact Nat.le_refl _
  | cons k f s kids rest _ ih => simp only [Fo.len, FoN]; omega
/-- A block of documents of the call's own. -/
def DocB (w : World) (b : Nat) : Prop := ∃ cs, w.heap[b]? = some (Obj.cells cs 24 (0, 0))
theorem DocB.lt {w : World} {b : Nat} (h : DocB w b) : b < w.heap.size := by obtain ⟨_, h⟩ := h; exact (Array.getElem?_eq_some_iff.1 h).1
theorem DocB.frozen {w : World} {b : Nat} (h : DocB w b) (j : Nat) : w.frozen? ⟨b, j, none⟩ = false := by obtain ⟨cs, h⟩ := h; exact frozen_of_row w b j cs _ h
/-- Where documents may lie: below a block, or in one of the call's own, but for one. -/
def PW (N b5 : Nat) (w : World) (b : Nat) : Prop := b < N ∨ (N < b ∧ b ≠ b5 ∧ DocB w b)
/-- What reads as documents reads on. -/
structure KP (N b5 : Nat) (w w' : World) : Prop where
  pw : ∀ b, PW N b5 w b → PW N b5 w' b
  fo : ∀ v L, FoP (PW N b5 w) w v L → FoP (PW N b5 w') w' v L
theorem KP.refl (N b5 : Nat) (w : World) : KP N b5 w w := ⟨fun _ h => h, fun _ _ h => h⟩
theorem KP.trans {N b5 : Nat} {a b c : World} (h : KP N b5 a b) (k : KP N b5 b c) : KP N b5 a c := ⟨fun x hx => k.pw x (h.pw x hx), fun v L hx => k.fo v L (h.fo v L hx)⟩
theorem KP.of_frame {N b5 : Nat} {w w' : World} (h : ∀ b, PW N b5 w b → w'.heap[b]? = w.heap[b]?) : KP N b5 w w' := by
  have hp : ∀ b, PW N b5 w b → PW N b5 w' b := by
    intro b hb
    rcases hb with hb' | ⟨h1, h2, cs, h3⟩
    · exact .inl hb'
    · exact .inr ⟨h1, h2, cs, by rw [h b (.inr ⟨h1, h2, cs, h3⟩)]; exact h3⟩
  exact ⟨hp, fun v L hx => (hx.keep h).mono hp⟩
theorem KP.of_below {N b5 : Nat} {w w' : World} (h : Below w.heap.size w w') (hN : N ≤ w.heap.size) : KP N b5 w w' :=
  .of_frame fun b hb => h.block b (by
    rcases hb with hb | ⟨_, _, hb⟩
    · omega
    · exact hb.lt)
theorem DocB.set {w : World} {g o b : Nat} {u : Value} (h : DocB w b) : DocB (w.setCell ⟨g, o, none⟩ u) b := by
  obtain ⟨cs, h⟩ := h
  by_cases e : b = g
  · subst e
    exact ⟨_, heap_setCell_same w b o cs _ u h⟩
  · exact ⟨cs, by rw [heap_setCell_other w ⟨g, o, none⟩ b u e]; exact h⟩
theorem KP.of_store {N b5 : Nat} {w : World} {g o : Nat} {ua ua' : Option Addr} {un uc uc' : Nat} (hc : w.cell? ⟨g, o, none⟩ = some (.slice ua un uc)) (hn : un ≤ uc') (hm : uc' ≤ maxLen) (hz : ua' = none → uc' = 0)
    (H : ∀ K, FoP (PW N b5 w) w (.slice ua un uc) K → FoP (PW N b5 w) w (.slice ua' un uc') K) : KP N b5 w (w.setCell ⟨g, o, none⟩ (.slice ua' un uc')) := by
  have hp : ∀ b, PW N b5 w b → PW N b5 (w.setCell ⟨g, o, none⟩ (.slice ua' un uc')) b := by
    intro b hb
    rcases hb with hb | ⟨h1, h2, h3⟩
    · exact .inl hb
    · exact .inr ⟨h1, h2, h3.set⟩
  exact ⟨hp, fun v L hx => (hx.store hc hn hm hz H).mono hp⟩
end Go.Proofs.Ytehofomfblfhaaa

/- doc.Cat of any documents. -/
namespace Go.Proofs.Ytehofomfblfhaaa
open Go.RowKit
set_option linter.unusedVariables false
set_option linter.unusedSimpArgs false

/-- What slices.Clone gives of any documents: a slice with the same cells. -/
def CloneOf (n : Nat) (ua : Option Addr) (w : World) (e : Ending) (w' : World) : Prop :=
  ∃ a' c', e = .returned (.slice a' n c') ∧ n ≤ c' ∧ c' ≤ maxLen ∧ (a' = none → c' = 0) ∧ Below w.heap.size w w' ∧ (0 < n → ∃ b off g, ua = some ⟨b, off, none⟩ ∧ a' = some ⟨g, 0, none⟩ ∧ w.heap.size ≤ g ∧ DocB w' g ∧ ∀ j, j < n * 4 → w'.cell? ⟨g, 0 + j, none⟩ = w'.cell? ⟨b, off + j, none⟩)
theorem nil_or_snoc {α : Type} (G : List α) : G = [] ∨ ∃ l b, G = l ++ [b] := by
  rcases List.eq_nil_or_concat G with h | ⟨l, b, h⟩
  · exact .inl h
  · exact .inr ⟨l, b, by rw [h, List.concat_eq_append]⟩
/-- The list of lists that are still the arguments'. -/
def FoNs : List (Value × Fo) → Nat
  | [] => 0
  | x :: r => 1 + FoN x.2 + FoNs r
theorem foNs_append (l k : List (Value × Fo)) : FoNs (l ++ k) = FoNs l + FoNs k := by
  induction l with
  | nil => simp [FoNs]
  | cons x l ih => simp only [List.cons_append, FoNs, ih]; omega
theorem foNs_len (l : List (Value × Fo)) : l.length ≤ FoNs l := by
  induction l with
  | nil => exact Nat.le_refl _
  | cons x l ih => simp only [List.length_cons, FoNs]; omega
def WLi (N b5 : Nat) (w : World) (x : Value × Fo) : Prop := FoP (PW N b5 w) w x.1 x.2 ∧ (0 < x.2.len → ∃ g c, x.1 = .slice (some ⟨g, 0, none⟩) x.2.len c ∧ N < g)
theorem WLi.step {N b5 : Nat} {w w' : World} {x : Value × Fo} (h : WLi N b5 w x) (k : KP N b5 w w') : WLi N b5 w' x := ⟨k.fo _ _ h.1, h.2⟩
/-- A world on the way. -/
structure CatF (w : World) (b5 bB : Nat) (v1 : Value) (L : Fo) (k : Int) (wr : World) : Prop where
  fo : FoP (PW w.heap.size b5 wr) wr v1 L
  d5 : DB wr b5 (dv k 0 ⟨#[]⟩ v1)
  dw : DB wr w.heap.size (dv 0 0 ⟨#[]⟩ (.slice none 0 0))
  bl : Below w.heap.size w wr
  bB : bB ≤ wr.heap.size
theorem pw_lt {N b5 : Nat} {w : World} {b : Nat} (h : PW N b5 w b) (hN : N ≤ w.heap.size) : b < w.heap.size := by
  rcases h with h | ⟨_, _, h⟩
  · omega
  · exact h.lt
theorem FoP.fos {N b5 : Nat} {w : World} {v : Value} {L : Fo} (h : FoP (PW N b5 w) w v L) (hN : N ≤ w.heap.size) : FoS w v L := (h.mono fun b hb => pw_lt hb hN).to
theorem foPA_get {P : Nat → Prop} {w : World} (L : Fo) : ∀ b off j k f s kids, FoPA P w L b off → L.at? j = some (k, f, s, kids) →
    ∃ v, w.cell? ⟨b, off + (j * 4 + 3), none⟩ = some v ∧ FoP P w v kids := by
  induction L with
  | nil => intro b off j k f s kids _ h; simp [Fo.at?] at h
  | cons k0 f0 s0 kids0 rest ih1 ih2 =>
    intro b off j k f s kids h hj
    obtain ⟨⟨hs, c0, c1, c2, a, cap, c3, h1, h2, h3, h4⟩, h5⟩ := h
    cases j with
    | zero =>
      simp only [Fo.at?, Option.some.injEq, Prod.mk.injEq] at hj
      obtain ⟨rfl, rfl, rfl, rfl⟩ := hj
      simp only [Nat.zero_mul, Nat.zero_add]
      exact ⟨_, c3, a, cap, rfl, h1, h2, h3, h4⟩
    | succ j =>
      have := ih2 b (off + 4) j k f s kids h5 hj
      rw [show off + ((j + 1) * 4 + 3) = off + 4 + (j * 4 + 3) by omega]
      exact this
/-- On the way through one list: what is left of it, what was put behind. -/
def InF (F R : Fo) (j : Nat) (D : List (Value × Fo)) : Prop := R.len + j = F.len ∧ (∀ i, R.at? i = F.at? (j + i)) ∧ FoNs D + FoN R = FoN F
theorem InF.go {F rest kids : Fo} {k f : Int} {s : ByteArray} {j : Nat} {D : List (Value × Fo)} (h : InF F (.cons k f s kids rest) j D) (u : Value) : InF F rest (j + 1) (D ++ [(u, kids)]) ∧ F.at? j = some (k, f, s, kids) := by
  obtain ⟨h1, h2, h3⟩ := h
  simp only [Fo.len, FoN] at h1 h3
  refine ⟨⟨by omega, fun i => ?_, ?_⟩, (h2 0).symm⟩
  · have := h2 (i + 1)
    rw [show j + (i + 1) = j + 1 + i by omega] at this
    exact this
  · rw [foNs_append]
    simp only [FoNs]
    omega
theorem ownL_ne {B : Nat} {w : World} {v : Value} {l : List Value} (h : OwnL B w v l) {b : Nat} (hb : DocB w b) : some b ≠ v.ownBlock := by
  intro hj
  obtain ⟨⟨_, ⟨rfl, _⟩ | ⟨g, cap, cur, rfl, _, hh, _⟩⟩, _⟩ := h
  · simp [Value.ownBlock] at hj
  · simp [Value.ownBlock] at hj
    subst hj
    obtain ⟨cs, hb⟩ := hb
    rw [hh] at hb
    simp at hb
theorem ownL_lt' {B : Nat} {w : World} {v : Value} {l : List Value} (h : OwnL B w v l) : ∀ j, v.ownBlock = some j → B ≤ j ∧ j < w.heap.size := fun j hj => World.ownsRow.lt h.1 j hj
section
variable {w wr w1 w2 w3 : World} {b5 bB : Nat} {v1 : Value} {L : Fo} {k : Int}
theorem CatF.below (h : CatF w b5 bB v1 L k wr) (hb : Below wr.heap.size wr w1) : CatF w b5 bB v1 L k w1 ∧ KP w.heap.size b5 wr w1 := by
  have hk := KP.of_below (N := w.heap.size) (b5 := b5) hb h.bl.size
  exact ⟨⟨hk.fo _ _ h.fo, h.d5.keep hb h.d5.lt, h.dw.keep hb h.dw.lt, h.bl.trans (hb.mono h.bl.size), Nat.le_trans h.bB hb.size⟩, hk⟩
theorem CatF.store {g o : Nat} {ua ua' : Option Addr} {un uc uc' : Nat} (h : CatF w b5 bB v1 L k wr) (hg : w.heap.size < g) (hg5 : g ≠ b5) (hc : wr.cell? ⟨g, o, none⟩ = some (.slice ua un uc)) (hn : un ≤ uc') (hm : uc' ≤ maxLen) (hz : ua' = none → uc' = 0)
    (H : ∀ K, FoP (PW w.heap.size b5 wr) wr (.slice ua un uc) K → FoP (PW w.heap.size b5 wr) wr (.slice ua' un uc') K) :
    CatF w b5 bB v1 L k (wr.setCell ⟨g, o, none⟩ (.slice ua' un uc')) ∧ KP w.heap.size b5 wr (wr.setCell ⟨g, o, none⟩ (.slice ua' un uc')) := by
  have hk := KP.of_store hc hn hm hz H
  exact ⟨⟨hk.fo _ _ h.fo, h.d5.other (fun e => hg5 e.symm) _ _, h.dw.other (by omega) _ _, h.bl.setCell (Nat.le_of_lt hg) _, by have := h.bB; simpa using this⟩, hk⟩
theorem CatF.append {sv : Value} {l : List Value} (h : CatF w b5 bB v1 L k wr) (ho : OwnL bB wr sv l) (h5 : b5 < bB) (hw : w.heap.size < bB) (hb : Below bB wr w1) (hf : ∀ j, j < wr.heap.size → some j ≠ sv.ownBlock → w1.heap[j]? = wr.heap[j]?) :
    CatF w b5 bB v1 L k w1 ∧ KP w.heap.size b5 wr w1 := by
  have hk : KP w.heap.size b5 wr w1 := .of_frame fun b hb' => by
    refine hf b (pw_lt hb' h.bl.size) ?_
    rcases hb' with hb' | ⟨_, _, hb'⟩
    · intro e
      have := (ownL_lt' ho b e.symm).1
      omega
    · exact ownL_ne ho hb'
  exact ⟨⟨hk.fo _ _ h.fo, h.d5.keep hb h5, h.dw.keep hb hw, h.bl.trans (hb.mono (Nat.le_of_lt hw)), Nat.le_trans h.bB hb.size⟩, hk⟩
end
/-- A clone reads as what it was made of. -/
theorem clone_reads {N b5 : Nat} {w w' : World} {ua a' : Option Addr} {n uc c' : Nat} (h1 : n ≤ c') (h2 : c' ≤ maxLen) (h3 : a' = none → c' = 0) (hN : N < w.heap.size) (h5 : ∀ g, w.heap.size ≤ g → DocB w' g → g ≠ b5)
    (hc : 0 < n → ∃ b off g, ua = some ⟨b, off, none⟩ ∧ a' = some ⟨g, 0, none⟩ ∧ w.heap.size ≤ g ∧ DocB w' g ∧ ∀ j, j < n * 4 → w'.cell? ⟨g, 0 + j, none⟩ = w'.cell? ⟨b, off + j, none⟩) :
    ∀ K, FoP (PW N b5 w') w' (.slice ua n uc) K → FoP (PW N b5 w') w' (.slice a' n c') K := by
  intro K ⟨a0, c0, e0, k1, k2, k3, k4⟩
  simp only [Value.slice.injEq] at e0
  obtain ⟨rfl, rfl, rfl⟩ := e0
  refine ⟨a', c', rfl, h1, h2, h3, fun h0 => ?_⟩
  obtain ⟨b, off, g, e1, e2, e3, e4, e5⟩ := hc h0
  obtain ⟨b', off', e6, hp, hk⟩ := k4 h0
  rw [e1] at e6
  simp only [Option.some.injEq, Addr.mk.injEq, and_true] at e6
  obtain ⟨rfl, rfl⟩ := e6
  exact ⟨g, 0, e2, .inr ⟨by omega, h5 g e3 e4, e4⟩, foPA_copy K b off g 0 e5 hk⟩
end Go.Proofs.Ytehofomfblfhaaa

/- doc.Cat of any documents, its walk. -/
namespace Go.Proofs.Ytehofomfblfhaaa
open Go.RowKit
set_option linter.unusedVariables false
set_option linter.unusedSimpArgs false

end Go.Proofs.Ytehofomfblfhaaa
