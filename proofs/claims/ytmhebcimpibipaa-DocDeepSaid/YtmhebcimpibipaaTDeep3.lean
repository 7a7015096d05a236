/- Chains of documents: what doc.Cat does to memory, plain side; slices.Clone of any documents. -/
import Derived.Test.YtmhebcimpibipaaTDeep2
import Derived.Test.YtmhebcimpibipaaTDoc5
import Derived.Test.YtmhebcimpibipaaVAppG
namespace Go.Proofs.Ytmhebcimpibipaa
open Go.RowKit
set_option linter.unusedVariables false
set_option linter.unusedSimpArgs false

def dcv (k : Int) (R : List Ad) : List Value := [.int .i64 (kdk k R), .int .i64 0, .string (kdt R), kdv R]
theorem cell_same {w w' : World} {b o : Nat} (h : w'.heap[b]? = w.heap[b]?) : w'.cell? ⟨b, o, none⟩ = w.cell? ⟨b, o, none⟩ := by
  unfold World.cell?; rw [h]
theorem Chn.lt {k : Int} {w : World} {L : List Ad} (h : Chn k w L) : ∀ x ∈ L, x.1 < w.heap.size := by
  induction L with
  | nil => intro x hx; simp at hx
  | cons y L ih =>
    obtain ⟨b, o, c⟩ := y
    obtain ⟨h0, h1, h2, c0, c1, c2, c3, h⟩ := h
    intro x hx
    rcases List.mem_cons.1 hx with rfl | hx
    · exact h0
    · exact ih h x hx
theorem Chn.tail {k : Int} {w : World} (P : List Ad) {A : List Ad} (h : Chn k w (P ++ A)) : Chn k w A := by
  induction P with
  | nil => exact h
  | cons y P ih =>
    obtain ⟨b, o, c⟩ := y
    exact ih h.2.2.2.2.2.2.2
theorem chn_swap {k : Int} {w w' : World} (P : List Ad) {A A' : List Ad} (h : Chn k w (P ++ A)) (hz : w.heap.size ≤ w'.heap.size) (hf : ∀ x ∈ P, w'.heap[x.1]? = w.heap[x.1]?)
    (h1 : kdk k A = kdk k A') (h2 : kdt A = kdt A') (h3 : kdv A = kdv A') (hA : Chn k w' A') : Chn k w' (P ++ A') := by
  induction P with
  | nil => exact hA
  | cons y P ih =>
    obtain ⟨b, o, c⟩ := y
    obtain ⟨h0, ha, hb, c0, c1, c2, c3, h⟩ := h
    have e := hf (b, o, c) (by simp)
    have e0 : kdk k (P ++ A) = kdk k (P ++ A') := by cases P with | nil => exact h1 | cons _ _ => rfl
    have e2 : kdt (P ++ A) = kdt (P ++ A') := by cases P with | nil => exact h2 | cons _ _ => rfl
    have e3 : kdv (P ++ A) = kdv (P ++ A') := by cases P with | nil => exact h3 | cons _ _ => rfl
    refine ⟨Nat.lt_of_lt_of_le h0 hz, ha, hb, ?_, ?_, ?_, ?_, ih h (fun x hx => hf x (List.mem_cons_of_mem _ hx))⟩
    · show w'.cell? ⟨b, o, none⟩ = some (.int .i64 (kdk k (P ++ A')))
      rw [cell_same e, ← e0]; exact c0
    · show w'.cell? ⟨b, o + 1, none⟩ = some (.int .i64 0)
      rw [cell_same e]; exact c1
    · show w'.cell? ⟨b, o + 2, none⟩ = some (.string (kdt (P ++ A')))
      rw [cell_same e, ← e2]; exact c2
    · show w'.cell? ⟨b, o + 3, none⟩ = some (kdv (P ++ A'))
      rw [cell_same e, ← e3]; exact c3
theorem ownV_frame {E sz B : Nat} {w w' : World} {g n c : Nat} {l : List (List Value)} (h : OwnV E sz B w (.slice (some ⟨g, 0, none⟩) n c) l) (e : w'.heap[g]? = w.heap[g]?) : OwnV E sz B w' (.slice (some ⟨g, 0, none⟩) n c) l := by
  obtain ⟨⟨hx, h1⟩, h2, h3⟩ := h
  refine ⟨⟨hx, ?_⟩, h2, h3⟩
  rcases h1 with h0 | ⟨g', cap, cur, he, hg, hh, r⟩
  · exact .inl h0
  · simp only [Value.slice.injEq, Option.some.injEq, Addr.mk.injEq, and_true] at he
    obtain ⟨rfl, he2⟩ := he
    exact .inr ⟨g, cap, cur, by rw [← he2.2, he2.1], hg, by rw [e]; exact hh, r⟩
theorem setC_other {w : World} {g i j : Nat} {v : Value} (h : i ≠ j) : (w.setCell ⟨g, i, none⟩ v).cell? ⟨g, j, none⟩ = w.cell? ⟨g, j, none⟩ := World.cell?_setCell_other _ _ _ _ (by intro e; injection e with h1 h2; exact h h2)
theorem setC_same {w : World} {g i : Nat} {v u : Value} (h : w.cell? ⟨g, i, none⟩ = some u) : (w.setCell ⟨g, i, none⟩ v).cell? ⟨g, i, none⟩ = some v := World.cell?_setCell_same _ _ _ h
/-- A document of the call's own, cell by cell. -/
theorem own4 {B : Nat} {w : World} {g c : Nat} {k : Int} {R : List Ad} (h : OwnV 30 4 B w (.slice (some ⟨g, 0, none⟩) 1 c) [dcv k R]) :
    w.cell? ⟨g, 0, none⟩ = some (.int .i64 (kdk k R)) ∧ w.cell? ⟨g, 1, none⟩ = some (.int .i64 0) ∧ w.cell? ⟨g, 2, none⟩ = some (.string (kdt R)) ∧ w.cell? ⟨g, 3, none⟩ = some (kdv R) :=
  ⟨by rw [World.ownsRow.cellAt h.1 0 (by simp)]; rfl, by rw [World.ownsRow.cellAt h.1 1 (by simp)]; rfl, by rw [World.ownsRow.cellAt h.1 2 (by simp)]; rfl, by rw [World.ownsRow.cellAt h.1 3 (by simp)]; rfl⟩
/-- All copied. -/
def FI (k : Int) (w : World) (b5 g1 c1 m : Nat) (wr : World) : Prop :=
  (∃ t, Chn k wr ((g1, 0, c1) :: t) ∧ t.length = m ∧ ∀ x ∈ (g1, 0, c1) :: t, w.heap.size < x.1) ∧ DB wr b5 (dv k 0 ⟨#[]⟩ (.slice (some ⟨g1, 0, none⟩) 1 c1)) ∧ DB wr w.heap.size (dv 0 0 ⟨#[]⟩ (.slice none 0 0)) ∧ Below w.heap.size w wr
/-- On the way: what is copied, down to a list of one's own; behind it what came in. -/
def CI (k : Int) (w : World) (b5 g1 c1 m : Nat) (sb : Option Nat) (g c : Nat) (R : List Ad) (wr : World) : Prop :=
  OwnV 30 4 (w.heap.size + 1) wr (.slice (some ⟨g, 0, none⟩) 1 c) [dcv k R] ∧ Chn k w R ∧
  (∃ P, Chn k wr (P ++ (g, 0, c) :: R) ∧ (∀ x ∈ P, x.1 ≠ g ∧ x.1 ≠ b5 ∧ w.heap.size < x.1 ∧ sb ≠ some x.1) ∧ (∃ t, P ++ (g, 0, c) :: R = (g1, 0, c1) :: t) ∧ (P ++ (g, 0, c) :: R).length = m + 1) ∧
  g ≠ b5 ∧ sb ≠ some g ∧ w.heap.size < g ∧ DB wr b5 (dv k 0 ⟨#[]⟩ (.slice (some ⟨g1, 0, none⟩) 1 c1)) ∧ DB wr w.heap.size (dv 0 0 ⟨#[]⟩ (.slice none 0 0)) ∧ Below w.heap.size w wr
theorem CI.glt {k : Int} {w : World} {b5 g1 c1 m : Nat} {sb : Option Nat} {g c : Nat} {R : List Ad} {wr : World} (h : CI k w b5 g1 c1 m sb g c R wr) : g < wr.heap.size := by
  obtain ⟨_, _, ⟨P, h, _⟩, _⟩ := h
  exact (Chn.tail P h).1
section
variable {k : Int} {w : World} {b5 g1 c1 m bB : Nat} {sb sb2 : Option Nat} {g c : Nat} {wr w1 w2 : World} {u : Value} {o : Obj}
/-- What a step changes. -/
theorem step_frame (hb1 : Below wr.heap.size wr w1) (hfr : ∀ j, j < ((w1.setCell ⟨g, 3, none⟩ u).alloc o).heap.size → some j ≠ sb → w2.heap[j]? = ((w1.setCell ⟨g, 3, none⟩ u).alloc o).heap[j]?) :
    (∀ j, j < w1.heap.size → sb ≠ some j → w2.heap[j]? = (w1.setCell ⟨g, 3, none⟩ u).heap[j]?) ∧ (∀ j, j < w1.heap.size → j ≠ g → sb ≠ some j → w2.heap[j]? = w1.heap[j]?) ∧ (∀ j, j < wr.heap.size → j ≠ g → sb ≠ some j → w2.heap[j]? = wr.heap[j]?) := by
  have h1 : ∀ j, j < w1.heap.size → sb ≠ some j → w2.heap[j]? = (w1.setCell ⟨g, 3, none⟩ u).heap[j]? := by
    intro j hj hs
    rw [hfr j (by simp; omega) (fun e => hs e.symm)]
    exact ((Below.refl (w1.setCell ⟨g, 3, none⟩ u).heap.size (w1.setCell ⟨g, 3, none⟩ u)).alloc (Nat.le_refl _) o).block j (by simpa using hj)
  have h2 : ∀ j, j < w1.heap.size → j ≠ g → sb ≠ some j → w2.heap[j]? = w1.heap[j]? := by
    intro j hj hg hs
    rw [h1 j hj hs]
    exact Below.heap_setCell _ _ _ _ hg
  exact ⟨h1, h2, fun j hj hg hs => by rw [h2 j (Nat.lt_of_lt_of_le hj hb1.size) hg hs]; exact hb1.block j hj⟩
theorem ci_step {b o' c0 g' c' : Nat} {R' : List Ad} (h : CI k w b5 g1 c1 m sb g c ((b, o', c0) :: R') wr) (hb1 : Below wr.heap.size wr w1) (hg' : wr.heap.size ≤ g') (hgl : g' < w1.heap.size) (hc1 : 1 ≤ c') (hc2 : c' ≤ maxLen)
    (own : OwnV 30 4 wr.heap.size w1 (.slice (some ⟨g', 0, none⟩) 1 c') [dcv k R']) (hu : u = .slice (some ⟨g', 0, none⟩) 1 c') (hsb : ∀ j, sb = some j → bB ≤ j ∧ j < wr.heap.size) (hb5 : b5 < bB) (hwB : w.heap.size < bB)
    (hb2 : Below bB ((w1.setCell ⟨g, 3, none⟩ u).alloc o) w2) (hfr : ∀ j, j < ((w1.setCell ⟨g, 3, none⟩ u).alloc o).heap.size → some j ≠ sb → w2.heap[j]? = ((w1.setCell ⟨g, 3, none⟩ u).alloc o).heap[j]?)
    (hv2 : sb2 = sb ∨ sb2 = some ((w1.setCell ⟨g, 3, none⟩ u).alloc o).heap.size) : CI k w b5 g1 c1 m sb2 g' c' R' w2 := by
  obtain ⟨f1, f2, f3⟩ := step_frame hb1 hfr
  have hglt := h.glt
  obtain ⟨how, hR, ⟨P, hP, hPx, ⟨t, ht⟩, hlen⟩, hgb, hsg, hwg, hd5, hdw, hbl⟩ := h
  have z1 := hb1.size
  have z2 : w1.heap.size < w2.heap.size := by have := hb2.size; simp at this; omega
  have hz := hbl.size
  have d5 := hd5.lt
  have dw := hdw.lt
  have hbl2 : Below w.heap.size w w2 := (((hbl.trans (hb1.mono hz)).setCell (p := ⟨g, 3, none⟩) (by simpa using Nat.le_of_lt hwg) u).alloc (by simp; omega) o).trans (hb2.mono (Nat.le_of_lt hwB))
  have hA := Chn.tail P hP
  obtain ⟨-, hca, hcb, q0, q1, q2, q3, -⟩ := hA
  have r0 := (hb1.cell (p := ⟨g, 0, none⟩) hglt).trans q0
  have r1 := (hb1.cell (p := ⟨g, 1, none⟩) hglt).trans (by simpa using q1)
  have r2 := (hb1.cell (p := ⟨g, 2, none⟩) hglt).trans (by simpa using q2)
  have r3 := (hb1.cell (p := ⟨g, 3, none⟩) hglt).trans (by simpa using q3)
  have hgne : g' ≠ g := by omega
  have hsg' : sb ≠ some g' := fun e => by have := (hsb _ e).2; omega
  have hT : Chn k w2 ((g', 0, c') :: R') := by
    obtain ⟨e0, e1, e2, e3⟩ := own4 own
    have e := f2 g' hgl hgne hsg'
    exact ⟨by omega, hc1, hc2, by rw [cell_same e]; exact e0, by rw [cell_same e]; simpa using e1, by rw [cell_same e]; simpa using e2, by rw [cell_same e]; simpa using e3, hR.2.2.2.2.2.2.2.keep hbl2⟩
  have hG : Chn k w2 ((g, 0, c) :: (g', 0, c') :: R') := by
    have e := f1 g (by omega) hsg
    refine ⟨by omega, hca, hcb, ?_, ?_, ?_, ?_, hT⟩
    · rw [cell_same e, setC_other (by decide)]; exact r0
    · rw [cell_same e, setC_other (by decide)]; simpa using r1
    · rw [cell_same e, setC_other (by decide)]; exact r2
    · rw [cell_same e, hu]; simpa [kdv] using setC_same (v := .slice (some ⟨g', 0, none⟩) 1 c') r3
  have hPl : ∀ x ∈ P, x.1 < wr.heap.size := fun x hx => Chn.lt hP x (by simp [hx])
  have hne2 : ∀ j, j < w1.heap.size → sb ≠ some j → sb2 ≠ some j := by
    intro j hj hs e
    rcases hv2 with h | h
    · exact hs (by rw [← h]; exact e)
    · rw [h] at e; simp at e; omega
  refine ⟨?_, hR.2.2.2.2.2.2.2, ⟨P ++ [(g, 0, c)], ?_, ?_, ?_, ?_⟩, by omega, hne2 g' hgl hsg', by omega, ?_, ?_, hbl2⟩
  · exact ownV_frame ⟨World.ownsRow.mono own.1 (by omega), own.2.1, own.2.2⟩ (f2 g' hgl hgne hsg')
  · rw [List.append_assoc]
    exact chn_swap P (A := (g, 0, c) :: (b, o', c0) :: R') hP (by omega) (fun x hx => f3 x.1 (hPl x hx) (hPx x hx).1 (hPx x hx).2.2.2) rfl rfl rfl hG
  · intro x hx
    rcases List.mem_append.1 hx with hx | hx
    · have := hPl x hx
      exact ⟨by omega, (hPx x hx).2.1, (hPx x hx).2.2.1, hne2 x.1 (by omega) (hPx x hx).2.2.2⟩
    · obtain rfl : x = (g, 0, c) := by simpa using hx
      exact ⟨by simp; omega, hgb, hwg, hne2 g (by omega) hsg⟩
  · cases P with
    | nil => simp at ht; obtain ⟨⟨rfl, rfl⟩, rfl⟩ := ht; exact ⟨_, rfl⟩
    | cons y P => simp at ht; obtain ⟨rfl, rfl⟩ := ht; exact ⟨_, rfl⟩
  · simp at hlen ⊢; omega
  · unfold DB; rw [f3 b5 d5 (fun e => hgb e.symm) (fun e => by have := (hsb _ e).1; omega)]; exact hd5
  · unfold DB; rw [f3 _ dw (by omega) (fun e => by have := (hsb _ e).1; omega)]; exact hdw
theorem ci_end (h : CI k w b5 g1 c1 m sb g c [] wr) (hsb : ∀ j, sb = some j → bB ≤ j ∧ j < wr.heap.size) (hb5 : b5 < bB) (hwB : w.heap.size < bB) (hu : u = .slice none 0 0)
    (hb2 : Below bB ((wr.setCell ⟨g, 3, none⟩ u).alloc o) w2) (hfr : ∀ j, j < ((wr.setCell ⟨g, 3, none⟩ u).alloc o).heap.size → some j ≠ sb → w2.heap[j]? = ((wr.setCell ⟨g, 3, none⟩ u).alloc o).heap[j]?) : FI k w b5 g1 c1 m w2 := by
  obtain ⟨f1, f2, f3⟩ := step_frame (Below.refl _ _) hfr
  have hglt := h.glt
  obtain ⟨how, hR, ⟨P, hP, hPx, ⟨t, ht⟩, hlen⟩, hgb, hsg, hwg, hd5, hdw, hbl⟩ := h
  have z2 : wr.heap.size < w2.heap.size := by have := hb2.size; simp at this; omega
  have hz := hbl.size
  have d5 := hd5.lt
  have dw := hdw.lt
  have hbl2 : Below w.heap.size w w2 := ((hbl.setCell (p := ⟨g, 3, none⟩) (by simpa using Nat.le_of_lt hwg) u).alloc (by simp; omega) o).trans (hb2.mono (Nat.le_of_lt hwB))
  have hA := Chn.tail P hP
  obtain ⟨-, hca, hcb, q0, q1, q2, q3, -⟩ := hA
  have hG : Chn k w2 ((g, 0, c) :: []) := by
    have e := f1 g (by omega) hsg
    refine ⟨by omega, hca, hcb, ?_, ?_, ?_, ?_, trivial⟩
    · rw [cell_same e, setC_other (by decide)]; exact q0
    · rw [cell_same e, setC_other (by decide)]; exact q1
    · rw [cell_same e, setC_other (by decide)]; exact q2
    · rw [cell_same e, hu]; simpa [kdv] using setC_same (v := .slice none 0 0) (by simpa using q3)
  have hPl : ∀ x ∈ P, x.1 < wr.heap.size := fun x hx => Chn.lt hP x (by simp [hx])
  have hC := chn_swap P (A := [(g, 0, c)]) hP (by omega) (fun x hx => f3 x.1 (hPl x hx) (hPx x hx).1 (hPx x hx).2.2.2) rfl rfl rfl hG
  have hall : ∀ x ∈ P ++ [(g, 0, c)], w.heap.size < x.1 := by
    intro x hx
    rcases List.mem_append.1 hx with hx | hx
    · exact (hPx x hx).2.2.1
    · obtain rfl : x = (g, 0, c) := by simpa using hx
      exact hwg
  rw [ht] at hC hlen hall
  refine ⟨⟨t, hC, by simpa using hlen, hall⟩, ?_, ?_, hbl2⟩
  · unfold DB; rw [f3 b5 d5 (fun e => hgb e.symm) (fun e => by have := (hsb _ e).1; omega)]; exact hd5
  · unfold DB; rw [f3 _ dw (by omega) (fun e => by have := (hsb _ e).1; omega)]; exact hdw
end
/-- The first list. -/
theorem ci_start {k : Int} {w W0 w1 wr : World} {b5 g1 c1 bB : Nat} {L : List Ad} (hW0 : Below w.heap.size w W0) (hz0 : w.heap.size < W0.heap.size) (hb1 : Below W0.heap.size W0 w1) (hb2 : Below w1.heap.size w1 wr) (hL : Chn k w L)
    (own : OwnV 30 4 W0.heap.size w1 (.slice (some ⟨g1, 0, none⟩) 1 c1) [dcv k L]) (hg1 : W0.heap.size ≤ g1) (hg2 : g1 < w1.heap.size) (ha : 1 ≤ c1) (hb : c1 ≤ maxLen) (h5 : w1.heap.size ≤ b5) (hbB : b5 < bB)
    (hd5 : DB wr b5 (dv k 0 ⟨#[]⟩ (.slice (some ⟨g1, 0, none⟩) 1 c1))) (hdw : DB W0 w.heap.size (dv 0 0 ⟨#[]⟩ (.slice none 0 0))) : CI k w b5 g1 c1 L.length (some bB) g1 c1 L wr := by
  have z1 := hb1.size
  have z2 := hb2.size
  have hbl : Below w.heap.size w wr := (hW0.trans (hb1.mono hW0.size)).trans (hb2.mono (by omega))
  have o2 := OwnV.keep own hb2
  obtain ⟨e0, e1, e2, e3⟩ := own4 o2
  refine ⟨⟨World.ownsRow.mono o2.1 (by omega), o2.2.1, o2.2.2⟩, hL, ⟨[], ⟨by omega, ha, hb, e0, by simpa using e1, by simpa using e2, by simpa using e3, hL.keep hbl⟩, by simp, ⟨L, rfl⟩, by simp⟩, by omega, by simp; omega, by omega, hd5, ?_, hbl⟩
  exact (hdw.keep hb1 (by omega)).keep hb2 (by omega)
set_option maxRecDepth 100000 in
set_option maxHeartbeats 1000000 in
theorem cloneg (v : Value) (l : List (List Value)) (w : World) (hv : Vs 4 w v l) (h4 : ∀ y ∈ l, y.length = 4) (h5 : ∀ y ∈ l, ∀ c ∈ y, c.oneCell' = true) (h0 : 0 < l.length) (hl : l.length ≤ 1000) :
    Calls Try.prog 13 #[v] w fun e w' => ∃ v', e = .returned v' ∧ OwnV 30 4 w.heap.size w' v' l ∧ Below w.heap.size w w' := by
  have q : ∀ (w : World) (a : Option Addr) (n c n' c' : Nat), (binOp .eql 28 (.slice a n c) (.slice none n' c')).run Try.prog w = .ok (.bool a.isNone) w := fun w a n c n' c' => Lib.run_eql_slice_nil w _ _ a n c n' c' Try.underlying28
  obtain ⟨a, cap, hvv, h1, h2, h3⟩ := hv
  obtain ⟨b, off, rfl, hb, hc⟩ := h3 h0
  have hv2 : Vs 4 w v l := ⟨_, cap, hvv, h1, h2, h3⟩
  have b0 := Lib.hid ((Below.refl w.heap.size w).alloc (Nat.le_refl _) (.cells #[] 30))
  have HO : Hid (OwnV 30 4 w.heap.size (w.alloc (.cells #[] 30)) (.slice (some ⟨w.heap.size, 0, none⟩) 0 0) []) := Lib.hid ⟨World.ownsRow_made w #[] 0 (Nat.le_refl _) (Nat.zero_le _) rfl, by simp, by simp⟩
  have HV := Lib.hid (Vs.keep hv2 b0.out)
  obtain ⟨n, hn⟩ : ∃ n, l.length = n := ⟨_, rfl⟩
  have HN := Lib.hid hn
  have H4 := Lib.hid h4
  have H5 := Lib.hid h5
  rw [hn] at hvv h0 hl h1
  subst hvv
  clear h3 hc hv2 hn h4 h5
  go_enter Try.func13, Try.ntmps13
  go_wp2_with (at_builtin; refine wpl_appendV rfl _ _ rfl Try.underlying28 infoD rfl (by decide) w.heap.size (.slice (some ⟨w.heap.size, 0, none⟩) 0 0) (.slice (some ⟨b, off, none⟩) n cap) [] l l rfl HO.out rfl HV.out (nnv_some _ _ _) H4.out H5.out (by rw [HN.out]; simp; omega) (by decide) (by simp) rfl ?_)
  intro v2 w2 ho2 hb2
  have hfin := b0.out.trans hb2
  go_wp2
  go_ret
  exact ⟨_, rfl, ho2, hfin⟩
theorem dcv_four (k : Int) (R : List Ad) : ∀ y ∈ [dcv k R], y.length = 4 := by intro y hy; simp at hy; subst hy; rfl
theorem dcv_one (k : Int) (R : List Ad) : ∀ y ∈ [dcv k R], ∀ c ∈ y, c.oneCell' = true := by
  intro y hy c hc
  simp at hy; subst hy
  simp only [dcv, List.mem_cons, List.mem_nil_iff, or_false] at hc
  obtain ⟨a, n, c', h⟩ := kdv_slice R
  rcases hc with rfl | rfl | rfl | rfl
  · rfl
  · rfl
  · rfl
  · rw [h]; rfl
theorem clonec (k : Int) (R : List Ad) (v : Value) (w : World) (hv : Vs 4 w v [dcv k R]) :
    Calls Try.prog 13 #[v] w fun e w' => ∃ g c, e = .returned (.slice (some ⟨g, 0, none⟩) 1 c) ∧ OwnV 30 4 w.heap.size w' (.slice (some ⟨g, 0, none⟩) 1 c) [dcv k R] ∧ Below w.heap.size w w' ∧ w.heap.size ≤ g ∧ g < w'.heap.size ∧ 1 ≤ c ∧ c ≤ maxLen :=
  (cloneg v [dcv k R] w hv (dcv_four k R) (dcv_one k R) (by simp) (by simp)).mono fun e w' ⟨v', he, ho, hb⟩ => by
    have hlt := World.ownsRow.lt ho.1
    have ho' := ho
    obtain ⟨⟨_, ⟨rfl, h1⟩ | ⟨g, cap, cur, rfl, h2, h3, h4, h5, _⟩⟩, _⟩ := ho
    · simp at h1
    · exact ⟨g, cap, he, ho', hb, (hlt g rfl).1, (hlt g rfl).2, h4, h5⟩
theorem chn_vs {k : Int} {w : World} {b o c : Nat} {R : List Ad} (h : Chn k w ((b, o, c) :: R)) : Vs 4 w (.slice (some ⟨b, o, none⟩) 1 c) [dcv k R] := by
  obtain ⟨h0, h1, h2, c0, c1, c2, c3, h⟩ := h
  refine ⟨_, c, rfl, h1, h2, fun _ => ⟨b, o, rfl, h0, fun j hj i u hu => ?_⟩⟩
  obtain rfl : j = 0 := by simpa using hj
  simp only [List.getElem_cons_zero, dcv, Nat.zero_mul, Nat.zero_add] at hu ⊢
  match i, hu with
  | 0, hu => simp at hu; subst hu; exact c0
  | 1, hu => simp at hu; subst hu; exact c1
  | 2, hu => simp at hu; subst hu; exact c2
  | 3, hu => simp at hu; subst hu; exact c3
end Go.Proofs.Ytmhebcimpibipaa
