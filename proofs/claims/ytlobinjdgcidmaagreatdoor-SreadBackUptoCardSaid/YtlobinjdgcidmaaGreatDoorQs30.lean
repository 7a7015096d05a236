/- Texts of ours in one: SGMath SBase SSg. -/
import Derived.Test.YtlobinjdgcidmaaGreatDoorQs29
import Derived.Test.YtlobinjdgcidmaaGreatDoorQs02
import Derived.Deep.AppendLies
import Derived.Deep.RegionHeld3
import Derived.Deep.Slices
import Derived.Deep.Fields
import Derived.ChangeSame
import Derived.ProofKit
import Derived.OpenShut
import Derived.Test.YtlobinjdgcidmaaGreatDoorQs13
import Derived.Laws.Tables
import Derived.Laws.Rows
import Derived.Laws.ResultCell
import Derived.Deep.QuietTactic
import Derived.BigQuiet
import Derived.OrdersHeld
import Derived.Deep.Cut
/- What a segment's text tells, given the segment ahead of it (plain lists; nothing of the program). -/
namespace Go.Proofs.YtlobinjdgcidmaaGreatDoor.M
open Go.Proofs.YtlobinjdgcidmaaGreatDoor

theorem vq_unzig_le (x : Nat) (h : x / 2 ≤ 1099511627776) : -1099511627776 ≤ V.unzig x ∧ V.unzig x ≤ 1099511627776 := by
  unfold V.unzig; split <;> omega
theorem vq_get_le (l : List UInt8) (n : Int) (k : Nat) (h : V.get l = some (n, k)) : -1099511627776 ≤ n ∧ n ≤ 1099511627776 := by
  unfold V.get at h
  split at h
  · exact absurd h (by simp)
  · split at h
    · rename_i ds _ hf
      simp only [Option.some.injEq, Prod.mk.injEq] at h
      obtain ⟨rfl, rfl⟩ := h
      simp only [V.fine, Bool.and_eq_true, decide_eq_true_eq] at hf
      exact vq_unzig_le _ hf.1.2
    · exact absurd h (by simp)
def rd (t : List UInt8) (a : Int) : Int × Int × Bool := V.gN a (V.getAt t a)
theorem rd_le (t : List UInt8) (a : Int) : -1099511627776 ≤ (rd t a).1 ∧ (rd t a).1 ≤ 1099511627776 := by
  unfold rd
  cases h : V.getAt t a with
  | none => simp [V.gN]
  | some p =>
    obtain ⟨n, k⟩ := p
    unfold V.getAt at h
    split at h
    · exact absurd h (by simp)
    · simpa [V.gN] using vq_get_le _ _ _ h
def nth4 (m : S4) (k : Nat) : Int := if k = 0 then m.1 else if k = 1 then m.2.1 else if k = 2 then m.2.2.1 else m.2.2.2
def put4 (m : S4) (k : Nat) (v : Int) : S4 := if k = 0 then (v, m.2) else if k = 1 then (m.1, v, m.2.2) else if k = 2 then (m.1, m.2.1, v, m.2.2.2) else (m.1, m.2.1, m.2.2.1, v)
def segSt (t : List UInt8) (s : S4) : Nat → Option (S4 × Int)
  | 0 => some ((s.2.1, 0, s.2.2.1, s.2.2.2), 0)
  | k + 1 => match segSt t s k with
    | none => none
    | some (m, a) => if (rd t a).2.2 = true ∧ 0 ≤ nth4 m k + (rd t a).1 ∧ nth4 m k + (rd t a).1 ≤ 1073741824 then some (put4 m k (nth4 m k + (rd t a).1), (rd t a).2.1) else none
def segV (t : List UInt8) (s : S4) : S4 × Bool := match segSt t s 4 with
  | none => ((0, 0, 0, 0), false)
  | some (m, a) => ((s.1, m.1, m.2.2.1, m.2.2.2), a == (t.length : Int) && m.2.1 == 0)
theorem segSt_none (t : List UInt8) (s : S4) (k : Nat) (h : segSt t s k = none) (j : Nat) : segSt t s (k + j) = none := by
  induction j with
  | zero => exact h
  | succ j ih => show segSt t s (k + j + 1) = none; unfold segSt; rw [ih]
theorem segSt_go (t : List UInt8) (s m : S4) (a : Int) (k : Nat) (h : segSt t s k = some (m, a)) (h1 : (rd t a).2.2 = true) (h2 : 0 ≤ nth4 m k + (rd t a).1) (h3 : nth4 m k + (rd t a).1 ≤ 1073741824) :
    segSt t s (k + 1) = some (put4 m k (nth4 m k + (rd t a).1), (rd t a).2.1) := by
  rw [segSt, h]; simp only; rw [if_pos ⟨h1, h2, h3⟩]
theorem segSt_no (t : List UInt8) (s m : S4) (a : Int) (k : Nat) (hk : k < 4) (h : segSt t s k = some (m, a)) (hb : ¬ ((rd t a).2.2 = true ∧ 0 ≤ nth4 m k + (rd t a).1 ∧ nth4 m k + (rd t a).1 ≤ 1073741824)) :
    segV t s = ((0, 0, 0, 0), false) := by
  have h1 : segSt t s (k + 1) = none := by rw [segSt, h]; simp only; rw [if_neg hb]
  have h2 := segSt_none t s (k + 1) h1 (3 - k)
  rw [show k + 1 + (3 - k) = 4 by omega] at h2
  unfold segV; rw [h2]
theorem segV_yes (t : List UInt8) (s m : S4) (a : Int) (h : segSt t s 4 = some (m, a)) : segV t s = ((s.1, m.1, m.2.2.1, m.2.2.2), a == (t.length : Int) && m.2.1 == 0) := by
  unfold segV; rw [h]
def B4 (m : S4) : Prop := (0 ≤ m.1 ∧ m.1 ≤ 1073741824) ∧ (0 ≤ m.2.1 ∧ m.2.1 ≤ 1073741824) ∧ (0 ≤ m.2.2.1 ∧ m.2.2.1 ≤ 1073741824) ∧ (0 ≤ m.2.2.2 ∧ m.2.2.2 ≤ 1073741824)
theorem put4_b (m : S4) (k : Nat) (v : Int) (h : B4 m) (h1 : 0 ≤ v) (h2 : v ≤ 1073741824) : B4 (put4 m k v) := by
  obtain ⟨a, b, c, d⟩ := h
  unfold put4
  split
  · exact ⟨⟨h1, h2⟩, b, c, d⟩
  · split
    · exact ⟨a, ⟨h1, h2⟩, c, d⟩
    · split
      · exact ⟨a, b, ⟨h1, h2⟩, d⟩
      · exact ⟨a, b, c, ⟨h1, h2⟩⟩
end Go.Proofs.YtlobinjdgcidmaaGreatDoor.M
/- Segments in memory, whatever ints they hold. -/
namespace Go.Proofs.YtlobinjdgcidmaaGreatDoor
open Go.RowKit Go.ChangeShapes Go.WideShapes
set_option linter.unusedVariables false
set_option linter.unusedSimpArgs false

def s4v (x : M.S4) : List Value := [.int .i64 x.1, .int .i64 x.2.1, .int .i64 x.2.2.1, .int .i64 x.2.2.2]
theorem s4_len (l : List M.S4) : ∀ y ∈ l.map s4v, y.length = 4 := by
  intro y hy
  obtain ⟨x, _, rfl⟩ := List.mem_map.1 hy
  rfl
theorem s4v_one (x : M.S4) : ∀ c ∈ s4v x, c.oneCell' = true := by intro c hc; simp [s4v] at hc; rcases hc with rfl | rfl | rfl | rfl <;> rfl
theorem s4_one (l : List M.S4) : ∀ y ∈ l.map s4v, ∀ c ∈ y, c.oneCell' = true := by
  intro y hy
  obtain ⟨x, _, rfl⟩ := List.mem_map.1 hy
  exact s4v_one x
theorem infoS4 : (Tryz.prog.info? 39).map (fun i => (i.zero, i.size, i.bytes)) = some (some (.agg #[.int .i64 0, .int .i64 0, .int .i64 0, .int .i64 0]), 4, 32) := by kernel_rfl
def SsS (w : World) (v : Value) (l : List M.S4) : Prop := Vs 4 w v (l.map s4v)
def OwnS4 (B : Nat) (w : World) (v : Value) (l : List M.S4) : Prop := OwnV 39 4 B w v (l.map s4v)
theorem OwnS4.keep {B : Nat} {w w' : World} {v : Value} {l : List M.S4} (h : OwnS4 B w v l) (hb : Below w.heap.size w w') : OwnS4 B w' v l := OwnV.keep h hb
theorem OwnS4.ss {B : Nat} {w : World} {v : Value} {l : List M.S4} (h : OwnS4 B w v l) : SsS w v l := OwnV.vs h
theorem SsS.keep {w w' : World} {v : Value} {l : List M.S4} (h : SsS w v l) (hb : Below w.heap.size w w') : SsS w' v l := Vs.keep h hb
def S4At (B : Nat) (w : World) (v : Value) (l : List M.S4) : Prop :=
  ∃ a cap, v = .slice a l.length cap ∧ l.length ≤ cap ∧ cap ≤ maxLen ∧ (0 < l.length → ∃ b off, a = some ⟨b, off, none⟩ ∧ b < B ∧ ∀ j (hj : j < l.length),
    w.cell? ⟨b, off + j * 4, none⟩ = some (.int .i64 l[j].1) ∧ w.cell? ⟨b, off + j * 4 + 1, none⟩ = some (.int .i64 l[j].2.1) ∧ w.cell? ⟨b, off + j * 4 + 2, none⟩ = some (.int .i64 l[j].2.2.1) ∧ w.cell? ⟨b, off + j * 4 + 3, none⟩ = some (.int .i64 l[j].2.2.2))
theorem s4At_of {w : World} {v : Value} {l : List M.S4} (h : SsS w v l) : S4At w.heap.size w v l := by
  obtain ⟨a, cap, rfl, h1, h2, h3⟩ := h
  rw [List.length_map] at h1
  refine ⟨a, cap, by rw [List.length_map], h1, h2, fun h0 => ?_⟩
  obtain ⟨b, off, rfl, hb, hc⟩ := h3 (by rw [List.length_map]; exact h0)
  refine ⟨b, off, rfl, hb, fun j hj => ?_⟩
  have h4 := hc j (by rw [List.length_map]; exact hj)
  have h5 := h4 0 (.int .i64 l[j].1) (by simp [s4v])
  have h6 := h4 1 (.int .i64 l[j].2.1) (by simp [s4v])
  have h7 := h4 2 (.int .i64 l[j].2.2.1) (by simp [s4v])
  have h8 := h4 3 (.int .i64 l[j].2.2.2) (by simp [s4v])
  exact ⟨by simpa using h5, by rw [Nat.add_assoc]; exact h6, by rw [Nat.add_assoc]; exact h7, by rw [Nat.add_assoc]; exact h8⟩
theorem s4At_keep {B C : Nat} {w w' : World} {v : Value} {l : List M.S4} (h : S4At B w v l) (hb : Below C w w') (hC : B ≤ C) : S4At B w' v l := by
  obtain ⟨a, cap, rfl, h1, h2, h3⟩ := h
  refine ⟨a, cap, rfl, h1, h2, fun h0 => ?_⟩
  obtain ⟨b, off, rfl, hlt, hc⟩ := h3 h0
  refine ⟨b, off, rfl, hlt, fun j hj => ?_⟩
  obtain ⟨x0, x1, x2, x3⟩ := hc j hj
  exact ⟨(hb.cell (p := ⟨b, off + j * 4, none⟩) (Nat.lt_of_lt_of_le hlt hC)).trans x0, (hb.cell (p := ⟨b, off + j * 4 + 1, none⟩) (Nat.lt_of_lt_of_le hlt hC)).trans x1, (hb.cell (p := ⟨b, off + j * 4 + 2, none⟩) (Nat.lt_of_lt_of_le hlt hC)).trans x2, (hb.cell (p := ⟨b, off + j * 4 + 3, none⟩) (Nat.lt_of_lt_of_le hlt hC)).trans x3⟩
theorem s4At_get {B : Nat} {w : World} {a : Option Addr} {n cap : Nat} {l : List M.S4} (h : S4At B w (.slice a n cap) l) (j : Nat) (hj : j < l.length) :
    ∃ b off, a = some ⟨b, off, none⟩ ∧ b < B ∧ w.cell? ⟨b, off + j * 4, none⟩ = some (.int .i64 l[j].1) ∧ w.cell? ⟨b, off + j * 4 + 1, none⟩ = some (.int .i64 l[j].2.1) ∧ w.cell? ⟨b, off + j * 4 + 2, none⟩ = some (.int .i64 l[j].2.2.1) ∧ w.cell? ⟨b, off + j * 4 + 3, none⟩ = some (.int .i64 l[j].2.2.2) := by
  obtain ⟨a', c', hs, _, _, h3⟩ := h
  simp only [Value.slice.injEq] at hs
  obtain ⟨rfl, _, _⟩ := hs
  obtain ⟨b, off, rfl, hb, hc⟩ := h3 (by omega)
  exact ⟨b, off, rfl, hb, hc j hj⟩
theorem one_s4 (w : World) (x : M.S4) : Vs 4 (w.alloc (.cells #[.int .i64 x.1, .int .i64 x.2.1, .int .i64 x.2.2.1, .int .i64 x.2.2.2] 39)) (.slice (some ⟨w.heap.size, 0, none⟩) 1 1) [s4v x] :=
  vs_cells 4 39 w [s4v x] _ 1 rfl (s4_len [x]) rfl (by simp)
set_option maxRecDepth 100000 in
theorem open_s4 {H : Type} {enc : TypeId × Value → H} {W : World} {a : Option Addr} {len cap : Nat} {d : DataW H} {p : List MemPlace}
    (h : DataW.Trod enc Tryz.prog W 0 (fun _ => true) true 22 (.slice a len cap) d p) :
    ∃ L : List M.S4, L.length = len ∧ SsS W (.slice a len cap) L ∧ NNv (.slice a len cap) := by
  obtain ⟨fuel, hf⟩ := h
  have ce : Tryz.prog.cellsOf 39 = 4 := by kernel_rfl
  rcases Go.Deep.open_slice Tryz.underlying22 hf with ⟨hcs, _⟩ | ⟨x, l, c, m, n, D, Pl, hcs, _, hl, hm, hmm, _, hcell⟩
  · simp [Value.cells] at hcs
    obtain ⟨rfl, rfl, rfl⟩ := hcs
    exact ⟨[], rfl, vs_nil 4 W, nnv_nil⟩
  · simp [Value.cells] at hcs
    obtain rfl : a = some x := hcs.1
    obtain rfl : len = l := hcs.2.1
    obtain rfl : cap = c := hcs.2.2
    simp only [if_true] at hmm
    obtain rfl : cap = m := hmm.symm
    have hs : ∀ i, i < cap → ∃ y : M.S4, ∀ j u, (s4v y)[j]? = some u → W.cell? (x.add (i * 4 + j)) = some u := by
      intro i hi
      obtain ⟨cs', hc, ht⟩ := hcell i hi
      rw [ce] at hc
      obtain ⟨_, hcl, hat⟩ := World.cells?_some hc
      obtain ⟨xs, n', _, _, _, _, hfl⟩ := DataW.trod_struct Tryz.underlying39 ht
      have each : ∀ (j : Nat) (hj : j < 4) (f : Field), f.offset = j → Tryz.prog.cellsOf f.type = 1 → f.type = 3 → (∃ y, DataW.trod enc Tryz.prog W 0 (fun _ => true) true n' f.type ((cs'.drop f.offset).take (Tryz.prog.cellsOf f.type)) = some y) → ∃ k : Int, cs'[j]? = some (.int .i64 k) := by
        intro j hj f h1 h2 h3 ⟨y, hy⟩
        rw [h1, h2, h3, List.drop_eq_getElem_cons (by omega)] at hy
        obtain ⟨k, e, _⟩ := DataW.trod_int Tryz.underlying3 hy
        refine ⟨k, ?_⟩
        simp only [List.take_succ_cons, List.take_zero, List.cons.injEq, and_true] at e
        rw [List.getElem?_eq_getElem (by omega), e]
      have got : ∀ (j : Nat) (f : Field), (match Tryz.prog.underlying 39 with | some (.struct fs) => fs[j]? | _ => none) = some f → ∃ y, DataW.trod enc Tryz.prog W 0 (fun _ => true) true n' f.type ((cs'.drop f.offset).take (Tryz.prog.cellsOf f.type)) = some y := by
        intro j f hf
        have h1 := hfl j f (by rw [Tryz.underlying39] at hf; exact hf)
        rw [h1]
        rename_i xlen _
        have hj : j < xs.length := by
          rw [Tryz.underlying39] at hf
          have := (Array.getElem?_eq_some_iff.1 hf).1
          omega
        exact ⟨_, List.getElem?_eq_getElem hj⟩
      obtain ⟨k0, e0⟩ := each 0 (by omega) _ rfl (by kernel_rfl) rfl (got 0 _ (by rw [Tryz.underlying39]; rfl))
      obtain ⟨k1, e1⟩ := each 1 (by omega) _ rfl (by kernel_rfl) rfl (got 1 _ (by rw [Tryz.underlying39]; rfl))
      obtain ⟨k2, e2⟩ := each 2 (by omega) _ rfl (by kernel_rfl) rfl (got 2 _ (by rw [Tryz.underlying39]; rfl))
      obtain ⟨k3, e3⟩ := each 3 (by omega) _ rfl (by kernel_rfl) rfl (got 3 _ (by rw [Tryz.underlying39]; rfl))
      refine ⟨(k0, k1, k2, k3), fun j u hu => ?_⟩
      have hj : j < 4 := by have := (List.getElem?_eq_some_iff.1 hu).1; simpa [s4v] using this
      have h1 := hat j hj
      rw [← Go.Deep.add_add, h1]
      have : j = 0 ∨ j = 1 ∨ j = 2 ∨ j = 3 := by omega
      rcases this with rfl | rfl | rfl | rfl
      · rw [e0]; simpa [s4v] using hu
      · rw [e1]; simpa [s4v] using hu
      · rw [e2]; simpa [s4v] using hu
      · rw [e3]; simpa [s4v] using hu
    obtain ⟨Y, hY⟩ : ∃ Y : Nat → M.S4, ∀ i, i < cap → ∀ j u, (s4v (Y i))[j]? = some u → W.cell? (x.add (i * 4 + j)) = some u :=
      ⟨fun i => if hi : i < cap then (hs i hi).choose else (0, 0, 0, 0), fun i hi => by simp only [hi, dif_pos]; exact (hs i hi).choose_spec⟩
    refine ⟨(List.range len).map Y, by simp, ?_, nnv_some _ _ _⟩
    have hlen : (((List.range len).map Y).map s4v).length = len := by simp
    refine ⟨some x, cap, by rw [hlen], by rw [hlen]; exact hl, hm, fun h0 => ?_⟩
    have h0' : 0 < len := by rw [hlen] at h0; exact h0
    have c0 := hY 0 (by omega) 0 _ rfl
    obtain ⟨b, off, s⟩ := x
    have hs2 : s = none := by
      cases s with
      | none => rfl
      | some s => exfalso; revert c0; simp [Addr.add, World.cell?]; cases W.heap[b]? with
        | none => simp
        | some o => cases o <;> simp
    subst hs2
    have hb : b < W.heap.size := by
      have := World.block_lt_of_cell? W _ c0
      rw [Go.WideShapes.add_plain] at this
      exact this
    refine ⟨b, off, rfl, hb, fun j hj i u hu => ?_⟩
    rw [hlen] at hj
    have := hY j (by omega) i u (by simpa using hu)
    rwa [Go.WideShapes.add_plain] at this
end Go.Proofs.YtlobinjdgcidmaaGreatDoor
/- sread.segment: what is returned, for any text and any segment ahead. -/
namespace Go.Proofs.YtlobinjdgcidmaaGreatDoor
open Go.RowKit
set_option linter.unusedVariables false
set_option linter.unusedSimpArgs false

def s4q (x : M.S4) : Array Value := #[.int .i64 x.1, .int .i64 x.2.1, .int .i64 x.2.2.1, .int .i64 x.2.2.2]
theorem s4q_one (c : M.S4) : (s4q c).all (·.oneCell') = true := by
  rw [Array.all_eq_true_iff_forall_mem]
  intro x hx
  simp only [s4q, List.mem_toArray, List.mem_cons, List.mem_nil_iff, or_false] at hx
  rcases hx with rfl | rfl | rfl | rfl <;> rfl
theorem infoSeg4 : (Tryz.prog.info? 39).map (·.size) = some 4 := by kernel_rfl
def RB (E : TypeId) (w : World) (b : Nat) (x : M.S4) : Prop := w.heap[b]? = some (.cells (s4q x) E (0, 0))
theorem RB.lt {E : TypeId} {w : World} {b : Nat} {c : M.S4} (h : RB E w b c) : b < w.heap.size := (Array.getElem?_eq_some_iff.1 h).1
theorem RB.keep {E : TypeId} {w w' : World} {b : Nat} {c : M.S4} (h : RB E w b c) {B : Nat} (hb : Below B w w') (hB : b < B) : RB E w' b c := by
  unfold RB; rw [hb.block b hB]; exact h
theorem RB.new (E : TypeId) (w : World) (c : M.S4) : RB E (w.alloc (.cells (s4q c) E)) w.heap.size c := heap_alloc_new w _
theorem RB.set {E : TypeId} {w : World} {b : Nat} {c : M.S4} (h : RB E w b c) (d : M.S4) : RB E (w.setRow b (s4q d)) b d := setRow_heap w b (s4q c) (s4q d) _ _ h
theorem RB.put {E : TypeId} {w : World} {b : Nat} {c d : M.S4} (h : RB E w b c) (j : Nat) (u : Value) (hd : (s4q c).setIfInBounds j u = s4q d) : RB E (w.setCell ⟨b, j, none⟩ u) b d := by
  unfold RB; rw [setCell_eq_setRow w b j (s4q c) _ _ u h, hd]; exact setRow_heap w b (s4q c) _ _ _ h
theorem RB.other {E : TypeId} {w : World} {b : Nat} {c : M.S4} (h : RB E w b c) {g : Nat} (hne : b ≠ g) (j : Nat) (u : Value) : RB E (w.setCell ⟨g, j, none⟩ u) b c := by
  unfold RB; rw [Below.heap_setCell _ _ _ _ (fun e => hne e)]; exact h
theorem below_setRowR {B : Nat} {a w : World} (h : Below B a w) {g : Nat} (hg : B ≤ g) (cs : Array Value) : Below B a (w.setRow g cs) :=
  ⟨h.os, h.tape, h.output, by rw [size_setRow]; exact h.size, fun k hk => by rw [setRow_other w g k cs (by omega)]; exact h.block k hk⟩
theorem wpl_stR {ops : Array Oper} {rest : List Oper} {o : Oper} {a : Act} {w : World} {Q : Exit → Act → World → Prop} (hgd : o.guard = none) (x y : Operand) (ho : o.op = .store 39 x y)
    (g : Nat) (old c : M.S4) (hx : a.eval x = .pointer (some ⟨g, 0, none⟩)) (hy : a.eval y = .agg (s4q c)) (hg : RB 39 w g old)
    (h : wpList Tryz.prog ops Q rest (a.put o.dst undef) (w.setRow g (s4q c))) : wpList Tryz.prog ops Q (o :: rest) a w :=
  wpList_store_row hgd 39 x y ho g (s4q c) hx hy 39 (s4q old) hg infoSeg4 rfl (s4q_one c) h
theorem res_seg {fn : Func} {p u : Tmp} (h : fn.results = #[.cell p 39, .tmp u]) (tmps : Array Value) (w : World) (g : Nat) (c : M.S4) (k : Bool)
    (hp : tmps.getD p undef = .pointer (some ⟨g, 0, none⟩)) (hu : tmps.getD u undef = .bool k) (hg : RB 39 w g c) :
    (results fn tmps).run Tryz.prog w = .ok (.tuple #[.agg (s4q c), .bool k]) w := by
  rw [results_cell_tmp h, hp, hu]
  have : (asAddr (.pointer (some ⟨g, 0, none⟩))).run Tryz.prog w = .ok ⟨g, 0, none⟩ w := rfl
  rw [this]
  simp only [Result.andThen]
  rw [run_loadVar_row w g 39 39 (s4q c) (0, 0) _ hg Tryz.underlying39 rfl infoSeg4]
theorem s4q_get (m : M.S4) (k : Nat) (hk : k < 4) : (s4q m)[k]? = some (.int .i64 (M.nth4 m k)) := by
  have : k = 0 ∨ k = 1 ∨ k = 2 ∨ k = 3 := by omega
  rcases this with rfl | rfl | rfl | rfl <;> rfl
theorem put4_set (m : M.S4) (k : Nat) (v : Int) (hk : k < 4) : (s4q m).setIfInBounds k (.int .i64 v) = s4q (M.put4 m k v) := by
  have : k = 0 ∨ k = 1 ∨ k = 2 ∨ k = 3 := by omega
  rcases this with rfl | rfl | rfl | rfl <;> rfl
theorem nth4_b (m : M.S4) (k : Nat) (h : M.B4 m) : 0 ≤ M.nth4 m k ∧ M.nth4 m k ≤ 1073741824 := by
  obtain ⟨a, b, c, d⟩ := h
  unfold M.nth4
  split
  · exact a
  · split
    · exact b
    · split
      · exact c
      · exact d
set_option maxRecDepth 100000 in
set_option maxHeartbeats 4000000 in
theorem sseg_any (T : ByteArray) (t : List UInt8) (s : M.S4) (r : M.S4 × Bool) (w : World) (hT : bytes t = T) (hz : T.size ≤ 1048576)
    (h0 : 0 ≤ s.2.1 ∧ s.2.1 ≤ 1073741824) (h2 : 0 ≤ s.2.2.1 ∧ s.2.2.1 ≤ 1073741824) (h3 : 0 ≤ s.2.2.2 ∧ s.2.2.2 ≤ 1073741824) (hr : M.segV t s = r) :
    Calls Tryz.prog 24 #[.string T, .agg (s4q s)] w fun e w' => e = .returned (.tuple #[.agg (s4q r.1), .bool r.2]) ∧ Below w.heap.size w w' := by
  have HR := Lib.hid hr
  have hts : T.size = t.length := by rw [← hT, bytes_size]
  have GT := Lib.hid (fun (a : Int) (U : World) => vq_get_any T a (M.rd t a) U hz (by rw [← hT]; show V.gN a (V.getAt (bytes t).data.toList a) = _; rw [bytes_list]; rfl))
  obtain ⟨s1, s2, s3, s4⟩ := s
  have EXP := Lib.hid (show s4q (s1, s2, s3, s4) = #[.int .i64 s1, .int .i64 s2, .int .i64 s3, .int .i64 s4] from rfl)
  have EXZ := Lib.hid (show s4q (0, 0, 0, 0) = #[.int .i64 0, .int .i64 0, .int .i64 0, .int .i64 0] from rfl)
  have EXN := Lib.hid (show s4q (s2, 0, s3, s4) = #[.int .i64 s2, .int .i64 0, .int .i64 s3, .int .i64 s4] from rfl)
  -- the three blocks
  have ax : RB 39 (w.alloc (.cells (s4q (s1, s2, s3, s4)) 39)) w.heap.size (s1, s2, s3, s4) := RB.new _ w _
  have bx := (Below.refl w.heap.size w).alloc (Nat.le_refl _) (.cells (s4q (s1, s2, s3, s4)) 39)
  have zx : (w.alloc (.cells (s4q (s1, s2, s3, s4)) 39)).heap.size = w.heap.size + 1 := by simp
  obtain ⟨Wa, hWa⟩ : ∃ x, w.alloc (.cells (s4q (s1, s2, s3, s4)) 39) = x := ⟨_, rfl⟩
  rw [hWa] at ax bx zx
  have ay : RB 39 (Wa.alloc (.cells (s4q (0, 0, 0, 0)) 39)) Wa.heap.size (0, 0, 0, 0) := RB.new _ Wa _
  have by1 := (Below.refl Wa.heap.size Wa).alloc (Nat.le_refl _) (.cells (s4q (0, 0, 0, 0)) 39)
  have ax2 := ax.keep by1 (by omega)
  have bx2 := bx.trans (by1.mono (by omega))
  have zy : (Wa.alloc (.cells (s4q (0, 0, 0, 0)) 39)).heap.size = w.heap.size + 1 + 1 := by simp [zx]
  obtain ⟨Wb, hWb⟩ : ∃ x, Wa.alloc (.cells (s4q (0, 0, 0, 0)) 39) = x := ⟨_, rfl⟩
  rw [hWb] at ay ax2 bx2 zy
  rw [zx] at ay
  have az : RB 83 (Wb.alloc (.cells (s4q (s2, 0, s3, s4)) 83)) Wb.heap.size (s2, 0, s3, s4) := RB.new _ Wb _
  have bz1 := (Below.refl Wb.heap.size Wb).alloc (Nat.le_refl _) (.cells (s4q (s2, 0, s3, s4)) 83)
  have ax3 := ax2.keep bz1 (by omega)
  have ay3 := ay.keep bz1 (by omega)
  have bx3 := bx2.trans (bz1.mono (by omega))
  obtain ⟨Wc, hWc⟩ : ∃ x, Wb.alloc (.cells (s4q (s2, 0, s3, s4)) 83) = x := ⟨_, rfl⟩
  rw [hWc] at az ax3 ay3 bx3
  rw [zy] at az
  rw [← hWb, ← hWa, EXP.out, EXZ.out, EXN.out] at hWc
  have HWc := Lib.hid hWc
  have A0 := Lib.hid ax3
  have A1 := Lib.hid ay3
  have A2 := Lib.hid az
  have B0 := Lib.hid bx3
  have H0 := Lib.hid h0
  have H2 := Lib.hid h2
  have H3 := Lib.hid h3
  rw [EXP.out]
  clear ax bx zx ay by1 ax2 bx2 zy az bz1 ax3 ay3 bx3 hWa hWb hWc hr h0 h2 h3 hT
  go_enter Tryz.func24, Tryz.ntmps24
  go_upto_region 2 with (fail)
  rw [HWc.out]
  go_wp2
  go_loopw [7, 20] (fun av kv wr => ∃ (k : Nat) (a : Int) (m : M.S4), kv = .int .i64 (k : Int) ∧ av = .int .i64 a ∧ k ≤ 4 ∧ M.segSt t (s1, s2, s3, s4) k = some (m, a) ∧ M.B4 m ∧ RB 39 wr w.heap.size (s1, s2, s3, s4) ∧ RB 39 wr (w.heap.size + 1) (0, 0, 0, 0) ∧ RB 83 wr (w.heap.size + 1 + 1) m ∧ Below w.heap.size w wr) (fun _ kv _ => 4 - (intOf kv).toNat)
  case atStart => exact ⟨0, 0, _, rfl, rfl, by omega, rfl, ⟨H0.out, by simp, H2.out, H3.out⟩, A0.out, A1.out, A2.out, B0.out⟩
  case round =>
    obtain ⟨k, a, m, rfl, rfl, hk, hst, hB, r0, r1, r2, hb⟩ := hrel
    by_cases hk4 : k < 4
    · obtain ⟨v0, v1⟩ := nth4_b m k hB
      have ce := (cell_of_row _ _ k _ _ _ r2).trans (s4q_get m k hk4)
      have fz := frozen_of_row _ _ k _ _ r2
      have pk := fun v => put4_set m k v hk4
      obtain ⟨X, hX⟩ : ∃ X, M.nth4 m k = X := ⟨_, rfl⟩
      obtain ⟨⟨n, nx, ok⟩, hrd⟩ : ∃ p, M.rd t a = p := ⟨_, rfl⟩
      have hle := M.rd_le t a
      have g := GT.out a
      have hgo := M.segSt_go t (s1, s2, s3, s4) m a k hst
      have hno := M.segSt_no t (s1, s2, s3, s4) m a k hk4 hst
      rw [hrd, hX] at hgo hno
      rw [hrd] at hle g
      rw [hX] at ce v0 v1
      unfold vq_tri at g
      simp only at hle g hgo hno
      obtain ⟨l0, l1⟩ := hle
      have k4 : (k : Int) < 4 := by omega
      have G := Lib.hid g
      have HGO := Lib.hid hgo
      have HNO := Lib.hid hno
      have HB4 := Lib.hid (fun v h1 h2 => M.put4_b m k v hB h1 h2)
      have R0 := Lib.hid r0
      have R1 := Lib.hid r1
      have R2 := Lib.hid r2
      have PK := Lib.hid pk
      have HB := Lib.hid hb
      clear g hgo hno hrd hst hB r0 r1 r2 hb pk hX
      go_wp2_with fail
      refine (G.out _).mono ?_
      rintro e w' ⟨rfl, rfl⟩
      have c5 : (wr.setCell ⟨w.heap.size + 1 + 1, k, none⟩ (.int .i64 (X + n))).cell? ⟨w.heap.size + 1 + 1, k, none⟩ = some (.int .i64 (X + n)) := World.cell?_setCell_same _ _ _ ce
      have p5 := R2.out.put k (.int .i64 (X + n)) (PK.out _)
      have p0 := R0.out.other (g := w.heap.size + 1 + 1) (by omega) k (.int .i64 (X + n))
      have p1 := R1.out.other (g := w.heap.size + 1 + 1) (by omega) k (.int .i64 (X + n))
      have pb := Below.setCell HB.out (show w.heap.size ≤ (⟨w.heap.size + 1 + 1, k, none⟩ : Addr).block by show w.heap.size ≤ w.heap.size + 1 + 1; omega) (.int .i64 (X + n))
      obtain ⟨W5, hW5⟩ : ∃ x, wr.setCell ⟨w.heap.size + 1 + 1, k, none⟩ (.int .i64 (X + n)) = x := ⟨_, rfl⟩
      rw [hW5] at c5 p5 p0 p1 pb
      have HW5 := Lib.hid hW5
      have P5 := Lib.hid p5
      have P0 := Lib.hid p0
      have P1 := Lib.hid p1
      have PB := Lib.hid pb
      clear hW5 p5 p0 p1 pb R0 R1 R2 HB
      go_upto_region 9 with (fail)
      rw [HW5.out]
      clear ce fz
      cases ok with
      | false =>
        obtain rfl : r = ((0, 0, 0, 0), false) := by
          rw [← HR.out]
          exact HNO.out (fun h => absurd h.1 (by decide))
        go_wp2_with (refine wpl_stR rfl _ _ rfl (w.heap.size + 1) (0, 0, 0, 0) (0, 0, 0, 0) rfl rfl P1.out ?_)
        go_wp2
        (try simp only [Exit.inBlock, Exit.then])
        exact bodyPost_ret (res_seg rfl _ _ (w.heap.size + 1) _ _ rfl rfl (P1.out.set _)) rfl ⟨rfl, below_setRowR PB.out (by omega) _⟩
      | true =>
        by_cases g0 : X + n < 0
        · obtain rfl : r = ((0, 0, 0, 0), false) := by
            rw [← HR.out]
            exact HNO.out (fun h => by omega)
          go_wp2_with (refine wpl_stR rfl _ _ rfl (w.heap.size + 1) (0, 0, 0, 0) (0, 0, 0, 0) rfl rfl P1.out ?_)
          go_wp2
          (try simp only [Exit.inBlock, Exit.then])
          exact bodyPost_ret (res_seg rfl _ _ (w.heap.size + 1) _ _ rfl rfl (P1.out.set _)) rfl ⟨rfl, below_setRowR PB.out (by omega) _⟩
        · by_cases g1 : 1073741824 < X + n
          · obtain rfl : r = ((0, 0, 0, 0), false) := by
              rw [← HR.out]
              exact HNO.out (fun h => by omega)
            go_wp2_with (refine wpl_stR rfl _ _ rfl (w.heap.size + 1) (0, 0, 0, 0) (0, 0, 0, 0) rfl rfl P1.out ?_)
            go_wp2
            (try simp only [Exit.inBlock, Exit.then])
            exact bodyPost_ret (res_seg rfl _ _ (w.heap.size + 1) _ _ rfl rfl (P1.out.set _)) rfl ⟨rfl, below_setRowR PB.out (by omega) _⟩
          · have hs5 := HGO.out rfl (by omega) (by omega)
            have HS5 := Lib.hid hs5
            clear hs5
            go_wp2
            go_roundw
            case rel => exact ⟨k + 1, nx, _, by go_num, rfl, by omega, HS5.out, HB4.out _ (by omega) (by omega), P0.out, P1.out, P5.out, PB.out⟩
            case measure => simp [intOf]; omega
    · obtain rfl : k = 4 := by omega
      have hr2 := HR.out
      rw [M.segV_yes t (s1, s2, s3, s4) m a hst] at hr2
      subst hr2
      obtain ⟨m1, m2, m3, m4⟩ := m
      have y0 : wr.cell? ⟨w.heap.size, 0, none⟩ = some (.int .i64 s1) := cell_of_row _ _ 0 _ _ _ r0
      have d0 : wr.cell? ⟨w.heap.size + 1 + 1, 0, none⟩ = some (.int .i64 m1) := cell_of_row _ _ 0 _ _ _ r2
      have d1 : wr.cell? ⟨w.heap.size + 1 + 1, 1, none⟩ = some (.int .i64 m2) := cell_of_row _ _ 1 _ _ _ r2
      have d2 : wr.cell? ⟨w.heap.size + 1 + 1, 2, none⟩ = some (.int .i64 m3) := cell_of_row _ _ 2 _ _ _ r2
      have d3 : wr.cell? ⟨w.heap.size + 1 + 1, 3, none⟩ = some (.int .i64 m4) := cell_of_row _ _ 3 _ _ _ r2
      have hlt1 : w.heap.size + 1 < wr.heap.size := r1.lt
      have bl := (Below.refl wr.heap.size wr).alloc (Nat.le_refl _) (.cells #[.int .i64 s1, .int .i64 m1, .int .i64 m3, .int .i64 m4] 39)
      have q1 := r1.keep bl r1.lt
      have q3 : RB 39 (wr.alloc (.cells #[.int .i64 s1, .int .i64 m1, .int .i64 m3, .int .i64 m4] 39)) wr.heap.size (s1, m1, m3, m4) := RB.new _ wr (s1, m1, m3, m4)
      have qb := hb.trans (bl.mono hb.size)
      have e1 := (bl.cell (p := ⟨w.heap.size + 1 + 1, 1, none⟩) r2.lt).trans d1
      have x0 := cell_of_row _ _ 0 _ _ _ q3
      have x1 := cell_of_row _ _ 1 _ _ _ q3
      have x2 := cell_of_row _ _ 2 _ _ _ q3
      have x3 := cell_of_row _ _ 3 _ _ _ q3
      simp only [s4q] at x0 x1 x2 x3
      obtain ⟨W6, hW6⟩ : ∃ x, wr.alloc (.cells #[.int .i64 s1, .int .i64 m1, .int .i64 m3, .int .i64 m4] 39) = x := ⟨_, rfl⟩
      rw [hW6] at q1 qb e1 x0 x1 x2 x3
      have HW6 := Lib.hid hW6
      have Q1 := Lib.hid q1
      have QB := Lib.hid qb
      clear hst hB r0 r1 r2 hb q1 q3 qb hW6 bl
      go_upto_region 13 with (fail)
      rw [HW6.out]
      clear d0 d1 d2 d3 y0
      have hlt6 : w.heap.size + 1 < wr.heap.size := hlt1
      by_cases h1 : a = (T.size : Int)
      · have t1 : (a == (T.size : Int)) = true := by rw [beq_iff_eq]; exact h1
        by_cases h2 : m2 = 0
        · have t2 : (m2 == 0) = true := by rw [beq_iff_eq]; exact h2
          have ans : (a == (t.length : Int)) = true := by rw [← hts, t1]
          have ANS := Lib.hid ans
          clear h1 h2 ans hts
          refine wp_region_noPanic ?_
          refine wp_region_held_drew (S := fun V => V.cell? ⟨wr.heap.size, 0, none⟩ = some (.int .i64 s1) ∧ V.cell? ⟨wr.heap.size, 1, none⟩ = some (.int .i64 m1) ∧ V.cell? ⟨wr.heap.size, 2, none⟩ = some (.int .i64 m3) ∧ V.cell? ⟨wr.heap.size, 3, none⟩ = some (.int .i64 m4) ∧ V.cell? ⟨w.heap.size + 1 + 1, 1, none⟩ = some (.int .i64 m2)) (by kernel_rfl) ⟨x0, x1, x2, x3, e1⟩ (fun hS => ?_)
          refine rtk 0 ?_
          refine rtk 1 ?_
          refine rtk 2 ?_
          refine rtk 3 ?_
          refine rtk 4 ?_
          refine rtk 5 ?_
          refine rtk 6 ?_
          refine rtk 7 ?_
          refine rtk 8 ?_
          refine rtk 9 ?_
          refine wpAnyH_ready (rs := [10]) (by kernel_rfl) (by simp) ?_
          refine AllReadyH.cons rfl (fun K hK => ?_) AllReadyH.nil
          rw [if_pos (by rfl)]
          refine wp_store_row 39 _ _ rfl (w.heap.size + 1) (s4q (s1, m1, m3, m4)) rfl rfl 39 (s4q (0, 0, 0, 0)) (Q1.out.keep (Below.refl W6.heap.size W6).drew Q1.out.lt) infoSeg4 rfl (s4q_one _) ?_
          refine hK.out _ _ ?_ (fun hS2 => ?_)
          · obtain ⟨a0, a1, a2, a3, a4⟩ := hS
            exact ⟨by rw [cell_setRow_other _ _ _ _ (by simp; omega)]; exact a0, by rw [cell_setRow_other _ _ _ _ (by simp; omega)]; exact a1, by rw [cell_setRow_other _ _ _ _ (by simp; omega)]; exact a2, by rw [cell_setRow_other _ _ _ _ (by simp; omega)]; exact a3, by rw [cell_setRow_other _ _ _ _ (by simp)]; exact a4⟩
          clear hK K
          refine rtk 11 ?_
          refine wpAnyH_done (by kernel_rfl) ?_ _
          refine NoPanic.normal ?_
          go_wp2
          (try simp only [Exit.inBlock, Exit.then])
          exact bodyPost_ret (res_seg rfl _ _ (w.heap.size + 1) _ _ rfl rfl (RB.set (Q1.out.keep (Below.refl W6.heap.size W6).drew Q1.out.lt) _)) rfl ⟨by rw [ANS.out], below_setRowR QB.out.drew (by omega) _⟩
        · have t2 : (m2 == 0) = false := by rw [beq_eq_false_iff_ne]; exact h2
          have ans : (a == (t.length : Int) && m2 == 0) = false := by rw [← hts, t1, t2]; rfl
          have ANS := Lib.hid ans
          clear h1 h2 ans hts
          refine wp_region_noPanic ?_
          refine wp_region_held_drew (S := fun V => V.cell? ⟨wr.heap.size, 0, none⟩ = some (.int .i64 s1) ∧ V.cell? ⟨wr.heap.size, 1, none⟩ = some (.int .i64 m1) ∧ V.cell? ⟨wr.heap.size, 2, none⟩ = some (.int .i64 m3) ∧ V.cell? ⟨wr.heap.size, 3, none⟩ = some (.int .i64 m4) ∧ V.cell? ⟨w.heap.size + 1 + 1, 1, none⟩ = some (.int .i64 m2)) (by kernel_rfl) ⟨x0, x1, x2, x3, e1⟩ (fun hS => ?_)
          refine rtk 0 ?_
          refine rtk 1 ?_
          refine rtk 2 ?_
          refine rtk 3 ?_
          refine rtk 4 ?_
          refine rtk 5 ?_
          refine rtk 6 ?_
          refine rtk 7 ?_
          refine rtk 8 ?_
          refine rtk 9 ?_
          refine wpAnyH_ready (rs := [10]) (by kernel_rfl) (by simp) ?_
          refine AllReadyH.cons rfl (fun K hK => ?_) AllReadyH.nil
          rw [if_pos (by rfl)]
          refine wp_store_row 39 _ _ rfl (w.heap.size + 1) (s4q (s1, m1, m3, m4)) rfl rfl 39 (s4q (0, 0, 0, 0)) (Q1.out.keep (Below.refl W6.heap.size W6).drew Q1.out.lt) infoSeg4 rfl (s4q_one _) ?_
          refine hK.out _ _ ?_ (fun hS2 => ?_)
          · obtain ⟨a0, a1, a2, a3, a4⟩ := hS
            exact ⟨by rw [cell_setRow_other _ _ _ _ (by simp; omega)]; exact a0, by rw [cell_setRow_other _ _ _ _ (by simp; omega)]; exact a1, by rw [cell_setRow_other _ _ _ _ (by simp; omega)]; exact a2, by rw [cell_setRow_other _ _ _ _ (by simp; omega)]; exact a3, by rw [cell_setRow_other _ _ _ _ (by simp)]; exact a4⟩
          clear hK K
          refine rtk 11 ?_
          refine wpAnyH_done (by kernel_rfl) ?_ _
          refine NoPanic.normal ?_
          go_wp2
          (try simp only [Exit.inBlock, Exit.then])
          exact bodyPost_ret (res_seg rfl _ _ (w.heap.size + 1) _ _ rfl rfl (RB.set (Q1.out.keep (Below.refl W6.heap.size W6).drew Q1.out.lt) _)) rfl ⟨rfl, below_setRowR QB.out.drew (by omega) _⟩
      · have t1 : (a == (T.size : Int)) = false := by rw [beq_eq_false_iff_ne]; exact h1
        have ans : (a == (t.length : Int) && m2 == 0) = false := by rw [← hts, t1]; rfl
        have ANS := Lib.hid ans
        clear h1 ans hts
        refine wp_region_noPanic ?_
        refine wp_region_held_drew (S := fun V => V.cell? ⟨wr.heap.size, 0, none⟩ = some (.int .i64 s1) ∧ V.cell? ⟨wr.heap.size, 1, none⟩ = some (.int .i64 m1) ∧ V.cell? ⟨wr.heap.size, 2, none⟩ = some (.int .i64 m3) ∧ V.cell? ⟨wr.heap.size, 3, none⟩ = some (.int .i64 m4) ∧ V.cell? ⟨w.heap.size + 1 + 1, 1, none⟩ = some (.int .i64 m2)) (by kernel_rfl) ⟨x0, x1, x2, x3, e1⟩ (fun hS => ?_)
        refine rtk 0 ?_
        refine rtk 1 ?_
        refine rtk 2 ?_
        refine rtk 3 ?_
        refine rtk 4 ?_
        refine rtk 5 ?_
        refine rts 6 ?_
        refine rts 7 ?_
        refine rts 8 ?_
        refine rtk 9 ?_
        refine wpAnyH_ready (rs := [10]) (by kernel_rfl) (by simp) ?_
        refine AllReadyH.cons rfl (fun K hK => ?_) AllReadyH.nil
        rw [if_pos (by rfl)]
        refine wp_store_row 39 _ _ rfl (w.heap.size + 1) (s4q (s1, m1, m3, m4)) rfl rfl 39 (s4q (0, 0, 0, 0)) (Q1.out.keep (Below.refl W6.heap.size W6).drew Q1.out.lt) infoSeg4 rfl (s4q_one _) ?_
        refine hK.out _ _ ?_ (fun hS2 => ?_)
        · obtain ⟨a0, a1, a2, a3, a4⟩ := hS
          exact ⟨by rw [cell_setRow_other _ _ _ _ (by simp; omega)]; exact a0, by rw [cell_setRow_other _ _ _ _ (by simp; omega)]; exact a1, by rw [cell_setRow_other _ _ _ _ (by simp; omega)]; exact a2, by rw [cell_setRow_other _ _ _ _ (by simp; omega)]; exact a3, by rw [cell_setRow_other _ _ _ _ (by simp)]; exact a4⟩
        clear hK K
        refine rtk 11 ?_
        refine wpAnyH_done (by kernel_rfl) ?_ _
        refine NoPanic.normal ?_
        go_wp2
        (try simp only [Exit.inBlock, Exit.then])
        exact bodyPost_ret (res_seg rfl _ _ (w.heap.size + 1) _ _ rfl rfl (RB.set (Q1.out.keep (Below.refl W6.heap.size W6).drew Q1.out.lt) _)) rfl ⟨by rw [ANS.out], below_setRowR QB.out.drew (by omega) _⟩
end Go.Proofs.YtlobinjdgcidmaaGreatDoor
