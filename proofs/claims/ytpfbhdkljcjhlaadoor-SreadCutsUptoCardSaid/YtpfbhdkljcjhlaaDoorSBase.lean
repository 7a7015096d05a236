/- Segments in memory, whatever ints they hold. -/
import Derived.Test.YtpfbhdkljcjhlaaDoorVBase
import Derived.Test.YtpfbhdkljcjhlaaDoorVStep
import Derived.Test.YtpfbhdkljcjhlaaDoorSMath
import Derived.Deep.Slices
import Derived.Deep.Fields
import Derived.ChangeSame
import Derived.ProofKit
import Derived.OpenShut
namespace Go.Proofs.YtpfbhdkljcjhlaaDoor
open Go.RowKit Go.ChangeShapes Go.WideShapes
set_option linter.unusedVariables false
set_option linter.unusedSimpArgs false

def s4v (x : M.S4) : List Value := [.int .i64 x.1, .int .i64 x.2.1, .int .i64 x.2.2.1, .int .i64 x.2.2.2]
theorem s4_len (l : List M.S4) : ∀ y ∈ l.map s4v, y.length = 4 := by
  intro y hy
  obtain ⟨x, _, rfl⟩ := List.mem_map.1 hy
  rfl
theorem s4v_one (x : M.S4) : ∀ c ∈ s4v x, c.oneCell' = true := by intro c hc; simp [s4v] at hc; rcases hc with rfl | rfl | rfl | rfl <;> rfl
theorem s4_one (l : List M.S4) : ∀ y ∈ l.map s4v, ∀ c ∈ y, c.oneCell' = true := by
  intro y hy
  obtain ⟨x, _, rfl⟩ := List.mem_map.1 hy
  exact s4v_one x
theorem infoS4 : (Tryd.prog.info? 35).map (fun i => (i.zero, i.size, i.bytes)) = some (some (.agg #[.int .i64 0, .int .i64 0, .int .i64 0, .int .i64 0]), 4, 32) := by kernel_rfl
def Ss (w : World) (v : Value) (l : List M.S4) : Prop := Vs 4 w v (l.map s4v)
def OwnS4 (B : Nat) (w : World) (v : Value) (l : List M.S4) : Prop := OwnV 35 4 B w v (l.map s4v)
theorem OwnS4.keep {B : Nat} {w w' : World} {v : Value} {l : List M.S4} (h : OwnS4 B w v l) (hb : Below w.heap.size w w') : OwnS4 B w' v l := OwnV.keep h hb
theorem OwnS4.ss {B : Nat} {w : World} {v : Value} {l : List M.S4} (h : OwnS4 B w v l) : Ss w v l := OwnV.vs h
theorem Ss.keep {w w' : World} {v : Value} {l : List M.S4} (h : Ss w v l) (hb : Below w.heap.size w w') : Ss w' v l := Vs.keep h hb
theorem ss_nil (w : World) : Ss w (.slice none 0 0) [] := vs_nil 4 w
/-- Segments that lie below a block: the value, and each cell. -/
def S4At (B : Nat) (w : World) (v : Value) (l : List M.S4) : Prop :=
  ∃ a cap, v = .slice a l.length cap ∧ l.length ≤ cap ∧ cap ≤ maxLen ∧ (0 < l.length → ∃ b off, a = some ⟨b, off, none⟩ ∧ b < B ∧ ∀ j (hj : j < l.length),
    w.cell? ⟨b, off + j * 4, none⟩ = some (.int .i64 l[j].1) ∧ w.cell? ⟨b, off + j * 4 + 1, none⟩ = some (.int .i64 l[j].2.1) ∧ w.cell? ⟨b, off + j * 4 + 2, none⟩ = some (.int .i64 l[j].2.2.1) ∧ w.cell? ⟨b, off + j * 4 + 3, none⟩ = some (.int .i64 l[j].2.2.2))
theorem s4At_of {w : World} {v : Value} {l : List M.S4} (h : Ss w v l) : S4At w.heap.size w v l := by
  obtain ⟨a, cap, rfl, h1, h2, h3⟩ := h
  rw [List.length_map] at h1
  refine ⟨a, cap, by rw [List.length_map], h1, h2, fun h0 => ?_⟩
  obtain ⟨b, off, rfl, hb, hc⟩ := h3 (by rw [List.length_map]; exact h0)
  refine ⟨b, off, rfl, hb, fun j hj => ?_⟩
  have h4 := hc j (by rw [List.length_map]; exact hj)
  have h5 := h4 0 (.int .i64 l[j].1) (by simp [s4v])
  have h6 := h4 1 (.int .i64 l[j].2.1) (by simp [s4v])
  have h7 := h4 2 (.int .i64 l[j].2.2.1) (by simp [s4v])
  have h8 := h4 3 (.int .i64 l[j].2.2.2) (by simp [s4v])
  exact ⟨by simpa using h5, by rw [Nat.add_assoc]; exact h6, by rw [Nat.add_assoc]; exact h7, by rw [Nat.add_assoc]; exact h8⟩
theorem s4At_keep {B C : Nat} {w w' : World} {v : Value} {l : List M.S4} (h : S4At B w v l) (hb : Below C w w') (hC : B ≤ C) : S4At B w' v l := by
  obtain ⟨a, cap, rfl, h1, h2, h3⟩ := h
  refine ⟨a, cap, rfl, h1, h2, fun h0 => ?_⟩
  obtain ⟨b, off, rfl, hlt, hc⟩ := h3 h0
  refine ⟨b, off, rfl, hlt, fun j hj => ?_⟩
  obtain ⟨x0, x1, x2, x3⟩ := hc j hj
  exact ⟨(hb.cell (p := ⟨b, off + j * 4, none⟩) (Nat.lt_of_lt_of_le hlt hC)).trans x0, (hb.cell (p := ⟨b, off + j * 4 + 1, none⟩) (Nat.lt_of_lt_of_le hlt hC)).trans x1, (hb.cell (p := ⟨b, off + j * 4 + 2, none⟩) (Nat.lt_of_lt_of_le hlt hC)).trans x2, (hb.cell (p := ⟨b, off + j * 4 + 3, none⟩) (Nat.lt_of_lt_of_le hlt hC)).trans x3⟩
theorem s4At_get {B : Nat} {w : World} {a : Option Addr} {n cap : Nat} {l : List M.S4} (h : S4At B w (.slice a n cap) l) (j : Nat) (hj : j < l.length) :
    ∃ b off, a = some ⟨b, off, none⟩ ∧ b < B ∧ w.cell? ⟨b, off + j * 4, none⟩ = some (.int .i64 l[j].1) ∧ w.cell? ⟨b, off + j * 4 + 1, none⟩ = some (.int .i64 l[j].2.1) ∧ w.cell? ⟨b, off + j * 4 + 2, none⟩ = some (.int .i64 l[j].2.2.1) ∧ w.cell? ⟨b, off + j * 4 + 3, none⟩ = some (.int .i64 l[j].2.2.2) := by
  obtain ⟨a', c', hs, _, _, h3⟩ := h
  simp only [Value.slice.injEq] at hs
  obtain ⟨rfl, _, _⟩ := hs
  obtain ⟨b, off, rfl, hb, hc⟩ := h3 (by omega)
  exact ⟨b, off, rfl, hb, hc j hj⟩
theorem one_s4 (w : World) (x : M.S4) : Vs 4 (w.alloc (.cells #[.int .i64 x.1, .int .i64 x.2.1, .int .i64 x.2.2.1, .int .i64 x.2.2.2] 35)) (.slice (some ⟨w.heap.size, 0, none⟩) 1 1) [s4v x] :=
  vs_cells 4 35 w [s4v x] _ 1 rfl (s4_len [x]) rfl (by simp)
theorem wpl_s4 {w : World} {ops : Array Oper} {rest : List Oper} {o : Oper} {a : Act} {Q : Exit → Act → World → Prop} (hgd : o.guard = none) (s x : Operand)
    (ho : o.op = .call { callee := .builtin .append, args := #[s, x], argTypes := #[22, 22] })
    (B : Nat) (v u : Value) (l k t : List M.S4) (hs : a.eval s = v) (hown : OwnS4 B w v l) (hx : a.eval x = u) (hu : Vs 4 w u (k.map s4v)) (hnn : NNv u)
    (hlen : l.length + k.length ≤ 4294967296) (hB : B ≤ w.heap.size) (ht : l ++ k = t)
    (h : ∀ v' w', OwnS4 B w' v' t → Below B w w' → wpList Tryd.prog ops Q rest (a.put o.dst v') w') : wpList Tryd.prog ops Q (o :: rest) a w :=
  wpl_appendV hgd s x ho Tryd.underlying22 infoS4 rfl (by decide) B v u (l.map s4v) (k.map s4v) (t.map s4v) hs hown hx hu hnn (s4_len k) (s4_one k) (by simp; omega) (by decide) hB (by rw [← ht]; simp) h

set_option maxRecDepth 100000 in
theorem open_s4 {H : Type} {enc : TypeId × Value → H} {W : World} {a : Option Addr} {len cap : Nat} {d : DataW H} {p : List MemPlace}
    (h : DataW.Trod enc Tryd.prog W 0 (fun _ => true) true 22 (.slice a len cap) d p) :
    ∃ L : List M.S4, L.length = len ∧ Ss W (.slice a len cap) L ∧ NNv (.slice a len cap) := by
  obtain ⟨fuel, hf⟩ := h
  have ce : Tryd.prog.cellsOf 35 = 4 := by kernel_rfl
  rcases Go.Deep.open_slice Tryd.underlying22 hf with ⟨hcs, _⟩ | ⟨x, l, c, m, n, D, Pl, hcs, _, hl, hm, hmm, _, hcell⟩
  · simp [Value.cells] at hcs
    obtain ⟨rfl, rfl, rfl⟩ := hcs
    exact ⟨[], rfl, vs_nil 4 W, nnv_nil⟩
  · simp [Value.cells] at hcs
    obtain rfl : a = some x := hcs.1
    obtain rfl : len = l := hcs.2.1
    obtain rfl : cap = c := hcs.2.2
    simp only [if_true] at hmm
    obtain rfl : cap = m := hmm.symm
    have hs : ∀ i, i < cap → ∃ y : M.S4, ∀ j u, (s4v y)[j]? = some u → W.cell? (x.add (i * 4 + j)) = some u := by
      intro i hi
      obtain ⟨cs', hc, ht⟩ := hcell i hi
      rw [ce] at hc
      obtain ⟨_, hcl, hat⟩ := World.cells?_some hc
      obtain ⟨xs, n', _, _, _, _, hfl⟩ := DataW.trod_struct Tryd.underlying35 ht
      have each : ∀ (j : Nat) (hj : j < 4) (f : Field), f.offset = j → Tryd.prog.cellsOf f.type = 1 → f.type = 3 → (∃ y, DataW.trod enc Tryd.prog W 0 (fun _ => true) true n' f.type ((cs'.drop f.offset).take (Tryd.prog.cellsOf f.type)) = some y) → ∃ k : Int, cs'[j]? = some (.int .i64 k) := by
        intro j hj f h1 h2 h3 ⟨y, hy⟩
        rw [h1, h2, h3, List.drop_eq_getElem_cons (by omega)] at hy
        obtain ⟨k, e, _⟩ := DataW.trod_int Tryd.underlying3 hy
        refine ⟨k, ?_⟩
        simp only [List.take_succ_cons, List.take_zero, List.cons.injEq, and_true] at e
        rw [List.getElem?_eq_getElem (by omega), e]
      have got : ∀ (j : Nat) (f : Field), (match Tryd.prog.underlying 35 with | some (.struct fs) => fs[j]? | _ => none) = some f → ∃ y, DataW.trod enc Tryd.prog W 0 (fun _ => true) true n' f.type ((cs'.drop f.offset).take (Tryd.prog.cellsOf f.type)) = some y := by
        intro j f hf
        have h1 := hfl j f (by rw [Tryd.underlying35] at hf; exact hf)
        rw [h1]
        rename_i xlen _
        have hj : j < xs.length := by
          rw [Tryd.underlying35] at hf
          have := (Array.getElem?_eq_some_iff.1 hf).1
          omega
        exact ⟨_, List.getElem?_eq_getElem hj⟩
      obtain ⟨k0, e0⟩ := each 0 (by omega) _ rfl (by kernel_rfl) rfl (got 0 _ (by rw [Tryd.underlying35]; rfl))
      obtain ⟨k1, e1⟩ := each 1 (by omega) _ rfl (by kernel_rfl) rfl (got 1 _ (by rw [Tryd.underlying35]; rfl))
      obtain ⟨k2, e2⟩ := each 2 (by omega) _ rfl (by kernel_rfl) rfl (got 2 _ (by rw [Tryd.underlying35]; rfl))
      obtain ⟨k3, e3⟩ := each 3 (by omega) _ rfl (by kernel_rfl) rfl (got 3 _ (by rw [Tryd.underlying35]; rfl))
      refine ⟨(k0, k1, k2, k3), fun j u hu => ?_⟩
      have hj : j < 4 := by have := (List.getElem?_eq_some_iff.1 hu).1; simpa [s4v] using this
      have h1 := hat j hj
      rw [← Go.Deep.add_add, h1]
      have : j = 0 ∨ j = 1 ∨ j = 2 ∨ j = 3 := by omega
      rcases this with rfl | rfl | rfl | rfl
      · rw [e0]; simpa [s4v] using hu
      · rw [e1]; simpa [s4v] using hu
      · rw [e2]; simpa [s4v] using hu
      · rw [e3]; simpa [s4v] using hu
    obtain ⟨Y, hY⟩ : ∃ Y : Nat → M.S4, ∀ i, i < cap → ∀ j u, (s4v (Y i))[j]? = some u → W.cell? (x.add (i * 4 + j)) = some u :=
      ⟨fun i => if hi : i < cap then (hs i hi).choose else (0, 0, 0, 0), fun i hi => by simp only [hi, dif_pos]; exact (hs i hi).choose_spec⟩
    refine ⟨(List.range len).map Y, by simp, ?_, nnv_some _ _ _⟩
    have hlen : (((List.range len).map Y).map s4v).length = len := by simp
    refine ⟨some x, cap, by rw [hlen], by rw [hlen]; exact hl, hm, fun h0 => ?_⟩
    have h0' : 0 < len := by rw [hlen] at h0; exact h0
    have c0 := hY 0 (by omega) 0 _ rfl
    obtain ⟨b, off, s⟩ := x
    have hs2 : s = none := by
      cases s with
      | none => rfl
      | some s => exfalso; revert c0; simp [Addr.add, World.cell?]; cases W.heap[b]? with
        | none => simp
        | some o => cases o <;> simp
    subst hs2
    have hb : b < W.heap.size := by
      have := World.block_lt_of_cell? W _ c0
      rw [Go.WideShapes.add_plain] at this
      exact this
    refine ⟨b, off, rfl, hb, fun j hj i u hu => ?_⟩
    rw [hlen] at hj
    have := hY j (by omega) i u (by simpa using hu)
    rwa [Go.WideShapes.add_plain] at this
end Go.Proofs.YtpfbhdkljcjhlaaDoor
