/- Pieces that came in, as the frame reads them; of the second form also how many letters they have in all. -/
import Derived.Test.YtpedipalpebolaaDoorPBase
import Derived.Test.YtpedipalpebolaaDoorBulk
import Derived.Deep.SlicePairs
import Derived.ChangeSame
import Derived.ProofKit
import Derived.OpenShut
namespace Go.Proofs.YtpedipalpebolaaDoor
open Go.RowKit Go.ChangeShapes Go.WideShapes
set_option linter.unusedVariables false

theorem bulk_append {H : Type} (l k : List (DataW H)) : Rows.uptoBulkAll (l ++ k) = Rows.uptoBulkAll l + Rows.uptoBulkAll k := by
  induction l with
  | nil => simp [Rows.uptoBulkAll]
  | cons d r ih => simp only [List.cons_append, Rows.uptoBulkAll, ih]; omega
theorem bulk_pieces {H : Type} (n : Nat) (D0 D1 : Nat → DataW H) (T : Nat → List UInt8) (h : ∀ i, i < n → D0 i = .lit (.string (T i))) :
    ((List.range n).flatMap T).length + n ≤ Rows.uptoBulkAll ((List.range n).map fun i => .agg [D0 i, D1 i]) := by
  induction n with
  | zero => simp
  | succ n ih =>
    have := ih (fun i hi => h i (by omega))
    rw [List.range_succ, List.flatMap_append, List.map_append, bulk_append, List.length_append]
    simp only [List.flatMap_cons, List.flatMap_nil, List.append_nil, List.map_cons, List.map_nil, Rows.uptoBulkAll, Rows.uptoBulk, h n (by omega)]
    omega
theorem open_pieces_all {H : Type} {enc : TypeId × Value → H} {W : World} {a : Option Addr} {len cap : Nat} {d : DataW H} {p : List MemPlace}
    (h : DataW.Trod enc Tryd.prog W 0 (fun _ => true) true 22 (.slice a len cap) d p) :
    ∃ L : M.Pcs, L.length = len ∧ Ps W (.slice a len cap) L ∧ NNv (.slice a len cap) ∧ (L.length + (M.textP L).length ≤ Rows.uptoBulk d) := by
  obtain ⟨fuel, hf⟩ := h
  rcases Go.Deep.open_slice_pairs Tryd.underlying22 Tryd.underlying33 (by kernel_rfl) rfl rfl (by kernel_rfl) (by kernel_rfl) hf with ⟨hcs, _⟩ | ⟨x, l, c, m, n, V0, V1, D0, D1, P0, P1, hcs, _, hl, hm, hmm, hx, hcell⟩
  · simp [Value.cells] at hcs
    obtain ⟨rfl, rfl, rfl⟩ := hcs
    exact ⟨[], rfl, vs_nil 2 W, nnv_nil, by simp [M.textP]⟩
  · simp [Value.cells] at hcs
    obtain rfl : a = some x := hcs.1
    obtain rfl : len = l := hcs.2.1
    obtain rfl : cap = c := hcs.2.2
    simp only [if_true] at hmm
    obtain rfl : cap = m := hmm.symm
    have hs : ∀ i, i < cap → ∃ (T : List UInt8) (k : Int), V0 i = .string (bytes T) ∧ V1 i = .int .i64 k ∧ D0 i = .lit (.string T) := by
      intro i hi
      obtain ⟨_, _, t0, t1⟩ := hcell i hi
      obtain ⟨s, e0, e1, _⟩ := DataW.trod_string Tryd.underlying9 t0
      obtain ⟨k, e2, _⟩ := DataW.trod_int Tryd.underlying3 t1
      refine ⟨s.data.toList, k, ?_, by simpa using e2, ?_⟩
      · have : V0 i = .string s := by simpa using e0
        rw [this]; rfl
      · simp only [Prod.mk.injEq] at e1; exact e1.1
    obtain ⟨T, hT⟩ : ∃ T : Nat → List UInt8, ∀ i, i < cap → ∃ k : Int, V0 i = .string (bytes (T i)) ∧ V1 i = .int .i64 k ∧ D0 i = .lit (.string (T i)) :=
      ⟨fun i => if hi : i < cap then (hs i hi).choose else [], fun i hi => by simp only [hi, dif_pos]; exact (hs i hi).choose_spec⟩
    obtain ⟨K, hK⟩ : ∃ K : Nat → Int, ∀ i, i < cap → V0 i = .string (bytes (T i)) ∧ V1 i = .int .i64 (K i) ∧ D0 i = .lit (.string (T i)) :=
      ⟨fun i => if hi : i < cap then (hT i hi).choose else 0, fun i hi => by simp only [hi, dif_pos]; exact (hT i hi).choose_spec⟩
    refine ⟨(List.range len).map fun i => (T i, K i), by simp, ?_, nnv_some _ _ _, ?_⟩
    · have hlen : (((List.range len).map fun i => (T i, K i)).map pv).length = len := by simp
      refine ⟨some x, cap, by rw [hlen], by rw [hlen]; exact hl, hm, fun h0 => ?_⟩
      have h0' : 0 < len := by rw [hlen] at h0; exact h0
      obtain ⟨c0, _⟩ := hcell 0 (by omega)
      obtain ⟨b, off, s⟩ := x
      have hs : s = none := by
        cases s with
        | none => rfl
        | some s => exfalso; revert c0; simp [Addr.add, World.cell?]; cases W.heap[b]? with
          | none => simp
          | some o => cases o <;> simp
      subst hs
      have hb : b < W.heap.size := by
        have := World.block_lt_of_cell? W _ c0
        rw [Go.WideShapes.add_plain] at this
        exact this
      refine ⟨b, off, rfl, hb, fun j hj i u hu => ?_⟩
      rw [hlen] at hj
      obtain ⟨e0, e1, _, _⟩ := hcell j (by omega)
      rw [Go.WideShapes.add_plain] at e0 e1
      obtain ⟨v0, v1, _⟩ := hK j (by omega)
      have hjr : (((List.range len).map fun i => (T i, K i)).map pv)[j]'(by rw [hlen]; exact hj) = [.string (bytes (T j)), .int .i64 (K j)] := by simp [pv]
      rw [hjr] at hu
      match i, hu with
      | 0, hu =>
        simp only [List.getElem?_cons_zero, Option.some.injEq] at hu
        subst hu
        rw [Nat.add_zero, e0, v0]
      | 1, hu =>
        simp only [List.getElem?_cons_succ, List.getElem?_cons_zero, Option.some.injEq] at hu
        subst hu
        rw [e1, v1]
      | i + 2, hu => simp at hu
    · have hb := bulk_pieces len D0 D1 T (fun i hi => (hK i (by omega)).2.2)
      have e : M.textP ((List.range len).map fun i => (T i, K i)) = (List.range len).flatMap T := by
        unfold M.textP; rw [List.flatMap_map]
      rw [e]
      simp only [Prod.mk.injEq] at hx
      rw [hx.1]
      simp only [Rows.uptoBulk, List.length_map, List.length_range]
      omega
theorem open_pieces_u {H : Type} {enc : TypeId × Value → H} {W : World} {a : Option Addr} {len cap : Nat} {d : DataW H} {p : List MemPlace} {ds : List (DataW H)}
    (h : DataW.Trod enc Tryd.prog W 0 (fun _ => true) true 22 (.slice a len cap) d p) (hk : Rows.uptoSmall H ds = true) (hm : d ∈ ds) :
    ∃ L : M.Pcs, L.length = len ∧ Ps W (.slice a len cap) L ∧ NNv (.slice a len cap) ∧ L.length + (M.textP L).length ≤ 1048576 := by
  obtain ⟨L, h1, h2, h3, h4⟩ := open_pieces_all h
  exact ⟨L, h1, h2, h3, by have := upto_all hk; have := bulk_mem hm; omega⟩
end Go.Proofs.YtpedipalpebolaaDoor
