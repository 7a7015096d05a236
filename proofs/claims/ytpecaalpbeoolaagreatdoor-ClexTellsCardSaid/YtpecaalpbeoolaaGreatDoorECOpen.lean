/- A slice of code points that came in, as the frame reads it. -/
import Derived.Test.YtpecaalpbeoolaaGreatDoorECTxt
import Derived.Deep.SlicePairs
import Derived.ChangeSame
import Derived.ProofKit
import Derived.OpenShut
namespace Go.Proofs.YtpecaalpbeoolaaGreatDoor
open Go.RowKit Go.ChangeShapes Go.WideShapes
set_option linter.unusedVariables false

theorem int_of_trod {H : Type} {enc : TypeId × Value → H} {W : World} {sp : Nat → Bool} {held : Bool} {base n : Nat} {v : Value} {y : DataW H × List MemPlace} (h : DataW.trod enc Tryz.prog W base sp held n 3 [v] = some y) : v = .int .i64 (intOf v) := by
  obtain ⟨k, e1, _⟩ := DataW.trod_int Tryz.underlying3 h
  have : v = .int .i64 k := by simpa using e1
  rw [this]; rfl
theorem open_runes {H : Type} {enc : TypeId × Value → H} {W : World} {a : Option Addr} {len cap : Nat} {d : DataW H} {p : List MemPlace}
    (h : DataW.Trod enc Tryz.prog W 0 (fun _ => true) true 23 (.slice a len cap) d p) : ∃ l : List (Int × Int), l.length = len ∧ Rs W (.slice a len cap) l ∧ NNv (.slice a len cap) := by
  obtain ⟨fuel, hf⟩ := h
  rcases Go.Deep.open_slice_pairs Tryz.underlying23 Tryz.underlying51 (by kernel_rfl) rfl rfl (by kernel_rfl) (by kernel_rfl) hf with ⟨hcs, _⟩ | ⟨x, l, c, m, n, V0, V1, D0, D1, P0, P1, hcs, _, hl, hm, hmm, _, hcell⟩
  · simp [Value.cells] at hcs
    obtain ⟨rfl, rfl, rfl⟩ := hcs
    exact ⟨[], rfl, vs_nil 2 W, nnv_nil⟩
  · simp [Value.cells] at hcs
    obtain rfl : a = some x := hcs.1
    obtain rfl : len = l := hcs.2.1
    obtain rfl : cap = c := hcs.2.2
    simp only [if_true] at hmm
    obtain rfl : cap = m := hmm.symm
    refine ⟨(List.range len).map fun i => (intOf (V0 i), intOf (V1 i)), by simp, ?_, nnv_some _ _ _⟩
    have hlen : (rvs ((List.range len).map fun i => (intOf (V0 i), intOf (V1 i)))).length = len := by simp [rvs]
    refine ⟨some x, cap, by rw [hlen], by rw [hlen]; exact hl, hm, fun h0 => ?_⟩
    have h0' : 0 < len := by rw [hlen] at h0; exact h0
    obtain ⟨c0, _⟩ := hcell 0 (by omega)
    obtain ⟨b, off, s⟩ := x
    have hs : s = none := by
      cases s with
      | none => rfl
      | some s => exfalso; revert c0; simp [Addr.add, World.cell?]; cases W.heap[b]? with
        | none => simp
        | some o => cases o <;> simp
    subst hs
    have hb : b < W.heap.size := by
      have := World.block_lt_of_cell? W _ c0
      rw [Go.WideShapes.add_plain] at this
      exact this
    refine ⟨b, off, rfl, hb, fun j hj i u hu => ?_⟩
    rw [hlen] at hj
    obtain ⟨e0, e1, t0, t1⟩ := hcell j (by omega)
    rw [Go.WideShapes.add_plain] at e0 e1
    have v0 := int_of_trod t0
    have v1 := int_of_trod t1
    have hjr : (rvs ((List.range len).map fun i => (intOf (V0 i), intOf (V1 i))))[j]'(by rw [hlen]; exact hj) = [.int .i64 (intOf (V0 j)), .int .i64 (intOf (V1 j))] := by simp [rvs, rv]
    rw [hjr] at hu
    match i, hu with
    | 0, hu =>
      simp only [List.getElem?_cons_zero, Option.some.injEq] at hu
      subst hu
      rw [Nat.add_zero, e0, ← v0]
    | 1, hu =>
      simp only [List.getElem?_cons_succ, List.getElem?_cons_zero, Option.some.injEq] at hu
      subst hu
      rw [e1, ← v1]
    | i + 2, hu => simp at hu
end Go.Proofs.YtpecaalpbeoolaaGreatDoor
