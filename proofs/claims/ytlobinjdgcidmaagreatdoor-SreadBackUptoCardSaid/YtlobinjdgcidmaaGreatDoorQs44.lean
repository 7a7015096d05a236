/- Texts of ours in one: Bulk SOpenU. -/
import Derived.Test.YtlobinjdgcidmaaGreatDoorRows
import Derived.WalkKit
import Derived.Test.YtlobinjdgcidmaaGreatDoorQs30
import Derived.Deep.SlicePairs
import Derived.ChangeSame
import Derived.ProofKit
import Derived.OpenShut
/- What the bound of the second form gives: a slice that came in has no more elements than it, a text no more letters. -/
namespace Go.Proofs.YtlobinjdgcidmaaGreatDoor
open Go.RowKit

theorem bulk_one {H : Type} (d : DataW H) : 1 ≤ Rows.uptoBulk d := by
  cases d with
  | lit l => cases l <;> simp [Rows.uptoBulk]
  | _ => simp [Rows.uptoBulk]
theorem bulk_len {H : Type} (l : List (DataW H)) : l.length ≤ Rows.uptoBulkAll l := by
  induction l with
  | nil => simp [Rows.uptoBulkAll]
  | cons d r ih => have := bulk_one d; simp only [Rows.uptoBulkAll, List.length_cons]; omega
theorem bulk_mem {H : Type} {d : DataW H} {l : List (DataW H)} (h : d ∈ l) : Rows.uptoBulk d ≤ Rows.uptoBulkAll l := by
  induction l with
  | nil => exact absurd h (by simp)
  | cons x r ih =>
    simp only [Rows.uptoBulkAll]
    rcases List.mem_cons.1 h with rfl | h
    · omega
    · have := ih h; omega
theorem upto_all {H : Type} {ds : List (DataW H)} (hk : Rows.uptoSmall H ds = true) : Rows.uptoBulkAll ds ≤ 1048576 := of_decide_eq_true hk
theorem upto_text {H : Type} {ds : List (DataW H)} {l : List UInt8} (hk : Rows.uptoSmall H ds = true) (h : DataW.lit (.string l) ∈ ds) : l.length ≤ 1048576 := by
  have h1 := upto_all hk
  have h2 := bulk_mem h
  simp only [Rows.uptoBulk] at h2
  omega
end Go.Proofs.YtlobinjdgcidmaaGreatDoor
/- Segments that came in, of the second form: how many they may be. -/
namespace Go.Proofs.YtlobinjdgcidmaaGreatDoor
open Go.RowKit Go.ChangeShapes Go.WideShapes
set_option linter.unusedVariables false

theorem s4_bulk_append {H : Type} (l k : List (DataW H)) : Rows.uptoBulkAll (l ++ k) = Rows.uptoBulkAll l + Rows.uptoBulkAll k := by
  induction l with
  | nil => simp [Rows.uptoBulkAll]
  | cons d r ih => simp only [List.cons_append, Rows.uptoBulkAll, ih]; omega
set_option maxRecDepth 100000 in
theorem s4_bulk {H : Type} {enc : TypeId × Value → H} {W : World} {a : Option Addr} {len cap : Nat} {d : DataW H} {p : List MemPlace}
    (h : DataW.Trod enc Tryz.prog W 0 (fun _ => true) true 22 (.slice a len cap) d p) : 5 * len ≤ Rows.uptoBulk d := by
  obtain ⟨fuel, hf⟩ := h
  rcases Go.Deep.open_slice Tryz.underlying22 hf with ⟨hcs, _⟩ | ⟨x, l, c, m, n, D, Pl, hcs, y2, hl, hm, hmm, hx, hcell⟩
  · simp [Value.cells] at hcs
    obtain ⟨rfl, rfl, rfl⟩ := hcs
    simp
  · simp [Value.cells] at hcs
    obtain rfl : a = some x := hcs.1
    obtain rfl : len = l := hcs.2.1
    obtain rfl : cap = c := hcs.2.2
    simp only [if_true] at hmm
    obtain rfl : cap = m := hmm.symm
    have hs : ∀ i, i < cap → 5 ≤ Rows.uptoBulk (D i) := by
      intro i hi
      obtain ⟨cs', hc, ht⟩ := hcell i hi
      obtain ⟨xs, n', q1, q2, q3, q4, hfl⟩ := DataW.trod_struct Tryz.underlying39 ht
      simp only [Prod.mk.injEq] at q2
      have h4 : xs.length = 4 := q4
      have h5 := bulk_len (List.map (fun x => x.fst) xs)
      rw [List.length_map, h4] at h5
      rw [q2.1]
      simp only [Rows.uptoBulk]
      omega
    have hsum : ∀ k, k ≤ cap → 5 * k ≤ Rows.uptoBulkAll (List.map D (List.range k)) := by
      intro k
      induction k with
      | zero => intro _; simp
      | succ k ih =>
        intro hk
        have h1 := ih (by omega)
        have h2 := hs k (by omega)
        rw [List.range_succ, List.map_append, s4_bulk_append]
        simp only [List.map_cons, List.map_nil, Rows.uptoBulkAll]
        omega
    have h6 := hsum len (by omega)
    simp only [Prod.mk.injEq] at hx
    rw [hx.1]
    simp only [Rows.uptoBulk]
    omega
theorem open_s4_u {H : Type} {enc : TypeId × Value → H} {W : World} {a : Option Addr} {len cap : Nat} {d : DataW H} {p : List MemPlace} {ds : List (DataW H)}
    (h : DataW.Trod enc Tryz.prog W 0 (fun _ => true) true 22 (.slice a len cap) d p) (hk : Rows.uptoSmall H ds = true) (hm : d ∈ ds) :
    ∃ L : List M.S4, L.length = len ∧ SsS W (.slice a len cap) L ∧ NNv (.slice a len cap) ∧ L.length ≤ 209715 := by
  obtain ⟨L, h1, h2, h3⟩ := open_s4 h
  exact ⟨L, h1, h2, h3, by have := upto_all hk; have := bulk_mem hm; have := s4_bulk h; omega⟩
end Go.Proofs.YtlobinjdgcidmaaGreatDoor
