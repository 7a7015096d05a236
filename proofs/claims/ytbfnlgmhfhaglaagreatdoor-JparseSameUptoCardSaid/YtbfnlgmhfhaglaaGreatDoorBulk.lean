/- What the bound of the second form gives: a slice that came in has no more elements than it, a text no more letters. -/
import Derived.Test.YtbfnlgmhfhaglaaGreatDoorRows
import Derived.WalkKit
namespace Go.Proofs.YtbfnlgmhfhaglaaGreatDoor
open Go.RowKit

theorem bulk_one {H : Type} (d : DataW H) : 1 ≤ Rows.uptoBulk d := by
  cases d with
  | lit l => cases l <;> simp [Rows.uptoBulk]
  | _ => simp [Rows.uptoBulk]
theorem bulk_len {H : Type} (l : List (DataW H)) : l.length ≤ Rows.uptoBulkAll l := by
  induction l with
  | nil => simp [Rows.uptoBulkAll]
  | cons d r ih => have := bulk_one d; simp only [Rows.uptoBulkAll, List.length_cons]; omega
theorem bulk_mem {H : Type} {d : DataW H} {l : List (DataW H)} (h : d ∈ l) : Rows.uptoBulk d ≤ Rows.uptoBulkAll l := by
  induction l with
  | nil => exact absurd h (by simp)
  | cons x r ih =>
    simp only [Rows.uptoBulkAll]
    rcases List.mem_cons.1 h with rfl | h
    · omega
    · have := ih h; omega
theorem upto_all {H : Type} {ds : List (DataW H)} (hk : Rows.uptoSmall H ds = true) : Rows.uptoBulkAll ds ≤ 1048576 := of_decide_eq_true hk
theorem upto_slice {H : Type} {ds e s : List (DataW H)} (hk : Rows.uptoSmall H ds = true) (h : DataW.slice e s ∈ ds) : e.length ≤ 1048576 := by
  have h1 := upto_all hk
  have h2 := bulk_mem h
  have h3 := bulk_len e
  simp only [Rows.uptoBulk] at h2
  omega
theorem upto_text {H : Type} {ds : List (DataW H)} {l : List UInt8} (hk : Rows.uptoSmall H ds = true) (h : DataW.lit (.string l) ∈ ds) : l.length ≤ 1048576 := by
  have h1 := upto_all hk
  have h2 := bulk_mem h
  simp only [Rows.uptoBulk] at h2
  omega
theorem upto_num {H : Type} {ds : List (DataW H)} {a : DataW H} {l k : List UInt8} (hk : Rows.uptoSmall H ds = true) (h : DataW.agg [a, .lit (.string l), .lit (.string k)] ∈ ds) : l.length ≤ 1048576 ∧ k.length ≤ 1048576 := by
  have h1 := upto_all hk
  have h2 := bulk_mem h
  simp only [Rows.uptoBulk, Rows.uptoBulkAll] at h2
  omega
end Go.Proofs.YtbfnlgmhfhaglaaGreatDoor
