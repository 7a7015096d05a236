/- Texts of ours in one: NDiv. -/
import Derived.Test.YtlobinjdgcidmaaDoorQj06
import Derived.Below
/- Numbers: a text divided into its parts. -/
namespace Go.Proofs.YtlobinjdgcidmaaDoor
open Go.RowKit
set_option linter.unusedVariables false
set_option linter.unusedSimpArgs false

theorem below_drewN {B : Nat} {a w : World} (h : Below B a w) (n : Nat) : Below B a (w.drewN n) := ⟨h.os, h.tape, h.output, h.size, h.block⟩
theorem csign_len (l : List UInt8) (p : Bool) (k : List UInt8) (h : M.csign l = (p, k)) : k.length ≤ l.length := by
  unfold M.csign at h
  split at h
  · simp only [Prod.mk.injEq] at h; rw [← h.2]; simp
  · simp only [Prod.mk.injEq] at h; rw [← h.2]; exact unsign_len l
theorem dg_len (l k : List UInt8) (h : M.dg l = k) : k.length ≤ l.length := by
  rw [← h]; unfold M.dg; exact (List.takeWhile_sublist _).length_le
theorem str_nil (S : ByteArray) (l : List UInt8) (h : bytes l = S) (h0 : l = []) : S.toList = [] ∧ S.toList.isEmpty = true ∧ (!S.toList.isEmpty) = false := by
  rw [← h, toList_bytes, h0]; exact ⟨rfl, rfl, rfl⟩
theorem str_ne (S : ByteArray) (l : List UInt8) (h : bytes l = S) (h0 : l ≠ []) : S.toList.isEmpty = false ∧ (!S.toList.isEmpty) = true ∧ 1 ≤ S.size := by
  rw [← h, toList_bytes, bytes_size]
  have := List.length_pos_iff.2 h0
  cases l with
  | nil => exact absurd rfl h0
  | cons c t => exact ⟨rfl, rfl, by simp⟩
end Go.Proofs.YtlobinjdgcidmaaDoor
