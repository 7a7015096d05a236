/- What the walk of CnameEscapes wants. -/
import Derived.Test.YtkaojigdogeliaaDoorEPts
import Derived.Laws.BitsLemmas
import Derived.Laws.Concat
import Derived.Outline
namespace Go.Proofs.YtkaojigdogeliaaDoor
open Go.RowKit
set_option linter.unusedVariables false
set_option linter.unusedSimpArgs false

theorem eand15 (n : Int) (h0 : 0 ≤ n) (h1 : n ≤ 1114111) : bits .and .i64 n 15 = n % 16 := bits_mask .i64 62 (by decide) rwraps_i64 4 (by decide) n h0 (by omega)
theorem and3_any (z : Int) : ∃ a : Nat, bits .and .i64 z 3 = (a : Int) ∧ a < 4 := by
  refine ⟨(BitVec.ofInt 64 z &&& BitVec.ofInt 64 3).toNat, ?_, ?_⟩
  · have h : (BitVec.ofInt 64 z &&& BitVec.ofInt 64 3).toNat ≤ 3 := by
      rw [BitVec.toNat_and]
      exact Nat.le_trans Nat.and_le_right (by decide)
    show IntKind.i64.wrap ((BitVec.ofInt 64 z &&& BitVec.ofInt 64 3).toNat : Int) = _
    rw [IntKind.wrap_i64]
    omega
  · rw [BitVec.toNat_and]
    exact Nat.lt_of_le_of_lt Nat.and_le_right (by decide)
theorem cutF : ∀ d : Fin 16, (ByteArray.mk #[48, 49, 50, 51, 52, 53, 54, 55, 56, 57, 97, 98, 99, 100, 101, 102]).extract d.val (d.val + 1) = bytes (M.encZs [M.dgG false d.val]) := by decide +kernel
theorem cutT : ∀ d : Fin 16, (ByteArray.mk #[48, 49, 50, 51, 52, 53, 54, 55, 56, 57, 65, 66, 67, 68, 69, 70]).extract d.val (d.val + 1) = bytes (M.encZs [M.dgG true d.val]) := by decide +kernel
theorem digs_len (g : Bool) (d : List Nat) (h : ∀ x ∈ d, x < 16) : (M.encZs (d.map (M.dgG g))).length = d.length := by
  induction d with
  | nil => rfl
  | cons a d ih =>
    have h1 := M.dgG_ok g a (h a (by simp))
    rw [List.map_cons, M.encZs_cons, List.length_append, ih (fun x hx => h x (by simp [hx])), M.enc_ascii _ (by omega) (by omega)]
    simp; omega
theorem escS_bytes (g : Bool) (r z : Nat) : (M.encZs (M.escS g r z)).length = (M.escS g r z).length := by
  unfold M.escS
  rw [M.encZs_append, List.length_append, digs_len g _ (M.hx16_lt r r (Nat.le_refl _)), List.length_append, List.length_map]
  congr 1
  induction z with
  | zero => rfl
  | succ z ih => rw [List.replicate_succ, M.encZs_cons, List.length_append, ih, M.enc_ascii _ (by decide) (by decide)]; simp; omega
def eblkB : Obj := Obj.cells #[.string ⟨#[32]⟩, .string ⟨#[9]⟩, .string ⟨#[10]⟩, .string ⟨#[]⟩] 9
theorem ecellB (w : World) (k : Nat) (hk : k < 4) : (w.alloc eblkB).cell? ⟨w.heap.size, k, none⟩ = some (.string (bytes (M.encZs (M.eB k)))) := by
  unfold eblkB
  rw [World.cell?_alloc_at _ _ _ _ (by simp)]
  have : k = 0 ∨ k = 1 ∨ k = 2 ∨ k = 3 := by omega
  rcases this with rfl | rfl | rfl | rfl
  · show some (Value.string _) = _; rw [show M.encZs (M.eB 0) = [32] by decide +kernel]; rfl
  · show some (Value.string _) = _; rw [show M.encZs (M.eB 1) = [9] by decide +kernel]; rfl
  · show some (Value.string _) = _; rw [show M.encZs (M.eB 2) = [10] by decide +kernel]; rfl
  · show some (Value.string _) = _; rw [show M.encZs (M.eB 3) = [] by decide +kernel]; rfl
theorem escT_bytes (g : Bool) (r z k : Nat) : bytes [92] ++ bytes (M.encZs (M.escS g r z)) ++ bytes (M.encZs (M.eB k)) ++ bytes [40] = bytes (M.encZs (M.escT g r z k)) := by
  rw [cat2, cat2, cat2]
  congr 1
  unfold M.escT
  rw [M.encZs_cons, M.encZs_append, M.encZs_append, M.enc_ascii 92 (by decide) (by decide)]
  rw [show M.encZs [40] = [40] by decide +kernel]
  simp
theorem sret_s {a b : ByteArray} (h : a = b) : Value.string a = .string b := by rw [h]
end Go.Proofs.YtkaojigdogeliaaDoor
