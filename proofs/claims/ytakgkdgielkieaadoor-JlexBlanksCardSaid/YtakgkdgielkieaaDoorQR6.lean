/- Tokens of JSON as the reference finds them: Jlex of bytes of whatever number. -/
import Derived.Test.YtakgkdgielkieaaDoorQR5
namespace Go.Proofs.YtakgkdgielkieaaDoor
open Go.RowKit
set_option linter.unusedVariables false
set_option linter.unusedSimpArgs false

set_option maxRecDepth 100000 in
set_option maxHeartbeats 4000000 in
theorem refjlex_all (v : Value) (l : List UInt8) (R : M.Toks × Int × Int) (w : World) (hv : Bs w v l) (hr : M.splitV l = R) :
    Calls Tryd.prog 5 #[v] w (SpP w R) := by
  by_cases hbig : 20000 < l.length
  · obtain ⟨a, cap, rfl, h1, h2, h3⟩ := hv
    obtain ⟨n, hn⟩ : ∃ n, l.length = n := ⟨_, rfl⟩
    unfold M.splitV at hr
    rw [if_pos hbig] at hr
    subst hr
    rw [hn] at h1 hbig ⊢
    clear h3 h2 hn
    have u1 : (20000 : Int) < n := by omega
    go_enter Tryd.func5, Tryd.ntmps5
    go_wp2
    refine bodyPost_ret (v := .tuple #[.slice none 0 0, .agg #[.int .i64 5, .int .i64 20000]]) (by simp [results, Tryd.results5, go_sem]) rfl ?_
    exact spP_ok rfl rfl (ownT_nil _ _) ((Below.refl _ _).alloc (Nat.le_refl _) _)
  · exact refjlex_any v l R w hv (by omega) hr
/-- Of any number whatever, its last ten digits of two. -/
theorem and1023_any (z : Int) : ∃ a : Nat, bits .and .i64 z 1023 = (a : Int) ∧ a < 1024 := by
  refine ⟨(BitVec.ofInt 64 z &&& BitVec.ofInt 64 1023).toNat, ?_, ?_⟩
  · have h : (BitVec.ofInt 64 z &&& BitVec.ofInt 64 1023).toNat ≤ 1023 := by
      rw [BitVec.toNat_and]
      exact Nat.le_trans Nat.and_le_right (by decide)
    show IntKind.i64.wrap ((BitVec.ofInt 64 z &&& BitVec.ofInt 64 1023).toNat : Int) = _
    rw [IntKind.wrap_i64]
    omega
  · rw [BitVec.toNat_and]
    exact Nat.lt_of_le_of_lt Nat.and_le_right (by decide)
end Go.Proofs.YtakgkdgielkieaaDoor
