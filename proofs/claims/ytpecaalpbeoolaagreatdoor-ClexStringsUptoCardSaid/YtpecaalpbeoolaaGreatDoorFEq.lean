/- Tokens of CSS: a token is itself. -/
import Derived.Test.YtpecaalpbeoolaaGreatDoorFBase
import Derived.Laws.StructEq
import Derived.ChangeKeysEq
namespace Go.Proofs.YtpecaalpbeoolaaGreatDoor
open Go.RowKit
set_option linter.unusedVariables false
set_option linter.unusedSimpArgs false

theorem eq_col (w : World) : (Op.equalIn 9999 34 (.agg #[.int .i64 0, .int .i64 0, .int .i64 0, .int .i64 0]) (.agg #[.int .i64 0, .int .i64 0, .int .i64 0, .int .i64 0])).run Tryz.prog w = .ok true w := by
  obtain ⟨i, hi⟩ := Option.isSome_iff_exists.1 (show (Tryz.prog.info? 3).isSome = true by kernel_rfl)
  rw [run_equalIn_array w 9998 _ _ Tryz.underlying34 hi]
  rw [show Tryz.prog.cellsOf 3 = 1 by kernel_rfl, show List.range 4 = [0, 1, 2, 3] from rfl]
  simp [Op.eqItems, part, go_sem]
theorem eq_num (w : World) (a : Bool) (b c : ByteArray) : (Op.equalIn 9999 33 (.agg #[.bool a, .string b, .string c]) (.agg #[.bool a, .string b, .string c])).run Tryz.prog w = .ok true w := by
  rw [run_equalIn_agg w 9998 _ _ _ (by simp [Program.fieldsOf, Tryz.underlying33]) Tryz.stoodInHeld33]
  simp [Program.fieldsOf, Tryz.underlying33, Op.eqFields, part, go_sem]
theorem eq_self (w : World) (t : M.CT) (z : Int) : (Op.equalIn 10000 36 (.agg (ctv t z)) (.agg (ctv t z))).run Tryz.prog w = .ok true w := by
  rw [run_equalIn_agg w 9999 _ _ _ (by simp [Program.fieldsOf, Tryz.underlying36]) Tryz.stoodInHeld36]
  have e1 := eq_col w
  have e2 := eq_num w t.num.1 (bytes t.num.2.1) (bytes t.num.2.2)
  unfold ctv
  simp [Program.fieldsOf, Tryz.underlying36, Op.eqFields, part, go_sem, e1, e2]
theorem neq_selfC (w : World) (t : M.CT) (z : Int) : (binOp .neq 36 (.agg (ctv t z)) (.agg (ctv t z))).run Tryz.prog w = .ok (.bool false) w := by
  rw [run_neq_struct, eq_self]; rfl
theorem eql_selfC (w : World) (t : M.CT) (z : Int) : (binOp .eql 36 (.agg (ctv t z)) (.agg (ctv t z))).run Tryz.prog w = .ok (.bool true) w := by
  rw [run_eql_struct, eq_self]; rfl
end Go.Proofs.YtpecaalpbeoolaaGreatDoor
