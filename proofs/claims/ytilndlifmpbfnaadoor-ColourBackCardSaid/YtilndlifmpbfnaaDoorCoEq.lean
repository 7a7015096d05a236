/- Colours: when four numbers are four others. -/
import Derived.Test.YtilndlifmpbfnaaDoorCoCol
import Derived.Test.YtilndlifmpbfnaaDoorWTk
import Derived.Laws.StructEq
import Derived.ChangeKeysEq
namespace Go.Proofs.YtilndlifmpbfnaaDoor
open Go.RowKit
set_option linter.unusedVariables false
set_option linter.unusedSimpArgs false

theorem eq_arrC (w : World) (c d : M.C4) : (Op.equalIn 10000 22 (.agg (arrC c)) (.agg (arrC d))).run Tryd.prog w = .ok (decide (c = d)) w := by
  obtain ⟨i, hi⟩ := Option.isSome_iff_exists.1 (show (Tryd.prog.info? 3).isSome = true by kernel_rfl)
  obtain ⟨c0, c1, c2, c3⟩ := c
  obtain ⟨d0, d1, d2, d3⟩ := d
  rw [run_equalIn_array w 9999 _ _ Tryd.underlying22 hi]
  rw [show Tryd.prog.cellsOf 3 = 1 by kernel_rfl, show List.range 4 = [0, 1, 2, 3] from rfl]
  unfold arrC
  by_cases h0 : c0 = d0
  · by_cases h1 : c1 = d1
    · by_cases h2 : c2 = d2
      · by_cases h3 : c3 = d3
        · simp [Op.eqItems, part, go_sem, h0, h1, h2, h3]
        · simp [Op.eqItems, part, go_sem, h0, h1, h2, h3]
      · simp [Op.eqItems, part, go_sem, h0, h1, h2]
    · simp [Op.eqItems, part, go_sem, h0, h1]
  · simp [Op.eqItems, part, go_sem, h0]
theorem eql_arrC (w : World) (c d : M.C4) : (binOp .eql 22 (.agg (arrC c)) (.agg (arrC d))).run Tryd.prog w = .ok (.bool (decide (c = d))) w := by
  rw [run_eql_struct, eq_arrC]; rfl
theorem run_cmpA {o : Oper} {a : Act} {w : World} (x y : Operand) (ho : o.op = .binOp .eql 22 x y 22) (c d : M.C4) (hx : a.eval x = .agg (arrC c)) (hy : a.eval y = .agg (arrC d)) :
    (execOp a.eval o).run Tryd.prog w = .ok (.value (.bool (decide (c = d)))) w := by
  unfold execOp
  simp only [ho, hx, hy]
  simp [run_eqGuard_agg, Tryd.eqGuardType22, eql_arrC, Sem.run_bind, Result.andThen_ok]
/-- Two are compared, in a region whose order is drawn. -/
theorem yields_cmpA {ops : Array Oper} {S : World → Prop} {o : Oper} {a : Act} (hw : Region.wanted o (yielded ops a.tmps) = true) (x y : Operand) (ho : o.op = .binOp .eql 22 x y 22) (c d : M.C4) (hx : a.eval x = .agg (arrC c)) (hy : a.eval y = .agg (arrC d)) (r : Bool) (hr : decide (c = d) = r) :
    YieldsIf Tryd.prog ops S o (.bool r) a := by
  subst hr
  exact Or.inl ⟨hw, fun w _ => run_cmpA x y ho c d hx hy⟩
/-- Two are compared. -/
theorem wpl_cmpA {ops : Array Oper} {rest : List Oper} {o : Oper} {a : Act} {w : World} {Q : Exit → Act → World → Prop} (hw : Region.wanted o (yielded ops a.tmps) = true) (x y : Operand) (ho : o.op = .binOp .eql 22 x y 22)
    (c d : M.C4) (r : Bool) (hr : decide (c = d) = r) (hx : a.eval x = .agg (arrC c)) (hy : a.eval y = .agg (arrC d))
    (hh : wpList Tryd.prog ops Q rest (a.put o.dst (.bool r)) w) : wpList Tryd.prog ops Q (o :: rest) a w := by
  subst hr
  refine wpList_step fun K hK => ?_
  rw [if_pos hw]
  unfold Oper.wp
  rw [run_cmpA x y ho c d hx hy]
  exact hK _ _ hh
end Go.Proofs.YtilndlifmpbfnaaDoor
