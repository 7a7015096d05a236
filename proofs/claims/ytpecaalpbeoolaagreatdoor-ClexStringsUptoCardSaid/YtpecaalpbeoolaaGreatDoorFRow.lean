/- Tokens of CSS in memory: a token is loaded from the midst of a slice; two that are one are compared. -/
import Derived.Test.YtpecaalpbeoolaaGreatDoorFEq
import Derived.Test.YtpecaalpbeoolaaGreatDoorFTk3
import Derived.Deep.MidRow
namespace Go.Proofs.YtpecaalpbeoolaaGreatDoor
open Go.RowKit
set_option linter.unusedVariables false
set_option linter.unusedSimpArgs false

theorem range_of {w : World} {b o : Nat} {cs : Array Value} (h : ∀ k, k < cs.size → w.cell? ⟨b, o + k, none⟩ = cs[k]?) : w.rangeAt b o cs.toList := by
  intro j v hj
  have hl : j < cs.size := by
    have := (List.getElem?_eq_some_iff.1 hj).1
    simpa using this
  rw [h j hl, ← hj]; simp
theorem wp_ldM {o : Oper} {a : Act} {w : World} {K : Act → World → Prop} {Q : Exit → Act → World → Prop} (x : Operand) (ho : o.op = .load 36 x)
    (b off : Nat) (cs : Array Value) (hx : a.eval x = .pointer (some ⟨b, off, none⟩)) (hs : cs.size = 13) (hc : ∀ k, k < 13 → w.cell? ⟨b, off + k, none⟩ = cs[k]?)
    (h : K (a.put o.dst (.agg cs)) w) : o.wp Tryz.prog a w K Q := by
  have := wp_load_mid (P := Tryz.prog) (Q := Q) (K := K) 36 x ho b off hx cs.toList _ (range_of (by rw [hs]; exact hc)) Tryz.underlying36 rfl (by rw [Array.length_toList, hs]; exact infoC13)
  rw [Array.toArray_toList] at this
  exact this h
theorem wpl_ldM {ops : Array Oper} {rest : List Oper} {o : Oper} {a : Act} {w : World} {Q : Exit → Act → World → Prop} (hw : Region.wanted o (yielded ops a.tmps) = true) (x : Operand) (ho : o.op = .load 36 x)
    (b off : Nat) (cs : Array Value) (hx : a.eval x = .pointer (some ⟨b, off, none⟩)) (hs : cs.size = 13) (hc : ∀ k, k < 13 → w.cell? ⟨b, off + k, none⟩ = cs[k]?)
    (h : wpList Tryz.prog ops Q rest (a.put o.dst (.agg cs)) w) : wpList Tryz.prog ops Q (o :: rest) a w :=
  wpList_step fun K hK => by rw [if_pos hw]; exact wp_ldM x ho b off cs hx hs hc (hK _ _ h)
theorem wp_cmp {o : Oper} {a : Act} {w : World} {K : Act → World → Prop} {Q : Exit → Act → World → Prop} (eq : Bool) (x y : Operand) (ho : o.op = .binOp (if eq then .eql else .neq) 36 x y 36)
    (t : M.CT) (z : Int) (cs ds : Array Value) (hx : a.eval x = .agg cs) (hy : a.eval y = .agg ds) (h1 : cs = ctv t z) (h2 : ds = ctv t z)
    (h : K (a.put o.dst (.bool eq)) w) : o.wp Tryz.prog a w K Q := by
  subst h1
  subst h2
  unfold Oper.wp execOp
  cases eq
  · simp only [Bool.false_eq_true, if_false] at ho
    simp only [ho, hx, hy]
    simp [run_eqGuard_agg, Tryz.eqGuardType36, neq_selfC, Sem.run_bind, Result.andThen_ok]
    exact h
  · simp only [if_true] at ho
    simp only [ho, hx, hy]
    simp [run_eqGuard_agg, Tryz.eqGuardType36, eql_selfC, Sem.run_bind, Result.andThen_ok]
    exact h
theorem wpl_cmp {ops : Array Oper} {rest : List Oper} {o : Oper} {a : Act} {w : World} {Q : Exit → Act → World → Prop} (hw : Region.wanted o (yielded ops a.tmps) = true) (eq : Bool) (x y : Operand) (ho : o.op = .binOp (if eq then .eql else .neq) 36 x y 36)
    (t : M.CT) (z : Int) (cs ds : Array Value) (hx : a.eval x = .agg cs) (hy : a.eval y = .agg ds) (h1 : cs = ctv t z) (h2 : ds = ctv t z)
    (h : wpList Tryz.prog ops Q rest (a.put o.dst (.bool eq)) w) : wpList Tryz.prog ops Q (o :: rest) a w :=
  wpList_step fun K hK => by rw [if_pos hw]; exact wp_cmp eq x y ho t z cs ds hx hy h1 h2 (hK _ _ h)
theorem still_ldM {ops : Array Oper} {w : World} {Q : Act → Prop} {a : Act} {o : Oper} {rest : List Oper} (hw : Region.wanted o (yielded ops a.tmps) = true) (x : Operand) (ho : o.op = .load 36 x)
    (b off : Nat) (cs : Array Value) (hx : a.eval x = .pointer (some ⟨b, off, none⟩)) (hs : cs.size = 13) (hc : ∀ k, k < 13 → w.cell? ⟨b, off + k, none⟩ = cs[k]?)
    (h : wpStill Tryz.prog ops w Q rest (a.put o.dst (.agg cs))) : wpStill Tryz.prog ops w Q (o :: rest) a := by
  refine wpStill_step (fun K hK => ?_)
  rw [if_pos hw]
  have hr := run_loadVar_mid (P := Tryz.prog) w b off 36 cs.toList _ (range_of (by rw [hs]; exact hc)) Tryz.underlying36 rfl (by rw [Array.length_toList, hs]; exact infoC13)
  rw [Array.toArray_toList] at hr
  unfold Oper.still execOp
  simp only [ho, hx, Instr.loadAt, Instr.sureAddr, Sem.run_bind, Sem.run_pure, Result.andThen_ok, hr]
  exact ⟨rfl, hK _ h⟩
theorem still_cmp {ops : Array Oper} {w : World} {Q : Act → Prop} {a : Act} {o : Oper} {rest : List Oper} (hw : Region.wanted o (yielded ops a.tmps) = true) (eq : Bool) (x y : Operand) (ho : o.op = .binOp (if eq then .eql else .neq) 36 x y 36)
    (t : M.CT) (z : Int) (cs ds : Array Value) (hx : a.eval x = .agg cs) (hy : a.eval y = .agg ds) (h1 : cs = ctv t z) (h2 : ds = ctv t z)
    (h : wpStill Tryz.prog ops w Q rest (a.put o.dst (.bool eq))) : wpStill Tryz.prog ops w Q (o :: rest) a := by
  subst h1
  subst h2
  refine wpStill_step (fun K hK => ?_)
  rw [if_pos hw]
  unfold Oper.still execOp
  cases eq
  · simp only [Bool.false_eq_true, if_false] at ho
    simp only [ho, hx, hy]
    simp [run_eqGuard_agg, Tryz.eqGuardType36, neq_selfC, Sem.run_bind, Result.andThen_ok, Oper.stillUpon]
    exact hK _ h
  · simp only [if_true] at ho
    simp only [ho, hx, hy]
    simp [run_eqGuard_agg, Tryz.eqGuardType36, eql_selfC, Sem.run_bind, Result.andThen_ok, Oper.stillUpon]
    exact hK _ h
end Go.Proofs.YtpecaalpbeoolaaGreatDoor
