/- Several texts of ours in one: FEq FRow FCs0 FCs. -/
import Derived.Test.YtbmfoedglhfcaaaGreatDoorMgL
import Derived.Laws.StructEq
import Derived.ChangeKeysEq
import Derived.Deep.MidRow
import Derived.Test.YtbmfoedglhfcaaaGreatDoorMgT
/- Tokens of CSS: a token is itself. -/
namespace Go.Proofs.YtbmfoedglhfcaaaGreatDoor
open Go.RowKit
set_option linter.unusedVariables false
set_option linter.unusedSimpArgs false

theorem eq_col (w : World) : (Op.equalIn 9999 24 (.agg #[.int .i64 0, .int .i64 0, .int .i64 0, .int .i64 0]) (.agg #[.int .i64 0, .int .i64 0, .int .i64 0, .int .i64 0])).run Tryz.prog w = .ok true w := by
  obtain ⟨i, hi⟩ := Option.isSome_iff_exists.1 (show (Tryz.prog.info? 3).isSome = true by kernel_rfl)
  rw [run_equalIn_array w 9998 _ _ Tryz.underlying24 hi]
  rw [show Tryz.prog.cellsOf 3 = 1 by kernel_rfl, show List.range 4 = [0, 1, 2, 3] from rfl]
  simp [Op.eqItems, part, go_sem]
theorem eq_num (w : World) (a : Bool) (b c : ByteArray) : (Op.equalIn 9999 23 (.agg #[.bool a, .string b, .string c]) (.agg #[.bool a, .string b, .string c])).run Tryz.prog w = .ok true w := by
  rw [run_equalIn_agg w 9998 _ _ _ (by simp [Program.fieldsOf, Tryz.underlying23]) Tryz.stoodInHeld23]
  simp [Program.fieldsOf, Tryz.underlying23, Op.eqFields, part, go_sem]
theorem eq_self (w : World) (t : M.CT) (z : Int) : (Op.equalIn 10000 26 (.agg (ctv t z)) (.agg (ctv t z))).run Tryz.prog w = .ok true w := by
  rw [run_equalIn_agg w 9999 _ _ _ (by simp [Program.fieldsOf, Tryz.underlying26]) Tryz.stoodInHeld26]
  have e1 := eq_col w
  have e2 := eq_num w t.num.1 (bytes t.num.2.1) (bytes t.num.2.2)
  unfold ctv
  simp [Program.fieldsOf, Tryz.underlying26, Op.eqFields, part, go_sem, e1, e2]
theorem neq_selfC (w : World) (t : M.CT) (z : Int) : (binOp .neq 26 (.agg (ctv t z)) (.agg (ctv t z))).run Tryz.prog w = .ok (.bool false) w := by
  rw [run_neq_struct, eq_self]; rfl
theorem eql_selfC (w : World) (t : M.CT) (z : Int) : (binOp .eql 26 (.agg (ctv t z)) (.agg (ctv t z))).run Tryz.prog w = .ok (.bool true) w := by
  rw [run_eql_struct, eq_self]; rfl
end Go.Proofs.YtbmfoedglhfcaaaGreatDoor

/- Tokens of CSS in memory: a token is loaded from the midst of a slice; two that are one are compared. -/
namespace Go.Proofs.YtbmfoedglhfcaaaGreatDoor
open Go.RowKit
set_option linter.unusedVariables false
set_option linter.unusedSimpArgs false

theorem range_of {w : World} {b o : Nat} {cs : Array Value} (h : ∀ k, k < cs.size → w.cell? ⟨b, o + k, none⟩ = cs[k]?) : w.rangeAt b o cs.toList := by
  intro j v hj
  have hl : j < cs.size := by
    have := (List.getElem?_eq_some_iff.1 hj).1
    simpa using this
  rw [h j hl, ← hj]; simp
theorem wp_ldM {o : Oper} {a : Act} {w : World} {K : Act → World → Prop} {Q : Exit → Act → World → Prop} (x : Operand) (ho : o.op = .load 26 x)
    (b off : Nat) (cs : Array Value) (hx : a.eval x = .pointer (some ⟨b, off, none⟩)) (hs : cs.size = 13) (hc : ∀ k, k < 13 → w.cell? ⟨b, off + k, none⟩ = cs[k]?)
    (h : K (a.put o.dst (.agg cs)) w) : o.wp Tryz.prog a w K Q := by
  have := wp_load_mid (P := Tryz.prog) (Q := Q) (K := K) 26 x ho b off hx cs.toList _ (range_of (by rw [hs]; exact hc)) Tryz.underlying26 rfl (by rw [Array.length_toList, hs]; exact infoC13)
  rw [Array.toArray_toList] at this
  exact this h
theorem wpl_ldM {ops : Array Oper} {rest : List Oper} {o : Oper} {a : Act} {w : World} {Q : Exit → Act → World → Prop} (hw : Region.wanted o (yielded ops a.tmps) = true) (x : Operand) (ho : o.op = .load 26 x)
    (b off : Nat) (cs : Array Value) (hx : a.eval x = .pointer (some ⟨b, off, none⟩)) (hs : cs.size = 13) (hc : ∀ k, k < 13 → w.cell? ⟨b, off + k, none⟩ = cs[k]?)
    (h : wpList Tryz.prog ops Q rest (a.put o.dst (.agg cs)) w) : wpList Tryz.prog ops Q (o :: rest) a w :=
  wpList_step fun K hK => by rw [if_pos hw]; exact wp_ldM x ho b off cs hx hs hc (hK _ _ h)
theorem wp_cmp {o : Oper} {a : Act} {w : World} {K : Act → World → Prop} {Q : Exit → Act → World → Prop} (eq : Bool) (x y : Operand) (ho : o.op = .binOp (if eq then .eql else .neq) 26 x y 26)
    (t : M.CT) (z : Int) (cs ds : Array Value) (hx : a.eval x = .agg cs) (hy : a.eval y = .agg ds) (h1 : cs = ctv t z) (h2 : ds = ctv t z)
    (h : K (a.put o.dst (.bool eq)) w) : o.wp Tryz.prog a w K Q := by
  subst h1
  subst h2
  unfold Oper.wp execOp
  cases eq
  · simp only [Bool.false_eq_true, if_false] at ho
    simp only [ho, hx, hy]
    simp [run_eqGuard_agg, Tryz.eqGuardType26, neq_selfC, Sem.run_bind, Result.andThen_ok]
    exact h
  · simp only [if_true] at ho
    simp only [ho, hx, hy]
    simp [run_eqGuard_agg, Tryz.eqGuardType26, eql_selfC, Sem.run_bind, Result.andThen_ok]
    exact h
theorem wpl_cmp {ops : Array Oper} {rest : List Oper} {o : Oper} {a : Act} {w : World} {Q : Exit → Act → World → Prop} (hw : Region.wanted o (yielded ops a.tmps) = true) (eq : Bool) (x y : Operand) (ho : o.op = .binOp (if eq then .eql else .neq) 26 x y 26)
    (t : M.CT) (z : Int) (cs ds : Array Value) (hx : a.eval x = .agg cs) (hy : a.eval y = .agg ds) (h1 : cs = ctv t z) (h2 : ds = ctv t z)
    (h : wpList Tryz.prog ops Q rest (a.put o.dst (.bool eq)) w) : wpList Tryz.prog ops Q (o :: rest) a w :=
  wpList_step fun K hK => by rw [if_pos hw]; exact wp_cmp eq x y ho t z cs ds hx hy h1 h2 (hK _ _ h)
theorem still_ldM {ops : Array Oper} {w : World} {Q : Act → Prop} {a : Act} {o : Oper} {rest : List Oper} (hw : Region.wanted o (yielded ops a.tmps) = true) (x : Operand) (ho : o.op = .load 26 x)
    (b off : Nat) (cs : Array Value) (hx : a.eval x = .pointer (some ⟨b, off, none⟩)) (hs : cs.size = 13) (hc : ∀ k, k < 13 → w.cell? ⟨b, off + k, none⟩ = cs[k]?)
    (h : wpStill Tryz.prog ops w Q rest (a.put o.dst (.agg cs))) : wpStill Tryz.prog ops w Q (o :: rest) a := by
  refine wpStill_step (fun K hK => ?_)
  rw [if_pos hw]
  have hr := run_loadVar_mid (P := Tryz.prog) w b off 26 cs.toList _ (range_of (by rw [hs]; exact hc)) Tryz.underlying26 rfl (by rw [Array.length_toList, hs]; exact infoC13)
  rw [Array.toArray_toList] at hr
  unfold Oper.still execOp
  simp only [ho, hx, Instr.loadAt, Instr.sureAddr, Sem.run_bind, Sem.run_pure, Result.andThen_ok, hr]
  exact ⟨rfl, hK _ h⟩
theorem still_cmp {ops : Array Oper} {w : World} {Q : Act → Prop} {a : Act} {o : Oper} {rest : List Oper} (hw : Region.wanted o (yielded ops a.tmps) = true) (eq : Bool) (x y : Operand) (ho : o.op = .binOp (if eq then .eql else .neq) 26 x y 26)
    (t : M.CT) (z : Int) (cs ds : Array Value) (hx : a.eval x = .agg cs) (hy : a.eval y = .agg ds) (h1 : cs = ctv t z) (h2 : ds = ctv t z)
    (h : wpStill Tryz.prog ops w Q rest (a.put o.dst (.bool eq))) : wpStill Tryz.prog ops w Q (o :: rest) a := by
  subst h1
  subst h2
  refine wpStill_step (fun K hK => ?_)
  rw [if_pos hw]
  unfold Oper.still execOp
  cases eq
  · simp only [Bool.false_eq_true, if_false] at ho
    simp only [ho, hx, hy]
    simp [run_eqGuard_agg, Tryz.eqGuardType26, neq_selfC, Sem.run_bind, Result.andThen_ok, Oper.stillUpon]
    exact hK _ h
  · simp only [if_true] at ho
    simp only [ho, hx, hy]
    simp [run_eqGuard_agg, Tryz.eqGuardType26, eql_selfC, Sem.run_bind, Result.andThen_ok, Oper.stillUpon]
    exact hK _ h
end Go.Proofs.YtbmfoedglhfcaaaGreatDoor

/- Tokens of CSS in memory: a slice of them, opened (cut out of XFAlive). -/
namespace Go.Proofs.YtbmfoedglhfcaaaGreatDoor
open Go.RowKit
set_option linter.unusedVariables false
set_option linter.unusedSimpArgs false

/-- Tokens that lie somewhere: the value, and each cell. -/
theorem cs_open {w : World} {v : Value} {l : List (M.CT × Int)} (h : Cs w v l) {n : Nat} (hn : l.length = n) : ∃ a cap, v = .slice a n cap ∧ n ≤ cap ∧ cap ≤ maxLen ∧ ∀ j (hj : j < l.length), ∃ b off, a = some ⟨b, off, none⟩ ∧ b < w.heap.size ∧
    ∀ k u, (ctv (l[j]).1 (l[j]).2)[k]? = some u → w.cell? ⟨b, off + j * 13 + k, none⟩ = some u := by
  obtain ⟨a, cap, rfl, h1, h2, h3⟩ := h
  subst hn
  have hl := tvsC_len l
  refine ⟨a, cap, by rw [hl], by omega, h2, fun j hj => ?_⟩
  obtain ⟨b, off, rfl, hb, hc⟩ := h3 (by omega)
  refine ⟨b, off, rfl, hb, fun k u hu => ?_⟩
  have := hc j (by omega) k u (by
    have e : (tvsC l)[j]'(by omega) = tvC l[j] := by simp [tvsC]
    rw [e]; simpa [tvC] using hu)
  rw [Nat.add_assoc]; exact this
end Go.Proofs.YtbmfoedglhfcaaaGreatDoor

/- Tokens of CSS in memory: all cells of one that lies somewhere; texts joined. -/
namespace Go.Proofs.YtbmfoedglhfcaaaGreatDoor
open Go.RowKit
set_option linter.unusedVariables false
set_option linter.unusedSimpArgs false

theorem bytes_selfF (s : ByteArray) : bytes s.data.toList = s := by apply ByteArray.ext; simp [bytes]
theorem bytes_addF (a b : List UInt8) : bytes a ++ bytes b = bytes (a ++ b) := by unfold bytes; rw [ByteArray.mk_append_mk]
/-- All cells of a token that lies somewhere. -/
theorem cs_cells {w : World} {v : Value} {l : List (M.CT × Int)} (h : Cs w v l) {n : Nat} (hn : l.length = n) : ∃ a cap, v = .slice a n cap ∧ n ≤ cap ∧ cap ≤ maxLen ∧ ∀ j (hj : j < l.length), ∃ b off, a = some ⟨b, off, none⟩ ∧ b < w.heap.size ∧
    ∀ k, k < 13 → w.cell? ⟨b, off + j * 13 + k, none⟩ = (ctv (l[j]).1 (l[j]).2)[k]? := by
  obtain ⟨a, cap, rfl, h1, h2, h3⟩ := cs_open h hn
  refine ⟨a, cap, rfl, h1, h2, fun j hj => ?_⟩
  obtain ⟨b, off, rfl, hb, hc⟩ := h3 j hj
  refine ⟨b, off, rfl, hb, fun k hk => ?_⟩
  have e : (ctv (l[j]).1 (l[j]).2)[k]? = some ((ctv (l[j]).1 (l[j]).2)[k]'(by rw [ctv_size]; exact hk)) := Array.getElem?_eq_getElem _
  rw [e]; exact hc k _ e
end Go.Proofs.YtbmfoedglhfcaaaGreatDoor
