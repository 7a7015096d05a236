import Derived.Test.YtimjbjppmhdjnaaGreatDoorWSm
import Derived.Laws.StructEq
import Derived.ChangeKeysEq
namespace Go.Proofs.YtimjbjppmhdjnaaGreatDoor
open Go.RowKit
set_option linter.unusedVariables false
set_option linter.unusedSimpArgs false
theorem eq_colG (w : World) (c d : C4) : (Op.equalIn 9999 31 (.agg #[.int .i64 c.1, .int .i64 c.2.1, .int .i64 c.2.2.1, .int .i64 c.2.2.2]) (.agg #[.int .i64 d.1, .int .i64 d.2.1, .int .i64 d.2.2.1, .int .i64 d.2.2.2])).run Tryz.prog w = .ok (decide (c = d)) w := by
 obtain ⟨i, hi⟩ := Option.isSome_iff_exists.1 (show (Tryz.prog.info? 3).isSome = true by kernel_rfl)
 obtain ⟨c0, c1, c2, c3⟩ := c
 obtain ⟨d0, d1, d2, d3⟩ := d
 rw [run_equalIn_array w 9998 _ _ Tryz.underlying31 hi]
 rw [show Tryz.prog.cellsOf 3 = 1 by kernel_rfl, show List.range 4 = [0, 1, 2, 3] from rfl]
 by_cases h0 : c0 = d0
 ·by_cases h1 : c1 = d1
  ·by_cases h2 : c2 = d2
   ·by_cases h3 : c3 = d3
    ·simp [Op.eqItems, part, go_sem, h0, h1, h2, h3]
    ·simp [Op.eqItems, part, go_sem, h0, h1, h2, h3]
   ·simp [Op.eqItems, part, go_sem, h0, h1, h2]
  ·simp [Op.eqItems, part, go_sem, h0, h1]
 ·simp [Op.eqItems, part, go_sem, h0]
theorem eq_numG (w : World) (a b : M.NumV) : (Op.equalIn 9999 30 (.agg #[.bool a.1, .string (bytes a.2.1), .string (bytes a.2.2)]) (.agg #[.bool b.1, .string (bytes b.2.1), .string (bytes b.2.2)])).run Tryz.prog w = .ok (decide (a = b)) w := by
 obtain ⟨a0, a1, a2⟩ := a
 obtain ⟨b0, b1, b2⟩ := b
 rw [run_equalIn_agg w 9998 _ _ _ (by simp [Program.fieldsOf, Tryz.underlying30]) Tryz.stoodInHeld30]
 by_cases h0 : a0 = b0
 ·by_cases h1 : a1 = b1
  ·by_cases h2 : a2 = b2
   ·simp [Program.fieldsOf, Tryz.underlying30, Op.eqFields, part, go_sem, h0, h1, h2]
   ·simp [Program.fieldsOf, Tryz.underlying30, Op.eqFields, part, go_sem, h0, h1, h2, toList_bytes]
  ·simp [Program.fieldsOf, Tryz.underlying30, Op.eqFields, part, go_sem, h0, h1, toList_bytes]
 ·simp [Program.fieldsOf, Tryz.underlying30, Op.eqFields, part, go_sem, h0]
theorem gt_iff (g h : GT) : g = h ↔ g.1.kind = h.1.kind /\ g.1.text = h.1.text /\ g.1.unit = h.1.unit /\ g.1.num = h.1.num /\ g.1.flag = h.1.flag /\ g.1.sign = h.1.sign /\ g.2.1 = h.2.1 /\ g.2.2 = h.2.2 := by
 obtain ⟨⟨a, b, c, d, e, f⟩, x, z⟩ := g
 obtain ⟨⟨a', b', c', d', e', f'⟩, x', z'⟩ := h
 simp only [Prod.mk.injEq, M.CT.mk.injEq]
 constructor
 ·rintro ⟨⟨h1, h2, h3, h4, h5, h6⟩, h7, h8⟩; exact ⟨h1, h2, h3, h4, h5, h6, h7, h8⟩
 ·rintro ⟨h1, h2, h3, h4, h5, h6, h7, h8⟩; exact ⟨⟨h1, h2, h3, h4, h5, h6⟩, h7, h8⟩
theorem eq_gen (w : World) (g h : GT) : (Op.equalIn 10000 33 (.agg (gtv g)) (.agg (gtv h))).run Tryz.prog w = .ok (decide (g = h)) w := by
 rw [run_equalIn_agg w 9999 _ _ _ (by simp [Program.fieldsOf, Tryz.underlying33]) Tryz.stoodInHeld33]
 have e1 := eq_colG w g.2.1 h.2.1
 have e2 := eq_numG w g.1.num h.1.num
 have hd : decide (g = h) = decide (g.1.kind = h.1.kind /\ g.1.text = h.1.text /\ g.1.unit = h.1.unit /\ g.1.num = h.1.num /\ g.1.flag = h.1.flag /\ g.1.sign = h.1.sign /\ g.2.1 = h.2.1 /\ g.2.2 = h.2.2) := by
  rw [Bool.eq_iff_iff, decide_eq_true_iff, decide_eq_true_iff]; exact gt_iff g h
 rw [hd]
 unfold gtv
 by_cases h0 : g.1.kind = h.1.kind
 ·by_cases h1 : g.1.text = h.1.text
  ·by_cases h2 : g.1.unit = h.1.unit
   ·by_cases h3 : g.1.num = h.1.num
    ·by_cases h4 : g.1.flag = h.1.flag
     ·by_cases h5 : g.1.sign = h.1.sign
      ·by_cases h6 : g.2.1 = h.2.1
       ·by_cases h7 : g.2.2 = h.2.2
        ·rw [h3] at e2; rw [h6] at e1
         simp [Program.fieldsOf, Tryz.underlying33, Op.eqFields, part, go_sem, e1, e2, h0, h1, h2, h3, h4, h5, h6, h7]
        ·rw [h3] at e2; rw [h6] at e1
         simp [Program.fieldsOf, Tryz.underlying33, Op.eqFields, part, go_sem, e1, e2, h0, h1, h2, h3, h4, h5, h6, h7]
       ·rw [h3] at e2
        simp [Program.fieldsOf, Tryz.underlying33, Op.eqFields, part, go_sem, e1, e2, h0, h1, h2, h3, h4, h5, h6]
      ·rw [h3] at e2
       simp [Program.fieldsOf, Tryz.underlying33, Op.eqFields, part, go_sem, e2, h0, h1, h2, h3, h4, h5]
     ·rw [h3] at e2
      simp [Program.fieldsOf, Tryz.underlying33, Op.eqFields, part, go_sem, e2, h0, h1, h2, h3, h4]
    ·simp [Program.fieldsOf, Tryz.underlying33, Op.eqFields, part, go_sem, e2, h0, h1, h2, h3, toList_bytes]
     intro a b c
     exact absurd (Prod.ext a (Prod.ext b c)) h3
   ·simp [Program.fieldsOf, Tryz.underlying33, Op.eqFields, part, go_sem, h0, h1, h2, toList_bytes]
  ·simp [Program.fieldsOf, Tryz.underlying33, Op.eqFields, part, go_sem, h0, h1, toList_bytes]
 ·simp [Program.fieldsOf, Tryz.underlying33, Op.eqFields, part, go_sem, h0]
theorem neq_gen (w : World) (g h : GT) : (binOp .neq 33 (.agg (gtv g)) (.agg (gtv h))).run Tryz.prog w = .ok (.bool (!decide (g = h))) w := by
 rw [run_neq_struct, eq_gen]; rfl
theorem eql_gen (w : World) (g h : GT) : (binOp .eql 33 (.agg (gtv g)) (.agg (gtv h))).run Tryz.prog w = .ok (.bool (decide (g = h))) w := by
 rw [run_eql_struct, eq_gen]; rfl
theorem wp_cmpG {o : Oper} {a : Act} {w : World} {K : Act -> World -> Prop} {Q : Exit -> Act -> World -> Prop} (eq : Bool) (x y : Operand) (ho : o.op = .binOp (if eq then .eql else .neq) 33 x y 33)
  (g h : GT) (r : Bool) (hr : decide (g = h) = r) (cs ds : Array Value) (hx : a.eval x = .agg cs) (hy : a.eval y = .agg ds) (h1 : cs = gtv g) (h2 : ds = gtv h)
  (hh : K (a.put o.dst (.bool (r == eq))) w) : o.wp Tryz.prog a w K Q := by
 subst h1
 subst h2
 subst hr
 unfold Oper.wp execOp
 cases eq
 ·simp only [Bool.false_eq_true, if_false] at ho
  simp only [ho, hx, hy]
  simp [run_eqGuard_agg, Tryz.eqGuardType33, neq_gen, Sem.run_bind, Result.andThen_ok]
  exact (show K (a.put o.dst (.bool (!decide (g = h)))) w by simpa using hh)
 ·simp only [if_true] at ho
  simp only [ho, hx, hy]
  simp [run_eqGuard_agg, Tryz.eqGuardType33, eql_gen, Sem.run_bind, Result.andThen_ok]
  exact (show K (a.put o.dst (.bool (decide (g = h)))) w by simpa using hh)
theorem wpl_cmpG {ops : Array Oper} {rest : List Oper} {o : Oper} {a : Act} {w : World} {Q : Exit -> Act -> World -> Prop} (hw : Region.wanted o (yielded ops a.tmps) = true) (eq : Bool) (x y : Operand) (ho : o.op = .binOp (if eq then .eql else .neq) 33 x y 33)
  (g h : GT) (r : Bool) (hr : decide (g = h) = r) (cs ds : Array Value) (hx : a.eval x = .agg cs) (hy : a.eval y = .agg ds) (h1 : cs = gtv g) (h2 : ds = gtv h)
  (hh : wpList Tryz.prog ops Q rest (a.put o.dst (.bool (r == eq))) w) : wpList Tryz.prog ops Q (o :: rest) a w :=
 wpList_step fun K hK => by rw [if_pos hw]; exact wp_cmpG eq x y ho g h r hr cs ds hx hy h1 h2 (hK _ _ hh)
end Go.Proofs.YtimjbjppmhdjnaaGreatDoor
