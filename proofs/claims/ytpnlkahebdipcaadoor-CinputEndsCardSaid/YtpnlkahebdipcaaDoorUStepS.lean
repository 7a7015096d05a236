/- append of a text onto bytes of the call's own, at a step of a region that draws its order. -/
import Derived.Test.YtpnlkahebdipcaaDoorUStep
import Derived.Lib.AppendStr
namespace Go.Proofs.YtpnlkahebdipcaaDoor
open Go.RowKit
set_option linter.unusedVariables false

theorem stepl_append_str {w : World} {ops : Array Oper} {o : Oper} {a : Act} {K : Act → World → Prop} {Q : Exit → Act → World → Prop} {E : Prop} (hgd : o.guard = none) (s x : Operand)
    (ho : o.op = .call { callee := .builtin .append, args := #[s, x], argTypes := #[22, 9] })
    (B : Nat) (v : Value) (l k t : List UInt8) (hs : a.eval s = v) (hown : OwnB B w v l) (hx : a.eval x = .string (bytes k))
    (hlen : l.length + k.length ≤ 4294967296) (hB : B ≤ w.heap.size) (ht : l ++ k = t)
    (h : ∀ v' w', OwnB B w' v' t → Below B w w' → K (a.put o.dst v') w') : if Region.wanted o (yielded ops a.tmps) = true then Oper.wp Tryd.prog o a w K Q else E := by
  subst ht
  obtain ⟨i0, hi, hz0, hz1, hz2⟩ := info_parts infoB
  have hlt := World.ownsRow.lt hown
  have hsz : (bytes k).size = k.length := bytes_size k
  have hw : Region.wanted o (yielded ops a.tmps) = true := by simp [Region.wanted, hgd]
  rw [if_pos hw]
  obtain ⟨v', w', hrun, hown', hg, _⟩ := Lib.run_append_own_string (P := Tryd.prog) w B 22 9 o.type 5 i0 Tryd.underlying22 Tryd.underlying9 hi hz0 hz1 hz2 v l.length (bcells l) hown (bytes k) (by rw [hsz]; unfold maxLen; omega) (by rw [hsz]; omega) hB
  have e : Lib.strCells (bytes k) = bcells k := by simp [Lib.strCells, bcells, bytes_list]
  rw [e, hsz, ← bcells_append, ← List.length_append] at hown'
  have hbel := (Below.refl B w).grown hg hB (fun j hj => (hlt j hj).1)
  unfold Oper.wp
  simp [execOp, ho, resolve, invoke, builtin, hs, hx, hrun, Result.andThen]
  exact h v' w' hown' hbel
end Go.Proofs.YtpnlkahebdipcaaDoor
