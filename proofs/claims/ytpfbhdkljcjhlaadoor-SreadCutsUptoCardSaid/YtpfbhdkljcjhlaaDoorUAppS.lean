/- append of a text onto bytes of the call's own. -/
import Derived.Test.YtpfbhdkljcjhlaaDoorUApp
import Derived.Lib.AppendStr
namespace Go.Proofs.YtpfbhdkljcjhlaaDoor
open Go.RowKit

theorem wpl_append_str {w : World} {ops : Array Oper} {rest : List Oper} {o : Oper} {a : Act} {Q : Exit → Act → World → Prop} (hgd : o.guard = none) (s x : Operand)
    (ho : o.op = .call { callee := .builtin .append, args := #[s, x], argTypes := #[47, 9] })
    (B : Nat) (v : Value) (l k t : List UInt8) (hs : a.eval s = v) (hown : OwnB B w v l) (hx : a.eval x = .string (bytes k))
    (hlen : l.length + k.length ≤ 4294967296) (hB : B ≤ w.heap.size) (ht : l ++ k = t)
    (h : ∀ v' w', OwnB B w' v' t → Below B w w' → wpList Tryd.prog ops Q rest (a.put o.dst v') w') : wpList Tryd.prog ops Q (o :: rest) a w := by
  subst ht
  obtain ⟨i0, hi, hz0, hz1, hz2⟩ := info_parts infoB
  have hlt := World.ownsRow.lt hown
  have hsz : (bytes k).size = k.length := bytes_size k
  refine Lib.wpList_append_own_string _ hgd s x 47 9 ho B 5 i0 Tryd.underlying47 Tryd.underlying9 hi hz0 hz1 hz2 v l.length (bcells l) hs hown (bytes k) hx (by rw [hsz]; unfold maxLen; omega) (by rw [hsz]; omega) hB ?_
  intro v' w' hown' hg _
  refine h v' w' ?_ ((Below.refl B w).grown hg hB (fun j hj => (hlt j hj).1))
  have e : Lib.strCells (bytes k) = bcells k := by simp [Lib.strCells, bcells, bytes_list]
  rw [e, hsz, ← bcells_append, ← List.length_append] at hown'
  exact hown'
end Go.Proofs.YtpfbhdkljcjhlaaDoor
