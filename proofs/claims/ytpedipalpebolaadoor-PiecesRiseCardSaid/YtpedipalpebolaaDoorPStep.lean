/- append of a piece onto pieces of the call's own, at a step of a region that draws its order. -/
import Derived.Test.YtpedipalpebolaaDoorPBase
import Derived.Test.YtpedipalpebolaaDoorVStep
namespace Go.Proofs.YtpedipalpebolaaDoor
open Go.RowKit
set_option linter.unusedVariables false
set_option linter.unusedSimpArgs false

theorem stepl_piece {w : World} {ops : Array Oper} {o : Oper} {a : Act} {K : Act → World → Prop} {Q : Exit → Act → World → Prop} {E0 : Prop} (hgd : o.guard = none) (s xo : Operand)
    (ho : o.op = .call { callee := .builtin .append, args := #[s, xo], argTypes := #[22, 22] })
    (B : Nat) (v u : Value) (l t : M.Pcs) (p : List UInt8 × Int) (hs : a.eval s = v) (hown : OwnP B w v l) (hx : a.eval xo = u) (hu : Vs 2 w u [pv p])
    (hlen : l.length ≤ 4294967296) (hB : B ≤ w.heap.size) (ht : l ++ [p] = t)
    (h : ∀ v' w', OwnP B w' v' t → Below B w w' → w.grownBy w' v.ownBlock → (v'.ownBlock = v.ownBlock ∨ v'.ownBlock = some w.heap.size) → K (a.put o.dst v') w') : if Region.wanted o (yielded ops a.tmps) = true then Oper.wp Tryd.prog o a w K Q else E0 :=
  stepl_appendV hgd s xo ho Tryd.underlying22 infoPc rfl (by decide) B v u (l.map pv) (t.map pv) (pv p) hs hown hx hu rfl (pv_one p) (by simp; omega) (by decide) hB (by rw [← ht]; simp) h
end Go.Proofs.YtpedipalpebolaaDoor
