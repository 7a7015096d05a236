/- append of bytes onto bytes of the call's own, at a step of a region that draws its order. -/
import Derived.Test.YtejpgopbgepaoaaDoorUApp
import Derived.Deep.AppendLies
namespace Go.Proofs.YtejpgopbgepaoaaDoor
open Go.RowKit

/-- append of bytes onto bytes of the call's own, at a step of a region that draws its order. -/
theorem stepl_append {w : World} {ops : Array Oper} {o : Oper} {a : Act} {K : Act → World → Prop} {Q : Exit → Act → World → Prop} {E : Prop} (hgd : o.guard = none) (s x : Operand)
    (ho : o.op = .call { callee := .builtin .append, args := #[s, x], argTypes := #[37, 37] })
    (B : Nat) (v u : Value) (l k t : List UInt8) (hs : a.eval s = v) (hown : OwnB B w v l) (hx : a.eval x = u) (hu : Bs w u k) (hk : 0 < k.length)
    (hlen : l.length + k.length ≤ 4294967296) (hB : B ≤ w.heap.size) (ht : l ++ k = t)
    (h : ∀ v' w', OwnB B w' v' t → Below B w w' → K (a.put o.dst v') w') : if Region.wanted o (yielded ops a.tmps) = true then Oper.wp Tryd.prog o a w K Q else E := by
  subst ht
  obtain ⟨i0, hi, hz0, hz1, hz2⟩ := info_parts infoB
  obtain ⟨ad, cap, rfl, h1, h2, h3⟩ := hu
  have hlt := World.ownsRow.lt hown
  obtain ⟨b, off, rfl, _, hc⟩ := h3 hk
  refine step_append_lies w hgd s x 37 ho B 5 i0 (.int .u8 0) 1 1 Tryd.underlying37 hi hz0 hz1 hz2 rfl (by decide) v l.length (bcells l) hs hown ⟨b, off, none⟩ k.length cap (bcells k) hx (by simp [bcells]) (bs_cells hc) one_oneCell hk (by unfold maxLen; omega) (by omega) hB _ rfl ?_
  intro g cap' w' hown' hg _ _
  refine h _ w' ?_ ((Below.refl B w).grown hg hB (fun j hj => (hlt j hj).1))
  rw [← bcells_append, ← List.length_append] at hown'
  rw [← List.length_append]
  exact hown'
end Go.Proofs.YtejpgopbgepaoaaDoor
