/- append of a code point onto code points of the call's own, at a step of a region that draws its order. -/
import Derived.Test.YtpnlkahebdipcaaDoorCIn
import Derived.Deep.AppendLies
import Derived.Deep.RegionHeld3
namespace Go.Proofs.YtpnlkahebdipcaaDoor
open Go.RowKit
set_option linter.unusedVariables false

theorem stepl_rune {w : World} {ops : Array Oper} {o : Oper} {a : Act} {K : Act → World → Prop} {Q : Exit → Act → World → Prop} {E : Prop} (hgd : o.guard = none) (s x : Operand)
    (ho : o.op = .call { callee := .builtin .append, args := #[s, x], argTypes := #[23, 23] })
    (B : Nat) (v u : Value) (l t : List (Int × Int)) (r p : Int) (hs : a.eval s = v) (hown : OwnR B w v l) (hx : a.eval x = u) (hu : Vs 2 w u (rvs [(r, p)]))
    (hlen : l.length ≤ 4294967296) (hB : B ≤ w.heap.size) (ht : l ++ [(r, p)] = t)
    (h : ∀ v' w', OwnR B w' v' t → Below B w w' → w.grownBy w' v.ownBlock → (v'.ownBlock = v.ownBlock ∨ v'.ownBlock = some w.heap.size) → K (a.put o.dst v') w') : if Region.wanted o (yielded ops a.tmps) = true then Oper.wp Tryd.prog o a w K Q else E := by
  subst ht
  obtain ⟨i0, hi, hz0, hz1, hz2⟩ := info_parts infoR
  obtain ⟨ad, cap, rfl, h1, h2, h3⟩ := hu
  obtain ⟨hown, hsz, hone⟩ := hown
  have hlt := World.ownsRow.lt hown
  obtain ⟨b, off, rfl, _, hc⟩ := h3 (by simp [rvs])
  have hcs : ∀ j c, (rvs [(r, p)]).flatten[j]? = some c → w.cell? ((⟨b, off, none⟩ : Addr).add j) = some c := by
    intro j c hj
    have hjl := (List.getElem?_eq_some_iff.1 hj).1
    rw [flat_len _ (rvs_two _)] at hjl
    have hj2 : j < 2 := by simpa [rvs] using hjl
    have hf := flat_get (rvs [(r, p)]) (rvs_two _) 0 (by simp [rvs]) j hj2
    rw [Nat.zero_mul, Nat.zero_add, hj] at hf
    rw [Go.WideShapes.add_plain]
    have := hc 0 (by simp [rvs]) j c hf.symm
    simpa using this
  refine step_append_lies w hgd s x 23 ho B 30 i0 _ 2 16 Tryd.underlying23 hi hz0 hz1 hz2 rfl (by decide) v (rvs l).length (rvs l).flatten hs hown ⟨b, off, none⟩ (rvs [(r, p)]).length cap (rvs [(r, p)]).flatten hx (flat_len _ (rvs_two _)) hcs (fun u hu => ?_) (by simp [rvs]) (by rw [rvs_len, rvs_len]; unfold maxLen; simp; omega) (by rw [rvs_len, rvs_len]; simp; omega) hB _ rfl ?_
  · obtain ⟨y, hy, hu⟩ := List.mem_flatten.1 hu
    exact rvs_one _ y hy u hu
  · intro g cap' w' hown' hg hgo _
    refine h _ w' ⟨?_, rvs_two _, rvs_one _⟩ ((Below.refl B w).grown hg hB (fun j hj => (hlt j hj).1)) hg (by rcases hgo with h | h; exact .inl h.symm; right; rw [h]; rfl)
    rw [rvs_append]
    rw [← List.flatten_append, ← List.length_append] at hown'
    rw [← List.length_append]
    exact hown'
end Go.Proofs.YtpnlkahebdipcaaDoor
