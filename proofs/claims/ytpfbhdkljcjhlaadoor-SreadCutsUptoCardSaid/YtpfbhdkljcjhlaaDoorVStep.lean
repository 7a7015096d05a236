/- append of one struct onto structs of the call's own, at a step of a region that draws its order. -/
import Derived.Test.YtpfbhdkljcjhlaaDoorVBase
import Derived.Deep.AppendLies
import Derived.Deep.RegionHeld3
namespace Go.Proofs.YtpfbhdkljcjhlaaDoor
open Go.RowKit
set_option linter.unusedVariables false
set_option linter.unusedSimpArgs false

theorem stepl_appendV {w : World} {ops : Array Oper} {o : Oper} {a : Act} {K : Act → World → Prop} {Q : Exit → Act → World → Prop} {E0 : Prop} {E T sz bytes : Nat} {z : Value} (hgd : o.guard = none) (s xo : Operand)
    (ho : o.op = .call { callee := .builtin .append, args := #[s, xo], argTypes := #[T, T] }) (hT : Tryd.prog.underlying T = some (.slice E)) (hinfo : (Tryd.prog.info? E).map (fun i => (i.zero, i.size, i.bytes)) = some (some z, sz, bytes)) (hz : z.cells.size = sz) (h0 : 0 < sz)
    (B : Nat) (v u : Value) (l t : List (List Value)) (y : List Value) (hs : a.eval s = v) (hown : OwnV E sz B w v l) (hx : a.eval xo = u) (hu : Vs sz w u [y]) (hy : y.length = sz) (hy1 : ∀ c ∈ y, c.oneCell' = true)
    (hlen : (l.length + 1) * bytes ≤ 140737488355328) (hb0 : 0 < bytes) (hB : B ≤ w.heap.size) (ht : l ++ [y] = t)
    (h : ∀ v' w', OwnV E sz B w' v' t → Below B w w' → w.grownBy w' v.ownBlock → (v'.ownBlock = v.ownBlock ∨ v'.ownBlock = some w.heap.size) → K (a.put o.dst v') w') : if Region.wanted o (yielded ops a.tmps) = true then Oper.wp Tryd.prog o a w K Q else E0 := by
  subst ht
  obtain ⟨i0, hi, hz0, hz1, hz2⟩ := info_parts hinfo
  obtain ⟨ad, cap, rfl, h1, h2, h3⟩ := hu
  obtain ⟨hown, hsz, hone⟩ := hown
  have hlt := World.ownsRow.lt hown
  obtain ⟨b, off, rfl, _, hc⟩ := h3 (by simp)
  have hmax : l.length + 1 ≤ 140737488355328 := Nat.le_trans (Nat.le_mul_of_pos_right _ hb0) hlen
  have hcs : ∀ j c, y[j]? = some c → w.cell? ((⟨b, off, none⟩ : Addr).add j) = some c := by
    intro j c hj
    rw [Go.WideShapes.add_plain]
    have := hc 0 (by simp) j c (by simpa using hj)
    simpa using this
  refine step_append_lies w hgd s xo T ho B E i0 z sz bytes hT hi hz0 hz1 hz2 hz h0 v l.length l.flatten hs hown ⟨b, off, none⟩ 1 cap y (by simpa using hx) (by rw [hy, Nat.one_mul]) hcs hy1 (by decide) (by unfold maxLen; omega) hlen hB _ rfl ?_
  intro g cap' w' hown' hg hgo _
  refine h _ w' ⟨?_, ?_, ?_⟩ ((Below.refl B w).grown hg hB (fun j hj => (hlt j hj).1)) hg (by rcases hgo with h | h; exact .inl h.symm; right; rw [h]; rfl)
  · have e : (l ++ [y]).flatten = l.flatten ++ y := by simp
    rw [e, List.length_append]
    exact hown'
  · intro q hq
    rcases List.mem_append.1 hq with hq | hq
    · exact hsz q hq
    · rw [List.mem_singleton.1 hq]; exact hy
  · intro q hq
    rcases List.mem_append.1 hq with hq | hq
    · exact hone q hq
    · rw [List.mem_singleton.1 hq]; exact hy1
end Go.Proofs.YtpfbhdkljcjhlaaDoor
