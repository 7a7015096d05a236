/- append of bytes that came in, nil or not, onto bytes of the call's own. -/
import Derived.Test.YtpfbhdkljcjhlaaDoorUBase
import Derived.Laws.AppendOwnNone
import Derived.OwnWalk
namespace Go.Proofs.YtpfbhdkljcjhlaaDoor
open Go.RowKit

theorem wpl_append {w : World} {ops : Array Oper} {rest : List Oper} {o : Oper} {a : Act} {Q : Exit → Act → World → Prop} (hgd : o.guard = none) (s x : Operand)
    (ho : o.op = .call { callee := .builtin .append, args := #[s, x], argTypes := #[47, 47] })
    (B : Nat) (v u : Value) (l k t : List UInt8) (hs : a.eval s = v) (hown : OwnB B w v l) (hx : a.eval x = u) (hu : Bs w u k) (hz : ∀ n c, u = .slice none n c → c = 0)
    (hlen : l.length + k.length ≤ 4294967296) (hB : B ≤ w.heap.size) (ht : l ++ k = t)
    (h : ∀ v' w', OwnB B w' v' t → Below B w w' → wpList Tryd.prog ops Q rest (a.put o.dst v') w') : wpList Tryd.prog ops Q (o :: rest) a w := by
  subst ht
  obtain ⟨i0, hi, hz0, hz1, hz2⟩ := info_parts infoB
  obtain ⟨ad, cap, rfl, h1, h2, h3⟩ := hu
  have hlt := World.ownsRow.lt hown
  cases ad with
  | none =>
    have h0 : k = [] := by
      cases k with
      | nil => rfl
      | cons c k => obtain ⟨b, off, h, _⟩ := h3 (by simp); exact absurd h (by simp)
    subst h0
    obtain rfl := hz _ _ rfl
    refine wpList_append_own_none hgd s x 47 ho B 5 i0 1 Tryd.underlying47 hi v l.length (bcells l) hs hown hx ?_
    exact h v w (by simpa using hown) (Below.refl _ _)
  | some ad =>
    have hcs : ∀ j c, (bcells k)[j]? = some c → w.cell? (ad.add j) = some c := by
      intro j c hj
      have h0 : 0 < k.length := by
        have := (List.getElem?_eq_some_iff.1 hj).1
        simp [bcells] at this; omega
      obtain ⟨b, off, hab, _, hc⟩ := h3 h0
      obtain rfl : ad = ⟨b, off, none⟩ := by simpa using hab
      exact bs_cells hc j c hj
    refine wpList_append_own _ hgd s x 47 ho B 5 i0 (.int .u8 0) 1 1 Tryd.underlying47 hi hz0 hz1 hz2 rfl (by decide) v l.length (bcells l) hs hown ad k.length cap (bcells k) hx (by simp [bcells]) hcs one_oneCell (by unfold maxLen; omega) (by omega) hB ?_
    intro v' w' hown' hg _
    refine h v' w' ?_ ((Below.refl B w).grown hg hB (fun j hj => (hlt j hj).1))
    rw [← bcells_append, ← List.length_append] at hown'
    exact hown'

/-- What is known of a slice of bytes that came in. -/
theorem row_bs {w : World} {a : Option Addr} {len cap : Nat} {zs : List Int}
    (h : (a = none ∧ len = 0 ∧ cap = 0 ∧ zs = []) ∨ ∃ x, a = some x ∧ len ≤ cap ∧ cap ≤ maxLen ∧ zs.length = cap ∧ (∀ i, i < zs.length → w.cell? (x.add i) = some (.int .u8 (zs.getD i 0))) ∧ ∀ n ∈ zs, (Lit.int .u8 n).wf = true) :
    ∃ l : List UInt8, l.length = len ∧ Bs w (.slice a len cap) l ∧ (∀ n c, Value.slice a len cap = .slice none n c → c = 0) := by
  rcases h with ⟨rfl, rfl, rfl, _⟩ | ⟨x, rfl, hl, hm, hz, hc, hwf⟩
  · exact ⟨[], rfl, bs_nil w, fun n c h => by simp at h; omega⟩
  · refine ⟨(zs.take len).map fun z => z.toNat.toUInt8, by simp; omega, ⟨some x, cap, by simp; omega, by simp; omega, hm, fun h0 => ?_⟩, fun n c h => by simp at h⟩
    have hlz : 0 < zs.length := by simp at h0; omega
    obtain ⟨b, off, rfl, hc2⟩ := ints_at hc hlz
    refine ⟨b, off, rfl, World.block_lt_of_cell? w _ (hc2 0 hlz), fun j hj => ?_⟩
    have hj' : j < zs.length := by simp at hj; omega
    rw [hc2 j hj']
    have hw := hwf zs[j] (List.getElem_mem hj')
    have hb := bounds_u8 hw
    simp only [List.getElem_map, List.getElem_take]
    rw [M.toU8 _ (by omega)]
    simp [hj']
    omega
end Go.Proofs.YtpfbhdkljcjhlaaDoor
