/- append of structs onto structs of the call's own, with word of which block the row lies in behind it: no other changes. -/
import Derived.Test.YtbfnlgmhfhaglaaGreatDoorJgB
import Derived.Maps.AppendAt
import Derived.OneCell
namespace Go.Proofs.YtbfnlgmhfhaglaaGreatDoor
open Go.RowKit
set_option linter.unusedVariables false

theorem wpl_appendVG {w : World} {ops : Array Oper} {rest : List Oper} {o : Oper} {a : Act} {Q : Exit → Act → World → Prop} {E T sz bytes : Nat} {z : Value} (hgd : o.guard = none) (s x : Operand)
    (ho : o.op = .call { callee := .builtin .append, args := #[s, x], argTypes := #[T, T] }) (hT : Tryz.prog.underlying T = some (.slice E)) (hinfo : (Tryz.prog.info? E).map (fun i => (i.zero, i.size, i.bytes)) = some (some z, sz, bytes)) (hz : z.cells.size = sz) (h0 : 0 < sz)
    (B : Nat) (v u : Value) (l k t : List (List Value)) (hs : a.eval s = v) (hown : OwnV E sz B w v l) (hx : a.eval x = u) (hu : Vs sz w u k) (hnn : NNv u) (hk : ∀ y ∈ k, y.length = sz) (hk1 : ∀ y ∈ k, ∀ c ∈ y, c.oneCell' = true)
    (hlen : (l.length + k.length) * bytes ≤ 140737488355328) (hb0 : 0 < bytes) (hB : B ≤ w.heap.size) (ht : l ++ k = t)
    (h : ∀ v' w', OwnV E sz B w' v' t → Below B w w' → (∀ j, j < w.heap.size → some j ≠ v.ownBlock → w'.heap[j]? = w.heap[j]?) → (v'.ownBlock = v.ownBlock ∨ v'.ownBlock = some w.heap.size) → wpList Tryz.prog ops Q rest (a.put o.dst v') w') : wpList Tryz.prog ops Q (o :: rest) a w := by
  subst ht
  obtain ⟨i0, hi, hz0, hz1, hz2⟩ := info_parts hinfo
  obtain ⟨ad, cap, rfl, h1, h2, h3⟩ := hu
  obtain ⟨hown, hsz, hone⟩ := hown
  have hlt := World.ownsRow.lt hown
  have hmax : l.length + k.length ≤ 140737488355328 := Nat.le_trans (Nat.le_mul_of_pos_right _ hb0) hlen
  have hall : (∀ y ∈ l ++ k, y.length = sz) ∧ ∀ y ∈ l ++ k, ∀ c ∈ y, c.oneCell' = true := by
    refine ⟨fun y hy => ?_, fun y hy => ?_⟩
    · rcases List.mem_append.1 hy with hy | hy
      · exact hsz y hy
      · exact hk y hy
    · rcases List.mem_append.1 hy with hy | hy
      · exact hone y hy
      · exact hk1 y hy
  cases ad with
  | none =>
    have hk0 : k = [] := by
      cases k with
      | nil => rfl
      | cons c k => obtain ⟨b, off, h, _⟩ := h3 (by simp); exact absurd h (by simp)
    subst hk0
    obtain rfl := hnn _ _ rfl
    refine wpList_append_own_none hgd s x T ho B E i0 sz hT hi v l.length l.flatten hs hown hx ?_
    exact h v w (by rw [List.append_nil]; exact ⟨hown, hsz, hone⟩) (Below.refl _ _) (fun _ _ _ => rfl) (.inl rfl)
  | some ad =>
    have hcs : ∀ j c, k.flatten[j]? = some c → w.cell? (ad.add j) = some c := by
      intro j c hj
      have hjl := (List.getElem?_eq_some_iff.1 hj).1
      rw [flat_len k hk] at hjl
      have hk0 : 0 < k.length := by
        rcases Nat.eq_zero_or_pos k.length with e | e
        · rw [e, Nat.zero_mul] at hjl; omega
        · exact e
      obtain ⟨b, off, hab, _, hc⟩ := h3 hk0
      obtain rfl : ad = ⟨b, off, none⟩ := by simpa using hab
      have hq : j / sz < k.length := by rw [Nat.div_lt_iff_lt_mul h0]; exact hjl
      have hm : j % sz < sz := Nat.mod_lt _ h0
      have he : j / sz * sz + j % sz = j := by rw [Nat.mul_comm]; exact Nat.div_add_mod j sz
      have hf := flat_get k hk (j / sz) hq (j % sz) hm
      rw [he, hj] at hf
      rw [Go.WideShapes.add_plain]
      have := hc (j / sz) hq (j % sz) c hf.symm
      rwa [he] at this
    refine wpList_append_own_at _ hgd s x T ho B E i0 z sz bytes hT hi hz0 hz1 hz2 hz h0 v l.length l.flatten hs hown ad k.length cap k.flatten hx (flat_len k hk) hcs (fun u hu => ?_) (by unfold maxLen; omega) hlen hB ?_
    · obtain ⟨y, hy, hu⟩ := List.mem_flatten.1 hu
      exact hk1 y hy u hu
    · intro v' w' hown' hg _ hwh
      refine h v' w' ⟨?_, hall.1, hall.2⟩ ((Below.refl B w).grown hg hB (fun j hj => (hlt j hj).1)) (fun j h1 h2 => hg.block j h1 h2) hwh
      rw [← List.flatten_append, ← List.length_append] at hown'
      exact hown'
/-- A store into another block leaves a row of the call's own. -/
theorem OwnV.setOther {E sz B : Nat} {w : World} {v : Value} {l : List (List Value)} (h : OwnV E sz B w v l) (a : Addr) (u : Value) (hne : v.ownBlock ≠ some a.block) : OwnV E sz B (w.setCell a u) v l :=
  ⟨ownsRow_setCell_other h.1 hne u, h.2.1, h.2.2⟩
end Go.Proofs.YtbfnlgmhfhaglaaGreatDoor
