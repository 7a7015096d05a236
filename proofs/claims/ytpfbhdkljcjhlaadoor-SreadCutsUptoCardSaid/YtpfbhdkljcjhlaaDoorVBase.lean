/- Rows of structs in memory, so many one-cell fields each: a slice that holds them, a slice of the call's own, append. -/
import Derived.Test.YtpfbhdkljcjhlaaDoorUBase
import Derived.Laws.AppendOwnNone
import Derived.Laws.MakeOwn
import Derived.OwnWalk
namespace Go.Proofs.YtpfbhdkljcjhlaaDoor
open Go.RowKit
set_option linter.unusedVariables false

/-- A slice that holds these rows of cells, sz of them each. -/
def Vs (sz : Nat) (w : World) (v : Value) (l : List (List Value)) : Prop :=
  ∃ a cap, v = .slice a l.length cap ∧ l.length ≤ cap ∧ cap ≤ maxLen ∧ (0 < l.length → ∃ b off, a = some ⟨b, off, none⟩ ∧ b < w.heap.size ∧ ∀ j (h : j < l.length) i u, l[j][i]? = some u → w.cell? ⟨b, off + (j * sz + i), none⟩ = some u)
theorem Vs.below {sz B : Nat} {w w' : World} {v : Value} {l : List (List Value)} (h : Vs sz w v l) (hb : Below B w w') (hB : w.heap.size ≤ B) : Vs sz w' v l := by
  obtain ⟨a, cap, rfl, h1, h2, h3⟩ := h
  refine ⟨a, cap, rfl, h1, h2, fun h0 => ?_⟩
  obtain ⟨b, off, rfl, hlt, hc⟩ := h3 h0
  exact ⟨b, off, rfl, Nat.lt_of_lt_of_le hlt hb.size, fun j hj i u hu => by rw [hb.cell (p := ⟨b, off + (j * sz + i), none⟩) (Nat.lt_of_lt_of_le hlt hB)]; exact hc j hj i u hu⟩
theorem Vs.keep {sz : Nat} {w w' : World} {v : Value} {l : List (List Value)} (h : Vs sz w v l) (hb : Below w.heap.size w w') : Vs sz w' v l := h.below hb (Nat.le_refl _)
theorem vs_nil (sz : Nat) (w : World) : Vs sz w (.slice none 0 0) [] := ⟨none, 0, rfl, by simp, by decide, fun h => by simp at h⟩
/-- Nothing lies behind a nil slice. -/
def NNv (v : Value) : Prop := ∀ n c, v = .slice none n c → c = 0
theorem nnv_nil : NNv (.slice none 0 0) := fun n c h => by simp at h; omega
theorem nnv_some (a : Addr) (n c : Nat) : NNv (.slice (some a) n c) := fun n c h => by simp at h
def OwnV (E sz B : Nat) (w : World) (v : Value) (l : List (List Value)) : Prop := w.ownsRow B E sz v l.length l.flatten ∧ (∀ x ∈ l, x.length = sz) ∧ ∀ x ∈ l, ∀ u ∈ x, u.oneCell' = true
theorem flat_len {sz : Nat} (l : List (List Value)) (h : ∀ x ∈ l, x.length = sz) : l.flatten.length = l.length * sz := by
  induction l with
  | nil => simp
  | cons a t ih => rw [List.flatten_cons, List.length_append, ih (fun x hx => h x (by simp [hx])), h a (by simp), List.length_cons, Nat.add_mul, Nat.one_mul, Nat.add_comm]
theorem flat_get {sz : Nat} (l : List (List Value)) (h : ∀ x ∈ l, x.length = sz) (j : Nat) (hj : j < l.length) (i : Nat) (hi : i < sz) : l.flatten[j * sz + i]? = (l[j])[i]? := by
  induction l generalizing j with
  | nil => simp at hj
  | cons a t ih =>
    have ha := h a (by simp)
    cases j with
    | zero => rw [List.flatten_cons, List.getElem?_append_left (by omega)]; simp
    | succ j =>
      have e : (j + 1) * sz + i = sz + (j * sz + i) := by rw [Nat.add_mul, Nat.one_mul]; omega
      rw [List.flatten_cons, List.getElem?_append_right (by omega), ha, e, Nat.add_sub_cancel_left, ih (fun x hx => h x (by simp [hx])) j (by simpa using hj)]
      simp
theorem OwnV.vs {E sz B : Nat} {w : World} {v : Value} {l : List (List Value)} (h : OwnV E sz B w v l) : Vs sz w v l := by
  obtain ⟨ho, hs, _⟩ := h
  have hc := ho
  have hlt := World.ownsRow.lt ho
  obtain ⟨_, ⟨rfl, h0⟩ | ⟨g, cap, cur, rfl, _, _, h1, h2, _⟩⟩ := ho
  · exact ⟨none, 0, by rw [h0], by omega, by omega, fun h => by omega⟩
  · refine ⟨_, cap, rfl, h1, h2, fun _ => ⟨g, 0, rfl, (hlt g rfl).2, fun j hj i u hu => ?_⟩⟩
    have hi : i < sz := by
      have := (List.getElem?_eq_some_iff.1 hu).1
      rw [hs _ (List.getElem_mem hj)] at this; exact this
    have hf := flat_get l hs j hj i hi
    have := World.ownsRow.cells hc rfl (j * sz + i) u (by rw [hf]; exact hu)
    rwa [show (⟨g, 0, none⟩ : Addr).add (j * sz + i) = ⟨g, 0 + (j * sz + i), none⟩ by generalize j * sz + i = m; cases m <;> simp [Addr.add]] at this
theorem OwnV.nn {E sz B : Nat} {w : World} {v : Value} {l : List (List Value)} (h : OwnV E sz B w v l) : NNv v := by
  obtain ⟨⟨_, ⟨rfl, h0⟩ | ⟨g, cap, cur, rfl, _⟩⟩, _⟩ := h
  · exact nnv_nil
  · exact nnv_some _ _ _
theorem OwnV.keep {E sz B : Nat} {w w' : World} {v : Value} {l : List (List Value)} (h : OwnV E sz B w v l) (hb : Below w.heap.size w w') : OwnV E sz B w' v l := ⟨ownsRow_keep h.1 hb, h.2.1, h.2.2⟩
theorem ownV_nil (E sz B : Nat) (w : World) : OwnV E sz B w (.slice none 0 0) [] := ⟨World.ownsRow_nil _ _ _ _, by simp, by simp⟩
/-- A literal block of structs. -/
theorem vs_cells (sz E : Nat) (w : World) (l : List (List Value)) (cs : Array Value) (n : Nat) (h : l.flatten = cs.toList) (hs : ∀ x ∈ l, x.length = sz) (hn : l.length = n) (hl : l.length ≤ 1048576) :
    Vs sz (w.alloc (.cells cs E)) (.slice (some ⟨w.heap.size, 0, none⟩) n n) l := by
  subst hn
  refine ⟨_, _, rfl, Nat.le_refl _, by unfold maxLen; omega, fun _ => ⟨w.heap.size, 0, rfl, by simp, fun j hj i u hu => ?_⟩⟩
  rw [World.cell?_alloc_at _ _ _ _ rfl]
  have hi : i < sz := by
    have := (List.getElem?_eq_some_iff.1 hu).1
    rw [hs _ (List.getElem_mem hj)] at this; exact this
  have hf := flat_get l hs j hj i hi
  rw [h, hu] at hf
  rw [Nat.zero_add, ← Array.getElem?_toList]
  exact hf
theorem wpl_appendV {w : World} {ops : Array Oper} {rest : List Oper} {o : Oper} {a : Act} {Q : Exit → Act → World → Prop} {E T sz bytes : Nat} {z : Value} (hgd : o.guard = none) (s x : Operand)
    (ho : o.op = .call { callee := .builtin .append, args := #[s, x], argTypes := #[T, T] }) (hT : Tryd.prog.underlying T = some (.slice E)) (hinfo : (Tryd.prog.info? E).map (fun i => (i.zero, i.size, i.bytes)) = some (some z, sz, bytes)) (hz : z.cells.size = sz) (h0 : 0 < sz)
    (B : Nat) (v u : Value) (l k t : List (List Value)) (hs : a.eval s = v) (hown : OwnV E sz B w v l) (hx : a.eval x = u) (hu : Vs sz w u k) (hnn : NNv u) (hk : ∀ y ∈ k, y.length = sz) (hk1 : ∀ y ∈ k, ∀ c ∈ y, c.oneCell' = true)
    (hlen : (l.length + k.length) * bytes ≤ 140737488355328) (hb0 : 0 < bytes) (hB : B ≤ w.heap.size) (ht : l ++ k = t)
    (h : ∀ v' w', OwnV E sz B w' v' t → Below B w w' → wpList Tryd.prog ops Q rest (a.put o.dst v') w') : wpList Tryd.prog ops Q (o :: rest) a w := by
  subst ht
  obtain ⟨i0, hi, hz0, hz1, hz2⟩ := info_parts hinfo
  obtain ⟨ad, cap, rfl, h1, h2, h3⟩ := hu
  obtain ⟨hown, hsz, hone⟩ := hown
  have hlt := World.ownsRow.lt hown
  have hmax : l.length + k.length ≤ 140737488355328 := Nat.le_trans (Nat.le_mul_of_pos_right _ hb0) hlen
  have hall : (∀ y ∈ l ++ k, y.length = sz) ∧ ∀ y ∈ l ++ k, ∀ c ∈ y, c.oneCell' = true := by
    refine ⟨fun y hy => ?_, fun y hy => ?_⟩
    · rcases List.mem_append.1 hy with hy | hy
      · exact hsz y hy
      · exact hk y hy
    · rcases List.mem_append.1 hy with hy | hy
      · exact hone y hy
      · exact hk1 y hy
  cases ad with
  | none =>
    have hk0 : k = [] := by
      cases k with
      | nil => rfl
      | cons c k => obtain ⟨b, off, h, _⟩ := h3 (by simp); exact absurd h (by simp)
    subst hk0
    obtain rfl := hnn _ _ rfl
    refine wpList_append_own_none hgd s x T ho B E i0 sz hT hi v l.length l.flatten hs hown hx ?_
    exact h v w (by rw [List.append_nil]; exact ⟨hown, hsz, hone⟩) (Below.refl _ _)
  | some ad =>
    have hcs : ∀ j c, k.flatten[j]? = some c → w.cell? (ad.add j) = some c := by
      intro j c hj
      have hjl := (List.getElem?_eq_some_iff.1 hj).1
      rw [flat_len k hk] at hjl
      have hk0 : 0 < k.length := by
        rcases Nat.eq_zero_or_pos k.length with e | e
        · rw [e, Nat.zero_mul] at hjl; omega
        · exact e
      obtain ⟨b, off, hab, _, hc⟩ := h3 hk0
      obtain rfl : ad = ⟨b, off, none⟩ := by simpa using hab
      have hq : j / sz < k.length := by rw [Nat.div_lt_iff_lt_mul h0]; exact hjl
      have hm : j % sz < sz := Nat.mod_lt _ h0
      have he : j / sz * sz + j % sz = j := by rw [Nat.mul_comm]; exact Nat.div_add_mod j sz
      have hf := flat_get k hk (j / sz) hq (j % sz) hm
      rw [he, hj] at hf
      rw [Go.WideShapes.add_plain]
      have := hc (j / sz) hq (j % sz) c hf.symm
      rwa [he] at this
    refine wpList_append_own _ hgd s x T ho B E i0 z sz bytes hT hi hz0 hz1 hz2 hz h0 v l.length l.flatten hs hown ad k.length cap k.flatten hx (flat_len k hk) hcs (fun u hu => ?_) (by unfold maxLen; omega) hlen hB ?_
    · obtain ⟨y, hy, hu⟩ := List.mem_flatten.1 hu
      exact hk1 y hy u hu
    · intro v' w' hown' hg _
      refine h v' w' ⟨?_, hall.1, hall.2⟩ ((Below.refl B w).grown hg hB (fun j hj => (hlt j hj).1))
      rw [← List.flatten_append, ← List.length_append] at hown'
      exact hown'
end Go.Proofs.YtpfbhdkljcjhlaaDoor
