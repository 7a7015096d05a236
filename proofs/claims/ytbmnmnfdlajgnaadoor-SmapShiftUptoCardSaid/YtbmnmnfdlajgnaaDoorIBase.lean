/- Ints in memory: a slice that holds them, a slice of the call's own, append. -/
import Derived.Test.YtbmnmnfdlajgnaaDoorUBase
import Derived.Laws.AppendOwnNone
import Derived.OwnWalk
namespace Go.Proofs.YtbmnmnfdlajgnaaDoor
open Go.RowKit
set_option linter.unusedVariables false

/-- A slice that holds these ints. -/
def Is (w : World) (v : Value) (l : List Int) : Prop :=
  ∃ a cap, v = .slice a l.length cap ∧ l.length ≤ cap ∧ cap ≤ maxLen ∧ (0 < l.length → ∃ b off, a = some ⟨b, off, none⟩ ∧ b < w.heap.size ∧ ∀ j (h : j < l.length), w.cell? ⟨b, off + j, none⟩ = some (.int .i64 l[j]))
theorem Is.below {B : Nat} {w w' : World} {v : Value} {l : List Int} (h : Is w v l) (hb : Below B w w') (hB : w.heap.size ≤ B) : Is w' v l := by
  obtain ⟨a, cap, rfl, h1, h2, h3⟩ := h
  refine ⟨a, cap, rfl, h1, h2, fun h0 => ?_⟩
  obtain ⟨b, off, rfl, hlt, hc⟩ := h3 h0
  exact ⟨b, off, rfl, Nat.lt_of_lt_of_le hlt hb.size, fun j hj => by rw [hb.cell (p := ⟨b, off + j, none⟩) (Nat.lt_of_lt_of_le hlt hB)]; exact hc j hj⟩
theorem Is.keep {w w' : World} {v : Value} {l : List Int} (h : Is w v l) (hb : Below w.heap.size w w') : Is w' v l := h.below hb (Nat.le_refl _)
/-- Nothing lies behind a nil slice. -/
def NN (v : Value) : Prop := ∀ n c, v = .slice none n c → c = 0
theorem is_nil (w : World) : Is w (.slice none 0 0) [] := ⟨none, 0, rfl, by simp, by decide, fun h => by simp at h⟩
theorem nn_nil : NN (.slice none 0 0) := fun n c h => by simp at h; omega
theorem nn_some (a : Addr) (n c : Nat) : NN (.slice (some a) n c) := fun n c h => by simp at h
def icells (l : List Int) : List Value := l.map fun c => .int .i64 c
theorem icells_append (k l : List Int) : icells (k ++ l) = icells k ++ icells l := by simp [icells]
theorem icells_len (l : List Int) : (icells l).length = l.length := by simp [icells]
def OwnI (B : Nat) (w : World) (v : Value) (l : List Int) : Prop := w.ownsRow B 3 1 v l.length (icells l)
theorem OwnI.is {B : Nat} {w : World} {v : Value} {l : List Int} (h : OwnI B w v l) : Is w v l := by
  have hc := h
  have hlt := World.ownsRow.lt h
  obtain ⟨_, ⟨rfl, h0⟩ | ⟨g, cap, cur, rfl, _, _, h1, h2, _⟩⟩ := h
  · exact ⟨none, 0, by rw [h0], by omega, by omega, fun h => by omega⟩
  · refine ⟨_, cap, rfl, h1, h2, fun _ => ⟨g, 0, rfl, (hlt g rfl).2, fun j hj => ?_⟩⟩
    have := World.ownsRow.cells hc rfl j (.int .i64 l[j]) (by simp [icells, hj])
    rwa [show (⟨g, 0, none⟩ : Addr).add j = ⟨g, 0 + j, none⟩ by cases j <;> simp [Addr.add]] at this
theorem OwnI.nn {B : Nat} {w : World} {v : Value} {l : List Int} (h : OwnI B w v l) : NN v := by
  obtain ⟨_, ⟨rfl, h0⟩ | ⟨g, cap, cur, rfl, _⟩⟩ := h
  · exact nn_nil
  · exact nn_some _ _ _
theorem OwnB.nn {B : Nat} {w : World} {v : Value} {l : List UInt8} (h : OwnB B w v l) : NN v := by
  obtain ⟨_, ⟨rfl, h0⟩ | ⟨g, cap, cur, rfl, _⟩⟩ := h
  · exact nn_nil
  · exact nn_some _ _ _
theorem infoI : (Tryd.prog.info? 3).map (fun i => (i.zero, i.size, i.bytes)) = some (some (.int .i64 0), 1, 8) := by kernel_rfl
theorem one_oneCellI {l : List Int} : ∀ u ∈ icells l, u.oneCell' = true := by
  intro u hu
  simp only [icells, List.mem_map] at hu
  obtain ⟨c, _, rfl⟩ := hu
  rfl
theorem is_cells {w : World} {b off : Nat} {l : List Int} (h : ∀ j (h : j < l.length), w.cell? ⟨b, off + j, none⟩ = some (.int .i64 l[j])) :
    ∀ j u, (icells l)[j]? = some u → w.cell? ((⟨b, off, none⟩ : Addr).add j) = some u := by
  intro j u hj
  have hl : j < l.length := by
    have := (List.getElem?_eq_some_iff.1 hj).1
    simpa [icells] using this
  have : u = .int .i64 l[j] := by simpa [icells, hl] using hj.symm
  subst this
  rw [Go.WideShapes.add_plain]
  exact h j hl
theorem is_new (w : World) (l : List Int) (hl : l.length ≤ 1048576) : Is (w.alloc (.cells (icells l).toArray 3)) (.slice (some ⟨w.heap.size, 0, none⟩) l.length l.length) l := by
  refine ⟨_, _, rfl, Nat.le_refl _, by unfold maxLen; omega, fun _ => ⟨w.heap.size, 0, rfl, by simp, fun j hj => ?_⟩⟩
  rw [World.cell?_alloc_at _ _ _ _ rfl]
  simp [icells, hj]
/-- append of ints that came in, nil or not, onto ints of the call's own. -/
theorem wpl_appendI {w : World} {ops : Array Oper} {rest : List Oper} {o : Oper} {a : Act} {Q : Exit → Act → World → Prop} (hgd : o.guard = none) (s x : Operand)
    (ho : o.op = .call { callee := .builtin .append, args := #[s, x], argTypes := #[56, 56] })
    (B : Nat) (v u : Value) (l k t : List Int) (hs : a.eval s = v) (hown : OwnI B w v l) (hx : a.eval x = u) (hu : Is w u k) (hz : NN u)
    (hlen : l.length + k.length ≤ 4294967296) (hB : B ≤ w.heap.size) (ht : l ++ k = t)
    (h : ∀ v' w', OwnI B w' v' t → Below B w w' → wpList Tryd.prog ops Q rest (a.put o.dst v') w') : wpList Tryd.prog ops Q (o :: rest) a w := by
  subst ht
  obtain ⟨i0, hi, hz0, hz1, hz2⟩ := info_parts infoI
  obtain ⟨ad, cap, rfl, h1, h2, h3⟩ := hu
  have hlt := World.ownsRow.lt hown
  cases ad with
  | none =>
    have h0 : k = [] := by
      cases k with
      | nil => rfl
      | cons c k => obtain ⟨b, off, h, _⟩ := h3 (by simp); exact absurd h (by simp)
    subst h0
    obtain rfl := hz _ _ rfl
    refine wpList_append_own_none hgd s x 56 ho B 3 i0 1 Tryd.underlying56 hi v l.length (icells l) hs hown hx ?_
    exact h v w (by simpa using hown) (Below.refl _ _)
  | some ad =>
    have hcs : ∀ j c, (icells k)[j]? = some c → w.cell? (ad.add j) = some c := by
      intro j c hj
      have h0 : 0 < k.length := by
        have := (List.getElem?_eq_some_iff.1 hj).1
        simp [icells] at this; omega
      obtain ⟨b, off, hab, _, hc⟩ := h3 h0
      obtain rfl : ad = ⟨b, off, none⟩ := by simpa using hab
      exact is_cells hc j c hj
    refine wpList_append_own _ hgd s x 56 ho B 3 i0 (.int .i64 0) 1 8 Tryd.underlying56 hi hz0 hz1 hz2 rfl (by decide) v l.length (icells l) hs hown ad k.length cap (icells k) hx (by simp [icells]) hcs one_oneCellI (by unfold maxLen; omega) (by omega) hB ?_
    intro v' w' hown' hg _
    refine h v' w' ?_ ((Below.refl B w).grown hg hB (fun j hj => (hlt j hj).1))
    rw [← icells_append, ← List.length_append] at hown'
    exact hown'
/-- A slice of ints that came in, as the frame reads it. -/
def RowI (w : World) (a : Option Addr) (len cap : Nat) (zs : List Int) : Prop :=
  (a = none ∧ len = 0 ∧ cap = 0 ∧ zs = []) ∨ ∃ x, a = some x ∧ len ≤ cap ∧ cap ≤ maxLen ∧ zs.length = cap ∧ (∀ i, i < zs.length → w.cell? (x.add i) = some (.int .i64 (zs.getD i 0))) ∧ ∀ n ∈ zs, (Lit.int .i64 n).wf = true
/-- What is known of a slice of ints that came in. -/
theorem row_is {w : World} {a : Option Addr} {len cap : Nat} {zs : List Int}
    (h : RowI w a len cap zs) :
    ∃ l : List Int, l.length = len ∧ Is w (.slice a len cap) l ∧ NN (.slice a len cap) := by
  rcases h with ⟨rfl, rfl, rfl, _⟩ | ⟨x, rfl, hl, hm, hz, hc, hwf⟩
  · exact ⟨[], rfl, is_nil w, nn_nil⟩
  · refine ⟨zs.take len, by simp; omega, ⟨some x, cap, by simp; omega, by simp; omega, hm, fun h0 => ?_⟩, nn_some _ _ _⟩
    have hlz : 0 < zs.length := by simp at h0; omega
    obtain ⟨b, off, rfl, hc2⟩ := ints_at hc hlz
    refine ⟨b, off, rfl, World.block_lt_of_cell? w _ (hc2 0 hlz), fun j hj => ?_⟩
    have hj' : j < zs.length := by simp at hj; omega
    rw [hc2 j hj']
    simp [hj']
/-- The rest of a slice, as Go lays it. -/
theorem is_drop {w : World} {b off len cap : Nat} {l : List Int} (h : Is w (.slice (some ⟨b, off, none⟩) len cap) l) (n : Nat) (hn : n ≤ len) :
    Is w (.slice (some (if cap = n then ⟨b, off, none⟩ else ⟨b, off + n, none⟩)) (len - n) (cap - n)) (l.drop n) := by
  obtain ⟨a, c, he, h1, h2, h3⟩ := h
  simp only [Value.slice.injEq] at he
  obtain ⟨rfl, rfl, rfl⟩ := he
  refine ⟨some (if cap = n then ⟨b, off, none⟩ else ⟨b, off + n, none⟩), cap - n, by rw [List.length_drop], by rw [List.length_drop]; omega, by omega, fun h0 => ?_⟩
  have h0' : n < l.length := by simp at h0; omega
  obtain ⟨b', off', hab, hb, hc⟩ := h3 (by omega)
  simp only [Option.some.injEq, Addr.mk.injEq, and_true] at hab
  obtain ⟨rfl, rfl⟩ := hab
  have hne : ¬ cap = n := by omega
  refine ⟨b, off + n, by rw [if_neg hne], hb, fun j hj => ?_⟩
  rw [Nat.add_assoc, hc (n + j) (by simp at hj; omega)]
  simp
end Go.Proofs.YtbmnmnfdlajgnaaDoor
