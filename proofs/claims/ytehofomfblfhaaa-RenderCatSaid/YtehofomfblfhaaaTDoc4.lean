/- Documents: doc.Cat of what has no kids. -/
import Derived.Test.YtehofomfblfhaaaTDoc3
import Derived.Deep.LoopGhost
import Derived.Deep.AppendLies
import Derived.WalkSmall
import Derived.Laws.OwnMore
namespace Go.Proofs.Ytehofomfblfhaaa
open Go.RowKit
set_option linter.unusedVariables false
set_option linter.unusedSimpArgs false

/-- A block that holds one document. -/
def DB (w : World) (b : Nat) (cs : Array Value) : Prop := w.heap[b]? = some (.cells cs 24 (0, 0))
theorem DB.lt {w : World} {b : Nat} {cs : Array Value} (h : DB w b cs) : b < w.heap.size := (Array.getElem?_eq_some_iff.1 h).1
theorem DB.keep {w w' : World} {b : Nat} {cs : Array Value} (h : DB w b cs) {B : Nat} (hb : Below B w w') (hB : b < B) : DB w' b cs := by
  unfold DB; rw [hb.block b hB]; exact h
theorem DB.new (w : World) (cs : Array Value) : DB (w.alloc (.cells cs 24)) w.heap.size cs := heap_alloc_new w _
theorem DB.set {w : World} {b : Nat} {cs : Array Value} (h : DB w b cs) (ds : Array Value) : DB (w.setRow b ds) b ds := setRow_heap w b cs ds _ _ h
theorem DB.cell {w : World} {b : Nat} {cs : Array Value} (h : DB w b cs) (j : Nat) : w.cell? ⟨b, j, none⟩ = cs[j]? := cell_of_row w b j cs _ _ h
theorem DB.other {w : World} {b : Nat} {cs : Array Value} (h : DB w b cs) {c : Nat} (hne : b ≠ c) (j : Nat) (u : Value) : DB (w.setCell ⟨c, j, none⟩ u) b cs := by
  unfold DB; rw [Below.heap_setCell _ _ _ _ (fun e => hne e)]; exact h
theorem below_setRowD {B : Nat} {a w : World} (h : Below B a w) {g : Nat} (hg : B ≤ g) (cs : Array Value) : Below B a (w.setRow g cs) :=
  ⟨h.os, h.tape, h.output, by rw [setRow_size]; exact h.size, fun k hk => by rw [setRow_other w g k cs (by omega)]; exact h.block k hk⟩
theorem wpl_stD {ops : Array Oper} {rest : List Oper} {o : Oper} {a : Act} {w : World} {Q : Exit → Act → World → Prop} (hgd : o.guard = none) (x y : Operand) (ho : o.op = .store 24 x y)
    (g : Nat) (old cells : Array Value) (hx : a.eval x = .pointer (some ⟨g, 0, none⟩)) (hy : a.eval y = .agg cells) (hg : DB w g old) (hs : old.size = 4) (hc : cells.size = 4) (h1 : cells.all (·.oneCell') = true)
    (h : wpList Try.prog ops Q rest (a.put o.dst undef) (w.setRow g cells)) : wpList Try.prog ops Q (o :: rest) a w :=
  wpList_store_row hgd 24 x y ho g cells hx hy 24 old hg (by rw [hc]; exact infoD4) (by rw [hs, hc]) h1 h
theorem wpl_ldD {ops : Array Oper} {rest : List Oper} {o : Oper} {a : Act} {w : World} {Q : Exit → Act → World → Prop} (hgd : o.guard = none) (x : Operand) (ho : o.op = .load 24 x)
    (g : Nat) (cs : Array Value) (hx : a.eval x = .pointer (some ⟨g, 0, none⟩)) (hg : DB w g cs) (hs : cs.size = 4)
    (h : wpList Try.prog ops Q rest (a.put o.dst (.agg cs)) w) : wpList Try.prog ops Q (o :: rest) a w :=
  wpList_load_row hgd 24 x ho g hx 24 cs (0, 0) _ hg Try.underlying24 rfl (by rw [hs]; exact infoD4) h
theorem infoSl : (Try.prog.info? 22).map (fun i => (i.zero, i.size, i.bytes)) = some (some (.slice none 0 0), 1, 24) := by kernel_rfl
/-- Rows of rows, of the call's own. -/
def OwnL (B : Nat) (w : World) (v : Value) (l : List Value) : Prop := OwnV 22 1 B w v (l.map fun u => [u])
theorem ownL_form {B : Nat} {w : World} {v : Value} {l : List Value} (h : OwnL B w v l) (h0 : 0 < l.length) : ∃ g cap, v = .slice (some ⟨g, 0, none⟩) l.length cap ∧ B ≤ g ∧ g < w.heap.size ∧ l.length ≤ cap ∧ cap ≤ maxLen := by
  obtain ⟨ho, _, _⟩ := h
  have hlt := World.ownsRow.lt ho
  obtain ⟨_, ⟨rfl, h1⟩ | ⟨g, cap, cur, rfl, _, _, hn, hc, _⟩⟩ := ho
  · rw [List.length_map] at h1; omega
  · rw [List.length_map] at hn ⊢; exact ⟨g, cap, rfl, (hlt g rfl).1, (hlt g rfl).2, hn, hc⟩
theorem flat_one (l : List Value) : (l.map fun u => [u]).flatten = l := by
  induction l with
  | nil => rfl
  | cons a t ih => rw [List.map_cons, List.flatten_cons, ih]; rfl
theorem ownL_pop {B : Nat} {w : World} {g cap : Nat} {l : List Value} {u : Value} (h : OwnL B w (.slice (some ⟨g, 0, none⟩) (l.length + 1) cap) (l ++ [u])) : OwnL B w (.slice (some ⟨g, 0, none⟩) l.length cap) l ∧ w.cell? ⟨g, l.length, none⟩ = some u := by
  obtain ⟨ho, hs, h1⟩ := h
  rw [List.length_map, flat_one, List.length_append] at ho
  have hc := World.ownsRow.cellAt ho l.length (by simp)
  refine ⟨⟨?_, fun x hx => hs x (by rw [List.map_append]; exact List.mem_append_left _ hx), fun x hx => h1 x (by rw [List.map_append]; exact List.mem_append_left _ hx)⟩, ?_⟩
  · rw [List.length_map, flat_one]
    exact ownsRow_pop (by simp) ho
  · rw [hc]; simp
end Go.Proofs.Ytehofomfblfhaaa
