/- Documents: doc.Cat of what has no kids. -/
import Derived.Test.YtghkhammobodgaaTDoc3
import Derived.Deep.LoopGhost
import Derived.Deep.AppendLies
import Derived.WalkSmall
import Derived.Laws.OwnMore
namespace Go.Proofs.Ytghkhammobodgaa
open Go.RowKit
set_option linter.unusedVariables false
set_option linter.unusedSimpArgs false

/-- A block that holds one document. -/
def DB (w : World) (b : Nat) (cs : Array Value) : Prop := w.heap[b]? = some (.cells cs 24 (0, 0))
theorem DB.lt {w : World} {b : Nat} {cs : Array Value} (h : DB w b cs) : b < w.heap.size := (Array.getElem?_eq_some_iff.1 h).1
theorem DB.keep {w w' : World} {b : Nat} {cs : Array Value} (h : DB w b cs) {B : Nat} (hb : Below B w w') (hB : b < B) : DB w' b cs := by
  unfold DB; rw [hb.block b hB]; exact h
theorem DB.new (w : World) (cs : Array Value) : DB (w.alloc (.cells cs 24)) w.heap.size cs := heap_alloc_new w _
theorem DB.set {w : World} {b : Nat} {cs : Array Value} (h : DB w b cs) (ds : Array Value) : DB (w.setRow b ds) b ds := setRow_heap w b cs ds _ _ h
theorem DB.cell {w : World} {b : Nat} {cs : Array Value} (h : DB w b cs) (j : Nat) : w.cell? ⟨b, j, none⟩ = cs[j]? := cell_of_row w b j cs _ _ h
theorem DB.other {w : World} {b : Nat} {cs : Array Value} (h : DB w b cs) {c : Nat} (hne : b ≠ c) (j : Nat) (u : Value) : DB (w.setCell ⟨c, j, none⟩ u) b cs := by
  unfold DB; rw [Below.heap_setCell _ _ _ _ (fun e => hne e)]; exact h
theorem below_setRowD {B : Nat} {a w : World} (h : Below B a w) {g : Nat} (hg : B ≤ g) (cs : Array Value) : Below B a (w.setRow g cs) :=
  ⟨h.os, h.tape, h.output, by rw [setRow_size]; exact h.size, fun k hk => by rw [setRow_other w g k cs (by omega)]; exact h.block k hk⟩
theorem wpl_stD {ops : Array Oper} {rest : List Oper} {o : Oper} {a : Act} {w : World} {Q : Exit → Act → World → Prop} (hgd : o.guard = none) (x y : Operand) (ho : o.op = .store 24 x y)
    (g : Nat) (old cells : Array Value) (hx : a.eval x = .pointer (some ⟨g, 0, none⟩)) (hy : a.eval y = .agg cells) (hg : DB w g old) (hs : old.size = 4) (hc : cells.size = 4) (h1 : cells.all (·.oneCell') = true)
    (h : wpList Try.prog ops Q rest (a.put o.dst undef) (w.setRow g cells)) : wpList Try.prog ops Q (o :: rest) a w :=
  wpList_store_row hgd 24 x y ho g cells hx hy 24 old hg (by rw [hc]; exact infoD4) (by rw [hs, hc]) h1 h
theorem wpl_ldD {ops : Array Oper} {rest : List Oper} {o : Oper} {a : Act} {w : World} {Q : Exit → Act → World → Prop} (hgd : o.guard = none) (x : Operand) (ho : o.op = .load 24 x)
    (g : Nat) (cs : Array Value) (hx : a.eval x = .pointer (some ⟨g, 0, none⟩)) (hg : DB w g cs) (hs : cs.size = 4)
    (h : wpList Try.prog ops Q rest (a.put o.dst (.agg cs)) w) : wpList Try.prog ops Q (o :: rest) a w :=
  wpList_load_row hgd 24 x ho g hx 24 cs (0, 0) _ hg Try.underlying24 rfl (by rw [hs]; exact infoD4) h
set_option maxRecDepth 100000 in
set_option maxHeartbeats 1000000 in
theorem clonenil_any (w : World) : Calls Try.prog 39 #[.slice none 0 0] w fun e w' => e = .returned (.slice none 0 0) ∧ w = w' := by
  have q : ∀ (w : World) (a : Option Addr) (n c n' c' : Nat), (binOp .eql 22 (.slice a n c) (.slice none n' c')).run Try.prog w = .ok (.bool a.isNone) w := fun w a n c n' c' => Lib.run_eql_slice_nil w _ _ a n c n' c' Try.underlying22
  go_enter Try.func39, Try.ntmps39
  go_wp2
  go_ret
  exact ⟨rfl, rfl⟩
set_option maxRecDepth 100000 in
set_option maxHeartbeats 1000000 in
theorem clone_any (v : Value) (l : List Lf) (w : World) (hv : Ds w v l) (h0 : 0 < l.length) (hl : l.length ≤ 1000) :
    Calls Try.prog 39 #[v] w fun e w' => ∃ v', e = .returned v' ∧ OwnD w.heap.size w' v' l ∧ Below w.heap.size w w' := by
  have q : ∀ (w : World) (a : Option Addr) (n c n' c' : Nat), (binOp .eql 22 (.slice a n c) (.slice none n' c')).run Try.prog w = .ok (.bool a.isNone) w := fun w a n c n' c' => Lib.run_eql_slice_nil w _ _ a n c n' c' Try.underlying22
  obtain ⟨a, cap, hvv, h1, h2, h3⟩ := hv
  obtain ⟨b, off, rfl, hb, hc⟩ := h3 (by rw [List.length_map]; exact h0)
  have hv2 : Ds w v l := ⟨_, cap, hvv, h1, h2, h3⟩
  have b0 := Lib.hid ((Below.refl w.heap.size w).alloc (Nat.le_refl _) (.cells #[] 24))
  have HO : Hid (OwnV 24 4 w.heap.size (w.alloc (.cells #[] 24)) (.slice (some ⟨w.heap.size, 0, none⟩) 0 0) []) := Lib.hid ⟨World.ownsRow_made w #[] 0 (Nat.le_refl _) (Nat.zero_le _) rfl, by simp, by simp⟩
  have HV := Lib.hid (Vs.keep hv2 b0.out)
  rw [List.length_map] at h1 hvv
  obtain ⟨n, hn⟩ : ∃ n, l.length = n := ⟨_, rfl⟩
  have HN := Lib.hid hn
  rw [hn] at hvv h0 hl h1
  subst hvv
  clear h3 hc hv2 hn
  go_enter Try.func39, Try.ntmps39
  go_wp2_with (at_builtin; refine wpl_appendV rfl _ _ rfl Try.underlying22 infoD rfl (by decide) w.heap.size (.slice (some ⟨w.heap.size, 0, none⟩) 0 0) (.slice (some ⟨b, off, none⟩) n cap) [] (l.map lfv) (l.map lfv) rfl HO.out rfl HV.out (nnv_some _ _ _) (lfv_four _) (lfv_one _) (by rw [List.length_map, HN.out]; simp; omega) (by decide) (by simp) rfl ?_)
  intro v2 w2 ho2 hb2
  have hfin := b0.out.trans hb2
  go_wp2
  go_ret
  exact ⟨_, rfl, ho2, hfin⟩
theorem infoSl : (Try.prog.info? 22).map (fun i => (i.zero, i.size, i.bytes)) = some (some (.slice none 0 0), 1, 24) := by kernel_rfl
/-- Rows of rows, of the call's own. -/
def OwnL (B : Nat) (w : World) (v : Value) (l : List Value) : Prop := OwnV 22 1 B w v (l.map fun u => [u])
theorem ownL_form {B : Nat} {w : World} {v : Value} {l : List Value} (h : OwnL B w v l) (h0 : 0 < l.length) : ∃ g cap, v = .slice (some ⟨g, 0, none⟩) l.length cap ∧ B ≤ g ∧ g < w.heap.size ∧ l.length ≤ cap ∧ cap ≤ maxLen := by
  obtain ⟨ho, _, _⟩ := h
  have hlt := World.ownsRow.lt ho
  obtain ⟨_, ⟨rfl, h1⟩ | ⟨g, cap, cur, rfl, _, _, hn, hc, _⟩⟩ := ho
  · rw [List.length_map] at h1; omega
  · rw [List.length_map] at hn ⊢; exact ⟨g, cap, rfl, (hlt g rfl).1, (hlt g rfl).2, hn, hc⟩
theorem flat_one (l : List Value) : (l.map fun u => [u]).flatten = l := by
  induction l with
  | nil => rfl
  | cons a t ih => rw [List.map_cons, List.flatten_cons, ih]; rfl
theorem ownL_pop {B : Nat} {w : World} {g cap : Nat} {l : List Value} {u : Value} (h : OwnL B w (.slice (some ⟨g, 0, none⟩) (l.length + 1) cap) (l ++ [u])) : OwnL B w (.slice (some ⟨g, 0, none⟩) l.length cap) l ∧ w.cell? ⟨g, l.length, none⟩ = some u := by
  obtain ⟨ho, hs, h1⟩ := h
  rw [List.length_map, flat_one, List.length_append] at ho
  have hc := World.ownsRow.cellAt ho l.length (by simp)
  refine ⟨⟨?_, fun x hx => hs x (by rw [List.map_append]; exact List.mem_append_left _ hx), fun x hx => h1 x (by rw [List.map_append]; exact List.mem_append_left _ hx)⟩, ?_⟩
  · rw [List.length_map, flat_one]
    exact ownsRow_pop (by simp) ho
  · rw [hc]; simp
end Go.Proofs.Ytghkhammobodgaa
