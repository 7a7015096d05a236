/- Colours: the names, which colour a name is, which names a colour has. -/
import Derived.Test.YtilndlifmpbfnaaDoorCoTab
import Derived.Test.YtilndlifmpbfnaaDoorFLow
import Derived.Test.YtilndlifmpbfnaaDoorVAppG
namespace Go.Proofs.YtilndlifmpbfnaaDoor
open Go.RowKit
set_option linter.unusedVariables false
set_option linter.unusedSimpArgs false

def srowC (l : List (List UInt8)) : List (List Value) := l.map fun s => [.string (bytes s)]
theorem srowC_app (k l : List (List UInt8)) : srowC (k ++ l) = srowC k ++ srowC l := by simp [srowC]
theorem srowC_len (l : List (List UInt8)) : (srowC l).length = l.length := by simp [srowC]
theorem srowC_one (l : List (List UInt8)) : ∀ y ∈ srowC l, y.length = 1 := by
  intro y hy; simp only [srowC, List.mem_map] at hy; obtain ⟨s, _, rfl⟩ := hy; rfl
theorem srowC_cell (l : List (List UInt8)) : ∀ y ∈ srowC l, ∀ c ∈ y, c.oneCell' = true := by
  intro y hy c hc; simp only [srowC, List.mem_map] at hy; obtain ⟨s, _, rfl⟩ := hy; simp at hc; subst hc; rfl
def SsC (w : World) (v : Value) (l : List (List UInt8)) : Prop := Vs 1 w v (srowC l)
def OwnSC (B : Nat) (w : World) (v : Value) (l : List (List UInt8)) : Prop := OwnV 9 1 B w v (srowC l)
theorem OwnSC.keep {B : Nat} {w w' : World} {v : Value} {l : List (List UInt8)} (h : OwnSC B w v l) (hb : Below w.heap.size w w') : OwnSC B w' v l := OwnV.keep h hb
theorem SsC.keep {w w' : World} {v : Value} {l : List (List UInt8)} (h : SsC w v l) (hb : Below w.heap.size w w') : SsC w' v l := Vs.keep h hb
theorem OwnSC.ss {B : Nat} {w : World} {v : Value} {l : List (List UInt8)} (h : OwnSC B w v l) : SsC w v l := OwnV.vs h
theorem infoSC : (Tryd.prog.info? 9).map (fun i => (i.zero, i.size, i.bytes)) = some (some (.string ⟨#[]⟩), 1, 16) := by kernel_rfl
theorem one_sC (w : World) (c : List UInt8) (S : ByteArray) (h : bytes c = S) : SsC (w.alloc (.cells #[.string S] 9)) (.slice (some ⟨w.heap.size, 0, none⟩) 1 1) [c] :=
  vs_cells 1 _ w _ _ 1 (by rw [← h]; rfl) (srowC_one _) rfl (by simp [srowC])
theorem one_sC' (w : World) (c : List UInt8) (S : ByteArray) (h : bytes c = S) (n : Nat) (hn : w.heap.size = n) : SsC (w.alloc (.cells #[.string S] 9)) (.slice (some ⟨n, 0, none⟩) 1 1) [c] := by
  subst hn
  exact one_sC w c S h
theorem wpl_appSC {w : World} {ops : Array Oper} {rest : List Oper} {o : Oper} {a : Act} {Q : Exit → Act → World → Prop} (hgd : o.guard = none) (s x : Operand)
    (ho : o.op = .call { callee := .builtin .append, args := #[s, x], argTypes := #[24, 24] })
    (B : Nat) (v u : Value) (l t c : List (List UInt8)) (hs : a.eval s = v) (hown : OwnSC B w v l) (hx : a.eval x = u) (hu : SsC w u c) (hnn : NNv u) (hlen : l.length ≤ 1000) (hlc : c.length ≤ 1000) (hB : B ≤ w.heap.size) (ht : l ++ c = t)
    (h : ∀ v' w', OwnSC B w' v' t → Below B w w' → wpList Tryd.prog ops Q rest (a.put o.dst v') w') : wpList Tryd.prog ops Q (o :: rest) a w :=
  wpl_appendV hgd s x ho Tryd.underlying24 infoSC rfl (by decide) B v u (srowC l) (srowC c) (srowC t) hs hown hx hu hnn (srowC_one _) (srowC_cell _) (by rw [srowC_len, srowC_len]; omega) (by decide) hB (by rw [← ht, srowC_app]) h
/-- The table of names lies in a block. -/
def CeAt (N : Nat) (W : World) : Prop := ∀ j (hj : j < 38), W.cell? ⟨N, j * 4, none⟩ = some (.string (bytes (M.ceT.getD j ([], 0, 0, 0)).1)) ∧ W.cell? ⟨N, j * 4 + 1, none⟩ = some (.int .i64 (M.ceT.getD j ([], 0, 0, 0)).2.1) ∧ W.cell? ⟨N, j * 4 + 2, none⟩ = some (.int .i64 (M.ceT.getD j ([], 0, 0, 0)).2.2.1) ∧ W.cell? ⟨N, j * 4 + 3, none⟩ = some (.int .i64 (M.ceT.getD j ([], 0, 0, 0)).2.2.2)
theorem CeAt.keep {N B : Nat} {w w' : World} (h : CeAt N w) (hb : Below B w w') (hB : N < B) : CeAt N w' := by
  intro j hj
  obtain ⟨a, b, c, d⟩ := h j hj
  exact ⟨(hb.cell (p := ⟨N, j * 4, none⟩) hB).trans a, (hb.cell (p := ⟨N, j * 4 + 1, none⟩) hB).trans b, (hb.cell (p := ⟨N, j * 4 + 2, none⟩) hB).trans c, (hb.cell (p := ⟨N, j * 4 + 3, none⟩) hB).trans d⟩
theorem ce_get (j : Nat) (hj : j < 38) (i : Nat) (hi : i < 4) : ceCells[j * 4 + i]? = (cev (M.ceT.getD j ([], 0, 0, 0)))[i]? := by
  have hl : M.ceT.length = 38 := M.ce_len
  have h4 : ∀ x ∈ M.ceT.map cev, x.length = 4 := by
    intro x hx
    obtain ⟨e, _, rfl⟩ := List.mem_map.1 hx
    rfl
  have := flat_get (M.ceT.map cev) h4 j (by rw [List.length_map]; omega) i hi
  unfold ceCells
  rw [← Array.getElem?_toList, List.flatMap_def]
  rw [show (M.ceT.getD j ([], 0, 0, 0)) = M.ceT[j] by rw [List.getD_eq_getElem?_getD, List.getElem?_eq_getElem (by omega)]; rfl]
  rw [this, List.getElem_map]
  rfl
theorem ceAt_new (w : World) : CeAt w.heap.size (w.alloc (.cells ceCells 51)) := by
  intro j hj
  exact ⟨by rw [World.cell?_alloc_at _ _ _ _ rfl]; exact ce_get j hj 0 (by omega), by rw [World.cell?_alloc_at _ _ _ _ rfl]; exact ce_get j hj 1 (by omega), by rw [World.cell?_alloc_at _ _ _ _ rfl]; exact ce_get j hj 2 (by omega), by rw [World.cell?_alloc_at _ _ _ _ rfl]; exact ce_get j hj 3 (by omega)⟩
def namesL : List (List UInt8) := M.ceT.map fun e => e.1
theorem take_nm (j : Nat) (hj : j < 38) : namesL.take j ++ [(M.ceT.getD j ([], 0, 0, 0)).1] = namesL.take (j + 1) := by
  have : ∀ j, j < 38 → namesL.take j ++ [(M.ceT.getD j ([], 0, 0, 0)).1] = namesL.take (j + 1) := by decide +kernel
  exact this j hj
theorem take_ln (j : Nat) : (namesL.take j).length ≤ 1000 := by
  have h : namesL.length = 38 := by decide +kernel
  rw [List.length_take]; omega
theorem one_ln (c : List UInt8) : [c].length ≤ 1000 := by simp
end Go.Proofs.YtilndlifmpbfnaaDoor
