/- Tokens of CSS in memory: their cells, a block of one, what it is to store and to load a whole one, and to return it. -/
import Derived.Test.YtilndlifmpbfnaaDoorBgB
import Derived.Test.YtilndlifmpbfnaaDoorBgD
import Derived.Laws.Tables
import Derived.Laws.Rows
import Derived.Laws.ResultCell
import Derived.Outline
namespace Go.Proofs.YtilndlifmpbfnaaDoor
open Go.RowKit
set_option linter.unusedVariables false
set_option linter.unusedSimpArgs false

/-- A token, in cells. -/
def ctv (t : M.CT) (z : Int) : Array Value := #[.int .i64 t.kind, .string (bytes t.text), .string (bytes t.unit), .bool t.num.1, .string (bytes t.num.2.1), .string (bytes t.num.2.2), .bool t.flag, .bool t.sign, .int .i64 0, .int .i64 0, .int .i64 0, .int .i64 0, .int .i64 z]
theorem ctv_size (t : M.CT) (z : Int) : (ctv t z).size = 13 := rfl
theorem ctv_one (t : M.CT) (z : Int) : (ctv t z).all (·.oneCell') = true := by
  rw [Array.all_eq_true_iff_forall_mem]
  intro x hx
  simp only [ctv, List.mem_toArray, List.mem_cons, List.mem_nil_iff, or_false] at hx
  rcases hx with rfl | rfl | rfl | rfl | rfl | rfl | rfl | rfl | rfl | rfl | rfl | rfl | rfl <;> rfl
theorem infoC : (Tryd.prog.info? 36).map (fun i => (i.zero, i.size, i.bytes)) = some (some (.agg (ctv {} 0)), 13, 128) := by kernel_rfl
theorem infoC13 : (Tryd.prog.info? 36).map (·.size) = some 13 := by kernel_rfl
theorem ctok_str : ∃ fs, Tryd.prog.underlying 36 = some (.struct fs) := ⟨_, Tryd.underlying36⟩
/-- A block that holds one token's cells. -/
def CB (w : World) (b : Nat) (cs : Array Value) : Prop := w.heap[b]? = some (.cells cs 36 (0, 0))
theorem CB.lt {w : World} {b : Nat} {cs : Array Value} (h : CB w b cs) : b < w.heap.size := (Array.getElem?_eq_some_iff.1 h).1
theorem CB.keep {w w' : World} {b : Nat} {cs : Array Value} (h : CB w b cs) {B : Nat} (hb : Below B w w') (hB : b < B) : CB w' b cs := by
  unfold CB; rw [hb.block b hB]; exact h
theorem CB.new (w : World) (cs : Array Value) : CB (w.alloc (.cells cs 36)) w.heap.size cs := heap_alloc_new w _
theorem CB.set {w : World} {b : Nat} {cs : Array Value} (h : CB w b cs) (ds : Array Value) : CB (w.setRow b ds) b ds := setRow_heap w b cs ds _ _ h
theorem CB.cell {w : World} {b : Nat} {cs : Array Value} (h : CB w b cs) (j : Nat) : w.cell? ⟨b, j, none⟩ = cs[j]? := cell_of_row w b j cs _ _ h
theorem CB.free {w : World} {b : Nat} {cs : Array Value} (h : CB w b cs) (j : Nat) : w.frozen? ⟨b, j, none⟩ = false := by unfold World.frozen?; rw [h]; simp
theorem CB.put {w : World} {b : Nat} {cs : Array Value} (h : CB w b cs) (j : Nat) (u : Value) : CB (w.setCell ⟨b, j, none⟩ u) b (cs.setIfInBounds j u) := by
  rw [setCell_eq_setRow w b j cs _ _ u h]; exact setRow_heap w b cs _ _ _ h
theorem CB.other {w : World} {b : Nat} {cs : Array Value} (h : CB w b cs) {c : Nat} (hne : b ≠ c) (j : Nat) (u : Value) : CB (w.setCell ⟨c, j, none⟩ u) b cs := by
  unfold CB; rw [Below.heap_setCell _ _ _ _ (fun e => hne e)]; exact h
theorem below_setRow {B : Nat} {a w : World} (h : Below B a w) {g : Nat} (hg : B ≤ g) (cs : Array Value) : Below B a (w.setRow g cs) :=
  ⟨h.os, h.tape, h.output, by rw [setRow_size]; exact h.size, fun k hk => by rw [setRow_other w g k cs (by omega)]; exact h.block k hk⟩
/-- A whole token is stored. -/
theorem wpl_stT {ops : Array Oper} {rest : List Oper} {o : Oper} {a : Act} {w : World} {Q : Exit → Act → World → Prop} (hgd : o.guard = none) (x y : Operand) (ho : o.op = .store 36 x y)
    (g : Nat) (old cells : Array Value) (hx : a.eval x = .pointer (some ⟨g, 0, none⟩)) (hy : a.eval y = .agg cells) (hg : CB w g old) (hs : old.size = 13) (hc : cells.size = 13) (h1 : cells.all (·.oneCell') = true)
    (h : wpList Tryd.prog ops Q rest (a.put o.dst undef) (w.setRow g cells)) : wpList Tryd.prog ops Q (o :: rest) a w :=
  wpList_store_row hgd 36 x y ho g cells hx hy 36 old hg (by rw [hc]; exact infoC13) (by rw [hs, hc]) h1 h
/-- A whole token is loaded. -/
theorem wpl_ldT {ops : Array Oper} {rest : List Oper} {o : Oper} {a : Act} {w : World} {Q : Exit → Act → World → Prop} (hgd : o.guard = none) (x : Operand) (ho : o.op = .load 36 x)
    (g : Nat) (cs : Array Value) (hx : a.eval x = .pointer (some ⟨g, 0, none⟩)) (hg : CB w g cs) (hs : cs.size = 13)
    (h : wpList Tryd.prog ops Q rest (a.put o.dst (.agg cs)) w) : wpList Tryd.prog ops Q (o :: rest) a w :=
  wpList_load_row hgd 36 x ho g hx 36 cs (0, 0) _ hg Tryd.underlying36 rfl (by rw [hs]; exact infoC13) h
/-- A token and a number are returned. -/
theorem res_tok {fn : Func} {p u : Tmp} (h : fn.results = #[.cell p 36, .tmp u]) (tmps : Array Value) (w : World) (g : Nat) (cs : Array Value) (k : Int)
    (hp : tmps.getD p undef = .pointer (some ⟨g, 0, none⟩)) (hu : tmps.getD u undef = .int .i64 k) (hg : CB w g cs) (hs : cs.size = 13) :
    (results fn tmps).run Tryd.prog w = .ok (.tuple #[.agg cs, .int .i64 k]) w := by
  rw [results_cell_tmp h, hp, hu]
  have : (asAddr (.pointer (some ⟨g, 0, none⟩))).run Tryd.prog w = .ok ⟨g, 0, none⟩ w := rfl
  rw [this]
  simp only [Result.andThen]
  rw [run_loadVar_row w g 36 36 cs (0, 0) _ hg Tryd.underlying36 rfl (by rw [hs]; exact infoC13)]
/-- What the functions of one token return. -/
def TkR (w : World) (t : M.CT) (k : Nat) (e : Ending) (w' : World) : Prop := e = .returned (.tuple #[.agg (ctv t 0), .int .i64 (k : Int)]) ∧ Below w.heap.size w w'
end Go.Proofs.YtilndlifmpbfnaaDoor
