/- Texts of ours in one: ARight NPlain VAppG APie WTk YRow APie2 JgQ. -/
import Derived.Test.YtlobinjdgcidmaaDoorQj04
import Derived.Test.YtlobinjdgcidmaaDoorQj08
import Derived.Test.YtlobinjdgcidmaaDoorQj09
import Derived.Test.YtlobinjdgcidmaaDoorQj02
import Derived.Test.YtlobinjdgcidmaaDoorQj05
import Derived.Deep.AppendLies
import Derived.Deep.RegionHeld3
import Derived.Maps.AppendAt
import Derived.OneCell
import Derived.Laws.StructEq
import Derived.ChangeKeysEq
import Derived.Deep.QuietTactic
import Derived.BigQuiet
import Derived.OrdersHeld
import Derived.Deep.MidRow
import Derived.Laws.OwnMore
import Derived.Test.YtlobinjdgcidmaaDoorQj00
import Derived.Test.YtlobinjdgcidmaaDoorQj03
import Derived.Outline
/- Values of any shape: may be (jmin.Right), plain; jmin.rightKeys, rightItems. -/
namespace Go.Proofs.YtlobinjdgcidmaaDoor
open Go.RowKit
set_option linter.unusedVariables false
set_option linter.unusedSimpArgs false

def nnum (h : Vh) : Bool := !h.ng && h.dg.isEmpty && h.ex.isEmpty
def evK : Bool → Vo → Bool
  | _, .nil => true
  | e, .cons h _ r => (!e || decide (h.k = 3)) && evK (!e) r
def nlist (h : Vh) (n : Nat) : Bool := decide (n = 0) && decide (h.ms.length = 0) && decide (h.tt = 0)
def keysB (h : Vh) (L : Vo) : Bool := decide (h.k ≠ 1) || (evK true L && decide (L.len % 2 = 0))
def marksB (h : Vh) (n : Nat) : Bool := decide (0 ≤ h.tt) && decide (h.ms.length = n - 1) && h.ms.all (fun z => decide (0 ≤ z))
def headB (h : Vh) (n : Nat) (d : Nat) (kb : Bool) : Bool :=
  decide (0 ≤ h.fr) && (if h.k = 1 ∨ h.k = 2 then decide (h.tx.length = 0) && nnum h && decide (0 < d) && kb
    else if h.k = 3 then nnum h && nlist h n && M.rightU h.tx
    else if h.k = 4 then decide (h.tx.length = 0) && nlist h n && M.rightN h.dg h.ex
    else if h.k = 5 ∨ h.k = 6 ∨ h.k = 7 then decide (h.tx.length = 0) && nnum h && nlist h n else false)
def rightVo : Vo → Nat → Bool
  | .nil, _ => true
  | .cons h kids rest, d => headB h kids.len d (marksB h kids.len && keysB h kids && rightVo kids (d - 1)) && rightVo rest d
def rightH (h : Vh) (kids : Vo) (d : Nat) : Bool := headB h kids.len d (marksB h kids.len && keysB h kids && rightVo kids (d - 1))
theorem rightVo_cons (h : Vh) (kids rest : Vo) (d : Nat) : rightVo (.cons h kids rest) d = (rightH h kids d && rightVo rest d) := rfl
def VB (w : World) (b : Nat) (h : Vh) (tv v mv : Value) : Prop := w.heap[b]? = some (.cells (vv h tv v mv) 36 (0, 0))
theorem VB.lt {w : World} {b : Nat} {h : Vh} {tv v mv : Value} (x : VB w b h tv v mv) : b < w.heap.size := (Array.getElem?_eq_some_iff.1 x).1
theorem VB.new (w : World) (h : Vh) (tv v mv : Value) : VB (w.alloc (.cells (vv h tv v mv) 36)) w.heap.size h tv v mv := heap_alloc_new w _
theorem VB.frame {w w' : World} {b : Nat} {h : Vh} {tv v mv : Value} (x : VB w b h tv v mv) (hb : w'.heap[b]? = w.heap[b]?) : VB w' b h tv v mv := by unfold VB; rw [hb]; exact x
theorem VB.keep {w w' : World} {b : Nat} {h : Vh} {tv v mv : Value} (x : VB w b h tv v mv) (hb : Below w.heap.size w w') : VB w' b h tv v mv := x.frame (hb.block b x.lt)
theorem VB.range {w : World} {b : Nat} {h : Vh} {tv v mv : Value} (x : VB w b h tv v mv) : w.rangeAt b 0 (vvl h tv v mv) := fun j u hu => by
  rw [Nat.zero_add, cell_of_row w b j _ _ _ x]
  exact (by simpa [vv] using hu)
theorem VB.cells {w : World} {b : Nat} {h : Vh} {tv v mv : Value} (x : VB w b h tv v mv) :
    w.cell? ⟨b, 0, none⟩ = some (.int .i64 h.k) ∧ w.cell? ⟨b, 1, none⟩ = some tv ∧ w.cell? ⟨b, 2, none⟩ = some (.bool h.ng) ∧ w.cell? ⟨b, 3, none⟩ = some (.string (bytes h.dg)) ∧ w.cell? ⟨b, 4, none⟩ = some (.string (bytes h.ex)) ∧ w.cell? ⟨b, 5, none⟩ = some v ∧ w.cell? ⟨b, 6, none⟩ = some (.int .i64 h.fr) ∧ w.cell? ⟨b, 7, none⟩ = some (.int .i64 h.tt) ∧ w.cell? ⟨b, 8, none⟩ = some mv :=
  ⟨x.range 0 _ rfl, x.range 1 _ rfl, x.range 2 _ rfl, x.range 3 _ rfl, x.range 4 _ rfl, x.range 5 _ rfl, x.range 6 _ rfl, x.range 7 _ rfl, x.range 8 _ rfl⟩
theorem vbox_set {w : World} {h : Vh} {tv v mv : Value} (W2 : World) (hW : (w.alloc (.cells zv 36)).setRow w.heap.size (vv h tv v mv) = W2) : VB W2 w.heap.size h tv v mv ∧ Below w.heap.size w W2 := by
  subst hW
  have b := (Below.refl w.heap.size w).alloc (Nat.le_refl _) (.cells zv 36)
  refine ⟨setRow_heap _ _ zv _ _ _ (heap_alloc_new w _), ⟨b.os, b.tape, b.output, by rw [setRow_size]; exact b.size, fun k hk => by rw [setRow_other _ w.heap.size k _ (by omega)]; exact b.block k hk⟩⟩
end Go.Proofs.YtlobinjdgcidmaaDoor
/- Numbers: all spellings of one. -/
namespace Go.Proofs.YtlobinjdgcidmaaDoor
open Go.RowKit
set_option linter.unusedVariables false
set_option linter.unusedSimpArgs false

def Box (n : Nat) (c0 c1 c2 : Value) (W : World) : Prop := W.cell? ⟨n, 0, none⟩ = some c0 ∧ W.cell? ⟨n, 1, none⟩ = some c1 ∧ W.cell? ⟨n, 2, none⟩ = some c2
theorem box_keep {n B : Nat} {c0 c1 c2 : Value} {w w' : World} (h : Box n c0 c1 c2 w) (hb : Below B w w') (hn : n < B) : Box n c0 c1 c2 w' :=
  ⟨(hb.cell (p := ⟨n, 0, none⟩) hn).trans h.1, (hb.cell (p := ⟨n, 1, none⟩) hn).trans h.2.1, (hb.cell (p := ⟨n, 2, none⟩) hn).trans h.2.2⟩
end Go.Proofs.YtlobinjdgcidmaaDoor
/- append of structs onto structs of the call's own, with word of which block the row lies in behind it: no other changes. -/
namespace Go.Proofs.YtlobinjdgcidmaaDoor
open Go.RowKit
set_option linter.unusedVariables false

theorem OwnV.setOther {E sz B : Nat} {w : World} {v : Value} {l : List (List Value)} (h : OwnV E sz B w v l) (a : Addr) (u : Value) (hne : v.ownBlock ≠ some a.block) : OwnV E sz B (w.setCell a u) v l :=
  ⟨ownsRow_setCell_other h.1 hne u, h.2.1, h.2.2⟩
end Go.Proofs.YtlobinjdgcidmaaDoor
/- Values of any shape: jmin.Pieces, what it gives, plain; jmin.single, mark. -/
namespace Go.Proofs.YtlobinjdgcidmaaDoor
open Go.RowKit
set_option linter.unusedVariables false
set_option linter.unusedSimpArgs false

abbrev Jp := List UInt8 × Int
def sglB (h : Vh) : List UInt8 := if h.k = 3 then M.spell (h.tx.map Int.toNat) else if h.k = 4 then M.shortN (M.plainN h.ng h.dg h.ex) else if h.k = 5 then [116, 114, 117, 101] else if h.k = 6 then [102, 97, 108, 115, 101] else [110, 117, 108, 108]
def mkB (k : Int) (i : Nat) : List UInt8 := if k = 1 ∧ i % 2 = 1 then [58] else [44]
def opB (k : Int) : List UInt8 := if k = 1 then [123] else [91]
def clB (k : Int) : List UInt8 := if k = 1 then [125] else [93]
def pcsL (k : Int) (ms : List Int) : Vo → Nat → List Jp
  | .nil, _ => []
  | .cons h kids rest, i => (if 0 < i then [(mkB k i, ms.getD (i - 1) 0)] else []) ++ ((if h.k = 1 ∨ h.k = 2 then (opB h.k, h.fr) :: (pcsL h.k h.ms kids 0 ++ [(clB h.k, h.tt)]) else [(sglB h, h.fr)]) ++ pcsL k ms rest (i + 1))
def pcsV (h : Vh) (kids : Vo) : List Jp := if h.k = 1 ∨ h.k = 2 then (opB h.k, h.fr) :: (pcsL h.k h.ms kids 0 ++ [(clB h.k, h.tt)]) else [(sglB h, h.fr)]
theorem pcsL_cons (k : Int) (ms : List Int) (h : Vh) (kids rest : Vo) (i : Nat) : pcsL k ms (.cons h kids rest) i = (if 0 < i then [(mkB k i, ms.getD (i - 1) 0)] else []) ++ (pcsV h kids ++ pcsL k ms rest (i + 1)) := rfl
end Go.Proofs.YtlobinjdgcidmaaDoor
/- A region whose order is drawn: one operation is taken, in short words. -/
namespace Go.Proofs.YtlobinjdgcidmaaDoor
open Go.RowKit
set_option linter.unusedVariables false
set_option linter.unusedSimpArgs false
theorem rtk {P : Program} {md : Region.Mode} {ops : Array Oper} {Q : Exit → Act → World → Prop} {S : World → Prop} (i : Nat) {oi : Oper} {v : Value} {fuel : Nat} {listed l2 : Array Bool} {a a2 : Act} {w : World}
    (h : wpAnyH P md ops Q S fuel l2 a2 w)
    (hi : ops[i]? = some oi := by exact (List.getElem?_toArray.trans (by simp only [List.getElem?_cons_succ, List.getElem?_cons_zero]; exact rfl)))
    (hy : YieldsIf P ops S oi v a := by exact Or.inl ⟨by rfl, by intro V hSV; (try dsimp only at hSV); (try obtain ⟨s0, s1, s2, s3, s4, s5, s6, s7, s8, s9, s10, s11, s12⟩ := hSV); go_simp; (try rw [if_neg (by omega)]); (try with_reducible rfl)⟩)
    (hs : Region.noSelect ops = true := by kernel_rfl) (hf : Region.free md ops listed i = true := by kernel_rfl) (hr : (Region.ready md ops listed).contains i = true := by kernel_rfl)
    (hQ : ∀ c a w, Q (.panic c) (a.put oi.dst v) w → Q (.panic c) a w := by exact fun _ _ _ h => h) (hS : S w := by assumption)
    (hl : listed.setIfInBounds i true = l2 := by first | (simp only [List.getElem_toArray, List.getElem_cons_succ, List.getElem_cons_zero, Act.put, List.setIfInBounds_toArray, List.set_cons_zero, List.set_cons_succ]; done) | (simp only [List.getElem_toArray, List.getElem_cons_succ, List.getElem_cons_zero, Act.put, List.setIfInBounds_toArray, List.set_cons_zero, List.set_cons_succ]; exact rfl) | exact rfl)
    (ha : a.put oi.dst v = a2 := by first | (simp only [List.getElem_toArray, List.getElem_cons_succ, List.getElem_cons_zero, Act.put, List.setIfInBounds_toArray, List.set_cons_zero, List.set_cons_succ]; done) | (simp only [List.getElem_toArray, List.getElem_cons_succ, List.getElem_cons_zero, Act.put, List.setIfInBounds_toArray, List.set_cons_zero, List.set_cons_succ]; exact rfl) | exact rfl) :
    wpAnyH P md ops Q S (fuel + 1) listed a w :=
  wpAnyH_take hi hs hf hr hQ hy hS (by rw [hl, ha]; exact h)
theorem rts {P : Program} {md : Region.Mode} {ops : Array Oper} {Q : Exit → Act → World → Prop} {S : World → Prop} (i : Nat) {oi : Oper} {fuel : Nat} {listed l2 : Array Bool} {a a2 : Act} {w : World}
    (h : wpAnyH P md ops Q S fuel l2 a2 w)
    (hi : ops[i]? = some oi := by exact (List.getElem?_toArray.trans (by simp only [List.getElem?_cons_succ, List.getElem?_cons_zero]; exact rfl)))
    (hn : Region.wanted oi (yielded ops a.tmps) = false := by rfl)
    (hs : Region.noSelect ops = true := by kernel_rfl) (hf : Region.free md ops listed i = true := by kernel_rfl) (hr : (Region.ready md ops listed).contains i = true := by kernel_rfl)
    (hQ : ∀ c a w, Q (.panic c) (a.put oi.dst undef) w → Q (.panic c) a w := by exact fun _ _ _ h => h) (hS : S w := by assumption)
    (hl : listed.setIfInBounds i true = l2 := by first | (simp only [List.getElem_toArray, List.getElem_cons_succ, List.getElem_cons_zero, Act.put, List.setIfInBounds_toArray, List.set_cons_zero, List.set_cons_succ]; done) | (simp only [List.getElem_toArray, List.getElem_cons_succ, List.getElem_cons_zero, Act.put, List.setIfInBounds_toArray, List.set_cons_zero, List.set_cons_succ]; exact rfl) | exact rfl)
    (ha : a.put oi.dst undef = a2 := by first | (simp only [List.getElem_toArray, List.getElem_cons_succ, List.getElem_cons_zero, Act.put, List.setIfInBounds_toArray, List.set_cons_zero, List.set_cons_succ]; done) | (simp only [List.getElem_toArray, List.getElem_cons_succ, List.getElem_cons_zero, Act.put, List.setIfInBounds_toArray, List.set_cons_zero, List.set_cons_succ]; exact rfl) | exact rfl) :
    wpAnyH P md ops Q S (fuel + 1) listed a w :=
  wpAnyH_take hi hs hf hr hQ (Or.inr ⟨hn, rfl⟩) hS (by rw [hl, ha]; exact h)
end Go.Proofs.YtlobinjdgcidmaaDoor
/- Rows of structs of the call's own: a whole struct is stored in the midst of a row; blocks of known cells. -/
namespace Go.Proofs.YtlobinjdgcidmaaDoor
open Go.RowKit
set_option linter.unusedVariables false
set_option linter.unusedSimpArgs false

def setL (xs : List Value) : Nat → List Value → List Value
  | _, [] => xs
  | o, v :: r => setL (xs.set o v) (o + 1) r
theorem setCells_other (g : Nat) (vs : List Value) : ∀ (o : Nat) (w : World) (k : Nat), k ≠ g → (w.setCells g o vs).heap[k]? = w.heap[k]? := by
  induction vs with
  | nil => intro o w k _; rfl
  | cons v r ih => intro o w k h; rw [World.setCells, ih _ _ _ h, heap_setCell_other _ _ _ _ h]
theorem below_setCells {B : Nat} {a w : World} (h : Below B a w) {g : Nat} (hg : B ≤ g) (vs : List Value) : ∀ (o : Nat), Below B a (w.setCells g o vs) := by
  induction vs generalizing w with
  | nil => intro o; exact h
  | cons v r ih => intro o; exact ih (h.setCell hg v) (o + 1)
theorem own_in {E sz B : Nat} {w : World} {v : Value} {l : List (List Value)} (h : OwnV E sz B w v l) : ∀ j, v.ownBlock = some j → B ≤ j ∧ j < w.heap.size := fun j hj => World.ownsRow.lt h.1 j hj
def BK (T : TypeId) (w : World) (b : Nat) (cs : Array Value) : Prop := w.heap[b]? = some (.cells cs T (0, 0))
theorem BK.new (T : TypeId) (w : World) (cs : Array Value) : BK T (w.alloc (.cells cs T)) w.heap.size cs := heap_alloc_new w _
theorem BK.lt {T : TypeId} {w : World} {b : Nat} {cs : Array Value} (h : BK T w b cs) : b < w.heap.size := (Array.getElem?_eq_some_iff.1 h).1
theorem BK.cell {T : TypeId} {w : World} {b : Nat} {cs : Array Value} (h : BK T w b cs) (j : Nat) : w.cell? ⟨b, j, none⟩ = cs[j]? := cell_of_row w b j cs _ _ h
theorem BK.keep {T : TypeId} {w w' : World} {b : Nat} {cs : Array Value} (h : BK T w b cs) (hb : Below w.heap.size w w') : BK T w' b cs := by
  unfold BK; rw [hb.block b h.lt]; exact h
theorem BK.keepB {T : TypeId} {B : Nat} {w w' : World} {b : Nat} {cs : Array Value} (h : BK T w b cs) (hb : Below B w w') (hB : b < B) : BK T w' b cs := by
  unfold BK; rw [hb.block b hB]; exact h
theorem BK.frame {T : TypeId} {w w' : World} {b : Nat} {cs : Array Value} (h : BK T w b cs) (hb : w'.heap[b]? = w.heap[b]?) : BK T w' b cs := by
  unfold BK; rw [hb]; exact h
theorem BK.set {T : TypeId} {w : World} {b : Nat} {cs : Array Value} (h : BK T w b cs) (ds : Array Value) : BK T (w.setRow b ds) b ds := setRow_heap w b cs ds _ _ h
theorem BK.setCell {T : TypeId} {w : World} {b : Nat} {cs : Array Value} (h : BK T w b cs) (j : Nat) (u : Value) : BK T (w.setCell ⟨b, j, none⟩ u) b (cs.setIfInBounds j u) := heap_setCell_same w b j cs T u h
theorem BK.other {T : TypeId} {w : World} {b : Nat} {cs : Array Value} (h : BK T w b cs) {c : Nat} (hne : b ≠ c) (j : Nat) (u : Value) : BK T (w.setCell ⟨c, j, none⟩ u) b cs := by
  unfold BK; rw [heap_setCell_other _ _ _ _ hne]; exact h
theorem BK.range {T : TypeId} {w : World} {b : Nat} {cs : Array Value} (h : BK T w b cs) (o : Nat) (vs : List Value) (hv : ∀ j u, vs[j]? = some u → cs[o + j]? = some u) : w.rangeAt b o vs := fun j u hu => (h.cell (o + j)).trans (hv j u hu)
theorem BK.there {T : TypeId} {w : World} {b : Nat} {cs : Array Value} (h : BK T w b cs) (o k : Nat) (hk : o + k ≤ cs.size) : w.there b o k := fun j hj =>
  ⟨by rw [h.cell, Array.getElem?_eq_getElem (by omega)]; rfl, frozen_of_row w b (o + j) cs T h⟩
def setA (cs : Array Value) : Nat → List Value → Array Value
  | _, [] => cs
  | o, v :: r => setA (cs.setIfInBounds o v) (o + 1) r
theorem BK.setCells {T : TypeId} {b : Nat} (vs : List Value) : ∀ (w : World) (cs : Array Value) (o : Nat), BK T w b cs → BK T (w.setCells b o vs) b (setA cs o vs) := by
  induction vs with
  | nil => intro w cs o h; exact h
  | cons v r ih => intro w cs o h; exact ih _ _ _ (h.setCell o v)
theorem wp_appV {w : World} {o : Oper} {a : Act} {K : Act → World → Prop} {Q : Exit → Act → World → Prop} {E T sz bytes : Nat} {z : Value} (s x : Operand)
    (ho : o.op = .call { callee := .builtin .append, args := #[s, x], argTypes := #[T, T] }) (hT : Tryd.prog.underlying T = some (.slice E)) (hinfo : (Tryd.prog.info? E).map (fun i => (i.zero, i.size, i.bytes)) = some (some z, sz, bytes)) (hz : z.cells.size = sz) (h0 : 0 < sz)
    (B : Nat) (v : Value) (l t : List (List Value)) (y : List Value) (bz c n : Nat) (hn : l.length = n) (hs : a.eval s = v) (hown : OwnV E sz B w v l) (hx : a.eval x = .slice (some ⟨bz, 0, none⟩) 1 c) (hu : w.rangeAt bz 0 y) (hy : y.length = sz) (hy1 : ∀ c ∈ y, c.oneCell' = true)
    (hlen : (n + 1) * bytes ≤ 140737488355328) (hb0 : 0 < bytes) (hB : B ≤ w.heap.size) (ht : l ++ [y] = t)
    (h : ∀ g cap w', OwnV E sz B w' (.slice (some ⟨g, 0, none⟩) (n + 1) cap) t → Below B w w' → (∀ j, j < w.heap.size → some j ≠ v.ownBlock → w'.heap[j]? = w.heap[j]?) → (v.ownBlock = some g ∨ g = w.heap.size) → g < w'.heap.size → K (a.put o.dst (.slice (some ⟨g, 0, none⟩) (n + 1) cap)) w') : o.wp Tryd.prog a w K Q := by
  subst ht
  subst hn
  obtain ⟨i0, hi, hz0, hz1, hz2⟩ := info_parts hinfo
  obtain ⟨hown, hsz, hone⟩ := hown
  have hlt := World.ownsRow.lt hown
  have hmax : l.length + 1 ≤ 140737488355328 := Nat.le_trans (Nat.le_mul_of_pos_right _ hb0) hlen
  refine wp_append_lies w s x T ho B E i0 z sz bytes hT hi hz0 hz1 hz2 hz h0 v l.length l.flatten hs hown ⟨bz, 0, none⟩ 1 c y hx (by rw [hy, Nat.one_mul]) (fun j u hu' => by rw [Addr.add_mid]; exact hu j u hu') hy1 (by decide) (by unfold maxLen; omega) hlen hB _ rfl ?_
  intro g cap w' hown' hg hgo hgl
  refine h g cap w' ⟨?_, ?_, ?_⟩ ((Below.refl B w).grown hg hB (fun j hj => (hlt j hj).1)) (fun j h1 h2 => hg.block j h1 h2) hgo hgl
  · have e : (l ++ [y]).flatten = l.flatten ++ y := by simp
    rw [e, List.length_append]
    exact hown'
  · intro q hq
    rcases List.mem_append.1 hq with hq | hq
    · exact hsz q hq
    · rw [List.mem_singleton.1 hq]; exact hy
  · intro q hq
    rcases List.mem_append.1 hq with hq | hq
    · exact hone q hq
    · rw [List.mem_singleton.1 hq]; exact hy1
theorem wpl_stK {T : TypeId} {sz : Nat} (hinfo : (Tryd.prog.info? T).map (·.size) = some sz) {ops : Array Oper} {rest : List Oper} {o : Oper} {a : Act} {w : World} {Q : Exit → Act → World → Prop} (hgd : o.guard = none) (x y : Operand) (ho : o.op = .store T x y)
    (g : Nat) (old cells : Array Value) (hx : a.eval x = .pointer (some ⟨g, 0, none⟩)) (hy : a.eval y = .agg cells) (hg : BK T w g old) (hs : old.size = sz) (hc : cells.size = sz) (h1 : cells.all (·.oneCell') = true)
    (h : wpList Tryd.prog ops Q rest (a.put o.dst undef) (w.setRow g cells)) : wpList Tryd.prog ops Q (o :: rest) a w :=
  wpList_store_row hgd T x y ho g cells hx hy T old hg (by rw [hc]; exact hinfo) (by rw [hs, hc]) h1 h
theorem res_bk {T : TypeId} {sz : Nat} {d : TypeDesc} (hu : Tryd.prog.underlying T = some d) (hd : d.isRow = true) (hinfo : (Tryd.prog.info? T).map (·.size) = some sz) {fn : Func} {p : Tmp} (h : fn.results = #[.cell p T]) (tmps : Array Value) (w : World) (g : Nat) (cs : List Value)
    (hp : tmps.getD p undef = .pointer (some ⟨g, 0, none⟩)) (hg : BK T w g cs.toArray) (hs : cs.length = sz) :
    (results fn tmps).run Tryd.prog w = .ok (.agg cs.toArray) w := by
  have e : (results fn tmps).run Tryd.prog w = ((asAddr (tmps.getD p undef)).run Tryd.prog w).andThen fun a w₁ => (loadVar T a).run Tryd.prog w₁ := by
    simp only [results, h]
    simp [Sem.run_bind, Result.andThen]
  rw [e, hp]
  have : (asAddr (.pointer (some ⟨g, 0, none⟩))).run Tryd.prog w = .ok ⟨g, 0, none⟩ w := rfl
  rw [this]
  simp only [Result.andThen]
  exact run_loadVar_mid w g 0 T cs d (hg.range 0 cs (by intro j u h; simpa using h)) hu hd (by rw [hs]; exact hinfo)
theorem below_setRowK {B : Nat} {a w : World} (h : Below B a w) {g : Nat} (hg : B ≤ g) (cs : Array Value) : Below B a (w.setRow g cs) :=
  ⟨h.os, h.tape, h.output, by rw [setRow_size]; exact h.size, fun k hk => by rw [setRow_other w g k cs (by omega)]; exact h.block k hk⟩
end Go.Proofs.YtlobinjdgcidmaaDoor
/- Values of any shape: jmin.appendList, appendValue, Pieces. -/
namespace Go.Proofs.YtlobinjdgcidmaaDoor
open Go.RowKit
set_option linter.unusedVariables false
set_option linter.unusedSimpArgs false

theorem right_parts {h : Vh} {kids : Vo} {d : Nat} (hr : rightH h kids d = true) (hk : h.k = 1 ∨ h.k = 2) : h.ms.length = kids.len - 1 ∧ rightVo kids (d - 1) = true := by
  unfold rightH headB at hr
  rw [if_pos hk] at hr
  simp only [Bool.and_eq_true, decide_eq_true_eq] at hr
  obtain ⟨-, -, ⟨⟨hm, -⟩, hv⟩⟩ := hr
  unfold marksB at hm
  simp only [Bool.and_eq_true, decide_eq_true_eq] at hm
  exact ⟨hm.1.2, hv⟩
end Go.Proofs.YtlobinjdgcidmaaDoor
/- Several texts of ours in one: QJ QJ2 QJ3. -/
/- What the small functions of jlex return, for any bytes. -/
namespace Go.Proofs.YtlobinjdgcidmaaDoor
open Go.RowKit
set_option linter.unusedVariables false
set_option linter.unusedSimpArgs false

theorem dg_iff (c : UInt8) : M.dgB c = true ↔ 48 ≤ c.toNat ∧ c.toNat ≤ 57 := by simp [M.dgB]
theorem u8_of {c : UInt8} {k : Nat} (hk : k < 256) (h : c.toNat = k) : c = k.toUInt8 := by
  apply UInt8.toNat_inj.1; rw [h, M.toU8 k hk]
theorem goB_val (n : Nat) (h : n < 256) : M.goB n.toUInt8 = (decide (48 ≤ n ∧ n ≤ 57) || decide (97 ≤ n ∧ n ≤ 122) || decide (65 ≤ n ∧ n ≤ 90) || decide (n = 46) || decide (n = 43) || decide (n = 45) || decide (n = 95)) := by
  have : ∀ n : Fin 256, M.goB n.val.toUInt8 = (decide (48 ≤ n.val ∧ n.val ≤ 57) || decide (97 ≤ n.val ∧ n.val ≤ 122) || decide (65 ≤ n.val ∧ n.val ≤ 90) || decide (n.val = 46) || decide (n.val = 43) || decide (n.val = 45) || decide (n.val = 95)) := by decide +kernel
  exact this ⟨n, h⟩
theorem goB_c (c : UInt8) : M.goB c = (decide (48 ≤ c.toNat ∧ c.toNat ≤ 57) || decide (97 ≤ c.toNat ∧ c.toNat ≤ 122) || decide (65 ≤ c.toNat ∧ c.toNat ≤ 90) || decide (c.toNat = 46) || decide (c.toNat = 43) || decide (c.toNat = 45) || decide (c.toNat = 95)) := by
  have := goB_val c.toNat c.toNat_lt
  rwa [← u8_of c.toNat_lt rfl] at this
theorem cell_getD {w : World} {b off : Nat} {l : List UInt8} (hcl : ∀ j (h : j < l.length), w.cell? ⟨b, off + j, none⟩ = some (.int .u8 (l[j].toNat : Int))) (i : Nat) (h : i < l.length) :
    w.cell? ⟨b, off + i, none⟩ = some (.int .u8 ((l.getD i 0).toNat : Int)) := by rw [hcl i h]; simp [h]
theorem getD_out (l : List UInt8) (i : Nat) (h : l.length ≤ i) : l.getD i 0 = 0 := by simp [List.getD, List.getElem?_eq_none h]

end Go.Proofs.YtlobinjdgcidmaaDoor
/- What the functions of jlex that read numbers and words return, for any bytes. -/
namespace Go.Proofs.YtlobinjdgcidmaaDoor
open Go.RowKit
set_option linter.unusedVariables false
set_option linter.unusedSimpArgs false

theorem run_at (l : List UInt8) (i : Nat) : (M.dgB (l.getD i 0) = true → i + M.run (l.drop i) = i + 1 + M.run (l.drop (i + 1))) ∧ (M.dgB (l.getD i 0) = false → i + M.run (l.drop i) = i) := by
  by_cases h : i < l.length
  · have e : l.drop i = l[i] :: l.drop (i + 1) := List.drop_eq_getElem_cons h
    have g : l.getD i 0 = l[i] := by simp [h]
    rw [e, g, show M.run (l[i] :: l.drop (i + 1)) = if M.dgB l[i] then M.run (l.drop (i + 1)) + 1 else 0 from rfl]
    constructor
    · intro hd; rw [if_pos hd]; omega
    · intro hd; rw [if_neg (by simp [hd])]; rfl
  · rw [getD_out l i (by omega), List.drop_eq_nil_of_le (by omega)]
    exact ⟨fun h => absurd h (by decide), fun _ => by simp [M.run]⟩
theorem lead_at (l : List UInt8) (i : Nat) : (M.blB (l.getD i 0) = true → i + M.lead (l.drop i) = i + 1 + M.lead (l.drop (i + 1))) ∧ (M.blB (l.getD i 0) = false → i + M.lead (l.drop i) = i) := by
  by_cases h : i < l.length
  · have e : l.drop i = l[i] :: l.drop (i + 1) := List.drop_eq_getElem_cons h
    have g : l.getD i 0 = l[i] := by simp [h]
    rw [e, g, show M.lead (l[i] :: l.drop (i + 1)) = if M.blB l[i] then M.lead (l.drop (i + 1)) + 1 else 0 from rfl]
    constructor
    · intro hd; rw [if_pos hd]; omega
    · intro hd; rw [if_neg (by simp [hd])]; rfl
  · rw [getD_out l i (by omega), List.drop_eq_nil_of_le (by omega)]
    exact ⟨fun h => absurd h (by decide), fun _ => by simp [M.lead]⟩

end Go.Proofs.YtlobinjdgcidmaaDoor

/- What jlex.number and jlex.word return, for any bytes. -/
namespace Go.Proofs.YtlobinjdgcidmaaDoor
open Go.RowKit
set_option linter.unusedVariables false
set_option linter.unusedSimpArgs false

def tokI (o : Option (Nat × Nat)) (i : Nat) : Int × Int := match o with
  | none => (0, 0)
  | some (k, m) => ((k : Int), ((i + m : Nat) : Int))
def numT (l : List UInt8) (q : Nat) : Int × Int :=
  if M.dgB (l.getD q 0) = true then
    (let a := q + M.whole (l.drop q)
     let b := a + M.frac (l.drop a)
     let c := b + M.expo (l.drop b)
     if M.goB (l.getD c 0) = true then (0, 0) else (8, (c : Int)))
  else (0, 0)
theorem numT_eq (l : List UInt8) (i : Nat) : tokI ((M.numL (l.drop i)).map fun n => (8, n)) i = numT l (i + M.neg (l.drop i)) := by
  unfold M.numL numT
  simp only [M.drop_getD, List.drop_drop]
  by_cases hd : M.dgB (l.getD (i + M.neg (l.drop i)) 0) = true
  · rw [if_pos hd, if_pos hd]
    generalize M.neg (l.drop i) = q
    rw [show ∀ x, i + (q + x) = i + q + x from fun x => by omega]
    generalize hw : M.whole (l.drop (i + q)) = a
    rw [show i + q + a = i + (q + a) by omega]
    generalize hf : M.frac (l.drop (i + (q + a))) = b
    rw [show i + (q + a + b) = i + (q + a) + b by omega]
    generalize hx : M.expo (l.drop (i + (q + a) + b)) = c
    rw [show i + (q + a) + b + c = i + (q + a + b + c) by omega]
    by_cases hg : M.goB (l.getD (i + (q + a + b + c)) 0) = true
    · rw [if_pos hg, if_pos hg]; rfl
    · rw [if_neg hg, if_neg hg]; rfl
  · rw [if_neg hd, if_neg hd]; rfl

end Go.Proofs.YtlobinjdgcidmaaDoor
