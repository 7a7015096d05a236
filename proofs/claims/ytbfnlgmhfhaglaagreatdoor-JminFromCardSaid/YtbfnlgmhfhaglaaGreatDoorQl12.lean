/- Texts of ours in one: VAppG WTk YRow AVal. -/
import Derived.Test.YtbfnlgmhfhaglaaGreatDoorQl02
import Derived.Maps.AppendAt
import Derived.OneCell
import Derived.Deep.QuietTactic
import Derived.BigQuiet
import Derived.OrdersHeld
import Derived.Deep.MidRow
import Derived.Deep.AppendLies
import Derived.Laws.OwnMore
import Derived.Deep.Slices
import Derived.Deep.Fields
import Derived.ChangeSame
import Derived.ProofKit
import Derived.OpenShut
/- append of structs onto structs of the call's own, with word of which block the row lies in behind it: no other changes. -/
namespace Go.Proofs.YtbfnlgmhfhaglaaGreatDoor
open Go.RowKit
set_option linter.unusedVariables false

theorem wpl_appendVG {w : World} {ops : Array Oper} {rest : List Oper} {o : Oper} {a : Act} {Q : Exit → Act → World → Prop} {E T sz bytes : Nat} {z : Value} (hgd : o.guard = none) (s x : Operand)
    (ho : o.op = .call { callee := .builtin .append, args := #[s, x], argTypes := #[T, T] }) (hT : Tryz.prog.underlying T = some (.slice E)) (hinfo : (Tryz.prog.info? E).map (fun i => (i.zero, i.size, i.bytes)) = some (some z, sz, bytes)) (hz : z.cells.size = sz) (h0 : 0 < sz)
    (B : Nat) (v u : Value) (l k t : List (List Value)) (hs : a.eval s = v) (hown : OwnV E sz B w v l) (hx : a.eval x = u) (hu : Vs sz w u k) (hnn : NNv u) (hk : ∀ y ∈ k, y.length = sz) (hk1 : ∀ y ∈ k, ∀ c ∈ y, c.oneCell' = true)
    (hlen : (l.length + k.length) * bytes ≤ 140737488355328) (hb0 : 0 < bytes) (hB : B ≤ w.heap.size) (ht : l ++ k = t)
    (h : ∀ v' w', OwnV E sz B w' v' t → Below B w w' → (∀ j, j < w.heap.size → some j ≠ v.ownBlock → w'.heap[j]? = w.heap[j]?) → (v'.ownBlock = v.ownBlock ∨ v'.ownBlock = some w.heap.size) → wpList Tryz.prog ops Q rest (a.put o.dst v') w') : wpList Tryz.prog ops Q (o :: rest) a w := by
  subst ht
  obtain ⟨i0, hi, hz0, hz1, hz2⟩ := info_parts hinfo
  obtain ⟨ad, cap, rfl, h1, h2, h3⟩ := hu
  obtain ⟨hown, hsz, hone⟩ := hown
  have hlt := World.ownsRow.lt hown
  have hmax : l.length + k.length ≤ 140737488355328 := Nat.le_trans (Nat.le_mul_of_pos_right _ hb0) hlen
  have hall : (∀ y ∈ l ++ k, y.length = sz) ∧ ∀ y ∈ l ++ k, ∀ c ∈ y, c.oneCell' = true := by
    refine ⟨fun y hy => ?_, fun y hy => ?_⟩
    · rcases List.mem_append.1 hy with hy | hy
      · exact hsz y hy
      · exact hk y hy
    · rcases List.mem_append.1 hy with hy | hy
      · exact hone y hy
      · exact hk1 y hy
  cases ad with
  | none =>
    have hk0 : k = [] := by
      cases k with
      | nil => rfl
      | cons c k => obtain ⟨b, off, h, _⟩ := h3 (by simp); exact absurd h (by simp)
    subst hk0
    obtain rfl := hnn _ _ rfl
    refine wpList_append_own_none hgd s x T ho B E i0 sz hT hi v l.length l.flatten hs hown hx ?_
    exact h v w (by rw [List.append_nil]; exact ⟨hown, hsz, hone⟩) (Below.refl _ _) (fun _ _ _ => rfl) (.inl rfl)
  | some ad =>
    have hcs : ∀ j c, k.flatten[j]? = some c → w.cell? (ad.add j) = some c := by
      intro j c hj
      have hjl := (List.getElem?_eq_some_iff.1 hj).1
      rw [flat_len k hk] at hjl
      have hk0 : 0 < k.length := by
        rcases Nat.eq_zero_or_pos k.length with e | e
        · rw [e, Nat.zero_mul] at hjl; omega
        · exact e
      obtain ⟨b, off, hab, _, hc⟩ := h3 hk0
      obtain rfl : ad = ⟨b, off, none⟩ := by simpa using hab
      have hq : j / sz < k.length := by rw [Nat.div_lt_iff_lt_mul h0]; exact hjl
      have hm : j % sz < sz := Nat.mod_lt _ h0
      have he : j / sz * sz + j % sz = j := by rw [Nat.mul_comm]; exact Nat.div_add_mod j sz
      have hf := flat_get k hk (j / sz) hq (j % sz) hm
      rw [he, hj] at hf
      rw [Go.WideShapes.add_plain]
      have := hc (j / sz) hq (j % sz) c hf.symm
      rwa [he] at this
    refine wpList_append_own_at _ hgd s x T ho B E i0 z sz bytes hT hi hz0 hz1 hz2 hz h0 v l.length l.flatten hs hown ad k.length cap k.flatten hx (flat_len k hk) hcs (fun u hu => ?_) (by unfold maxLen; omega) hlen hB ?_
    · obtain ⟨y, hy, hu⟩ := List.mem_flatten.1 hu
      exact hk1 y hy u hu
    · intro v' w' hown' hg _ hwh
      refine h v' w' ⟨?_, hall.1, hall.2⟩ ((Below.refl B w).grown hg hB (fun j hj => (hlt j hj).1)) (fun j h1 h2 => hg.block j h1 h2) hwh
      rw [← List.flatten_append, ← List.length_append] at hown'
      exact hown'
theorem OwnV.setOther {E sz B : Nat} {w : World} {v : Value} {l : List (List Value)} (h : OwnV E sz B w v l) (a : Addr) (u : Value) (hne : v.ownBlock ≠ some a.block) : OwnV E sz B (w.setCell a u) v l :=
  ⟨ownsRow_setCell_other h.1 hne u, h.2.1, h.2.2⟩
end Go.Proofs.YtbfnlgmhfhaglaaGreatDoor
/- A region whose order is drawn: one operation is taken, in short words. -/
namespace Go.Proofs.YtbfnlgmhfhaglaaGreatDoor
open Go.RowKit
set_option linter.unusedVariables false
set_option linter.unusedSimpArgs false
theorem rtk {P : Program} {md : Region.Mode} {ops : Array Oper} {Q : Exit → Act → World → Prop} {S : World → Prop} (i : Nat) {oi : Oper} {v : Value} {fuel : Nat} {listed l2 : Array Bool} {a a2 : Act} {w : World}
    (h : wpAnyH P md ops Q S fuel l2 a2 w)
    (hi : ops[i]? = some oi := by exact (List.getElem?_toArray.trans (by simp only [List.getElem?_cons_succ, List.getElem?_cons_zero]; exact rfl)))
    (hy : YieldsIf P ops S oi v a := by exact Or.inl ⟨by rfl, by intro V hSV; (try dsimp only at hSV); (try obtain ⟨s0, s1, s2, s3, s4, s5, s6, s7, s8, s9, s10, s11, s12⟩ := hSV); go_simp; (try rw [if_neg (by omega)]); (try with_reducible rfl)⟩)
    (hs : Region.noSelect ops = true := by kernel_rfl) (hf : Region.free md ops listed i = true := by kernel_rfl) (hr : (Region.ready md ops listed).contains i = true := by kernel_rfl)
    (hQ : ∀ c a w, Q (.panic c) (a.put oi.dst v) w → Q (.panic c) a w := by exact fun _ _ _ h => h) (hS : S w := by assumption)
    (hl : listed.setIfInBounds i true = l2 := by first | (simp only [List.getElem_toArray, List.getElem_cons_succ, List.getElem_cons_zero, Act.put, List.setIfInBounds_toArray, List.set_cons_zero, List.set_cons_succ]; done) | (simp only [List.getElem_toArray, List.getElem_cons_succ, List.getElem_cons_zero, Act.put, List.setIfInBounds_toArray, List.set_cons_zero, List.set_cons_succ]; exact rfl) | exact rfl)
    (ha : a.put oi.dst v = a2 := by first | (simp only [List.getElem_toArray, List.getElem_cons_succ, List.getElem_cons_zero, Act.put, List.setIfInBounds_toArray, List.set_cons_zero, List.set_cons_succ]; done) | (simp only [List.getElem_toArray, List.getElem_cons_succ, List.getElem_cons_zero, Act.put, List.setIfInBounds_toArray, List.set_cons_zero, List.set_cons_succ]; exact rfl) | exact rfl) :
    wpAnyH P md ops Q S (fuel + 1) listed a w :=
  wpAnyH_take hi hs hf hr hQ hy hS (by rw [hl, ha]; exact h)
end Go.Proofs.YtbfnlgmhfhaglaaGreatDoor
/- Rows of structs of the call's own: a whole struct is stored in the midst of a row; blocks of known cells. -/
namespace Go.Proofs.YtbfnlgmhfhaglaaGreatDoor
open Go.RowKit
set_option linter.unusedVariables false
set_option linter.unusedSimpArgs false

theorem setCells_other (g : Nat) (vs : List Value) : ∀ (o : Nat) (w : World) (k : Nat), k ≠ g → (w.setCells g o vs).heap[k]? = w.heap[k]? := by
  induction vs with
  | nil => intro o w k _; rfl
  | cons v r ih => intro o w k h; rw [World.setCells, ih _ _ _ h, heap_setCell_other _ _ _ _ h]
theorem below_setCells {B : Nat} {a w : World} (h : Below B a w) {g : Nat} (hg : B ≤ g) (vs : List Value) : ∀ (o : Nat), Below B a (w.setCells g o vs) := by
  induction vs generalizing w with
  | nil => intro o; exact h
  | cons v r ih => intro o; exact ih (h.setCell hg v) (o + 1)
theorem own_in {E sz B : Nat} {w : World} {v : Value} {l : List (List Value)} (h : OwnV E sz B w v l) : ∀ j, v.ownBlock = some j → B ≤ j ∧ j < w.heap.size := fun j hj => World.ownsRow.lt h.1 j hj
def BK (T : TypeId) (w : World) (b : Nat) (cs : Array Value) : Prop := w.heap[b]? = some (.cells cs T (0, 0))
theorem BK.new (T : TypeId) (w : World) (cs : Array Value) : BK T (w.alloc (.cells cs T)) w.heap.size cs := heap_alloc_new w _
theorem BK.lt {T : TypeId} {w : World} {b : Nat} {cs : Array Value} (h : BK T w b cs) : b < w.heap.size := (Array.getElem?_eq_some_iff.1 h).1
theorem BK.cell {T : TypeId} {w : World} {b : Nat} {cs : Array Value} (h : BK T w b cs) (j : Nat) : w.cell? ⟨b, j, none⟩ = cs[j]? := cell_of_row w b j cs _ _ h
theorem BK.keep {T : TypeId} {w w' : World} {b : Nat} {cs : Array Value} (h : BK T w b cs) (hb : Below w.heap.size w w') : BK T w' b cs := by
  unfold BK; rw [hb.block b h.lt]; exact h
theorem BK.keepB {T : TypeId} {B : Nat} {w w' : World} {b : Nat} {cs : Array Value} (h : BK T w b cs) (hb : Below B w w') (hB : b < B) : BK T w' b cs := by
  unfold BK; rw [hb.block b hB]; exact h
theorem BK.frame {T : TypeId} {w w' : World} {b : Nat} {cs : Array Value} (h : BK T w b cs) (hb : w'.heap[b]? = w.heap[b]?) : BK T w' b cs := by
  unfold BK; rw [hb]; exact h
theorem BK.set {T : TypeId} {w : World} {b : Nat} {cs : Array Value} (h : BK T w b cs) (ds : Array Value) : BK T (w.setRow b ds) b ds := setRow_heap w b cs ds _ _ h
theorem BK.setCell {T : TypeId} {w : World} {b : Nat} {cs : Array Value} (h : BK T w b cs) (j : Nat) (u : Value) : BK T (w.setCell ⟨b, j, none⟩ u) b (cs.setIfInBounds j u) := heap_setCell_same w b j cs T u h
theorem BK.other {T : TypeId} {w : World} {b : Nat} {cs : Array Value} (h : BK T w b cs) {c : Nat} (hne : b ≠ c) (j : Nat) (u : Value) : BK T (w.setCell ⟨c, j, none⟩ u) b cs := by
  unfold BK; rw [heap_setCell_other _ _ _ _ hne]; exact h
theorem BK.range {T : TypeId} {w : World} {b : Nat} {cs : Array Value} (h : BK T w b cs) (o : Nat) (vs : List Value) (hv : ∀ j u, vs[j]? = some u → cs[o + j]? = some u) : w.rangeAt b o vs := fun j u hu => (h.cell (o + j)).trans (hv j u hu)
theorem BK.there {T : TypeId} {w : World} {b : Nat} {cs : Array Value} (h : BK T w b cs) (o k : Nat) (hk : o + k ≤ cs.size) : w.there b o k := fun j hj =>
  ⟨by rw [h.cell, Array.getElem?_eq_getElem (by omega)]; rfl, frozen_of_row w b (o + j) cs T h⟩
def setA (cs : Array Value) : Nat → List Value → Array Value
  | _, [] => cs
  | o, v :: r => setA (cs.setIfInBounds o v) (o + 1) r
theorem BK.setCells {T : TypeId} {b : Nat} (vs : List Value) : ∀ (w : World) (cs : Array Value) (o : Nat), BK T w b cs → BK T (w.setCells b o vs) b (setA cs o vs) := by
  induction vs with
  | nil => intro w cs o h; exact h
  | cons v r ih => intro w cs o h; exact ih _ _ _ (h.setCell o v)
theorem wp_appV {w : World} {o : Oper} {a : Act} {K : Act → World → Prop} {Q : Exit → Act → World → Prop} {E T sz bytes : Nat} {z : Value} (s x : Operand)
    (ho : o.op = .call { callee := .builtin .append, args := #[s, x], argTypes := #[T, T] }) (hT : Tryz.prog.underlying T = some (.slice E)) (hinfo : (Tryz.prog.info? E).map (fun i => (i.zero, i.size, i.bytes)) = some (some z, sz, bytes)) (hz : z.cells.size = sz) (h0 : 0 < sz)
    (B : Nat) (v : Value) (l t : List (List Value)) (y : List Value) (bz c n : Nat) (hn : l.length = n) (hs : a.eval s = v) (hown : OwnV E sz B w v l) (hx : a.eval x = .slice (some ⟨bz, 0, none⟩) 1 c) (hu : w.rangeAt bz 0 y) (hy : y.length = sz) (hy1 : ∀ c ∈ y, c.oneCell' = true)
    (hlen : (n + 1) * bytes ≤ 140737488355328) (hb0 : 0 < bytes) (hB : B ≤ w.heap.size) (ht : l ++ [y] = t)
    (h : ∀ g cap w', OwnV E sz B w' (.slice (some ⟨g, 0, none⟩) (n + 1) cap) t → Below B w w' → (∀ j, j < w.heap.size → some j ≠ v.ownBlock → w'.heap[j]? = w.heap[j]?) → (v.ownBlock = some g ∨ g = w.heap.size) → g < w'.heap.size → K (a.put o.dst (.slice (some ⟨g, 0, none⟩) (n + 1) cap)) w') : o.wp Tryz.prog a w K Q := by
  subst ht
  subst hn
  obtain ⟨i0, hi, hz0, hz1, hz2⟩ := info_parts hinfo
  obtain ⟨hown, hsz, hone⟩ := hown
  have hlt := World.ownsRow.lt hown
  have hmax : l.length + 1 ≤ 140737488355328 := Nat.le_trans (Nat.le_mul_of_pos_right _ hb0) hlen
  refine wp_append_lies w s x T ho B E i0 z sz bytes hT hi hz0 hz1 hz2 hz h0 v l.length l.flatten hs hown ⟨bz, 0, none⟩ 1 c y hx (by rw [hy, Nat.one_mul]) (fun j u hu' => by rw [Addr.add_mid]; exact hu j u hu') hy1 (by decide) (by unfold maxLen; omega) hlen hB _ rfl ?_
  intro g cap w' hown' hg hgo hgl
  refine h g cap w' ⟨?_, ?_, ?_⟩ ((Below.refl B w).grown hg hB (fun j hj => (hlt j hj).1)) (fun j h1 h2 => hg.block j h1 h2) hgo hgl
  · have e : (l ++ [y]).flatten = l.flatten ++ y := by simp
    rw [e, List.length_append]
    exact hown'
  · intro q hq
    rcases List.mem_append.1 hq with hq | hq
    · exact hsz q hq
    · rw [List.mem_singleton.1 hq]; exact hy
  · intro q hq
    rcases List.mem_append.1 hq with hq | hq
    · exact hone q hq
    · rw [List.mem_singleton.1 hq]; exact hy1
theorem wpl_stK {T : TypeId} {sz : Nat} (hinfo : (Tryz.prog.info? T).map (·.size) = some sz) {ops : Array Oper} {rest : List Oper} {o : Oper} {a : Act} {w : World} {Q : Exit → Act → World → Prop} (hgd : o.guard = none) (x y : Operand) (ho : o.op = .store T x y)
    (g : Nat) (old cells : Array Value) (hx : a.eval x = .pointer (some ⟨g, 0, none⟩)) (hy : a.eval y = .agg cells) (hg : BK T w g old) (hs : old.size = sz) (hc : cells.size = sz) (h1 : cells.all (·.oneCell') = true)
    (h : wpList Tryz.prog ops Q rest (a.put o.dst undef) (w.setRow g cells)) : wpList Tryz.prog ops Q (o :: rest) a w :=
  wpList_store_row hgd T x y ho g cells hx hy T old hg (by rw [hc]; exact hinfo) (by rw [hs, hc]) h1 h
theorem res_bk {T : TypeId} {sz : Nat} {d : TypeDesc} (hu : Tryz.prog.underlying T = some d) (hd : d.isRow = true) (hinfo : (Tryz.prog.info? T).map (·.size) = some sz) {fn : Func} {p : Tmp} (h : fn.results = #[.cell p T]) (tmps : Array Value) (w : World) (g : Nat) (cs : List Value)
    (hp : tmps.getD p undef = .pointer (some ⟨g, 0, none⟩)) (hg : BK T w g cs.toArray) (hs : cs.length = sz) :
    (results fn tmps).run Tryz.prog w = .ok (.agg cs.toArray) w := by
  have e : (results fn tmps).run Tryz.prog w = ((asAddr (tmps.getD p undef)).run Tryz.prog w).andThen fun a w₁ => (loadVar T a).run Tryz.prog w₁ := by
    simp only [results, h]
    simp [Sem.run_bind, Result.andThen]
  rw [e, hp]
  have : (asAddr (.pointer (some ⟨g, 0, none⟩))).run Tryz.prog w = .ok ⟨g, 0, none⟩ w := rfl
  rw [this]
  simp only [Result.andThen]
  exact run_loadVar_mid w g 0 T cs d (hg.range 0 cs (by intro j u h; simpa using h)) hu hd (by rw [hs]; exact hinfo)
theorem below_setRowK {B : Nat} {a w : World} (h : Below B a w) {g : Nat} (hg : B ≤ g) (cs : Array Value) : Below B a (w.setRow g cs) :=
  ⟨h.os, h.tape, h.output, by rw [setRow_size]; exact h.size, fun k hk => by rw [setRow_other w g k cs (by omega)]; exact h.block k hk⟩
end Go.Proofs.YtbfnlgmhfhaglaaGreatDoor
/- Values of JSON, of any shape, in memory: lists of values as forests; a value that came in, opened. -/
namespace Go.Proofs.YtbfnlgmhfhaglaaGreatDoor
open Go.RowKit Go.ChangeShapes Go.WideShapes
set_option linter.unusedVariables false
set_option linter.unusedSimpArgs false

structure Vh where
  k : Int
  tx : List Int
  ng : Bool
  dg : List UInt8
  ex : List UInt8
  fr : Int
  tt : Int
  ms : List Int
inductive Vo where
  | nil : Vo
  | cons (h : Vh) (kids rest : Vo) : Vo
def Vo.len : Vo → Nat
  | .nil => 0
  | .cons _ _ r => r.len + 1
def Vo.at? : Vo → Nat → Option (Vh × Vo)
  | .nil, _ => none
  | .cons h kids _, 0 => some (h, kids)
  | .cons _ _ r, n + 1 => r.at? n
theorem Vo.at_some (L : Vo) : ∀ j, j < L.len → ∃ h kids, L.at? j = some (h, kids) := by
  induction L with
  | nil => intro j h; simp [Vo.len] at h
  | cons h kids rest _ ih =>
    intro j hj
    cases j with
    | zero => exact ⟨h, kids, rfl⟩
    | succ j => exact ih j (by simp [Vo.len] at hj; omega)
theorem vo_at_lt (L : Vo) : ∀ i {x}, L.at? i = some x → i < L.len := by
  induction L with
  | nil => intro i x h; simp [Vo.at?] at h
  | cons h kids rest _ ih =>
    intro i x hx
    cases i with
    | zero => simp [Vo.len]
    | succ i => have := ih i hx; simp [Vo.len]; omega
def vvl (h : Vh) (tv v mv : Value) : List Value := [.int .i64 h.k, tv, .bool h.ng, .string (bytes h.dg), .string (bytes h.ex), v, .int .i64 h.fr, .int .i64 h.tt, mv]
def vv (h : Vh) (tv v mv : Value) : Array Value := (vvl h tv v mv).toArray
def IsP (P : Nat → Prop) (w : World) (v : Value) (l : List Int) : Prop :=
  ∃ a cap, v = .slice a l.length cap ∧ l.length ≤ cap ∧ cap ≤ maxLen ∧ (a = none → cap = 0) ∧ (0 < l.length → ∃ b off, a = some ⟨b, off, none⟩ ∧ P b ∧ ∀ j (h : j < l.length), w.cell? ⟨b, off + j, none⟩ = some (.int .i64 l[j]))
abbrev In (w : World) : Nat → Prop := fun b => b < w.heap.size
theorem cell_same {w w' : World} {b off : Nat} (h : w'.heap[b]? = w.heap[b]?) : w'.cell? ⟨b, off, none⟩ = w.cell? ⟨b, off, none⟩ := by
  unfold World.cell?; rw [h]
theorem range_same {w w' : World} {b o : Nat} {cs : List Value} (h : w.rangeAt b o cs) (hb : w'.heap[b]? = w.heap[b]?) : w'.rangeAt b o cs := fun j u hu => by
  rw [cell_same hb]; exact h j u hu
theorem IsP.keep {P : Nat → Prop} {w w' : World} {v : Value} {l : List Int} (h : IsP P w v l) (hf : ∀ b, P b → w'.heap[b]? = w.heap[b]?) : IsP P w' v l := by
  obtain ⟨a, cap, rfl, h1, h2, h3, h4⟩ := h
  refine ⟨a, cap, rfl, h1, h2, h3, fun h0 => ?_⟩
  obtain ⟨b, off, e, hp, hc⟩ := h4 h0
  exact ⟨b, off, e, hp, fun j hj => by rw [cell_same (hf b hp)]; exact hc j hj⟩
theorem IsP.mono {P Q : Nat → Prop} {w : World} {v : Value} {l : List Int} (h : IsP P w v l) (hq : ∀ b, P b → Q b) : IsP Q w v l := by
  obtain ⟨a, cap, rfl, h1, h2, h3, h4⟩ := h
  refine ⟨a, cap, rfl, h1, h2, h3, fun h0 => ?_⟩
  obtain ⟨b, off, e, hp, hc⟩ := h4 h0
  exact ⟨b, off, e, hq b hp, hc⟩
theorem IsP.is {P : Nat → Prop} {w : World} {v : Value} {l : List Int} (h : IsP P w v l) (hq : ∀ b, P b → b < w.heap.size) : Is w v l := by
  obtain ⟨a, cap, rfl, h1, h2, h3, h4⟩ := h
  refine ⟨a, cap, rfl, h1, h2, fun h0 => ?_⟩
  obtain ⟨b, off, e, hp, hc⟩ := h4 h0
  exact ⟨b, off, e, hq b hp, hc⟩
theorem IsP.nn {P : Nat → Prop} {w : World} {v : Value} {l : List Int} (h : IsP P w v l) : NN v := by
  obtain ⟨a, cap, rfl, h1, h2, h3, h4⟩ := h
  intro n c e
  simp only [Value.slice.injEq] at e
  obtain ⟨e1, -, e2⟩ := e
  rw [← e2]; exact h3 e1
theorem IsP.slice {P : Nat → Prop} {w : World} {v : Value} {l : List Int} (h : IsP P w v l) : ∃ a cap, v = .slice a l.length cap := by
  obtain ⟨a, cap, rfl, _⟩ := h; exact ⟨a, cap, rfl⟩
theorem isP_nil (P : Nat → Prop) (w : World) : IsP P w (.slice none 0 0) [] := ⟨none, 0, rfl, by simp, by decide, fun _ => rfl, fun h => by simp at h⟩
structure HdP (P : Nat → Prop) (w : World) (h : Vh) (tv mv : Value) : Prop where
  d : h.dg.length ≤ maxLen
  e : h.ex.length ≤ maxLen
  t : IsP P w tv h.tx
  m : IsP P w mv h.ms
theorem HdP.keep {P : Nat → Prop} {w w' : World} {h : Vh} {tv mv : Value} (x : HdP P w h tv mv) (hf : ∀ b, P b → w'.heap[b]? = w.heap[b]?) : HdP P w' h tv mv := ⟨x.d, x.e, x.t.keep hf, x.m.keep hf⟩
theorem HdP.mono {P Q : Nat → Prop} {w : World} {h : Vh} {tv mv : Value} (x : HdP P w h tv mv) (hq : ∀ b, P b → Q b) : HdP Q w h tv mv := ⟨x.d, x.e, x.t.mono hq, x.m.mono hq⟩
def VoAt (P : Nat → Prop) (w : World) : Vo → Nat → Nat → Prop
  | .nil, _, _ => True
  | .cons h kids rest, b, off => (∃ tv mv a cap, HdP P w h tv mv ∧ w.rangeAt b off (vvl h tv (.slice a kids.len cap) mv) ∧ kids.len ≤ cap ∧ cap ≤ maxLen ∧ (a = none → cap = 0) ∧ (0 < kids.len → ∃ b' off', a = some ⟨b', off', none⟩ ∧ P b' ∧ VoAt P w kids b' off')) ∧
      VoAt P w rest b (off + 9)
def VoP (P : Nat → Prop) (w : World) (v : Value) (L : Vo) : Prop :=
  ∃ a cap, v = .slice a L.len cap ∧ L.len ≤ cap ∧ cap ≤ maxLen ∧ (a = none → cap = 0) ∧ (0 < L.len → ∃ b off, a = some ⟨b, off, none⟩ ∧ P b ∧ VoAt P w L b off)
abbrev VoS (w : World) (v : Value) (L : Vo) : Prop := VoP (In w) w v L
abbrev HdS (w : World) (h : Vh) (tv mv : Value) : Prop := HdP (In w) w h tv mv
theorem voAt_keep {P : Nat → Prop} {w w' : World} (hf : ∀ b, P b → w'.heap[b]? = w.heap[b]?) (L : Vo) : ∀ b off, P b → VoAt P w L b off → VoAt P w' L b off := by
  induction L with
  | nil => intros; trivial
  | cons h kids rest ih1 ih2 =>
    rintro b off hp ⟨⟨tv, mv, a, cap, hd, hr, h1, h2, h3, h4⟩, h5⟩
    refine ⟨⟨tv, mv, a, cap, hd.keep hf, range_same hr (hf b hp), h1, h2, h3, fun h0 => ?_⟩, ih2 b (off + 9) hp h5⟩
    obtain ⟨b', off', e, hp', hk⟩ := h4 h0
    exact ⟨b', off', e, hp', ih1 b' off' hp' hk⟩
theorem voAt_mono {P Q : Nat → Prop} {w : World} (hq : ∀ b, P b → Q b) (L : Vo) : ∀ b off, VoAt P w L b off → VoAt Q w L b off := by
  induction L with
  | nil => intros; trivial
  | cons h kids rest ih1 ih2 =>
    rintro b off ⟨⟨tv, mv, a, cap, hd, hr, h1, h2, h3, h4⟩, h5⟩
    refine ⟨⟨tv, mv, a, cap, hd.mono hq, hr, h1, h2, h3, fun h0 => ?_⟩, ih2 b (off + 9) h5⟩
    obtain ⟨b', off', e, hp', hk⟩ := h4 h0
    exact ⟨b', off', e, hq b' hp', ih1 b' off' hk⟩
theorem VoP.keep {P : Nat → Prop} {w w' : World} {v : Value} {L : Vo} (h : VoP P w v L) (hf : ∀ b, P b → w'.heap[b]? = w.heap[b]?) : VoP P w' v L := by
  obtain ⟨a, cap, rfl, h1, h2, h3, h4⟩ := h
  refine ⟨a, cap, rfl, h1, h2, h3, fun h0 => ?_⟩
  obtain ⟨b, off, e, hl, hk⟩ := h4 h0
  exact ⟨b, off, e, hl, voAt_keep hf L b off hl hk⟩
theorem VoP.mono {P Q : Nat → Prop} {w : World} {v : Value} {L : Vo} (h : VoP P w v L) (hq : ∀ b, P b → Q b) : VoP Q w v L := by
  obtain ⟨a, cap, rfl, h1, h2, h3, h4⟩ := h
  refine ⟨a, cap, rfl, h1, h2, h3, fun h0 => ?_⟩
  obtain ⟨b, off, e, hl, hk⟩ := h4 h0
  exact ⟨b, off, e, hq b hl, voAt_mono hq L b off hk⟩
theorem in_keep {w w' : World} (hb : Below w.heap.size w w') : (∀ b, In w b → w'.heap[b]? = w.heap[b]?) ∧ ∀ b, In w b → In w' b :=
  ⟨fun b h => hb.block b h, fun b h => Nat.lt_of_lt_of_le h hb.size⟩
theorem VoP.below {w w' : World} {v : Value} {L : Vo} (h : VoS w v L) (hb : Below w.heap.size w w') : VoS w' v L := (VoP.keep h (in_keep hb).1).mono (in_keep hb).2
theorem HdP.below {w w' : World} {h : Vh} {tv mv : Value} (x : HdS w h tv mv) (hb : Below w.heap.size w w') : HdS w' h tv mv := (HdP.keep x (in_keep hb).1).mono (in_keep hb).2
theorem VoP.slice {P : Nat → Prop} {w : World} {v : Value} {L : Vo} (h : VoP P w v L) : ∃ a cap, v = .slice a L.len cap := by obtain ⟨a, cap, rfl, _⟩ := h; exact ⟨a, cap, rfl⟩
theorem voP_nil (P : Nat → Prop) (w : World) : VoP P w (.slice none 0 0) .nil := ⟨none, 0, rfl, by simp [Vo.len], by decide, fun _ => rfl, fun h => by simp [Vo.len] at h⟩
theorem voAt_get {P : Nat → Prop} {w : World} (L : Vo) : ∀ b off j h kids, VoAt P w L b off → L.at? j = some (h, kids) →
    ∃ tv mv v, HdP P w h tv mv ∧ w.rangeAt b (off + j * 9) (vvl h tv v mv) ∧ VoP P w v kids := by
  induction L with
  | nil => intro b off j h kids _ e; simp [Vo.at?] at e
  | cons h0 kids0 rest ih1 ih2 =>
    rintro b off j h kids ⟨⟨tv, mv, a, cap, hd, hr, h1, h2, h3, h4⟩, h5⟩ hj
    cases j with
    | zero =>
      simp only [Vo.at?, Option.some.injEq, Prod.mk.injEq] at hj
      obtain ⟨rfl, rfl⟩ := hj
      rw [Nat.zero_mul, Nat.add_zero]
      exact ⟨tv, mv, _, hd, hr, a, cap, rfl, h1, h2, h3, h4⟩
    | succ j =>
      have := ih2 b (off + 9) j h kids h5 hj
      rw [show off + (j + 1) * 9 = off + 9 + j * 9 by omega]
      exact this
end Go.Proofs.YtbfnlgmhfhaglaaGreatDoor
