/- Texts of ours in one: ARight VAppG APie YRow. -/
import Derived.Test.YtbfnlgmhfhaglaaGreatDoorQk09
import Derived.Test.YtbfnlgmhfhaglaaGreatDoorQk13
import Derived.Test.YtbfnlgmhfhaglaaGreatDoorQk14
import Derived.Test.YtbfnlgmhfhaglaaGreatDoorQk02
import Derived.Maps.AppendAt
import Derived.OneCell
import Derived.Laws.StructEq
import Derived.ChangeKeysEq
import Derived.Test.YtbfnlgmhfhaglaaGreatDoorQk10
import Derived.Deep.AppendLies
import Derived.Deep.RegionHeld3
import Derived.Deep.QuietTactic
import Derived.BigQuiet
import Derived.OrdersHeld
import Derived.Deep.MidRow
import Derived.Laws.OwnMore
/- Values of any shape: may be (jmin.Right), plain; jmin.rightKeys, rightItems. -/
namespace Go.Proofs.YtbfnlgmhfhaglaaGreatDoor
open Go.RowKit
set_option linter.unusedVariables false
set_option linter.unusedSimpArgs false

def nnum (h : Vh) : Bool := !h.ng && h.dg.isEmpty && h.ex.isEmpty
def evK : Bool → Vo → Bool
  | _, .nil => true
  | e, .cons h _ r => (!e || decide (h.k = 3)) && evK (!e) r
def nlist (h : Vh) (n : Nat) : Bool := decide (n = 0) && decide (h.ms.length = 0) && decide (h.tt = 0)
def keysB (h : Vh) (L : Vo) : Bool := decide (h.k ≠ 1) || (evK true L && decide (L.len % 2 = 0))
def marksB (h : Vh) (n : Nat) : Bool := decide (0 ≤ h.tt) && decide (h.ms.length = n - 1) && h.ms.all (fun z => decide (0 ≤ z))
def headB (h : Vh) (n : Nat) (d : Nat) (kb : Bool) : Bool :=
  decide (0 ≤ h.fr) && (if h.k = 1 ∨ h.k = 2 then decide (h.tx.length = 0) && nnum h && decide (0 < d) && kb
    else if h.k = 3 then nnum h && nlist h n && M.rightU h.tx
    else if h.k = 4 then decide (h.tx.length = 0) && nlist h n && M.rightN h.dg h.ex
    else if h.k = 5 ∨ h.k = 6 ∨ h.k = 7 then decide (h.tx.length = 0) && nnum h && nlist h n else false)
def rightVo : Vo → Nat → Bool
  | .nil, _ => true
  | .cons h kids rest, d => headB h kids.len d (marksB h kids.len && keysB h kids && rightVo kids (d - 1)) && rightVo rest d
def rightH (h : Vh) (kids : Vo) (d : Nat) : Bool := headB h kids.len d (marksB h kids.len && keysB h kids && rightVo kids (d - 1))
theorem rightVo_cons (h : Vh) (kids rest : Vo) (d : Nat) : rightVo (.cons h kids rest) d = (rightH h kids d && rightVo rest d) := rfl
def VB (w : World) (b : Nat) (h : Vh) (tv v mv : Value) : Prop := w.heap[b]? = some (.cells (vv h tv v mv) 27 (0, 0))
theorem VB.lt {w : World} {b : Nat} {h : Vh} {tv v mv : Value} (x : VB w b h tv v mv) : b < w.heap.size := (Array.getElem?_eq_some_iff.1 x).1
theorem VB.new (w : World) (h : Vh) (tv v mv : Value) : VB (w.alloc (.cells (vv h tv v mv) 27)) w.heap.size h tv v mv := heap_alloc_new w _
theorem VB.frame {w w' : World} {b : Nat} {h : Vh} {tv v mv : Value} (x : VB w b h tv v mv) (hb : w'.heap[b]? = w.heap[b]?) : VB w' b h tv v mv := by unfold VB; rw [hb]; exact x
theorem VB.keep {w w' : World} {b : Nat} {h : Vh} {tv v mv : Value} (x : VB w b h tv v mv) (hb : Below w.heap.size w w') : VB w' b h tv v mv := x.frame (hb.block b x.lt)
theorem VB.range {w : World} {b : Nat} {h : Vh} {tv v mv : Value} (x : VB w b h tv v mv) : w.rangeAt b 0 (vvl h tv v mv) := fun j u hu => by
  rw [Nat.zero_add, cell_of_row w b j _ _ _ x]
  exact (by simpa [vv] using hu)
theorem VB.cells {w : World} {b : Nat} {h : Vh} {tv v mv : Value} (x : VB w b h tv v mv) :
    w.cell? ⟨b, 0, none⟩ = some (.int .i64 h.k) ∧ w.cell? ⟨b, 1, none⟩ = some tv ∧ w.cell? ⟨b, 2, none⟩ = some (.bool h.ng) ∧ w.cell? ⟨b, 3, none⟩ = some (.string (bytes h.dg)) ∧ w.cell? ⟨b, 4, none⟩ = some (.string (bytes h.ex)) ∧ w.cell? ⟨b, 5, none⟩ = some v ∧ w.cell? ⟨b, 6, none⟩ = some (.int .i64 h.fr) ∧ w.cell? ⟨b, 7, none⟩ = some (.int .i64 h.tt) ∧ w.cell? ⟨b, 8, none⟩ = some mv :=
  ⟨x.range 0 _ rfl, x.range 1 _ rfl, x.range 2 _ rfl, x.range 3 _ rfl, x.range 4 _ rfl, x.range 5 _ rfl, x.range 6 _ rfl, x.range 7 _ rfl, x.range 8 _ rfl⟩
end Go.Proofs.YtbfnlgmhfhaglaaGreatDoor
/- append of structs onto structs of the call's own, with word of which block the row lies in behind it: no other changes. -/
namespace Go.Proofs.YtbfnlgmhfhaglaaGreatDoor
open Go.RowKit
set_option linter.unusedVariables false

theorem wpl_appendVG {w : World} {ops : Array Oper} {rest : List Oper} {o : Oper} {a : Act} {Q : Exit → Act → World → Prop} {E T sz bytes : Nat} {z : Value} (hgd : o.guard = none) (s x : Operand)
    (ho : o.op = .call { callee := .builtin .append, args := #[s, x], argTypes := #[T, T] }) (hT : Tryz.prog.underlying T = some (.slice E)) (hinfo : (Tryz.prog.info? E).map (fun i => (i.zero, i.size, i.bytes)) = some (some z, sz, bytes)) (hz : z.cells.size = sz) (h0 : 0 < sz)
    (B : Nat) (v u : Value) (l k t : List (List Value)) (hs : a.eval s = v) (hown : OwnV E sz B w v l) (hx : a.eval x = u) (hu : Vs sz w u k) (hnn : NNv u) (hk : ∀ y ∈ k, y.length = sz) (hk1 : ∀ y ∈ k, ∀ c ∈ y, c.oneCell' = true)
    (hlen : (l.length + k.length) * bytes ≤ 140737488355328) (hb0 : 0 < bytes) (hB : B ≤ w.heap.size) (ht : l ++ k = t)
    (h : ∀ v' w', OwnV E sz B w' v' t → Below B w w' → (∀ j, j < w.heap.size → some j ≠ v.ownBlock → w'.heap[j]? = w.heap[j]?) → (v'.ownBlock = v.ownBlock ∨ v'.ownBlock = some w.heap.size) → wpList Tryz.prog ops Q rest (a.put o.dst v') w') : wpList Tryz.prog ops Q (o :: rest) a w := by
  subst ht
  obtain ⟨i0, hi, hz0, hz1, hz2⟩ := info_parts hinfo
  obtain ⟨ad, cap, rfl, h1, h2, h3⟩ := hu
  obtain ⟨hown, hsz, hone⟩ := hown
  have hlt := World.ownsRow.lt hown
  have hmax : l.length + k.length ≤ 140737488355328 := Nat.le_trans (Nat.le_mul_of_pos_right _ hb0) hlen
  have hall : (∀ y ∈ l ++ k, y.length = sz) ∧ ∀ y ∈ l ++ k, ∀ c ∈ y, c.oneCell' = true := by
    refine ⟨fun y hy => ?_, fun y hy => ?_⟩
    · rcases List.mem_append.1 hy with hy | hy
      · exact hsz y hy
      · exact hk y hy
    · rcases List.mem_append.1 hy with hy | hy
      · exact hone y hy
      · exact hk1 y hy
  cases ad with
  | none =>
    have hk0 : k = [] := by
      cases k with
      | nil => rfl
      | cons c k => obtain ⟨b, off, h, _⟩ := h3 (by simp); exact absurd h (by simp)
    subst hk0
    obtain rfl := hnn _ _ rfl
    refine wpList_append_own_none hgd s x T ho B E i0 sz hT hi v l.length l.flatten hs hown hx ?_
    exact h v w (by rw [List.append_nil]; exact ⟨hown, hsz, hone⟩) (Below.refl _ _) (fun _ _ _ => rfl) (.inl rfl)
  | some ad =>
    have hcs : ∀ j c, k.flatten[j]? = some c → w.cell? (ad.add j) = some c := by
      intro j c hj
      have hjl := (List.getElem?_eq_some_iff.1 hj).1
      rw [flat_len k hk] at hjl
      have hk0 : 0 < k.length := by
        rcases Nat.eq_zero_or_pos k.length with e | e
        · rw [e, Nat.zero_mul] at hjl; omega
        · exact e
      obtain ⟨b, off, hab, _, hc⟩ := h3 hk0
      obtain rfl : ad = ⟨b, off, none⟩ := by simpa using hab
      have hq : j / sz < k.length := by rw [Nat.div_lt_iff_lt_mul h0]; exact hjl
      have hm : j % sz < sz := Nat.mod_lt _ h0
      have he : j / sz * sz + j % sz = j := by rw [Nat.mul_comm]; exact Nat.div_add_mod j sz
      have hf := flat_get k hk (j / sz) hq (j % sz) hm
      rw [he, hj] at hf
      rw [Go.WideShapes.add_plain]
      have := hc (j / sz) hq (j % sz) c hf.symm
      rwa [he] at this
    refine wpList_append_own_at _ hgd s x T ho B E i0 z sz bytes hT hi hz0 hz1 hz2 hz h0 v l.length l.flatten hs hown ad k.length cap k.flatten hx (flat_len k hk) hcs (fun u hu => ?_) (by unfold maxLen; omega) hlen hB ?_
    · obtain ⟨y, hy, hu⟩ := List.mem_flatten.1 hu
      exact hk1 y hy u hu
    · intro v' w' hown' hg _ hwh
      refine h v' w' ⟨?_, hall.1, hall.2⟩ ((Below.refl B w).grown hg hB (fun j hj => (hlt j hj).1)) (fun j h1 h2 => hg.block j h1 h2) hwh
      rw [← List.flatten_append, ← List.length_append] at hown'
      exact hown'
theorem OwnV.setOther {E sz B : Nat} {w : World} {v : Value} {l : List (List Value)} (h : OwnV E sz B w v l) (a : Addr) (u : Value) (hne : v.ownBlock ≠ some a.block) : OwnV E sz B (w.setCell a u) v l :=
  ⟨ownsRow_setCell_other h.1 hne u, h.2.1, h.2.2⟩
end Go.Proofs.YtbfnlgmhfhaglaaGreatDoor
/- Values of any shape: jmin.Pieces, what it gives, plain; jmin.single, mark. -/
namespace Go.Proofs.YtbfnlgmhfhaglaaGreatDoor
open Go.RowKit
set_option linter.unusedVariables false
set_option linter.unusedSimpArgs false

abbrev Jp := List UInt8 × Int
def pcv (p : Jp) : List Value := [.string (bytes p.1), .int .i64 p.2]
def sglB (h : Vh) : List UInt8 := if h.k = 3 then M.spell (h.tx.map Int.toNat) else if h.k = 4 then M.shortN (M.plainN h.ng h.dg h.ex) else if h.k = 5 then [116, 114, 117, 101] else if h.k = 6 then [102, 97, 108, 115, 101] else [110, 117, 108, 108]
def mkB (k : Int) (i : Nat) : List UInt8 := if k = 1 ∧ i % 2 = 1 then [58] else [44]
def opB (k : Int) : List UInt8 := if k = 1 then [123] else [91]
def clB (k : Int) : List UInt8 := if k = 1 then [125] else [93]
def pcsL (k : Int) (ms : List Int) : Vo → Nat → List Jp
  | .nil, _ => []
  | .cons h kids rest, i => (if 0 < i then [(mkB k i, ms.getD (i - 1) 0)] else []) ++ ((if h.k = 1 ∨ h.k = 2 then (opB h.k, h.fr) :: (pcsL h.k h.ms kids 0 ++ [(clB h.k, h.tt)]) else [(sglB h, h.fr)]) ++ pcsL k ms rest (i + 1))
def pcsV (h : Vh) (kids : Vo) : List Jp := if h.k = 1 ∨ h.k = 2 then (opB h.k, h.fr) :: (pcsL h.k h.ms kids 0 ++ [(clB h.k, h.tt)]) else [(sglB h, h.fr)]
theorem pcsL_cons (k : Int) (ms : List Int) (h : Vh) (kids rest : Vo) (i : Nat) : pcsL k ms (.cons h kids rest) i = (if 0 < i then [(mkB k i, ms.getD (i - 1) 0)] else []) ++ (pcsV h kids ++ pcsL k ms rest (i + 1)) := rfl
end Go.Proofs.YtbfnlgmhfhaglaaGreatDoor
/- Rows of structs of the call's own: a whole struct is stored in the midst of a row; blocks of known cells. -/
namespace Go.Proofs.YtbfnlgmhfhaglaaGreatDoor
open Go.RowKit
set_option linter.unusedVariables false
set_option linter.unusedSimpArgs false

def setL (xs : List Value) : Nat → List Value → List Value
  | _, [] => xs
  | o, v :: r => setL (xs.set o v) (o + 1) r
theorem setL_append (vs : List Value) : ∀ (A Z : List Value), Z.length = vs.length → setL (A ++ Z) A.length vs = A ++ vs := by
  induction vs with
  | nil => intro A Z h; simp only [List.length_nil, List.length_eq_zero_iff] at h; subst h; rfl
  | cons v r ih =>
    intro A Z h
    cases Z with
    | nil => simp at h
    | cons z Z =>
      simp only [setL]
      have e : (A ++ z :: Z).set A.length v = (A ++ [v]) ++ Z := by simp
      rw [e]
      have := ih (A ++ [v]) Z (by simpa using h)
      simp only [List.length_append, List.length_singleton] at this
      rw [this]; simp
theorem setCells_other (g : Nat) (vs : List Value) : ∀ (o : Nat) (w : World) (k : Nat), k ≠ g → (w.setCells g o vs).heap[k]? = w.heap[k]? := by
  induction vs with
  | nil => intro o w k _; rfl
  | cons v r ih => intro o w k h; rw [World.setCells, ih _ _ _ h, heap_setCell_other _ _ _ _ h]
theorem below_setCells {B : Nat} {a w : World} (h : Below B a w) {g : Nat} (hg : B ≤ g) (vs : List Value) : ∀ (o : Nat), Below B a (w.setCells g o vs) := by
  induction vs generalizing w with
  | nil => intro o; exact h
  | cons v r ih => intro o; exact ih (h.setCell hg v) (o + 1)
theorem ownsRow_setCells {base e size n g cap : Nat} (vs : List Value) : ∀ (w : World) (xs : List Value) (o : Nat), w.ownsRow base e size (.slice (some ⟨g, 0, none⟩) n cap) n xs → (w.setCells g o vs).ownsRow base e size (.slice (some ⟨g, 0, none⟩) n cap) n (setL xs o vs) := by
  induction vs with
  | nil => intro w xs o h; exact h
  | cons v r ih => intro w xs o h; exact ih _ _ _ (h.stored o v).1
theorem ownsRow_there {w : World} {base e size n g cap : Nat} {xs : List Value} (h : w.ownsRow base e size (.slice (some ⟨g, 0, none⟩) n cap) n xs) (o k : Nat) (hk : o + k ≤ n * size) : w.there g o k := by
  intro j hj
  have hl := h.1
  have hlt : o + j < xs.length := by omega
  have := World.ownsRow.cells h rfl (o + j) xs[o + j] (List.getElem?_eq_getElem hlt)
  rw [Addr.add_mid, Nat.zero_add] at this
  exact ⟨by rw [this]; rfl, h.frozenAt (o + j)⟩
theorem OwnV.setLast {E sz B : Nat} {w : World} {g cap n : Nat} {l : List (List Value)} {z y : List Value} (h : OwnV E sz B w (.slice (some ⟨g, 0, none⟩) n cap) (l ++ [z])) (hn : l.length + 1 = n) (hy : y.length = sz) (hy1 : ∀ c ∈ y, c.oneCell' = true) :
    OwnV E sz B (w.setCells g (l.length * sz) y) (.slice (some ⟨g, 0, none⟩) n cap) (l ++ [y]) := by
  obtain ⟨h1, h2, h3⟩ := h
  have hz : z.length = sz := h2 z (by simp)
  have hl : l.flatten.length = l.length * sz := flat_len l fun x hx => h2 x (by simp [hx])
  rw [List.length_append, List.length_singleton, hn] at h1
  have := ownsRow_setCells y w _ (l.length * sz) h1
  rw [List.flatten_append, ← hl, List.flatten_singleton, setL_append y _ _ (by rw [hz, hy])] at this
  refine ⟨?_, fun x hx => ?_, fun x hx => ?_⟩
  · rw [List.length_append, List.length_singleton, hn, List.flatten_append, List.flatten_singleton, ← hl]
    exact this
  · rcases List.mem_append.1 hx with hx | hx
    · exact h2 x (by simp [hx])
    · rw [List.mem_singleton.1 hx]; exact hy
  · rcases List.mem_append.1 hx with hx | hx
    · exact h3 x (by simp [hx])
    · rw [List.mem_singleton.1 hx]; exact hy1
theorem OwnV.pop {E sz B : Nat} {w : World} {v : Value} {l : List (List Value)} {y : List Value} (h : OwnV E sz B w v (l ++ [y])) : ∃ g cap, v = .slice (some ⟨g, 0, none⟩) (l.length + 1) cap ∧ l.length + 1 ≤ cap ∧ cap ≤ maxLen ∧ B ≤ g ∧ g < w.heap.size ∧
    OwnV E sz B w (.slice (some ⟨g, 0, none⟩) l.length cap) l ∧ w.rangeAt g (l.length * sz) y := by
  obtain ⟨h1, h2, h3⟩ := h
  have hl : l.flatten.length = l.length * sz := flat_len l fun x hx => h2 x (by simp [hx])
  have hlt := World.ownsRow.lt h1
  have hcs := h1
  obtain ⟨e1, ⟨_, h0⟩ | ⟨g, cap, cur, rfl, hb, hg, hc, hm, hs, ht⟩⟩ := h1
  · simp at h0
  · rw [List.length_append, List.length_singleton] at hc ht e1 hcs ⊢
    refine ⟨g, cap, rfl, hc, hm, hb, (hlt g rfl).2, ⟨⟨hl, .inr ⟨g, cap, cur, rfl, hb, hg, by omega, hm, hs, ?_⟩⟩, fun x hx => h2 x (by simp [hx]), fun x hx => h3 x (by simp [hx])⟩, fun j u hu => ?_⟩
    · have := congrArg (List.take (l.length * sz)) ht
      rw [List.take_take, Nat.min_eq_left (by rw [Nat.add_mul]; omega), List.flatten_append, List.take_left' hl] at this
      exact this
    · have := World.ownsRow.cells hcs rfl (l.length * sz + j) u (by
        rw [List.flatten_append, List.flatten_singleton, List.getElem?_append_right (by omega), hl, Nat.add_sub_cancel_left]; exact hu)
      rw [Addr.add_mid, Nat.zero_add] at this
      exact this
theorem own_in {E sz B : Nat} {w : World} {v : Value} {l : List (List Value)} (h : OwnV E sz B w v l) : ∀ j, v.ownBlock = some j → B ≤ j ∧ j < w.heap.size := fun j hj => World.ownsRow.lt h.1 j hj
def BK (T : TypeId) (w : World) (b : Nat) (cs : Array Value) : Prop := w.heap[b]? = some (.cells cs T (0, 0))
theorem BK.new (T : TypeId) (w : World) (cs : Array Value) : BK T (w.alloc (.cells cs T)) w.heap.size cs := heap_alloc_new w _
theorem BK.lt {T : TypeId} {w : World} {b : Nat} {cs : Array Value} (h : BK T w b cs) : b < w.heap.size := (Array.getElem?_eq_some_iff.1 h).1
theorem BK.cell {T : TypeId} {w : World} {b : Nat} {cs : Array Value} (h : BK T w b cs) (j : Nat) : w.cell? ⟨b, j, none⟩ = cs[j]? := cell_of_row w b j cs _ _ h
theorem BK.keep {T : TypeId} {w w' : World} {b : Nat} {cs : Array Value} (h : BK T w b cs) (hb : Below w.heap.size w w') : BK T w' b cs := by
  unfold BK; rw [hb.block b h.lt]; exact h
theorem BK.keepB {T : TypeId} {B : Nat} {w w' : World} {b : Nat} {cs : Array Value} (h : BK T w b cs) (hb : Below B w w') (hB : b < B) : BK T w' b cs := by
  unfold BK; rw [hb.block b hB]; exact h
theorem BK.frame {T : TypeId} {w w' : World} {b : Nat} {cs : Array Value} (h : BK T w b cs) (hb : w'.heap[b]? = w.heap[b]?) : BK T w' b cs := by
  unfold BK; rw [hb]; exact h
theorem BK.set {T : TypeId} {w : World} {b : Nat} {cs : Array Value} (h : BK T w b cs) (ds : Array Value) : BK T (w.setRow b ds) b ds := setRow_heap w b cs ds _ _ h
theorem BK.setCell {T : TypeId} {w : World} {b : Nat} {cs : Array Value} (h : BK T w b cs) (j : Nat) (u : Value) : BK T (w.setCell ⟨b, j, none⟩ u) b (cs.setIfInBounds j u) := heap_setCell_same w b j cs T u h
theorem BK.other {T : TypeId} {w : World} {b : Nat} {cs : Array Value} (h : BK T w b cs) {c : Nat} (hne : b ≠ c) (j : Nat) (u : Value) : BK T (w.setCell ⟨c, j, none⟩ u) b cs := by
  unfold BK; rw [heap_setCell_other _ _ _ _ hne]; exact h
theorem BK.range {T : TypeId} {w : World} {b : Nat} {cs : Array Value} (h : BK T w b cs) (o : Nat) (vs : List Value) (hv : ∀ j u, vs[j]? = some u → cs[o + j]? = some u) : w.rangeAt b o vs := fun j u hu => (h.cell (o + j)).trans (hv j u hu)
theorem BK.there {T : TypeId} {w : World} {b : Nat} {cs : Array Value} (h : BK T w b cs) (o k : Nat) (hk : o + k ≤ cs.size) : w.there b o k := fun j hj =>
  ⟨by rw [h.cell, Array.getElem?_eq_getElem (by omega)]; rfl, frozen_of_row w b (o + j) cs T h⟩
def setA (cs : Array Value) : Nat → List Value → Array Value
  | _, [] => cs
  | o, v :: r => setA (cs.setIfInBounds o v) (o + 1) r
theorem BK.setCells {T : TypeId} {b : Nat} (vs : List Value) : ∀ (w : World) (cs : Array Value) (o : Nat), BK T w b cs → BK T (w.setCells b o vs) b (setA cs o vs) := by
  induction vs with
  | nil => intro w cs o h; exact h
  | cons v r ih => intro w cs o h; exact ih _ _ _ (h.setCell o v)
theorem rangeAt_keep {w w' : World} {b o : Nat} {cs : List Value} (h : w.rangeAt b o cs) (hb : w'.heap[b]? = w.heap[b]?) : w'.rangeAt b o cs := fun j u hu => by
  have := h j u hu
  unfold World.cell? at this ⊢
  rw [hb]; exact this
theorem wp_appV {w : World} {o : Oper} {a : Act} {K : Act → World → Prop} {Q : Exit → Act → World → Prop} {E T sz bytes : Nat} {z : Value} (s x : Operand)
    (ho : o.op = .call { callee := .builtin .append, args := #[s, x], argTypes := #[T, T] }) (hT : Tryz.prog.underlying T = some (.slice E)) (hinfo : (Tryz.prog.info? E).map (fun i => (i.zero, i.size, i.bytes)) = some (some z, sz, bytes)) (hz : z.cells.size = sz) (h0 : 0 < sz)
    (B : Nat) (v : Value) (l t : List (List Value)) (y : List Value) (bz c n : Nat) (hn : l.length = n) (hs : a.eval s = v) (hown : OwnV E sz B w v l) (hx : a.eval x = .slice (some ⟨bz, 0, none⟩) 1 c) (hu : w.rangeAt bz 0 y) (hy : y.length = sz) (hy1 : ∀ c ∈ y, c.oneCell' = true)
    (hlen : (n + 1) * bytes ≤ 140737488355328) (hb0 : 0 < bytes) (hB : B ≤ w.heap.size) (ht : l ++ [y] = t)
    (h : ∀ g cap w', OwnV E sz B w' (.slice (some ⟨g, 0, none⟩) (n + 1) cap) t → Below B w w' → (∀ j, j < w.heap.size → some j ≠ v.ownBlock → w'.heap[j]? = w.heap[j]?) → (v.ownBlock = some g ∨ g = w.heap.size) → g < w'.heap.size → K (a.put o.dst (.slice (some ⟨g, 0, none⟩) (n + 1) cap)) w') : o.wp Tryz.prog a w K Q := by
  subst ht
  subst hn
  obtain ⟨i0, hi, hz0, hz1, hz2⟩ := info_parts hinfo
  obtain ⟨hown, hsz, hone⟩ := hown
  have hlt := World.ownsRow.lt hown
  have hmax : l.length + 1 ≤ 140737488355328 := Nat.le_trans (Nat.le_mul_of_pos_right _ hb0) hlen
  refine wp_append_lies w s x T ho B E i0 z sz bytes hT hi hz0 hz1 hz2 hz h0 v l.length l.flatten hs hown ⟨bz, 0, none⟩ 1 c y hx (by rw [hy, Nat.one_mul]) (fun j u hu' => by rw [Addr.add_mid]; exact hu j u hu') hy1 (by decide) (by unfold maxLen; omega) hlen hB _ rfl ?_
  intro g cap w' hown' hg hgo hgl
  refine h g cap w' ⟨?_, ?_, ?_⟩ ((Below.refl B w).grown hg hB (fun j hj => (hlt j hj).1)) (fun j h1 h2 => hg.block j h1 h2) hgo hgl
  · have e : (l ++ [y]).flatten = l.flatten ++ y := by simp
    rw [e, List.length_append]
    exact hown'
  · intro q hq
    rcases List.mem_append.1 hq with hq | hq
    · exact hsz q hq
    · rw [List.mem_singleton.1 hq]; exact hy
  · intro q hq
    rcases List.mem_append.1 hq with hq | hq
    · exact hone q hq
    · rw [List.mem_singleton.1 hq]; exact hy1
theorem wpl_stK {T : TypeId} {sz : Nat} (hinfo : (Tryz.prog.info? T).map (·.size) = some sz) {ops : Array Oper} {rest : List Oper} {o : Oper} {a : Act} {w : World} {Q : Exit → Act → World → Prop} (hgd : o.guard = none) (x y : Operand) (ho : o.op = .store T x y)
    (g : Nat) (old cells : Array Value) (hx : a.eval x = .pointer (some ⟨g, 0, none⟩)) (hy : a.eval y = .agg cells) (hg : BK T w g old) (hs : old.size = sz) (hc : cells.size = sz) (h1 : cells.all (·.oneCell') = true)
    (h : wpList Tryz.prog ops Q rest (a.put o.dst undef) (w.setRow g cells)) : wpList Tryz.prog ops Q (o :: rest) a w :=
  wpList_store_row hgd T x y ho g cells hx hy T old hg (by rw [hc]; exact hinfo) (by rw [hs, hc]) h1 h
theorem res_bk {T : TypeId} {sz : Nat} {d : TypeDesc} (hu : Tryz.prog.underlying T = some d) (hd : d.isRow = true) (hinfo : (Tryz.prog.info? T).map (·.size) = some sz) {fn : Func} {p : Tmp} (h : fn.results = #[.cell p T]) (tmps : Array Value) (w : World) (g : Nat) (cs : List Value)
    (hp : tmps.getD p undef = .pointer (some ⟨g, 0, none⟩)) (hg : BK T w g cs.toArray) (hs : cs.length = sz) :
    (results fn tmps).run Tryz.prog w = .ok (.agg cs.toArray) w := by
  have e : (results fn tmps).run Tryz.prog w = ((asAddr (tmps.getD p undef)).run Tryz.prog w).andThen fun a w₁ => (loadVar T a).run Tryz.prog w₁ := by
    simp only [results, h]
    simp [Sem.run_bind, Result.andThen]
  rw [e, hp]
  have : (asAddr (.pointer (some ⟨g, 0, none⟩))).run Tryz.prog w = .ok ⟨g, 0, none⟩ w := rfl
  rw [this]
  simp only [Result.andThen]
  exact run_loadVar_mid w g 0 T cs d (hg.range 0 cs (by intro j u h; simpa using h)) hu hd (by rw [hs]; exact hinfo)
theorem below_setRowK {B : Nat} {a w : World} (h : Below B a w) {g : Nat} (hg : B ≤ g) (cs : Array Value) : Below B a (w.setRow g cs) :=
  ⟨h.os, h.tape, h.output, by rw [setRow_size]; exact h.size, fun k hk => by rw [setRow_other w g k cs (by omega)]; exact h.block k hk⟩
end Go.Proofs.YtbfnlgmhfhaglaaGreatDoor
