/- Texts of ours in one: JgB WTabs WTied. -/
import Derived.Test.YtbfnlgmhfhaglaaGreatDoorRows
import Derived.Test.YtbfnlgmhfhaglaaGreatDoorQk00
import Derived.WalkKit
import Derived.ProofKit
import Derived.OpenShut
import Derived.Below
import Derived.Lib.Hide
import Derived.Lib.SlBytesRow
import Derived.IntWalk
import Derived.WalkSpells
import Derived.Lib.LazyBuf
import Derived.Lib.BufferRead
import Derived.Laws.AppendOwnNone
import Derived.OwnWalk
import Derived.Lib.ConvBytes
import Derived.Laws.AppendOwn
import Derived.Laws.MakeOwn
import Derived.Test.YtbfnlgmhfhaglaaGreatDoorQk01
import Derived.Lib.SmallJoins
import Derived.Lib.AppendIntMem
import Derived.Test.YtbfnlgmhfhaglaaGreatDoorCards
import Derived.Test.YtbfnlgmhfhaglaaGreatDoorTie
import Derived.Deep.DeepHandedRow
import Derived.Deep.DeepWitnessRowRef
import Derived.LaidMore
import Derived.Lib.LaidU8T
import Derived.Lib.LaidTab
import Derived.Lib.TrailingZeros
import Derived.Stop.LaidErr
import Derived.PinnedBridge
import Derived.MakeChecks
import Derived.ChangeOld
/- Several texts of ours in one: UBase UApp UConv VBase IBase UPut. -/
/- Bytes in memory: a slice that holds them, a slice of the call's own, a text out of one. -/
namespace Go.Proofs.YtbfnlgmhfhaglaaGreatDoor
open Go.RowKit
set_option linter.unusedVariables false

def tri (r : Int × Int × Bool) : Value := .tuple #[.int .i64 r.1, .int .i64 r.2.1, .bool r.2.2]
def Bs (w : World) (v : Value) (l : List UInt8) : Prop :=
  ∃ a cap, v = .slice a l.length cap ∧ l.length ≤ cap ∧ cap ≤ maxLen ∧ (0 < l.length → ∃ b off, a = some ⟨b, off, none⟩ ∧ b < w.heap.size ∧ ∀ j (h : j < l.length), w.cell? ⟨b, off + j, none⟩ = some (.int .u8 (l[j].toNat : Int)))
theorem Bs.below {B : Nat} {w w' : World} {v : Value} {l : List UInt8} (h : Bs w v l) (hb : Below B w w') (hB : w.heap.size ≤ B) : Bs w' v l := by
  obtain ⟨a, cap, rfl, h1, h2, h3⟩ := h
  refine ⟨a, cap, rfl, h1, h2, fun h0 => ?_⟩
  obtain ⟨b, off, rfl, hlt, hc⟩ := h3 h0
  exact ⟨b, off, rfl, Nat.lt_of_lt_of_le hlt hb.size, fun j hj => by rw [hb.cell (p := ⟨b, off + j, none⟩) (Nat.lt_of_lt_of_le hlt hB)]; exact hc j hj⟩
theorem Bs.keep {w w' : World} {v : Value} {l : List UInt8} (h : Bs w v l) (hb : Below w.heap.size w w') : Bs w' v l := h.below hb (Nat.le_refl _)
def bcells (l : List UInt8) : List Value := l.map fun c => .int .u8 (c.toNat : Int)
theorem bcells_append (k l : List UInt8) : bcells (k ++ l) = bcells k ++ bcells l := by simp [bcells]
def OwnB (B : Nat) (w : World) (v : Value) (l : List UInt8) : Prop := w.ownsRow B 5 1 v l.length (bcells l)
theorem infoB : (Tryz.prog.info? 5).map (fun i => (i.zero, i.size, i.bytes)) = some (some (.int .u8 0), 1, 1) := by kernel_rfl
theorem one_oneCell {l : List UInt8} : ∀ u ∈ bcells l, u.oneCell' = true := by
  intro u hu
  simp only [bcells, List.mem_map] at hu
  obtain ⟨c, _, rfl⟩ := hu
  rfl
theorem bs_cells {w : World} {b off : Nat} {l : List UInt8} (h : ∀ j (h : j < l.length), w.cell? ⟨b, off + j, none⟩ = some (.int .u8 (l[j].toNat : Int))) :
    ∀ j u, (bcells l)[j]? = some u → w.cell? ((⟨b, off, none⟩ : Addr).add j) = some u := by
  intro j u hj
  have hl : j < l.length := by
    have := (List.getElem?_eq_some_iff.1 hj).1
    simpa [bcells] using this
  have : u = .int .u8 (l[j].toNat : Int) := by simpa [bcells, hl] using hj.symm
  subst this
  rw [Go.WideShapes.add_plain]
  exact h j hl

def bytes (l : List UInt8) : ByteArray := ⟨l.toArray⟩
theorem bytes_list (l : List UInt8) : (bytes l).data.toList = l := by simp [bytes]
theorem bytes_size (l : List UInt8) : (bytes l).size = l.length := by simp [bytes, ByteArray.size]

theorem bs_new (w : World) (l : List UInt8) (hl : l.length ≤ 1048576) : Bs (w.alloc (.cells (bcells l).toArray 5)) (.slice (some ⟨w.heap.size, 0, none⟩) l.length l.length) l := by
  refine ⟨_, _, rfl, Nat.le_refl _, by unfold maxLen; omega, fun _ => ⟨w.heap.size, 0, rfl, by simp, fun j hj => ?_⟩⟩
  rw [World.cell?_alloc_at _ _ _ _ rfl]
  simp [bcells, hj]
theorem bs_nil (w : World) : Bs w (.slice none 0 0) [] := ⟨none, 0, rfl, by simp, by decide, fun h => by simp at h⟩

theorem conv_own {B : Nat} {w : World} {v : Value} {l : List UInt8} (h : OwnB B w v l) : (convert 37 9 v).run Tryz.prog w = .ok (.string (bytes l)) w := by
  have hc := h
  obtain ⟨_, ⟨rfl, h0⟩ | ⟨g, cap, cur, rfl, _⟩⟩ := h
  · have : l = [] := List.length_eq_zero_iff.1 h0
    subst this
    exact Lib.run_convert_nil_bytes w 37 9 5 0 Tryz.underlying37 Tryz.underlying5 Tryz.underlying9
  · have hB : Lib.Bytes w g 0 (bytes l) := by
      intro i hi
      have hi' : i < l.length := by simpa [bytes, ByteArray.size] using hi
      have := World.ownsRow.cells hc rfl i (.int .u8 (l[i].toNat : Int)) (by simp [bcells, hi'])
      rw [show (⟨g, 0, none⟩ : Addr).add i = ⟨g, 0 + i, none⟩ by cases i <;> simp [Addr.add]] at this
      rw [this]
      congr 3
    have := Lib.run_convert_whole (P := Tryz.prog) w 37 5 9 Tryz.underlying37 Tryz.underlying5 Tryz.underlying9 g 0 _ hB cap
    rw [bytes_size] at this
    exact this

theorem bs_newm (w : World) (l : List UInt8) (m : Nat × Nat) (hl : l.length ≤ 1048576) : Bs (w.alloc (.cells (bcells l).toArray 5 m)) (.slice (some ⟨w.heap.size, 0, none⟩) l.length l.length) l := by
  refine ⟨_, _, rfl, Nat.le_refl _, by unfold maxLen; omega, fun _ => ⟨w.heap.size, 0, rfl, by simp, fun j hj => ?_⟩⟩
  rw [World.cell?_alloc_mark]
  simp [bcells, hj]
theorem bs_cells_new (w : World) (l : List UInt8) (cs : List Value) (n : Nat) (h : bcells l = cs) (hn : cs.length = n) (hl : l.length ≤ 1048576) :
    Bs (w.alloc (.cells cs.toArray 5)) (.slice (some ⟨w.heap.size, 0, none⟩) n n) l := by
  have := bs_new w l hl
  have e : l.length = n := by rw [← hn, ← h]; simp [bcells]
  rw [h] at this
  simpa [e] using this
theorem ownsRow_keep {B : Nat} {w w' : World} {e : TypeId} {s : Nat} {v : Value} {n : Nat} {xs : List Value} (h : w.ownsRow B e s v n xs) (hb : Below w.heap.size w w') : w'.ownsRow B e s v n xs := by
  obtain ⟨h1, h2 | ⟨g, cap, cur, rfl, a, b, c⟩⟩ := h
  · exact ⟨h1, .inl h2⟩
  · have hg : g < w.heap.size := by
      obtain ⟨hh, _⟩ := Array.getElem?_eq_some_iff.1 b
      exact hh
    exact ⟨h1, .inr ⟨g, cap, cur, rfl, a, by rw [hb.block g hg]; exact b, c⟩⟩
theorem OwnB.keep {B : Nat} {w w' : World} {v : Value} {l : List UInt8} (h : OwnB B w v l) (hb : Below w.heap.size w w') : OwnB B w' v l := ownsRow_keep h hb
end Go.Proofs.YtbfnlgmhfhaglaaGreatDoor

/- append of bytes that came in, nil or not, onto bytes of the call's own. -/
namespace Go.Proofs.YtbfnlgmhfhaglaaGreatDoor
open Go.RowKit

theorem wpl_append {w : World} {ops : Array Oper} {rest : List Oper} {o : Oper} {a : Act} {Q : Exit → Act → World → Prop} (hgd : o.guard = none) (s x : Operand)
    (ho : o.op = .call { callee := .builtin .append, args := #[s, x], argTypes := #[37, 37] })
    (B : Nat) (v u : Value) (l k t : List UInt8) (hs : a.eval s = v) (hown : OwnB B w v l) (hx : a.eval x = u) (hu : Bs w u k) (hz : ∀ n c, u = .slice none n c → c = 0)
    (hlen : l.length + k.length ≤ 4294967296) (hB : B ≤ w.heap.size) (ht : l ++ k = t)
    (h : ∀ v' w', OwnB B w' v' t → Below B w w' → wpList Tryz.prog ops Q rest (a.put o.dst v') w') : wpList Tryz.prog ops Q (o :: rest) a w := by
  subst ht
  obtain ⟨i0, hi, hz0, hz1, hz2⟩ := info_parts infoB
  obtain ⟨ad, cap, rfl, h1, h2, h3⟩ := hu
  have hlt := World.ownsRow.lt hown
  cases ad with
  | none =>
    have h0 : k = [] := by
      cases k with
      | nil => rfl
      | cons c k => obtain ⟨b, off, h, _⟩ := h3 (by simp); exact absurd h (by simp)
    subst h0
    obtain rfl := hz _ _ rfl
    refine wpList_append_own_none hgd s x 37 ho B 5 i0 1 Tryz.underlying37 hi v l.length (bcells l) hs hown hx ?_
    exact h v w (by simpa using hown) (Below.refl _ _)
  | some ad =>
    have hcs : ∀ j c, (bcells k)[j]? = some c → w.cell? (ad.add j) = some c := by
      intro j c hj
      have h0 : 0 < k.length := by
        have := (List.getElem?_eq_some_iff.1 hj).1
        simp [bcells] at this; omega
      obtain ⟨b, off, hab, _, hc⟩ := h3 h0
      obtain rfl : ad = ⟨b, off, none⟩ := by simpa using hab
      exact bs_cells hc j c hj
    refine wpList_append_own _ hgd s x 37 ho B 5 i0 (.int .u8 0) 1 1 Tryz.underlying37 hi hz0 hz1 hz2 rfl (by decide) v l.length (bcells l) hs hown ad k.length cap (bcells k) hx (by simp [bcells]) hcs one_oneCell (by unfold maxLen; omega) (by omega) hB ?_
    intro v' w' hown' hg _
    refine h v' w' ?_ ((Below.refl B w).grown hg hB (fun j hj => (hlt j hj).1))
    rw [← bcells_append, ← List.length_append] at hown'
    exact hown'

theorem row_bs {w : World} {a : Option Addr} {len cap : Nat} {zs : List Int}
    (h : (a = none ∧ len = 0 ∧ cap = 0 ∧ zs = []) ∨ ∃ x, a = some x ∧ len ≤ cap ∧ cap ≤ maxLen ∧ zs.length = cap ∧ (∀ i, i < zs.length → w.cell? (x.add i) = some (.int .u8 (zs.getD i 0))) ∧ ∀ n ∈ zs, (Lit.int .u8 n).wf = true) :
    ∃ l : List UInt8, l.length = len ∧ Bs w (.slice a len cap) l ∧ (∀ n c, Value.slice a len cap = .slice none n c → c = 0) := by
  rcases h with ⟨rfl, rfl, rfl, _⟩ | ⟨x, rfl, hl, hm, hz, hc, hwf⟩
  · exact ⟨[], rfl, bs_nil w, fun n c h => by simp at h; omega⟩
  · refine ⟨(zs.take len).map fun z => z.toNat.toUInt8, by simp; omega, ⟨some x, cap, by simp; omega, by simp; omega, hm, fun h0 => ?_⟩, fun n c h => by simp at h⟩
    have hlz : 0 < zs.length := by simp at h0; omega
    obtain ⟨b, off, rfl, hc2⟩ := ints_at hc hlz
    refine ⟨b, off, rfl, World.block_lt_of_cell? w _ (hc2 0 hlz), fun j hj => ?_⟩
    have hj' : j < zs.length := by simp at hj; omega
    rw [hc2 j hj']
    have hw := hwf zs[j] (List.getElem_mem hj')
    have hb := bounds_u8 hw
    simp only [List.getElem_map, List.getElem_take]
    rw [M.toU8 _ (by omega)]
    simp [hj']
    omega
end Go.Proofs.YtbfnlgmhfhaglaaGreatDoor

/- Bytes out of a text that is no constant. -/
namespace Go.Proofs.YtbfnlgmhfhaglaaGreatDoor
open Go.RowKit
set_option linter.unusedVariables false

theorem bw_size (W : World) (s : ByteArray) : (Lib.bytesWorld W 5 s).heap.size = W.heap.size + 1 := Lib.bytesWorld_size W _ s
theorem bw_below (W : World) (s : ByteArray) : Below W.heap.size W (Lib.bytesWorld W 5 s) :=
  ⟨rfl, rfl, rfl, by rw [bw_size]; omega, fun k hk => Lib.bytesWorld_at_old W _ s k hk⟩
theorem bw_bs (W : World) (s : ByteArray) (hs : s.size ≤ 4294967296) : Bs (Lib.bytesWorld W 5 s) (.slice (some ⟨W.heap.size, 0, none⟩) s.size (grownCap W s.size 0 5)) s.data.toList := by
  have e : s.data.toList.length = s.size := Array.length_toList
  refine ⟨_, grownCap W s.size 0 5, by rw [e], by rw [e]; exact grownCap_ge _ _ _ _, grownCap_le_maxLen _ _ _ _ (by unfold maxLen; omega), fun _ => ⟨W.heap.size, 0, rfl, by rw [bw_size]; omega, fun j hj => ?_⟩⟩
  rw [Nat.zero_add, Lib.bytesWorld_cell W _ s j (by rw [← e]; exact hj)]
  simp [List.getD, List.getElem?_eq_getElem hj]
theorem bw_conv (W : World) (s : ByteArray) : (convert 9 37 (.string s)).run Tryz.prog W = .ok (.slice (some ⟨W.heap.size, 0, none⟩) s.size (grownCap W s.size 0 5)) (Lib.bytesWorld W 5 s) :=
  Lib.run_convert_string_bytes W 9 37 5 s Tryz.underlying9 Tryz.underlying37 Tryz.underlying5
end Go.Proofs.YtbfnlgmhfhaglaaGreatDoor

/- Rows of structs in memory, so many one-cell fields each: a slice that holds them, a slice of the call's own, append. -/
namespace Go.Proofs.YtbfnlgmhfhaglaaGreatDoor
open Go.RowKit
set_option linter.unusedVariables false

def Vs (sz : Nat) (w : World) (v : Value) (l : List (List Value)) : Prop :=
  ∃ a cap, v = .slice a l.length cap ∧ l.length ≤ cap ∧ cap ≤ maxLen ∧ (0 < l.length → ∃ b off, a = some ⟨b, off, none⟩ ∧ b < w.heap.size ∧ ∀ j (h : j < l.length) i u, l[j][i]? = some u → w.cell? ⟨b, off + (j * sz + i), none⟩ = some u)
theorem Vs.below {sz B : Nat} {w w' : World} {v : Value} {l : List (List Value)} (h : Vs sz w v l) (hb : Below B w w') (hB : w.heap.size ≤ B) : Vs sz w' v l := by
  obtain ⟨a, cap, rfl, h1, h2, h3⟩ := h
  refine ⟨a, cap, rfl, h1, h2, fun h0 => ?_⟩
  obtain ⟨b, off, rfl, hlt, hc⟩ := h3 h0
  exact ⟨b, off, rfl, Nat.lt_of_lt_of_le hlt hb.size, fun j hj i u hu => by rw [hb.cell (p := ⟨b, off + (j * sz + i), none⟩) (Nat.lt_of_lt_of_le hlt hB)]; exact hc j hj i u hu⟩
theorem Vs.keep {sz : Nat} {w w' : World} {v : Value} {l : List (List Value)} (h : Vs sz w v l) (hb : Below w.heap.size w w') : Vs sz w' v l := h.below hb (Nat.le_refl _)
def NNv (v : Value) : Prop := ∀ n c, v = .slice none n c → c = 0
theorem nnv_nil : NNv (.slice none 0 0) := fun n c h => by simp at h; omega
theorem nnv_some (a : Addr) (n c : Nat) : NNv (.slice (some a) n c) := fun n c h => by simp at h
def OwnV (E sz B : Nat) (w : World) (v : Value) (l : List (List Value)) : Prop := w.ownsRow B E sz v l.length l.flatten ∧ (∀ x ∈ l, x.length = sz) ∧ ∀ x ∈ l, ∀ u ∈ x, u.oneCell' = true
theorem flat_len {sz : Nat} (l : List (List Value)) (h : ∀ x ∈ l, x.length = sz) : l.flatten.length = l.length * sz := by
  induction l with
  | nil => simp
  | cons a t ih => rw [List.flatten_cons, List.length_append, ih (fun x hx => h x (by simp [hx])), h a (by simp), List.length_cons, Nat.add_mul, Nat.one_mul, Nat.add_comm]
theorem flat_get {sz : Nat} (l : List (List Value)) (h : ∀ x ∈ l, x.length = sz) (j : Nat) (hj : j < l.length) (i : Nat) (hi : i < sz) : l.flatten[j * sz + i]? = (l[j])[i]? := by
  induction l generalizing j with
  | nil => simp at hj
  | cons a t ih =>
    have ha := h a (by simp)
    cases j with
    | zero => rw [List.flatten_cons, List.getElem?_append_left (by omega)]; simp
    | succ j =>
      have e : (j + 1) * sz + i = sz + (j * sz + i) := by rw [Nat.add_mul, Nat.one_mul]; omega
      rw [List.flatten_cons, List.getElem?_append_right (by omega), ha, e, Nat.add_sub_cancel_left, ih (fun x hx => h x (by simp [hx])) j (by simpa using hj)]
      simp
theorem OwnV.vs {E sz B : Nat} {w : World} {v : Value} {l : List (List Value)} (h : OwnV E sz B w v l) : Vs sz w v l := by
  obtain ⟨ho, hs, _⟩ := h
  have hc := ho
  have hlt := World.ownsRow.lt ho
  obtain ⟨_, ⟨rfl, h0⟩ | ⟨g, cap, cur, rfl, _, _, h1, h2, _⟩⟩ := ho
  · exact ⟨none, 0, by rw [h0], by omega, by omega, fun h => by omega⟩
  · refine ⟨_, cap, rfl, h1, h2, fun _ => ⟨g, 0, rfl, (hlt g rfl).2, fun j hj i u hu => ?_⟩⟩
    have hi : i < sz := by
      have := (List.getElem?_eq_some_iff.1 hu).1
      rw [hs _ (List.getElem_mem hj)] at this; exact this
    have hf := flat_get l hs j hj i hi
    have := World.ownsRow.cells hc rfl (j * sz + i) u (by rw [hf]; exact hu)
    rwa [show (⟨g, 0, none⟩ : Addr).add (j * sz + i) = ⟨g, 0 + (j * sz + i), none⟩ by generalize j * sz + i = m; cases m <;> simp [Addr.add]] at this
theorem OwnV.nn {E sz B : Nat} {w : World} {v : Value} {l : List (List Value)} (h : OwnV E sz B w v l) : NNv v := by
  obtain ⟨⟨_, ⟨rfl, h0⟩ | ⟨g, cap, cur, rfl, _⟩⟩, _⟩ := h
  · exact nnv_nil
  · exact nnv_some _ _ _
theorem OwnV.keep {E sz B : Nat} {w w' : World} {v : Value} {l : List (List Value)} (h : OwnV E sz B w v l) (hb : Below w.heap.size w w') : OwnV E sz B w' v l := ⟨ownsRow_keep h.1 hb, h.2.1, h.2.2⟩
theorem ownV_nil (E sz B : Nat) (w : World) : OwnV E sz B w (.slice none 0 0) [] := ⟨World.ownsRow_nil _ _ _ _, by simp, by simp⟩
theorem vs_cells (sz E : Nat) (w : World) (l : List (List Value)) (cs : Array Value) (n : Nat) (h : l.flatten = cs.toList) (hs : ∀ x ∈ l, x.length = sz) (hn : l.length = n) (hl : l.length ≤ 1048576) :
    Vs sz (w.alloc (.cells cs E)) (.slice (some ⟨w.heap.size, 0, none⟩) n n) l := by
  subst hn
  refine ⟨_, _, rfl, Nat.le_refl _, by unfold maxLen; omega, fun _ => ⟨w.heap.size, 0, rfl, by simp, fun j hj i u hu => ?_⟩⟩
  rw [World.cell?_alloc_at _ _ _ _ rfl]
  have hi : i < sz := by
    have := (List.getElem?_eq_some_iff.1 hu).1
    rw [hs _ (List.getElem_mem hj)] at this; exact this
  have hf := flat_get l hs j hj i hi
  rw [h, hu] at hf
  rw [Nat.zero_add, ← Array.getElem?_toList]
  exact hf
theorem wpl_appendV {w : World} {ops : Array Oper} {rest : List Oper} {o : Oper} {a : Act} {Q : Exit → Act → World → Prop} {E T sz bytes : Nat} {z : Value} (hgd : o.guard = none) (s x : Operand)
    (ho : o.op = .call { callee := .builtin .append, args := #[s, x], argTypes := #[T, T] }) (hT : Tryz.prog.underlying T = some (.slice E)) (hinfo : (Tryz.prog.info? E).map (fun i => (i.zero, i.size, i.bytes)) = some (some z, sz, bytes)) (hz : z.cells.size = sz) (h0 : 0 < sz)
    (B : Nat) (v u : Value) (l k t : List (List Value)) (hs : a.eval s = v) (hown : OwnV E sz B w v l) (hx : a.eval x = u) (hu : Vs sz w u k) (hnn : NNv u) (hk : ∀ y ∈ k, y.length = sz) (hk1 : ∀ y ∈ k, ∀ c ∈ y, c.oneCell' = true)
    (hlen : (l.length + k.length) * bytes ≤ 140737488355328) (hb0 : 0 < bytes) (hB : B ≤ w.heap.size) (ht : l ++ k = t)
    (h : ∀ v' w', OwnV E sz B w' v' t → Below B w w' → wpList Tryz.prog ops Q rest (a.put o.dst v') w') : wpList Tryz.prog ops Q (o :: rest) a w := by
  subst ht
  obtain ⟨i0, hi, hz0, hz1, hz2⟩ := info_parts hinfo
  obtain ⟨ad, cap, rfl, h1, h2, h3⟩ := hu
  obtain ⟨hown, hsz, hone⟩ := hown
  have hlt := World.ownsRow.lt hown
  have hmax : l.length + k.length ≤ 140737488355328 := Nat.le_trans (Nat.le_mul_of_pos_right _ hb0) hlen
  have hall : (∀ y ∈ l ++ k, y.length = sz) ∧ ∀ y ∈ l ++ k, ∀ c ∈ y, c.oneCell' = true := by
    refine ⟨fun y hy => ?_, fun y hy => ?_⟩
    · rcases List.mem_append.1 hy with hy | hy
      · exact hsz y hy
      · exact hk y hy
    · rcases List.mem_append.1 hy with hy | hy
      · exact hone y hy
      · exact hk1 y hy
  cases ad with
  | none =>
    have hk0 : k = [] := by
      cases k with
      | nil => rfl
      | cons c k => obtain ⟨b, off, h, _⟩ := h3 (by simp); exact absurd h (by simp)
    subst hk0
    obtain rfl := hnn _ _ rfl
    refine wpList_append_own_none hgd s x T ho B E i0 sz hT hi v l.length l.flatten hs hown hx ?_
    exact h v w (by rw [List.append_nil]; exact ⟨hown, hsz, hone⟩) (Below.refl _ _)
  | some ad =>
    have hcs : ∀ j c, k.flatten[j]? = some c → w.cell? (ad.add j) = some c := by
      intro j c hj
      have hjl := (List.getElem?_eq_some_iff.1 hj).1
      rw [flat_len k hk] at hjl
      have hk0 : 0 < k.length := by
        rcases Nat.eq_zero_or_pos k.length with e | e
        · rw [e, Nat.zero_mul] at hjl; omega
        · exact e
      obtain ⟨b, off, hab, _, hc⟩ := h3 hk0
      obtain rfl : ad = ⟨b, off, none⟩ := by simpa using hab
      have hq : j / sz < k.length := by rw [Nat.div_lt_iff_lt_mul h0]; exact hjl
      have hm : j % sz < sz := Nat.mod_lt _ h0
      have he : j / sz * sz + j % sz = j := by rw [Nat.mul_comm]; exact Nat.div_add_mod j sz
      have hf := flat_get k hk (j / sz) hq (j % sz) hm
      rw [he, hj] at hf
      rw [Go.WideShapes.add_plain]
      have := hc (j / sz) hq (j % sz) c hf.symm
      rwa [he] at this
    refine wpList_append_own _ hgd s x T ho B E i0 z sz bytes hT hi hz0 hz1 hz2 hz h0 v l.length l.flatten hs hown ad k.length cap k.flatten hx (flat_len k hk) hcs (fun u hu => ?_) (by unfold maxLen; omega) hlen hB ?_
    · obtain ⟨y, hy, hu⟩ := List.mem_flatten.1 hu
      exact hk1 y hy u hu
    · intro v' w' hown' hg _
      refine h v' w' ⟨?_, hall.1, hall.2⟩ ((Below.refl B w).grown hg hB (fun j hj => (hlt j hj).1))
      rw [← List.flatten_append, ← List.length_append] at hown'
      exact hown'
end Go.Proofs.YtbfnlgmhfhaglaaGreatDoor

/- Ints in memory: a slice that holds them, a slice of the call's own, append. -/
namespace Go.Proofs.YtbfnlgmhfhaglaaGreatDoor
open Go.RowKit
set_option linter.unusedVariables false

def Is (w : World) (v : Value) (l : List Int) : Prop :=
  ∃ a cap, v = .slice a l.length cap ∧ l.length ≤ cap ∧ cap ≤ maxLen ∧ (0 < l.length → ∃ b off, a = some ⟨b, off, none⟩ ∧ b < w.heap.size ∧ ∀ j (h : j < l.length), w.cell? ⟨b, off + j, none⟩ = some (.int .i64 l[j]))
theorem Is.below {B : Nat} {w w' : World} {v : Value} {l : List Int} (h : Is w v l) (hb : Below B w w') (hB : w.heap.size ≤ B) : Is w' v l := by
  obtain ⟨a, cap, rfl, h1, h2, h3⟩ := h
  refine ⟨a, cap, rfl, h1, h2, fun h0 => ?_⟩
  obtain ⟨b, off, rfl, hlt, hc⟩ := h3 h0
  exact ⟨b, off, rfl, Nat.lt_of_lt_of_le hlt hb.size, fun j hj => by rw [hb.cell (p := ⟨b, off + j, none⟩) (Nat.lt_of_lt_of_le hlt hB)]; exact hc j hj⟩
theorem Is.keep {w w' : World} {v : Value} {l : List Int} (h : Is w v l) (hb : Below w.heap.size w w') : Is w' v l := h.below hb (Nat.le_refl _)
def NN (v : Value) : Prop := ∀ n c, v = .slice none n c → c = 0
theorem is_nil (w : World) : Is w (.slice none 0 0) [] := ⟨none, 0, rfl, by simp, by decide, fun h => by simp at h⟩
theorem nn_nil : NN (.slice none 0 0) := fun n c h => by simp at h; omega
theorem nn_some (a : Addr) (n c : Nat) : NN (.slice (some a) n c) := fun n c h => by simp at h
def icells (l : List Int) : List Value := l.map fun c => .int .i64 c
theorem icells_append (k l : List Int) : icells (k ++ l) = icells k ++ icells l := by simp [icells]
def OwnI (B : Nat) (w : World) (v : Value) (l : List Int) : Prop := w.ownsRow B 3 1 v l.length (icells l)
theorem OwnI.is {B : Nat} {w : World} {v : Value} {l : List Int} (h : OwnI B w v l) : Is w v l := by
  have hc := h
  have hlt := World.ownsRow.lt h
  obtain ⟨_, ⟨rfl, h0⟩ | ⟨g, cap, cur, rfl, _, _, h1, h2, _⟩⟩ := h
  · exact ⟨none, 0, by rw [h0], by omega, by omega, fun h => by omega⟩
  · refine ⟨_, cap, rfl, h1, h2, fun _ => ⟨g, 0, rfl, (hlt g rfl).2, fun j hj => ?_⟩⟩
    have := World.ownsRow.cells hc rfl j (.int .i64 l[j]) (by simp [icells, hj])
    rwa [show (⟨g, 0, none⟩ : Addr).add j = ⟨g, 0 + j, none⟩ by cases j <;> simp [Addr.add]] at this
theorem OwnI.nn {B : Nat} {w : World} {v : Value} {l : List Int} (h : OwnI B w v l) : NN v := by
  obtain ⟨_, ⟨rfl, h0⟩ | ⟨g, cap, cur, rfl, _⟩⟩ := h
  · exact nn_nil
  · exact nn_some _ _ _
theorem infoI : (Tryz.prog.info? 3).map (fun i => (i.zero, i.size, i.bytes)) = some (some (.int .i64 0), 1, 8) := by kernel_rfl
theorem one_oneCellI {l : List Int} : ∀ u ∈ icells l, u.oneCell' = true := by
  intro u hu
  simp only [icells, List.mem_map] at hu
  obtain ⟨c, _, rfl⟩ := hu
  rfl
theorem is_cells {w : World} {b off : Nat} {l : List Int} (h : ∀ j (h : j < l.length), w.cell? ⟨b, off + j, none⟩ = some (.int .i64 l[j])) :
    ∀ j u, (icells l)[j]? = some u → w.cell? ((⟨b, off, none⟩ : Addr).add j) = some u := by
  intro j u hj
  have hl : j < l.length := by
    have := (List.getElem?_eq_some_iff.1 hj).1
    simpa [icells] using this
  have : u = .int .i64 l[j] := by simpa [icells, hl] using hj.symm
  subst this
  rw [Go.WideShapes.add_plain]
  exact h j hl
theorem is_new (w : World) (l : List Int) (hl : l.length ≤ 1048576) : Is (w.alloc (.cells (icells l).toArray 3)) (.slice (some ⟨w.heap.size, 0, none⟩) l.length l.length) l := by
  refine ⟨_, _, rfl, Nat.le_refl _, by unfold maxLen; omega, fun _ => ⟨w.heap.size, 0, rfl, by simp, fun j hj => ?_⟩⟩
  rw [World.cell?_alloc_at _ _ _ _ rfl]
  simp [icells, hj]
theorem wpl_appendI {w : World} {ops : Array Oper} {rest : List Oper} {o : Oper} {a : Act} {Q : Exit → Act → World → Prop} (hgd : o.guard = none) (s x : Operand)
    (ho : o.op = .call { callee := .builtin .append, args := #[s, x], argTypes := #[22, 22] })
    (B : Nat) (v u : Value) (l k t : List Int) (hs : a.eval s = v) (hown : OwnI B w v l) (hx : a.eval x = u) (hu : Is w u k) (hz : NN u)
    (hlen : l.length + k.length ≤ 4294967296) (hB : B ≤ w.heap.size) (ht : l ++ k = t)
    (h : ∀ v' w', OwnI B w' v' t → Below B w w' → wpList Tryz.prog ops Q rest (a.put o.dst v') w') : wpList Tryz.prog ops Q (o :: rest) a w := by
  subst ht
  obtain ⟨i0, hi, hz0, hz1, hz2⟩ := info_parts infoI
  obtain ⟨ad, cap, rfl, h1, h2, h3⟩ := hu
  have hlt := World.ownsRow.lt hown
  cases ad with
  | none =>
    have h0 : k = [] := by
      cases k with
      | nil => rfl
      | cons c k => obtain ⟨b, off, h, _⟩ := h3 (by simp); exact absurd h (by simp)
    subst h0
    obtain rfl := hz _ _ rfl
    refine wpList_append_own_none hgd s x 22 ho B 3 i0 1 Tryz.underlying22 hi v l.length (icells l) hs hown hx ?_
    exact h v w (by simpa using hown) (Below.refl _ _)
  | some ad =>
    have hcs : ∀ j c, (icells k)[j]? = some c → w.cell? (ad.add j) = some c := by
      intro j c hj
      have h0 : 0 < k.length := by
        have := (List.getElem?_eq_some_iff.1 hj).1
        simp [icells] at this; omega
      obtain ⟨b, off, hab, _, hc⟩ := h3 h0
      obtain rfl : ad = ⟨b, off, none⟩ := by simpa using hab
      exact is_cells hc j c hj
    refine wpList_append_own _ hgd s x 22 ho B 3 i0 (.int .i64 0) 1 8 Tryz.underlying22 hi hz0 hz1 hz2 rfl (by decide) v l.length (icells l) hs hown ad k.length cap (icells k) hx (by simp [icells]) hcs one_oneCellI (by unfold maxLen; omega) (by omega) hB ?_
    intro v' w' hown' hg _
    refine h v' w' ?_ ((Below.refl B w).grown hg hB (fun j hj => (hlt j hj).1))
    rw [← icells_append, ← List.length_append] at hown'
    exact hown'
def RowI (w : World) (a : Option Addr) (len cap : Nat) (zs : List Int) : Prop :=
  (a = none ∧ len = 0 ∧ cap = 0 ∧ zs = []) ∨ ∃ x, a = some x ∧ len ≤ cap ∧ cap ≤ maxLen ∧ zs.length = cap ∧ (∀ i, i < zs.length → w.cell? (x.add i) = some (.int .i64 (zs.getD i 0))) ∧ ∀ n ∈ zs, (Lit.int .i64 n).wf = true
theorem row_is {w : World} {a : Option Addr} {len cap : Nat} {zs : List Int}
    (h : RowI w a len cap zs) :
    ∃ l : List Int, l.length = len ∧ Is w (.slice a len cap) l ∧ NN (.slice a len cap) := by
  rcases h with ⟨rfl, rfl, rfl, _⟩ | ⟨x, rfl, hl, hm, hz, hc, hwf⟩
  · exact ⟨[], rfl, is_nil w, nn_nil⟩
  · refine ⟨zs.take len, by simp; omega, ⟨some x, cap, by simp; omega, by simp; omega, hm, fun h0 => ?_⟩, nn_some _ _ _⟩
    have hlz : 0 < zs.length := by simp at h0; omega
    obtain ⟨b, off, rfl, hc2⟩ := ints_at hc hlz
    refine ⟨b, off, rfl, World.block_lt_of_cell? w _ (hc2 0 hlz), fun j hj => ?_⟩
    have hj' : j < zs.length := by simp at hj; omega
    rw [hc2 j hj']
    simp [hj']
end Go.Proofs.YtbfnlgmhfhaglaaGreatDoor

/- What utf.Put returns, for any bytes and any number. -/
namespace Go.Proofs.YtbfnlgmhfhaglaaGreatDoor
open Go.RowKit
set_option linter.unusedVariables false

end Go.Proofs.YtbfnlgmhfhaglaaGreatDoor
/- What the tables of Go's library hold that our walks read. -/
namespace Go.Proofs.YtbfnlgmhfhaglaaGreatDoor
open Go.RowKit
set_option linter.unusedVariables false

def Tabs (w : World) : Prop := Lib.Utf8Tabs 0 1 w ∧ Lib.TabIs Tryz.prog w "internal/strconv.uint64pow10" .u64 Lib.pow10Tab ∧ w.cell? ⟨7, 15, none⟩ = some (.int .u8 4)
theorem Tabs.u {w : World} (h : Tabs w) : Lib.Utf8Tabs 0 1 w := h.1
theorem Tabs.p {w : World} (h : Tabs w) : Lib.TabIs Tryz.prog w "internal/strconv.uint64pow10" .u64 Lib.pow10Tab := h.2.1
theorem Tabs.keep {w w' : World} (h : Tabs w) (hb : Below w.heap.size w w') : Tabs w' := by
  obtain ⟨⟨h1, h2⟩, h3, h4⟩ := h
  refine ⟨⟨fun c hc => ?_, fun i hi => ⟨?_, ?_⟩⟩, Joins.tab_stays (g := 3) (by kernel_rfl) h3 hb (Nat.le_refl _), ?_⟩
  · rw [hb.cell (World.block_lt_of_cell? w _ (h1 c hc))]; exact h1 c hc
  · rw [hb.cell (World.block_lt_of_cell? w _ (h2 i hi).1)]; exact (h2 i hi).1
  · rw [hb.cell (World.block_lt_of_cell? w _ (h2 i hi).2)]; exact (h2 i hi).2
  · rw [hb.cell (World.block_lt_of_cell? w _ h4)]; exact h4
end Go.Proofs.YtbfnlgmhfhaglaaGreatDoor
/- What the tied rows of chapters 16 and 17 share: the tables of UTF-8, the one of bits and the one that strconv.Itoa reads; a world for the witness. -/
namespace Go.Proofs.YtbfnlgmhfhaglaaGreatDoor
open Go.RowKit Go.Lib Go.Shelf

def ren : Ren := ⟨fun n => n, fun | 5 => 5 | 119 => 139 | 138 => 141 | 139 => 142 | n => n, fun | 3 => 0 | 4 => 1 | n => n⟩
theorem u8t : U8Types Tryz.prog ren := { t5 := by kernel_rfl, t119 := by kernel_rfl, t138 := by kernel_rfl, t139 := by kernel_rfl }
theorem u8x : U8Extra Tryz.prog ren := { n3 := by kernel_rfl, n4 := by kernel_rfl, y3 := by kernel_rfl, y4 := by kernel_rfl, c5 := by kernel_rfl, c119 := by kernel_rfl, c138 := by kernel_rfl }
def laidList : List (String × DataW Unit) := [("math/bits.deBruijn32tab", Rows.laid_math_bits_deBruijn32tab), ("math/bits.deBruijn64tab", Rows.laid_math_bits_deBruijn64tab), ("internal/strconv.uint64pow10", Rows.laid_internal_strconv_uint64pow10), ("unicode/utf8.acceptRanges", Rows.laid_unicode_utf8_acceptRanges), ("strconv.ErrRange", Rows.laid_strconv_ErrRange), ("strconv.ErrSyntax", Rows.laid_strconv_ErrSyntax), ("unicode/utf8.first", Rows.laid_unicode_utf8_first)]
theorem powD : (Rows.laid_internal_strconv_uint64pow10 : DataW Unit) = tabData .u64 pow10Tab := by kernel_rfl
def bitTab : List Int := List.map (fun n : Nat => (n : Int)) Lib.deBruijn64tab
theorem bitD : (Rows.laid_math_bits_deBruijn64tab : DataW Unit) = tabData .u8 bitTab := by kernel_rfl
theorem tabs_of {W : World} (h : laidMetH Tryz.prog laidList W) : Tabs W := by
  rw [MakeChecks.laidMetH_plain _ _ _ (by kernel_rfl)] at h
  have h1 : VarReads Tryz.prog W "unicode/utf8.acceptRanges" acceptData := by
    have := laidMet.reads h (n := "unicode/utf8.acceptRanges") (d := Rows.laid_unicode_utf8_acceptRanges) (by simp [laidList])
    exact this
  have h2 : VarReads Tryz.prog W "unicode/utf8.first" firstData := by
    have := laidMet.reads h (n := "unicode/utf8.first") (d := Rows.laid_unicode_utf8_first) (by simp [laidList])
    rw [show Rows.laid_unicode_utf8_first = firstData from Pinned.utf8First_eq] at this
    exact this
  have h3 := h.tail
  rw [bitD] at h3
  have h4 := tabIs_of_head (g := 7) (by kernel_rfl) (by kernel_rfl) Tryz.underlying201 Tryz.underlying5 (by kernel_rfl) (by kernel_rfl) h3
  have h6 := h.tail.tail
  rw [powD] at h6
  exact ⟨utf8Tabs_of_readsT u8t u8x h2 h1, tabIs_of_head (g := 3) (by kernel_rfl) (by kernel_rfl) Tryz.underlying188 Tryz.underlying153 (by kernel_rfl) (by kernel_rfl) h6, h4.cell (g := 7) (by kernel_rfl) 15 (by decide)⟩
def firstCells : Array Value := ((List.range 256).map fun i => Value.int .u8 (Lib.firstT i : Int)).toArray
def refill (cs : Array Value) : Obj → Obj
  | .cells _ t frozen => .cells cs t frozen
  | o => o
noncomputable def laidWorld (os : Os) : World :=
  { World.doorLaid Tryz.prog 72 os with heap := (World.doorLaid Tryz.prog 72 os).heap.modify 0 (refill firstCells) }
theorem own : ownKnob Tryz.prog.godebug = none := by kernel_rfl
theorem laidOut : laidOutB Tryz.prog = true := by kernel_rfl
end Go.Proofs.YtbfnlgmhfhaglaaGreatDoor
