/- Texts of ours in one: JgB WTabs. -/
import Derived.Test.YtlobinjdgcidmaaGreatDoorRows
import Derived.Test.YtlobinjdgcidmaaGreatDoorQs00
import Derived.WalkKit
import Derived.ProofKit
import Derived.OpenShut
import Derived.Below
import Derived.Lib.Hide
import Derived.Lib.SlBytesRow
import Derived.IntWalk
import Derived.WalkSpells
import Derived.Lib.LazyBuf
import Derived.Lib.BufferRead
import Derived.Laws.AppendOwnNone
import Derived.OwnWalk
import Derived.Lib.ConvBytes
import Derived.Laws.AppendOwn
import Derived.Laws.MakeOwn
import Derived.Test.YtlobinjdgcidmaaGreatDoorQs01
import Derived.Lib.SmallJoins
import Derived.Lib.AppendIntMem
/- Several texts of ours in one: UBase UApp UConv VBase IBase UPut. -/
/- Bytes in memory: a slice that holds them, a slice of the call's own, a text out of one. -/
namespace Go.Proofs.YtlobinjdgcidmaaGreatDoor
open Go.RowKit
set_option linter.unusedVariables false

def tri (r : Int × Int × Bool) : Value := .tuple #[.int .i64 r.1, .int .i64 r.2.1, .bool r.2.2]
def Bs (w : World) (v : Value) (l : List UInt8) : Prop :=
  ∃ a cap, v = .slice a l.length cap ∧ l.length ≤ cap ∧ cap ≤ maxLen ∧ (0 < l.length → ∃ b off, a = some ⟨b, off, none⟩ ∧ b < w.heap.size ∧ ∀ j (h : j < l.length), w.cell? ⟨b, off + j, none⟩ = some (.int .u8 (l[j].toNat : Int)))
theorem Bs.below {B : Nat} {w w' : World} {v : Value} {l : List UInt8} (h : Bs w v l) (hb : Below B w w') (hB : w.heap.size ≤ B) : Bs w' v l := by
  obtain ⟨a, cap, rfl, h1, h2, h3⟩ := h
  refine ⟨a, cap, rfl, h1, h2, fun h0 => ?_⟩
  obtain ⟨b, off, rfl, hlt, hc⟩ := h3 h0
  exact ⟨b, off, rfl, Nat.lt_of_lt_of_le hlt hb.size, fun j hj => by rw [hb.cell (p := ⟨b, off + j, none⟩) (Nat.lt_of_lt_of_le hlt hB)]; exact hc j hj⟩
theorem Bs.keep {w w' : World} {v : Value} {l : List UInt8} (h : Bs w v l) (hb : Below w.heap.size w w') : Bs w' v l := h.below hb (Nat.le_refl _)
def bcells (l : List UInt8) : List Value := l.map fun c => .int .u8 (c.toNat : Int)
theorem bcells_append (k l : List UInt8) : bcells (k ++ l) = bcells k ++ bcells l := by simp [bcells]
theorem bcells_len (l : List UInt8) : (bcells l).length = l.length := by simp [bcells]
theorem runeCells_eq (r : Int) : Lib.runeCells r = bcells (M.enc r) := by
  have h : ∀ x ∈ Lib.encodeRuneZ r, 0 ≤ x ∧ x < 256 := by
    intro x hx
    unfold Lib.encodeRuneZ at hx
    repeat' split at hx
    all_goals
      simp only [List.mem_cons, List.mem_nil_iff, or_false] at hx
      omega
  unfold Lib.runeCells bcells M.enc Lib.encodeRune
  rw [List.map_map]
  apply List.map_congr_left
  intro x hx
  have := h x hx
  simp only [Function.comp]
  rw [M.toU8 x.toNat (by omega)]
  congr 1
  omega
def OwnB (B : Nat) (w : World) (v : Value) (l : List UInt8) : Prop := w.ownsRow B 5 1 v l.length (bcells l)
theorem OwnB.bs {B : Nat} {w : World} {v : Value} {l : List UInt8} (h : OwnB B w v l) : Bs w v l := by
  have hc := h
  have hlt := World.ownsRow.lt h
  obtain ⟨_, ⟨rfl, h0⟩ | ⟨g, cap, cur, rfl, _, _, h1, h2, _⟩⟩ := h
  · exact ⟨none, 0, by rw [h0], by omega, by omega, fun h => by omega⟩
  · refine ⟨_, cap, rfl, h1, h2, fun _ => ⟨g, 0, rfl, (hlt g rfl).2, fun j hj => ?_⟩⟩
    have := World.ownsRow.cells hc rfl j (.int .u8 (l[j].toNat : Int)) (by simp [bcells, hj])
    rwa [show (⟨g, 0, none⟩ : Addr).add j = ⟨g, 0 + j, none⟩ by cases j <;> simp [Addr.add]] at this
theorem infoB : (Tryz.prog.info? 5).map (fun i => (i.zero, i.size, i.bytes)) = some (some (.int .u8 0), 1, 1) := by kernel_rfl
theorem one_oneCell {l : List UInt8} : ∀ u ∈ bcells l, u.oneCell' = true := by
  intro u hu
  simp only [bcells, List.mem_map] at hu
  obtain ⟨c, _, rfl⟩ := hu
  rfl
theorem bs_cells {w : World} {b off : Nat} {l : List UInt8} (h : ∀ j (h : j < l.length), w.cell? ⟨b, off + j, none⟩ = some (.int .u8 (l[j].toNat : Int))) :
    ∀ j u, (bcells l)[j]? = some u → w.cell? ((⟨b, off, none⟩ : Addr).add j) = some u := by
  intro j u hj
  have hl : j < l.length := by
    have := (List.getElem?_eq_some_iff.1 hj).1
    simpa [bcells] using this
  have : u = .int .u8 (l[j].toNat : Int) := by simpa [bcells, hl] using hj.symm
  subst this
  rw [Go.WideShapes.add_plain]
  exact h j hl

def bytes (l : List UInt8) : ByteArray := ⟨l.toArray⟩
theorem bytes_list (l : List UInt8) : (bytes l).data.toList = l := by simp [bytes]
theorem bytes_size (l : List UInt8) : (bytes l).size = l.length := by simp [bytes, ByteArray.size]

theorem bs_new (w : World) (l : List UInt8) (hl : l.length ≤ 1048576) : Bs (w.alloc (.cells (bcells l).toArray 5)) (.slice (some ⟨w.heap.size, 0, none⟩) l.length l.length) l := by
  refine ⟨_, _, rfl, Nat.le_refl _, by unfold maxLen; omega, fun _ => ⟨w.heap.size, 0, rfl, by simp, fun j hj => ?_⟩⟩
  rw [World.cell?_alloc_at _ _ _ _ rfl]
  simp [bcells, hj]
theorem bs_nil (w : World) : Bs w (.slice none 0 0) [] := ⟨none, 0, rfl, by simp, by decide, fun h => by simp at h⟩

theorem conv_own {B : Nat} {w : World} {v : Value} {l : List UInt8} (h : OwnB B w v l) : (convert 29 9 v).run Tryz.prog w = .ok (.string (bytes l)) w := by
  have hc := h
  obtain ⟨_, ⟨rfl, h0⟩ | ⟨g, cap, cur, rfl, _⟩⟩ := h
  · have : l = [] := List.length_eq_zero_iff.1 h0
    subst this
    exact Lib.run_convert_nil_bytes w 29 9 5 0 Tryz.underlying29 Tryz.underlying5 Tryz.underlying9
  · have hB : Lib.Bytes w g 0 (bytes l) := by
      intro i hi
      have hi' : i < l.length := by simpa [bytes, ByteArray.size] using hi
      have := World.ownsRow.cells hc rfl i (.int .u8 (l[i].toNat : Int)) (by simp [bcells, hi'])
      rw [show (⟨g, 0, none⟩ : Addr).add i = ⟨g, 0 + i, none⟩ by cases i <;> simp [Addr.add]] at this
      rw [this]
      congr 3
    have := Lib.run_convert_whole (P := Tryz.prog) w 29 5 9 Tryz.underlying29 Tryz.underlying5 Tryz.underlying9 g 0 _ hB cap
    rw [bytes_size] at this
    exact this

theorem bs_cells_new (w : World) (l : List UInt8) (cs : List Value) (n : Nat) (h : bcells l = cs) (hn : cs.length = n) (hl : l.length ≤ 1048576) :
    Bs (w.alloc (.cells cs.toArray 5)) (.slice (some ⟨w.heap.size, 0, none⟩) n n) l := by
  have := bs_new w l hl
  have e : l.length = n := by rw [← hn, ← h]; simp [bcells]
  rw [h] at this
  simpa [e] using this
theorem ownB_built (B : Nat) (w : World) (l : List UInt8) (cs : List Value) (n : Nat) (hB : B ≤ w.heap.size) (h : bcells l = cs) (hn : cs.length = n) (hl : l.length ≤ 1048576) :
    OwnB B (w.alloc (.cells cs.toArray 5)) (.slice (some ⟨w.heap.size, 0, none⟩) n n) l := by
  subst h
  have e : l.length = n := by rw [← hn]; simp [bcells]
  subst e
  exact ⟨by simp [bcells], .inr ⟨w.heap.size, l.length, _, rfl, hB, heap_alloc_new w _, Nat.le_refl _, by unfold maxLen; omega, by simp [bcells], by rw [Nat.mul_one]; exact List.take_of_length_le (by simp [bcells])⟩⟩
theorem ownsRow_keep {B : Nat} {w w' : World} {e : TypeId} {s : Nat} {v : Value} {n : Nat} {xs : List Value} (h : w.ownsRow B e s v n xs) (hb : Below w.heap.size w w') : w'.ownsRow B e s v n xs := by
  obtain ⟨h1, h2 | ⟨g, cap, cur, rfl, a, b, c⟩⟩ := h
  · exact ⟨h1, .inl h2⟩
  · have hg : g < w.heap.size := by
      obtain ⟨hh, _⟩ := Array.getElem?_eq_some_iff.1 b
      exact hh
    exact ⟨h1, .inr ⟨g, cap, cur, rfl, a, by rw [hb.block g hg]; exact b, c⟩⟩
theorem OwnB.keep {B : Nat} {w w' : World} {v : Value} {l : List UInt8} (h : OwnB B w v l) (hb : Below w.heap.size w w') : OwnB B w' v l := ownsRow_keep h hb
end Go.Proofs.YtlobinjdgcidmaaGreatDoor

/- append of bytes that came in, nil or not, onto bytes of the call's own. -/
namespace Go.Proofs.YtlobinjdgcidmaaGreatDoor
open Go.RowKit

theorem wpl_append {w : World} {ops : Array Oper} {rest : List Oper} {o : Oper} {a : Act} {Q : Exit → Act → World → Prop} (hgd : o.guard = none) (s x : Operand)
    (ho : o.op = .call { callee := .builtin .append, args := #[s, x], argTypes := #[29, 29] })
    (B : Nat) (v u : Value) (l k t : List UInt8) (hs : a.eval s = v) (hown : OwnB B w v l) (hx : a.eval x = u) (hu : Bs w u k) (hz : ∀ n c, u = .slice none n c → c = 0)
    (hlen : l.length + k.length ≤ 4294967296) (hB : B ≤ w.heap.size) (ht : l ++ k = t)
    (h : ∀ v' w', OwnB B w' v' t → Below B w w' → wpList Tryz.prog ops Q rest (a.put o.dst v') w') : wpList Tryz.prog ops Q (o :: rest) a w := by
  subst ht
  obtain ⟨i0, hi, hz0, hz1, hz2⟩ := info_parts infoB
  obtain ⟨ad, cap, rfl, h1, h2, h3⟩ := hu
  have hlt := World.ownsRow.lt hown
  cases ad with
  | none =>
    have h0 : k = [] := by
      cases k with
      | nil => rfl
      | cons c k => obtain ⟨b, off, h, _⟩ := h3 (by simp); exact absurd h (by simp)
    subst h0
    obtain rfl := hz _ _ rfl
    refine wpList_append_own_none hgd s x 29 ho B 5 i0 1 Tryz.underlying29 hi v l.length (bcells l) hs hown hx ?_
    exact h v w (by simpa using hown) (Below.refl _ _)
  | some ad =>
    have hcs : ∀ j c, (bcells k)[j]? = some c → w.cell? (ad.add j) = some c := by
      intro j c hj
      have h0 : 0 < k.length := by
        have := (List.getElem?_eq_some_iff.1 hj).1
        simp [bcells] at this; omega
      obtain ⟨b, off, hab, _, hc⟩ := h3 h0
      obtain rfl : ad = ⟨b, off, none⟩ := by simpa using hab
      exact bs_cells hc j c hj
    refine wpList_append_own _ hgd s x 29 ho B 5 i0 (.int .u8 0) 1 1 Tryz.underlying29 hi hz0 hz1 hz2 rfl (by decide) v l.length (bcells l) hs hown ad k.length cap (bcells k) hx (by simp [bcells]) hcs one_oneCell (by unfold maxLen; omega) (by omega) hB ?_
    intro v' w' hown' hg _
    refine h v' w' ?_ ((Below.refl B w).grown hg hB (fun j hj => (hlt j hj).1))
    rw [← bcells_append, ← List.length_append] at hown'
    exact hown'

theorem row_bs {w : World} {a : Option Addr} {len cap : Nat} {zs : List Int}
    (h : (a = none ∧ len = 0 ∧ cap = 0 ∧ zs = []) ∨ ∃ x, a = some x ∧ len ≤ cap ∧ cap ≤ maxLen ∧ zs.length = cap ∧ (∀ i, i < zs.length → w.cell? (x.add i) = some (.int .u8 (zs.getD i 0))) ∧ ∀ n ∈ zs, (Lit.int .u8 n).wf = true) :
    ∃ l : List UInt8, l.length = len ∧ Bs w (.slice a len cap) l ∧ (∀ n c, Value.slice a len cap = .slice none n c → c = 0) := by
  rcases h with ⟨rfl, rfl, rfl, _⟩ | ⟨x, rfl, hl, hm, hz, hc, hwf⟩
  · exact ⟨[], rfl, bs_nil w, fun n c h => by simp at h; omega⟩
  · refine ⟨(zs.take len).map fun z => z.toNat.toUInt8, by simp; omega, ⟨some x, cap, by simp; omega, by simp; omega, hm, fun h0 => ?_⟩, fun n c h => by simp at h⟩
    have hlz : 0 < zs.length := by simp at h0; omega
    obtain ⟨b, off, rfl, hc2⟩ := ints_at hc hlz
    refine ⟨b, off, rfl, World.block_lt_of_cell? w _ (hc2 0 hlz), fun j hj => ?_⟩
    have hj' : j < zs.length := by simp at hj; omega
    rw [hc2 j hj']
    have hw := hwf zs[j] (List.getElem_mem hj')
    have hb := bounds_u8 hw
    simp only [List.getElem_map, List.getElem_take]
    rw [M.toU8 _ (by omega)]
    simp [hj']
    omega
end Go.Proofs.YtlobinjdgcidmaaGreatDoor

/- Bytes out of a text that is no constant. -/
namespace Go.Proofs.YtlobinjdgcidmaaGreatDoor
open Go.RowKit
set_option linter.unusedVariables false

theorem bw_size (W : World) (s : ByteArray) : (Lib.bytesWorld W 5 s).heap.size = W.heap.size + 1 := Lib.bytesWorld_size W _ s
theorem bw_below (W : World) (s : ByteArray) : Below W.heap.size W (Lib.bytesWorld W 5 s) :=
  ⟨rfl, rfl, rfl, by rw [bw_size]; omega, fun k hk => Lib.bytesWorld_at_old W _ s k hk⟩
theorem bw_bs (W : World) (s : ByteArray) (hs : s.size ≤ 4294967296) : Bs (Lib.bytesWorld W 5 s) (.slice (some ⟨W.heap.size, 0, none⟩) s.size (grownCap W s.size 0 5)) s.data.toList := by
  have e : s.data.toList.length = s.size := Array.length_toList
  refine ⟨_, grownCap W s.size 0 5, by rw [e], by rw [e]; exact grownCap_ge _ _ _ _, grownCap_le_maxLen _ _ _ _ (by unfold maxLen; omega), fun _ => ⟨W.heap.size, 0, rfl, by rw [bw_size]; omega, fun j hj => ?_⟩⟩
  rw [Nat.zero_add, Lib.bytesWorld_cell W _ s j (by rw [← e]; exact hj)]
  simp [List.getD, List.getElem?_eq_getElem hj]
theorem bw_conv (W : World) (s : ByteArray) : (convert 9 29 (.string s)).run Tryz.prog W = .ok (.slice (some ⟨W.heap.size, 0, none⟩) s.size (grownCap W s.size 0 5)) (Lib.bytesWorld W 5 s) :=
  Lib.run_convert_string_bytes W 9 29 5 s Tryz.underlying9 Tryz.underlying29 Tryz.underlying5
end Go.Proofs.YtlobinjdgcidmaaGreatDoor

/- Rows of structs in memory, so many one-cell fields each: a slice that holds them, a slice of the call's own, append. -/
namespace Go.Proofs.YtlobinjdgcidmaaGreatDoor
open Go.RowKit
set_option linter.unusedVariables false

def Vs (sz : Nat) (w : World) (v : Value) (l : List (List Value)) : Prop :=
  ∃ a cap, v = .slice a l.length cap ∧ l.length ≤ cap ∧ cap ≤ maxLen ∧ (0 < l.length → ∃ b off, a = some ⟨b, off, none⟩ ∧ b < w.heap.size ∧ ∀ j (h : j < l.length) i u, l[j][i]? = some u → w.cell? ⟨b, off + (j * sz + i), none⟩ = some u)
theorem Vs.below {sz B : Nat} {w w' : World} {v : Value} {l : List (List Value)} (h : Vs sz w v l) (hb : Below B w w') (hB : w.heap.size ≤ B) : Vs sz w' v l := by
  obtain ⟨a, cap, rfl, h1, h2, h3⟩ := h
  refine ⟨a, cap, rfl, h1, h2, fun h0 => ?_⟩
  obtain ⟨b, off, rfl, hlt, hc⟩ := h3 h0
  exact ⟨b, off, rfl, Nat.lt_of_lt_of_le hlt hb.size, fun j hj i u hu => by rw [hb.cell (p := ⟨b, off + (j * sz + i), none⟩) (Nat.lt_of_lt_of_le hlt hB)]; exact hc j hj i u hu⟩
theorem Vs.keep {sz : Nat} {w w' : World} {v : Value} {l : List (List Value)} (h : Vs sz w v l) (hb : Below w.heap.size w w') : Vs sz w' v l := h.below hb (Nat.le_refl _)
theorem vs_nil (sz : Nat) (w : World) : Vs sz w (.slice none 0 0) [] := ⟨none, 0, rfl, by simp, by decide, fun h => by simp at h⟩
def NNv (v : Value) : Prop := ∀ n c, v = .slice none n c → c = 0
theorem nnv_nil : NNv (.slice none 0 0) := fun n c h => by simp at h; omega
theorem nnv_some (a : Addr) (n c : Nat) : NNv (.slice (some a) n c) := fun n c h => by simp at h
def OwnV (E sz B : Nat) (w : World) (v : Value) (l : List (List Value)) : Prop := w.ownsRow B E sz v l.length l.flatten ∧ (∀ x ∈ l, x.length = sz) ∧ ∀ x ∈ l, ∀ u ∈ x, u.oneCell' = true
theorem flat_len {sz : Nat} (l : List (List Value)) (h : ∀ x ∈ l, x.length = sz) : l.flatten.length = l.length * sz := by
  induction l with
  | nil => simp
  | cons a t ih => rw [List.flatten_cons, List.length_append, ih (fun x hx => h x (by simp [hx])), h a (by simp), List.length_cons, Nat.add_mul, Nat.one_mul, Nat.add_comm]
theorem flat_get {sz : Nat} (l : List (List Value)) (h : ∀ x ∈ l, x.length = sz) (j : Nat) (hj : j < l.length) (i : Nat) (hi : i < sz) : l.flatten[j * sz + i]? = (l[j])[i]? := by
  induction l generalizing j with
  | nil => simp at hj
  | cons a t ih =>
    have ha := h a (by simp)
    cases j with
    | zero => rw [List.flatten_cons, List.getElem?_append_left (by omega)]; simp
    | succ j =>
      have e : (j + 1) * sz + i = sz + (j * sz + i) := by rw [Nat.add_mul, Nat.one_mul]; omega
      rw [List.flatten_cons, List.getElem?_append_right (by omega), ha, e, Nat.add_sub_cancel_left, ih (fun x hx => h x (by simp [hx])) j (by simpa using hj)]
      simp
theorem OwnV.vs {E sz B : Nat} {w : World} {v : Value} {l : List (List Value)} (h : OwnV E sz B w v l) : Vs sz w v l := by
  obtain ⟨ho, hs, _⟩ := h
  have hc := ho
  have hlt := World.ownsRow.lt ho
  obtain ⟨_, ⟨rfl, h0⟩ | ⟨g, cap, cur, rfl, _, _, h1, h2, _⟩⟩ := ho
  · exact ⟨none, 0, by rw [h0], by omega, by omega, fun h => by omega⟩
  · refine ⟨_, cap, rfl, h1, h2, fun _ => ⟨g, 0, rfl, (hlt g rfl).2, fun j hj i u hu => ?_⟩⟩
    have hi : i < sz := by
      have := (List.getElem?_eq_some_iff.1 hu).1
      rw [hs _ (List.getElem_mem hj)] at this; exact this
    have hf := flat_get l hs j hj i hi
    have := World.ownsRow.cells hc rfl (j * sz + i) u (by rw [hf]; exact hu)
    rwa [show (⟨g, 0, none⟩ : Addr).add (j * sz + i) = ⟨g, 0 + (j * sz + i), none⟩ by generalize j * sz + i = m; cases m <;> simp [Addr.add]] at this
theorem OwnV.nn {E sz B : Nat} {w : World} {v : Value} {l : List (List Value)} (h : OwnV E sz B w v l) : NNv v := by
  obtain ⟨⟨_, ⟨rfl, h0⟩ | ⟨g, cap, cur, rfl, _⟩⟩, _⟩ := h
  · exact nnv_nil
  · exact nnv_some _ _ _
theorem OwnV.keep {E sz B : Nat} {w w' : World} {v : Value} {l : List (List Value)} (h : OwnV E sz B w v l) (hb : Below w.heap.size w w') : OwnV E sz B w' v l := ⟨ownsRow_keep h.1 hb, h.2.1, h.2.2⟩
theorem ownV_nil (E sz B : Nat) (w : World) : OwnV E sz B w (.slice none 0 0) [] := ⟨World.ownsRow_nil _ _ _ _, by simp, by simp⟩
theorem vs_cells (sz E : Nat) (w : World) (l : List (List Value)) (cs : Array Value) (n : Nat) (h : l.flatten = cs.toList) (hs : ∀ x ∈ l, x.length = sz) (hn : l.length = n) (hl : l.length ≤ 1048576) :
    Vs sz (w.alloc (.cells cs E)) (.slice (some ⟨w.heap.size, 0, none⟩) n n) l := by
  subst hn
  refine ⟨_, _, rfl, Nat.le_refl _, by unfold maxLen; omega, fun _ => ⟨w.heap.size, 0, rfl, by simp, fun j hj i u hu => ?_⟩⟩
  rw [World.cell?_alloc_at _ _ _ _ rfl]
  have hi : i < sz := by
    have := (List.getElem?_eq_some_iff.1 hu).1
    rw [hs _ (List.getElem_mem hj)] at this; exact this
  have hf := flat_get l hs j hj i hi
  rw [h, hu] at hf
  rw [Nat.zero_add, ← Array.getElem?_toList]
  exact hf
theorem wpl_appendV {w : World} {ops : Array Oper} {rest : List Oper} {o : Oper} {a : Act} {Q : Exit → Act → World → Prop} {E T sz bytes : Nat} {z : Value} (hgd : o.guard = none) (s x : Operand)
    (ho : o.op = .call { callee := .builtin .append, args := #[s, x], argTypes := #[T, T] }) (hT : Tryz.prog.underlying T = some (.slice E)) (hinfo : (Tryz.prog.info? E).map (fun i => (i.zero, i.size, i.bytes)) = some (some z, sz, bytes)) (hz : z.cells.size = sz) (h0 : 0 < sz)
    (B : Nat) (v u : Value) (l k t : List (List Value)) (hs : a.eval s = v) (hown : OwnV E sz B w v l) (hx : a.eval x = u) (hu : Vs sz w u k) (hnn : NNv u) (hk : ∀ y ∈ k, y.length = sz) (hk1 : ∀ y ∈ k, ∀ c ∈ y, c.oneCell' = true)
    (hlen : (l.length + k.length) * bytes ≤ 140737488355328) (hb0 : 0 < bytes) (hB : B ≤ w.heap.size) (ht : l ++ k = t)
    (h : ∀ v' w', OwnV E sz B w' v' t → Below B w w' → wpList Tryz.prog ops Q rest (a.put o.dst v') w') : wpList Tryz.prog ops Q (o :: rest) a w := by
  subst ht
  obtain ⟨i0, hi, hz0, hz1, hz2⟩ := info_parts hinfo
  obtain ⟨ad, cap, rfl, h1, h2, h3⟩ := hu
  obtain ⟨hown, hsz, hone⟩ := hown
  have hlt := World.ownsRow.lt hown
  have hmax : l.length + k.length ≤ 140737488355328 := Nat.le_trans (Nat.le_mul_of_pos_right _ hb0) hlen
  have hall : (∀ y ∈ l ++ k, y.length = sz) ∧ ∀ y ∈ l ++ k, ∀ c ∈ y, c.oneCell' = true := by
    refine ⟨fun y hy => ?_, fun y hy => ?_⟩
    · rcases List.mem_append.1 hy with hy | hy
      · exact hsz y hy
      · exact hk y hy
    · rcases List.mem_append.1 hy with hy | hy
      · exact hone y hy
      · exact hk1 y hy
  cases ad with
  | none =>
    have hk0 : k = [] := by
      cases k with
      | nil => rfl
      | cons c k => obtain ⟨b, off, h, _⟩ := h3 (by simp); exact absurd h (by simp)
    subst hk0
    obtain rfl := hnn _ _ rfl
    refine wpList_append_own_none hgd s x T ho B E i0 sz hT hi v l.length l.flatten hs hown hx ?_
    exact h v w (by rw [List.append_nil]; exact ⟨hown, hsz, hone⟩) (Below.refl _ _)
  | some ad =>
    have hcs : ∀ j c, k.flatten[j]? = some c → w.cell? (ad.add j) = some c := by
      intro j c hj
      have hjl := (List.getElem?_eq_some_iff.1 hj).1
      rw [flat_len k hk] at hjl
      have hk0 : 0 < k.length := by
        rcases Nat.eq_zero_or_pos k.length with e | e
        · rw [e, Nat.zero_mul] at hjl; omega
        · exact e
      obtain ⟨b, off, hab, _, hc⟩ := h3 hk0
      obtain rfl : ad = ⟨b, off, none⟩ := by simpa using hab
      have hq : j / sz < k.length := by rw [Nat.div_lt_iff_lt_mul h0]; exact hjl
      have hm : j % sz < sz := Nat.mod_lt _ h0
      have he : j / sz * sz + j % sz = j := by rw [Nat.mul_comm]; exact Nat.div_add_mod j sz
      have hf := flat_get k hk (j / sz) hq (j % sz) hm
      rw [he, hj] at hf
      rw [Go.WideShapes.add_plain]
      have := hc (j / sz) hq (j % sz) c hf.symm
      rwa [he] at this
    refine wpList_append_own _ hgd s x T ho B E i0 z sz bytes hT hi hz0 hz1 hz2 hz h0 v l.length l.flatten hs hown ad k.length cap k.flatten hx (flat_len k hk) hcs (fun u hu => ?_) (by unfold maxLen; omega) hlen hB ?_
    · obtain ⟨y, hy, hu⟩ := List.mem_flatten.1 hu
      exact hk1 y hy u hu
    · intro v' w' hown' hg _
      refine h v' w' ⟨?_, hall.1, hall.2⟩ ((Below.refl B w).grown hg hB (fun j hj => (hlt j hj).1))
      rw [← List.flatten_append, ← List.length_append] at hown'
      exact hown'
end Go.Proofs.YtlobinjdgcidmaaGreatDoor

/- Ints in memory: a slice that holds them, a slice of the call's own, append. -/
namespace Go.Proofs.YtlobinjdgcidmaaGreatDoor
open Go.RowKit
set_option linter.unusedVariables false

def Is (w : World) (v : Value) (l : List Int) : Prop :=
  ∃ a cap, v = .slice a l.length cap ∧ l.length ≤ cap ∧ cap ≤ maxLen ∧ (0 < l.length → ∃ b off, a = some ⟨b, off, none⟩ ∧ b < w.heap.size ∧ ∀ j (h : j < l.length), w.cell? ⟨b, off + j, none⟩ = some (.int .i64 l[j]))
theorem Is.below {B : Nat} {w w' : World} {v : Value} {l : List Int} (h : Is w v l) (hb : Below B w w') (hB : w.heap.size ≤ B) : Is w' v l := by
  obtain ⟨a, cap, rfl, h1, h2, h3⟩ := h
  refine ⟨a, cap, rfl, h1, h2, fun h0 => ?_⟩
  obtain ⟨b, off, rfl, hlt, hc⟩ := h3 h0
  exact ⟨b, off, rfl, Nat.lt_of_lt_of_le hlt hb.size, fun j hj => by rw [hb.cell (p := ⟨b, off + j, none⟩) (Nat.lt_of_lt_of_le hlt hB)]; exact hc j hj⟩
theorem Is.keep {w w' : World} {v : Value} {l : List Int} (h : Is w v l) (hb : Below w.heap.size w w') : Is w' v l := h.below hb (Nat.le_refl _)
def NN (v : Value) : Prop := ∀ n c, v = .slice none n c → c = 0
theorem nn_nil : NN (.slice none 0 0) := fun n c h => by simp at h; omega
theorem nn_some (a : Addr) (n c : Nat) : NN (.slice (some a) n c) := fun n c h => by simp at h
def icells (l : List Int) : List Value := l.map fun c => .int .i64 c
theorem icells_append (k l : List Int) : icells (k ++ l) = icells k ++ icells l := by simp [icells]
def OwnI (B : Nat) (w : World) (v : Value) (l : List Int) : Prop := w.ownsRow B 3 1 v l.length (icells l)
theorem OwnI.is {B : Nat} {w : World} {v : Value} {l : List Int} (h : OwnI B w v l) : Is w v l := by
  have hc := h
  have hlt := World.ownsRow.lt h
  obtain ⟨_, ⟨rfl, h0⟩ | ⟨g, cap, cur, rfl, _, _, h1, h2, _⟩⟩ := h
  · exact ⟨none, 0, by rw [h0], by omega, by omega, fun h => by omega⟩
  · refine ⟨_, cap, rfl, h1, h2, fun _ => ⟨g, 0, rfl, (hlt g rfl).2, fun j hj => ?_⟩⟩
    have := World.ownsRow.cells hc rfl j (.int .i64 l[j]) (by simp [icells, hj])
    rwa [show (⟨g, 0, none⟩ : Addr).add j = ⟨g, 0 + j, none⟩ by cases j <;> simp [Addr.add]] at this
theorem OwnI.nn {B : Nat} {w : World} {v : Value} {l : List Int} (h : OwnI B w v l) : NN v := by
  obtain ⟨_, ⟨rfl, h0⟩ | ⟨g, cap, cur, rfl, _⟩⟩ := h
  · exact nn_nil
  · exact nn_some _ _ _
theorem infoI : (Tryz.prog.info? 3).map (fun i => (i.zero, i.size, i.bytes)) = some (some (.int .i64 0), 1, 8) := by kernel_rfl
theorem one_oneCellI {l : List Int} : ∀ u ∈ icells l, u.oneCell' = true := by
  intro u hu
  simp only [icells, List.mem_map] at hu
  obtain ⟨c, _, rfl⟩ := hu
  rfl
theorem is_cells {w : World} {b off : Nat} {l : List Int} (h : ∀ j (h : j < l.length), w.cell? ⟨b, off + j, none⟩ = some (.int .i64 l[j])) :
    ∀ j u, (icells l)[j]? = some u → w.cell? ((⟨b, off, none⟩ : Addr).add j) = some u := by
  intro j u hj
  have hl : j < l.length := by
    have := (List.getElem?_eq_some_iff.1 hj).1
    simpa [icells] using this
  have : u = .int .i64 l[j] := by simpa [icells, hl] using hj.symm
  subst this
  rw [Go.WideShapes.add_plain]
  exact h j hl
theorem is_new (w : World) (l : List Int) (hl : l.length ≤ 1048576) : Is (w.alloc (.cells (icells l).toArray 3)) (.slice (some ⟨w.heap.size, 0, none⟩) l.length l.length) l := by
  refine ⟨_, _, rfl, Nat.le_refl _, by unfold maxLen; omega, fun _ => ⟨w.heap.size, 0, rfl, by simp, fun j hj => ?_⟩⟩
  rw [World.cell?_alloc_at _ _ _ _ rfl]
  simp [icells, hj]
theorem wpl_appendI {w : World} {ops : Array Oper} {rest : List Oper} {o : Oper} {a : Act} {Q : Exit → Act → World → Prop} (hgd : o.guard = none) (s x : Operand)
    (ho : o.op = .call { callee := .builtin .append, args := #[s, x], argTypes := #[42, 42] })
    (B : Nat) (v u : Value) (l k t : List Int) (hs : a.eval s = v) (hown : OwnI B w v l) (hx : a.eval x = u) (hu : Is w u k) (hz : NN u)
    (hlen : l.length + k.length ≤ 4294967296) (hB : B ≤ w.heap.size) (ht : l ++ k = t)
    (h : ∀ v' w', OwnI B w' v' t → Below B w w' → wpList Tryz.prog ops Q rest (a.put o.dst v') w') : wpList Tryz.prog ops Q (o :: rest) a w := by
  subst ht
  obtain ⟨i0, hi, hz0, hz1, hz2⟩ := info_parts infoI
  obtain ⟨ad, cap, rfl, h1, h2, h3⟩ := hu
  have hlt := World.ownsRow.lt hown
  cases ad with
  | none =>
    have h0 : k = [] := by
      cases k with
      | nil => rfl
      | cons c k => obtain ⟨b, off, h, _⟩ := h3 (by simp); exact absurd h (by simp)
    subst h0
    obtain rfl := hz _ _ rfl
    refine wpList_append_own_none hgd s x 42 ho B 3 i0 1 Tryz.underlying42 hi v l.length (icells l) hs hown hx ?_
    exact h v w (by simpa using hown) (Below.refl _ _)
  | some ad =>
    have hcs : ∀ j c, (icells k)[j]? = some c → w.cell? (ad.add j) = some c := by
      intro j c hj
      have h0 : 0 < k.length := by
        have := (List.getElem?_eq_some_iff.1 hj).1
        simp [icells] at this; omega
      obtain ⟨b, off, hab, _, hc⟩ := h3 h0
      obtain rfl : ad = ⟨b, off, none⟩ := by simpa using hab
      exact is_cells hc j c hj
    refine wpList_append_own _ hgd s x 42 ho B 3 i0 (.int .i64 0) 1 8 Tryz.underlying42 hi hz0 hz1 hz2 rfl (by decide) v l.length (icells l) hs hown ad k.length cap (icells k) hx (by simp [icells]) hcs one_oneCellI (by unfold maxLen; omega) (by omega) hB ?_
    intro v' w' hown' hg _
    refine h v' w' ?_ ((Below.refl B w).grown hg hB (fun j hj => (hlt j hj).1))
    rw [← icells_append, ← List.length_append] at hown'
    exact hown'
theorem is_drop {w : World} {b off len cap : Nat} {l : List Int} (h : Is w (.slice (some ⟨b, off, none⟩) len cap) l) (n : Nat) (hn : n ≤ len) :
    Is w (.slice (some (if cap = n then ⟨b, off, none⟩ else ⟨b, off + n, none⟩)) (len - n) (cap - n)) (l.drop n) := by
  obtain ⟨a, c, he, h1, h2, h3⟩ := h
  simp only [Value.slice.injEq] at he
  obtain ⟨rfl, rfl, rfl⟩ := he
  refine ⟨some (if cap = n then ⟨b, off, none⟩ else ⟨b, off + n, none⟩), cap - n, by rw [List.length_drop], by rw [List.length_drop]; omega, by omega, fun h0 => ?_⟩
  have h0' : n < l.length := by simp at h0; omega
  obtain ⟨b', off', hab, hb, hc⟩ := h3 (by omega)
  simp only [Option.some.injEq, Addr.mk.injEq, and_true] at hab
  obtain ⟨rfl, rfl⟩ := hab
  have hne : ¬ cap = n := by omega
  refine ⟨b, off + n, by rw [if_neg hne], hb, fun j hj => ?_⟩
  rw [Nat.add_assoc, hc (n + j) (by simp at hj; omega)]
  simp
end Go.Proofs.YtlobinjdgcidmaaGreatDoor

/- What utf.Put returns, for any bytes and any number. -/
namespace Go.Proofs.YtlobinjdgcidmaaGreatDoor
open Go.RowKit
set_option linter.unusedVariables false

set_option maxHeartbeats 400000 in
theorem clone_any (v : Value) (l : List UInt8) (w : World) (hv : Bs w v l) (hl : l.length ≤ 4294967296) :
    Calls Tryz.prog 54 #[v] w fun e w' => ∃ v', e = .returned v' ∧ OwnB w.heap.size w' v' l ∧ Below w.heap.size w w' := by
  obtain ⟨i0, hi, hz0, hz1, hz2⟩ := info_parts infoB
  obtain ⟨a, cap, rfl, h1, h2, h3⟩ := hv
  cases a with
  | none =>
    have h0 : l = [] := by
      cases l with
      | nil => rfl
      | cons c l => obtain ⟨b, off, h, _⟩ := h3 (by simp); exact absurd h (by simp)
    subst h0
    have hq := fun w => Lib.run_eql_slice_nil (P := Tryz.prog) w 29 5 none ([] : List UInt8).length cap 0 0 Tryz.underlying29
    simp only [List.length_nil, Option.isNone_none] at hq
    go_enter Tryz.func54, Tryz.ntmps54
    go_wp2
    go_ret
    exact ⟨_, rfl, World.ownsRow_nil _ _ _ _, Below.refl _ _⟩
  | some ad =>
    have hq := fun w => Lib.run_eql_slice_nil (P := Tryz.prog) w 29 5 (some ad) l.length cap 0 0 Tryz.underlying29
    simp only [Option.isNone_some] at hq
    have hcs : ∀ (W : World) (o : Obj), Below w.heap.size w W → ∀ j u, (bcells l)[j]? = some u → (W.alloc o).cell? (ad.add j) = some u := by
      intro W o hb j u hj
      have h0 : 0 < l.length := by
        have := (List.getElem?_eq_some_iff.1 hj).1
        simp [bcells] at this; omega
      obtain ⟨b, off, hab, hlt, hc⟩ := h3 h0
      obtain rfl : ad = ⟨b, off, none⟩ := by simpa using hab
      have := bs_cells hc j u hj
      have hb2 : Below w.heap.size w (W.alloc o) := hb.alloc hb.size o
      rw [hb2.cell (p := (⟨b, off, none⟩ : Addr).add j) (by rw [Go.WideShapes.add_plain]; exact hlt)]
      exact this
    clear h3
    have Hcs := Lib.hid hcs
    clear hcs
    go_enter Tryz.func54, Tryz.ntmps54
    go_wp2_with (at_builtin; refine wpList_append_own _ rfl _ _ 29 rfl w.heap.size 5 i0 (.int .u8 0) 1 1 Tryz.underlying29 hi hz0 hz1 hz2 rfl (by decide) _ 0 [] rfl (World.ownsRow_made _ #[] 0 (Nat.le_refl _) (by decide) rfl) ad l.length cap (bcells l) rfl (by simp [bcells]) ?c1 one_oneCell ?c3 ?c4 ?c5 ?_)
    case c1 => exact Hcs.out w _ (Below.refl _ _)
    case c3 => unfold maxLen; omega
    case c4 => omega
    case c5 => simp
    intro v' w1 hown hgrow _
    have hb := ((Below.refl w.heap.size w).alloc (Nat.le_refl _) (.cells #[] 5)).grown hgrow (by simp) (fun j hj => by simp [Value.ownBlock] at hj; omega)
    clear hgrow
    go_wp2
    go_ret
    exact ⟨_, rfl, hown, hb⟩

theorem cp_true (r : Int) (w : World) (h : M.isCP r = true) :
    Calls Tryz.prog 52 #[.int .i64 r] w fun e w' => e = .returned (.bool true) ∧ w = w' := by
  rw [M.isCP_iff] at h
  obtain ⟨h1, h2, h3⟩ := h
  rcases h3 with h3 | h3
  · go_enter Tryz.func52, Tryz.ntmps52
    go_wp2
    go_ret
    exact ⟨by simp; try omega, rfl⟩
  · have h4 : ¬ r < 55296 := by omega
    go_enter Tryz.func52, Tryz.ntmps52
    go_wp2
    go_ret
    exact ⟨by simp; try omega, rfl⟩
theorem cp_false (r : Int) (w : World) (h : M.isCP r = false) :
    Calls Tryz.prog 52 #[.int .i64 r] w fun e w' => e = .returned (.bool false) ∧ w = w' := by
  have h0 : ¬ (0 ≤ r ∧ r ≤ 1114111 ∧ (r < 55296 ∨ 57343 < r)) := by rw [← M.isCP_iff]; simp [h]
  clear h
  have h1 : r < 0 ∨ (0 ≤ r ∧ 1114111 < r) ∨ (0 ≤ r ∧ r ≤ 1114111 ∧ 55296 ≤ r ∧ r ≤ 57343) := by omega
  clear h0
  rcases h1 with h1 | ⟨h1, h2⟩ | ⟨h1, h2, h3, h4⟩
  all_goals
    go_enter Tryz.func52, Tryz.ntmps52
    go_wp2
    go_ret
    exact ⟨by simp; try omega, rfl⟩

theorem append_any (B : Nat) (v : Value) (l t : List UInt8) (r : Int) (w : World) (hr0 : -2147483648 ≤ r) (hr1 : r ≤ 2147483647) (hv : OwnB B w v l) (hl : l.length ≤ 4294967296) (hB : B ≤ w.heap.size) (ht : l ++ M.enc r = t) :
    Calls Tryz.prog 53 #[v, .int .i32 r] w fun e w' => ∃ v', e = .returned v' ∧ OwnB B w' v' t ∧ Below B w w' := by
  subst ht
  have hlt := World.ownsRow.lt hv
  refine (Tryz.utf8_AppendRune_plain B v l.length (bcells l) r hr0 hr1 w hv (by omega) hB).mono ?_
  rintro e w' ⟨v', rfl, hown, o, hg⟩
  refine ⟨v', rfl, ?_, ((Below.refl B w).alloc hB o).grown hg (by simp; omega) (fun j hj => (hlt j hj).1)⟩
  rw [runeCells_eq, ← bcells_append, bcells_len, ← List.length_append] at hown
  exact hown

set_option maxHeartbeats 400000 in
theorem put_any (v : Value) (l t : List UInt8) (r : Int) (w : World) (hv : Bs w v l) (hl : l.length ≤ 4294967296) (ht : l ++ M.enc r = t) :
    Calls Tryz.prog 33 #[v, .int .i64 r] w fun e w' => ∃ v', e = .returned v' ∧ OwnB w.heap.size w' v' t ∧ Below w.heap.size w w' := by
  by_cases hcp : M.isCP r = true
  · have hr := (M.isCP_iff r).1 hcp
    have hr0 : 0 ≤ r := hr.1
    have hr1 : r ≤ 1114111 := hr.2.1
    have Hcp := Lib.hid hcp
    have Ht := Lib.hid ht
    clear hr hcp ht
    go_enter Tryz.func33, Tryz.ntmps33
    go_wp2_with fail
    refine (cp_true r _ Hcp.out).mono ?_
    rintro e w' ⟨rfl, rfl⟩
    go_wp2_with fail
    refine (clone_any v l _ hv hl).mono ?_
    rintro e w1 ⟨v1, rfl, ho, hb⟩
    go_wp2_with fail
    refine (append_any w.heap.size v1 l t r _ (by omega) (by omega) ho hl hb.size Ht.out).mono ?_
    rintro e w2 ⟨v2, rfl, ho2, hb2⟩
    go_wp2
    go_ret
    exact ⟨_, rfl, ho2, hb.trans hb2⟩
  · have hcp' : M.isCP r = false := by simpa using hcp
    rw [M.enc_other r hcp'] at ht
    have Hcp := Lib.hid hcp'
    have Ht := Lib.hid ht
    clear hcp hcp' ht
    go_enter Tryz.func33, Tryz.ntmps33
    go_wp2_with fail
    refine (cp_false r _ Hcp.out).mono ?_
    rintro e w' ⟨rfl, rfl⟩
    go_wp2_with fail
    refine (clone_any v l _ hv hl).mono ?_
    rintro e w1 ⟨v1, rfl, ho, hb⟩
    go_wp2_with fail
    refine (append_any w.heap.size v1 l t 65533 _ (by omega) (by omega) ho hl hb.size Ht.out).mono ?_
    rintro e w2 ⟨v2, rfl, ho2, hb2⟩
    go_wp2
    go_ret
    exact ⟨_, rfl, ho2, hb.trans hb2⟩
end Go.Proofs.YtlobinjdgcidmaaGreatDoor
/- What the tables of Go's library hold that our walks read. -/
namespace Go.Proofs.YtlobinjdgcidmaaGreatDoor
open Go.RowKit
set_option linter.unusedVariables false

def Tabs (w : World) : Prop := Lib.Utf8Tabs 1 2 w ∧ Lib.TabIs Tryz.prog w "internal/strconv.uint64pow10" .u64 Lib.pow10Tab ∧ w.cell? ⟨7, 15, none⟩ = some (.int .u8 4)
theorem Tabs.u {w : World} (h : Tabs w) : Lib.Utf8Tabs 1 2 w := h.1
theorem Tabs.p {w : World} (h : Tabs w) : Lib.TabIs Tryz.prog w "internal/strconv.uint64pow10" .u64 Lib.pow10Tab := h.2.1
theorem Tabs.keep {w w' : World} (h : Tabs w) (hb : Below w.heap.size w w') : Tabs w' := by
  obtain ⟨⟨h1, h2⟩, h3, h4⟩ := h
  refine ⟨⟨fun c hc => ?_, fun i hi => ⟨?_, ?_⟩⟩, Joins.tab_stays (g := 3) (by kernel_rfl) h3 hb (Nat.le_refl _), ?_⟩
  · rw [hb.cell (World.block_lt_of_cell? w _ (h1 c hc))]; exact h1 c hc
  · rw [hb.cell (World.block_lt_of_cell? w _ (h2 i hi).1)]; exact (h2 i hi).1
  · rw [hb.cell (World.block_lt_of_cell? w _ (h2 i hi).2)]; exact (h2 i hi).2
  · rw [hb.cell (World.block_lt_of_cell? w _ h4)]; exact h4
end Go.Proofs.YtlobinjdgcidmaaGreatDoor
