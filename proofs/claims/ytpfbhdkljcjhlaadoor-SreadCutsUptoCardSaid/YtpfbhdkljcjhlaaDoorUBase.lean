/- Bytes in memory: a slice that holds them, a slice of the call's own, a text out of one. -/
import Derived.Test.YtpfbhdkljcjhlaaDoorRows
import Derived.Test.YtpfbhdkljcjhlaaDoorUMath
import Derived.Test.YtpfbhdkljcjhlaaDoorUMath2
import Derived.WalkKit
import Derived.ProofKit
import Derived.OpenShut
import Derived.Below
import Derived.Lib.Hide
import Derived.Lib.SlBytesRow
import Derived.IntWalk
import Derived.WalkSpells
import Derived.Lib.LazyBuf
import Derived.Lib.BufferRead
namespace Go.Proofs.YtpfbhdkljcjhlaaDoor
open Go.RowKit
set_option linter.unusedVariables false

/-- The three results of reading. -/
def tri (r : Int × Int × Bool) : Value := .tuple #[.int .i64 r.1, .int .i64 r.2.1, .bool r.2.2]
/-- A slice that holds these bytes. -/
def Bs (w : World) (v : Value) (l : List UInt8) : Prop :=
  ∃ a cap, v = .slice a l.length cap ∧ l.length ≤ cap ∧ cap ≤ maxLen ∧ (0 < l.length → ∃ b off, a = some ⟨b, off, none⟩ ∧ b < w.heap.size ∧ ∀ j (h : j < l.length), w.cell? ⟨b, off + j, none⟩ = some (.int .u8 (l[j].toNat : Int)))
theorem Bs.below {B : Nat} {w w' : World} {v : Value} {l : List UInt8} (h : Bs w v l) (hb : Below B w w') (hB : w.heap.size ≤ B) : Bs w' v l := by
  obtain ⟨a, cap, rfl, h1, h2, h3⟩ := h
  refine ⟨a, cap, rfl, h1, h2, fun h0 => ?_⟩
  obtain ⟨b, off, rfl, hlt, hc⟩ := h3 h0
  exact ⟨b, off, rfl, Nat.lt_of_lt_of_le hlt hb.size, fun j hj => by rw [hb.cell (p := ⟨b, off + j, none⟩) (Nat.lt_of_lt_of_le hlt hB)]; exact hc j hj⟩
theorem Bs.keep {w w' : World} {v : Value} {l : List UInt8} (h : Bs w v l) (hb : Below w.heap.size w w') : Bs w' v l := h.below hb (Nat.le_refl _)
/-- The cells of bytes. -/
def bcells (l : List UInt8) : List Value := l.map fun c => .int .u8 (c.toNat : Int)
theorem bcells_append (k l : List UInt8) : bcells (k ++ l) = bcells k ++ bcells l := by simp [bcells]
theorem bcells_len (l : List UInt8) : (bcells l).length = l.length := by simp [bcells]
theorem runeCells_eq (r : Int) : Lib.runeCells r = bcells (M.enc r) := by
  have h : ∀ x ∈ Lib.encodeRuneZ r, 0 ≤ x ∧ x < 256 := by
    intro x hx
    unfold Lib.encodeRuneZ at hx
    repeat' split at hx
    all_goals
      simp only [List.mem_cons, List.mem_nil_iff, or_false] at hx
      omega
  unfold Lib.runeCells bcells M.enc Lib.encodeRune
  rw [List.map_map]
  apply List.map_congr_left
  intro x hx
  have := h x hx
  simp only [Function.comp]
  rw [M.toU8 x.toNat (by omega)]
  congr 1
  omega
/-- A slice of the call's own that holds these bytes. -/
def OwnB (B : Nat) (w : World) (v : Value) (l : List UInt8) : Prop := w.ownsRow B 5 1 v l.length (bcells l)
theorem OwnB.bs {B : Nat} {w : World} {v : Value} {l : List UInt8} (h : OwnB B w v l) : Bs w v l := by
  have hc := h
  have hlt := World.ownsRow.lt h
  obtain ⟨_, ⟨rfl, h0⟩ | ⟨g, cap, cur, rfl, _, _, h1, h2, _⟩⟩ := h
  · exact ⟨none, 0, by rw [h0], by omega, by omega, fun h => by omega⟩
  · refine ⟨_, cap, rfl, h1, h2, fun _ => ⟨g, 0, rfl, (hlt g rfl).2, fun j hj => ?_⟩⟩
    have := World.ownsRow.cells hc rfl j (.int .u8 (l[j].toNat : Int)) (by simp [bcells, hj])
    rwa [show (⟨g, 0, none⟩ : Addr).add j = ⟨g, 0 + j, none⟩ by cases j <;> simp [Addr.add]] at this
theorem infoB : (Tryd.prog.info? 5).map (fun i => (i.zero, i.size, i.bytes)) = some (some (.int .u8 0), 1, 1) := by kernel_rfl
theorem one_oneCell {l : List UInt8} : ∀ u ∈ bcells l, u.oneCell' = true := by
  intro u hu
  simp only [bcells, List.mem_map] at hu
  obtain ⟨c, _, rfl⟩ := hu
  rfl
theorem bs_cells {w : World} {b off : Nat} {l : List UInt8} (h : ∀ j (h : j < l.length), w.cell? ⟨b, off + j, none⟩ = some (.int .u8 (l[j].toNat : Int))) :
    ∀ j u, (bcells l)[j]? = some u → w.cell? ((⟨b, off, none⟩ : Addr).add j) = some u := by
  intro j u hj
  have hl : j < l.length := by
    have := (List.getElem?_eq_some_iff.1 hj).1
    simpa [bcells] using this
  have : u = .int .u8 (l[j].toNat : Int) := by simpa [bcells, hl] using hj.symm
  subst this
  rw [Go.WideShapes.add_plain]
  exact h j hl

def bytes (l : List UInt8) : ByteArray := ⟨l.toArray⟩
theorem bytes_list (l : List UInt8) : (bytes l).data.toList = l := by simp [bytes]
theorem bytes_size (l : List UInt8) : (bytes l).size = l.length := by simp [bytes, ByteArray.size]

theorem bs_new (w : World) (l : List UInt8) (hl : l.length ≤ 1048576) : Bs (w.alloc (.cells (bcells l).toArray 5)) (.slice (some ⟨w.heap.size, 0, none⟩) l.length l.length) l := by
  refine ⟨_, _, rfl, Nat.le_refl _, by unfold maxLen; omega, fun _ => ⟨w.heap.size, 0, rfl, by simp, fun j hj => ?_⟩⟩
  rw [World.cell?_alloc_at _ _ _ _ rfl]
  simp [bcells, hj]
theorem bs_nil (w : World) : Bs w (.slice none 0 0) [] := ⟨none, 0, rfl, by simp, by decide, fun h => by simp at h⟩

theorem conv_own {B : Nat} {w : World} {v : Value} {l : List UInt8} (h : OwnB B w v l) : (convert 47 9 v).run Tryd.prog w = .ok (.string (bytes l)) w := by
  have hc := h
  obtain ⟨_, ⟨rfl, h0⟩ | ⟨g, cap, cur, rfl, _⟩⟩ := h
  · have : l = [] := List.length_eq_zero_iff.1 h0
    subst this
    exact Lib.run_convert_nil_bytes w 47 9 5 0 Tryd.underlying47 Tryd.underlying5 Tryd.underlying9
  · have hB : Lib.Bytes w g 0 (bytes l) := by
      intro i hi
      have hi' : i < l.length := by simpa [bytes, ByteArray.size] using hi
      have := World.ownsRow.cells hc rfl i (.int .u8 (l[i].toNat : Int)) (by simp [bcells, hi'])
      rw [show (⟨g, 0, none⟩ : Addr).add i = ⟨g, 0 + i, none⟩ by cases i <;> simp [Addr.add]] at this
      rw [this]
      congr 3
    have := Lib.run_convert_whole (P := Tryd.prog) w 47 5 9 Tryd.underlying47 Tryd.underlying5 Tryd.underlying9 g 0 _ hB cap
    rw [bytes_size] at this
    exact this

theorem bs_newm (w : World) (l : List UInt8) (m : Nat × Nat) (hl : l.length ≤ 1048576) : Bs (w.alloc (.cells (bcells l).toArray 5 m)) (.slice (some ⟨w.heap.size, 0, none⟩) l.length l.length) l := by
  refine ⟨_, _, rfl, Nat.le_refl _, by unfold maxLen; omega, fun _ => ⟨w.heap.size, 0, rfl, by simp, fun j hj => ?_⟩⟩
  rw [World.cell?_alloc_mark]
  simp [bcells, hj]
theorem bs_cells_new (w : World) (l : List UInt8) (cs : List Value) (n : Nat) (h : bcells l = cs) (hn : cs.length = n) (hl : l.length ≤ 1048576) :
    Bs (w.alloc (.cells cs.toArray 5)) (.slice (some ⟨w.heap.size, 0, none⟩) n n) l := by
  have := bs_new w l hl
  have e : l.length = n := by rw [← hn, ← h]; simp [bcells]
  rw [h] at this
  simpa [e] using this
/-- A slice literal of bytes is the call's own. -/
theorem ownB_built (B : Nat) (w : World) (l : List UInt8) (cs : List Value) (n : Nat) (hB : B ≤ w.heap.size) (h : bcells l = cs) (hn : cs.length = n) (hl : l.length ≤ 1048576) :
    OwnB B (w.alloc (.cells cs.toArray 5)) (.slice (some ⟨w.heap.size, 0, none⟩) n n) l := by
  subst h
  have e : l.length = n := by rw [← hn]; simp [bcells]
  subst e
  exact ⟨by simp [bcells], .inr ⟨w.heap.size, l.length, _, rfl, hB, heap_alloc_new w _, Nat.le_refl _, by unfold maxLen; omega, by simp [bcells], by rw [Nat.mul_one]; exact List.take_of_length_le (by simp [bcells])⟩⟩
/-- A row of the call's own stands behind whatever leaves all that was there. -/
theorem ownsRow_keep {B : Nat} {w w' : World} {e : TypeId} {s : Nat} {v : Value} {n : Nat} {xs : List Value} (h : w.ownsRow B e s v n xs) (hb : Below w.heap.size w w') : w'.ownsRow B e s v n xs := by
  obtain ⟨h1, h2 | ⟨g, cap, cur, rfl, a, b, c⟩⟩ := h
  · exact ⟨h1, .inl h2⟩
  · have hg : g < w.heap.size := by
      obtain ⟨hh, _⟩ := Array.getElem?_eq_some_iff.1 b
      exact hh
    exact ⟨h1, .inr ⟨g, cap, cur, rfl, a, by rw [hb.block g hg]; exact b, c⟩⟩
theorem OwnB.keep {B : Nat} {w w' : World} {v : Value} {l : List UInt8} (h : OwnB B w v l) (hb : Below w.heap.size w w') : OwnB B w' v l := ownsRow_keep h hb
end Go.Proofs.YtpfbhdkljcjhlaaDoor
