/- Pieces, places and segments in memory. -/
import Derived.Test.YtpedipalpebolaaDoorVBase
import Derived.Test.YtpedipalpebolaaDoorPMath
import Derived.Test.YtpedipalpebolaaDoorIBase
namespace Go.Proofs.YtpedipalpebolaaDoor
open Go.RowKit
set_option linter.unusedVariables false
set_option linter.unusedSimpArgs false

theorem ptoList (l : List UInt8) : (bytes l).toList = l := by
  rw [ByteArray.toList_eq]; exact bytes_list l
theorem pstr_nil (S : ByteArray) (l : List UInt8) (h : bytes l = S) (h0 : l = []) : S.toList = [] ∧ S.toList.isEmpty = true ∧ (!S.toList.isEmpty) = false := by
  subst h; subst h0; rw [ptoList]; simp
theorem pstr_ne (S : ByteArray) (l : List UInt8) (h : bytes l = S) (h0 : l ≠ []) : S.toList.isEmpty = false ∧ (!S.toList.isEmpty) = true ∧ ¬ S.toList = [] := by
  subst h; rw [ptoList]; simp [h0]
/-- A piece, a place, a segment: in cells. -/
def pv (p : List UInt8 × Int) : List Value := [.string (bytes p.1), .int .i64 p.2]
def plv (p : Nat × Nat × Nat) : List Value := [.int .i64 (p.1 : Int), .int .i64 (p.2.1 : Int), .int .i64 (p.2.2 : Int)]
def sgv (p : M.Sg) : List Value := [.int .i64 (p.1 : Int), .int .i64 (p.2.1 : Int), .int .i64 (p.2.2.1 : Int), .int .i64 (p.2.2.2 : Int)]
theorem map_len {α : Type} {f : α → List Value} {k : Nat} (hf : ∀ x, (f x).length = k) (l : List α) : ∀ y ∈ l.map f, y.length = k := by
  intro y hy
  obtain ⟨x, _, rfl⟩ := List.mem_map.1 hy
  exact hf x
theorem map_one {α : Type} {f : α → List Value} (hf : ∀ x, ∀ c ∈ f x, c.oneCell' = true) (l : List α) : ∀ y ∈ l.map f, ∀ c ∈ y, c.oneCell' = true := by
  intro y hy
  obtain ⟨x, _, rfl⟩ := List.mem_map.1 hy
  exact hf x
theorem pv_one (p : List UInt8 × Int) : ∀ c ∈ pv p, c.oneCell' = true := by intro c hc; simp [pv] at hc; rcases hc with rfl | rfl <;> rfl
theorem plv_one (p : Nat × Nat × Nat) : ∀ c ∈ plv p, c.oneCell' = true := by intro c hc; simp [plv] at hc; rcases hc with rfl | rfl | rfl <;> rfl
theorem sgv_one (p : M.Sg) : ∀ c ∈ sgv p, c.oneCell' = true := by intro c hc; simp [sgv] at hc; rcases hc with rfl | rfl | rfl | rfl <;> rfl
theorem infoPc : (Tryd.prog.info? 33).map (fun i => (i.zero, i.size, i.bytes)) = some (some (.agg #[.string ⟨#[]⟩, .int .i64 0]), 2, 24) := by kernel_rfl
theorem infoPl : (Tryd.prog.info? 43).map (fun i => (i.zero, i.size, i.bytes)) = some (some (.agg #[.int .i64 0, .int .i64 0, .int .i64 0]), 3, 24) := by kernel_rfl
theorem infoSg : (Tryd.prog.info? 35).map (fun i => (i.zero, i.size, i.bytes)) = some (some (.agg #[.int .i64 0, .int .i64 0, .int .i64 0, .int .i64 0]), 4, 32) := by kernel_rfl
def Ps (w : World) (v : Value) (l : M.Pcs) : Prop := Vs 2 w v (l.map pv)
def OwnP (B : Nat) (w : World) (v : Value) (l : M.Pcs) : Prop := OwnV 33 2 B w v (l.map pv)
def OwnL (B : Nat) (w : World) (v : Value) (l : List (Nat × Nat × Nat)) : Prop := OwnV 43 3 B w v (l.map plv)
def OwnS (B : Nat) (w : World) (v : Value) (l : List M.Sg) : Prop := OwnV 35 4 B w v (l.map sgv)
theorem OwnP.keep {B : Nat} {w w' : World} {v : Value} {l : M.Pcs} (h : OwnP B w v l) (hb : Below w.heap.size w w') : OwnP B w' v l := OwnV.keep h hb
theorem OwnL.keep {B : Nat} {w w' : World} {v : Value} {l : List (Nat × Nat × Nat)} (h : OwnL B w v l) (hb : Below w.heap.size w w') : OwnL B w' v l := OwnV.keep h hb
theorem OwnS.keep {B : Nat} {w w' : World} {v : Value} {l : List M.Sg} (h : OwnS B w v l) (hb : Below w.heap.size w w') : OwnS B w' v l := OwnV.keep h hb
theorem Ps.keep {w w' : World} {v : Value} {l : M.Pcs} (h : Ps w v l) (hb : Below w.heap.size w w') : Ps w' v l := Vs.keep h hb
theorem OwnP.ps {B : Nat} {w : World} {v : Value} {l : M.Pcs} (h : OwnP B w v l) : Ps w v l := OwnV.vs h

/-- Pieces that lie below a block: the value, and each cell. -/
def PsAt (B : Nat) (w : World) (v : Value) (l : M.Pcs) : Prop :=
  ∃ a cap, v = .slice a l.length cap ∧ l.length ≤ cap ∧ cap ≤ maxLen ∧ (0 < l.length → ∃ b off, a = some ⟨b, off, none⟩ ∧ b < B ∧ ∀ j (hj : j < l.length),
    w.cell? ⟨b, off + j * 2, none⟩ = some (.string (bytes l[j].1)) ∧ w.cell? ⟨b, off + j * 2 + 1, none⟩ = some (.int .i64 l[j].2))
theorem psAt_of {w : World} {v : Value} {l : M.Pcs} (h : Ps w v l) : PsAt w.heap.size w v l := by
  obtain ⟨a, cap, rfl, h1, h2, h3⟩ := h
  rw [List.length_map] at h1
  refine ⟨a, cap, by rw [List.length_map], h1, h2, fun h0 => ?_⟩
  obtain ⟨b, off, rfl, hb, hc⟩ := h3 (by rw [List.length_map]; exact h0)
  refine ⟨b, off, rfl, hb, fun j hj => ?_⟩
  have h4 := hc j (by rw [List.length_map]; exact hj)
  have h5 := h4 0 (.string (bytes l[j].1)) (by simp [pv])
  have h6 := h4 1 (.int .i64 l[j].2) (by simp [pv])
  exact ⟨by simpa using h5, by rw [Nat.add_assoc]; exact h6⟩
theorem psAt_keep {B C : Nat} {w w' : World} {v : Value} {l : M.Pcs} (h : PsAt B w v l) (hb : Below C w w') (hC : B ≤ C) : PsAt B w' v l := by
  obtain ⟨a, cap, rfl, h1, h2, h3⟩ := h
  refine ⟨a, cap, rfl, h1, h2, fun h0 => ?_⟩
  obtain ⟨b, off, rfl, hlt, hc⟩ := h3 h0
  refine ⟨b, off, rfl, hlt, fun j hj => ?_⟩
  obtain ⟨x0, x1⟩ := hc j hj
  exact ⟨(hb.cell (p := ⟨b, off + j * 2, none⟩) (Nat.lt_of_lt_of_le hlt hC)).trans x0, (hb.cell (p := ⟨b, off + j * 2 + 1, none⟩) (Nat.lt_of_lt_of_le hlt hC)).trans x1⟩
/-- The address and one element, of a value written out. -/
theorem psAt_get {B : Nat} {w : World} {a : Option Addr} {n cap : Nat} {l : M.Pcs} (h : PsAt B w (.slice a n cap) l) (j : Nat) (hj : j < l.length) :
    ∃ b off, a = some ⟨b, off, none⟩ ∧ b < B ∧ w.cell? ⟨b, off + j * 2, none⟩ = some (.string (bytes l[j].1)) ∧ w.cell? ⟨b, off + j * 2 + 1, none⟩ = some (.int .i64 l[j].2) := by
  obtain ⟨a', c', hs, _, _, h3⟩ := h
  simp only [Value.slice.injEq] at hs
  obtain ⟨rfl, _, _⟩ := hs
  obtain ⟨b, off, rfl, hb, hc⟩ := h3 (by omega)
  exact ⟨b, off, rfl, hb, (hc j hj).1, (hc j hj).2⟩
theorem PsAt.of_le {B C : Nat} {w : World} {v : Value} {l : M.Pcs} (h : PsAt B w v l) (hC : B ≤ C) : PsAt C w v l := by
  obtain ⟨a, cap, rfl, h1, h2, h3⟩ := h
  refine ⟨a, cap, rfl, h1, h2, fun h0 => ?_⟩
  obtain ⟨b, off, rfl, hlt, hc⟩ := h3 h0
  exact ⟨b, off, rfl, Nat.lt_of_lt_of_le hlt hC, hc⟩
/-- Places that lie somewhere below a block. -/
def LsAt (B : Nat) (w : World) (v : Value) (l : List (Nat × Nat × Nat)) : Prop :=
  ∃ a cap, v = .slice a l.length cap ∧ (0 < l.length → ∃ b off, a = some ⟨b, off, none⟩ ∧ b < B ∧ ∀ j (hj : j < l.length),
    w.cell? ⟨b, off + j * 3, none⟩ = some (.int .i64 (l[j].1 : Int)) ∧ w.cell? ⟨b, off + j * 3 + 1, none⟩ = some (.int .i64 (l[j].2.1 : Int)) ∧ w.cell? ⟨b, off + j * 3 + 2, none⟩ = some (.int .i64 (l[j].2.2 : Int)))
theorem lsAt_of {B : Nat} {w : World} {v : Value} {l : List (Nat × Nat × Nat)} (h : OwnL B w v l) : LsAt w.heap.size w v l := by
  obtain ⟨a, cap, rfl, h1, h2, h3⟩ := OwnV.vs h
  rw [List.length_map] at h1
  refine ⟨a, cap, by rw [List.length_map], fun h0 => ?_⟩
  obtain ⟨b, off, rfl, hb, hc⟩ := h3 (by rw [List.length_map]; exact h0)
  refine ⟨b, off, rfl, hb, fun j hj => ?_⟩
  have h4 := hc j (by rw [List.length_map]; exact hj)
  have h5 := h4 0 (.int .i64 (l[j].1 : Int)) (by simp [plv])
  have h6 := h4 1 (.int .i64 (l[j].2.1 : Int)) (by simp [plv])
  have h7 := h4 2 (.int .i64 (l[j].2.2 : Int)) (by simp [plv])
  exact ⟨by simpa using h5, by rw [Nat.add_assoc]; exact h6, by rw [Nat.add_assoc]; exact h7⟩
theorem lsAt_keep {B C : Nat} {w w' : World} {v : Value} {l : List (Nat × Nat × Nat)} (h : LsAt B w v l) (hb : Below C w w') (hC : B ≤ C) : LsAt B w' v l := by
  obtain ⟨a, cap, rfl, h3⟩ := h
  refine ⟨a, cap, rfl, fun h0 => ?_⟩
  obtain ⟨b, off, rfl, hlt, hc⟩ := h3 h0
  refine ⟨b, off, rfl, hlt, fun j hj => ?_⟩
  obtain ⟨x0, x1, x2⟩ := hc j hj
  exact ⟨(hb.cell (p := ⟨b, off + j * 3, none⟩) (Nat.lt_of_lt_of_le hlt hC)).trans x0, (hb.cell (p := ⟨b, off + j * 3 + 1, none⟩) (Nat.lt_of_lt_of_le hlt hC)).trans x1, (hb.cell (p := ⟨b, off + j * 3 + 2, none⟩) (Nat.lt_of_lt_of_le hlt hC)).trans x2⟩
/-- Segments that lie somewhere below a block. -/
def SsAt (B : Nat) (w : World) (v : Value) (l : List M.Sg) : Prop :=
  ∃ a cap, v = .slice a l.length cap ∧ (0 < l.length → ∃ b off, a = some ⟨b, off, none⟩ ∧ b < B ∧ ∀ j (hj : j < l.length),
    w.cell? ⟨b, off + j * 4, none⟩ = some (.int .i64 (l[j].1 : Int)) ∧ w.cell? ⟨b, off + j * 4 + 1, none⟩ = some (.int .i64 (l[j].2.1 : Int)) ∧ w.cell? ⟨b, off + j * 4 + 2, none⟩ = some (.int .i64 (l[j].2.2.1 : Int)) ∧ w.cell? ⟨b, off + j * 4 + 3, none⟩ = some (.int .i64 (l[j].2.2.2 : Int)))
theorem ssAt_of {B : Nat} {w : World} {v : Value} {l : List M.Sg} (h : OwnS B w v l) : SsAt w.heap.size w v l := by
  obtain ⟨a, cap, rfl, h1, h2, h3⟩ := OwnV.vs h
  rw [List.length_map] at h1
  refine ⟨a, cap, by rw [List.length_map], fun h0 => ?_⟩
  obtain ⟨b, off, rfl, hb, hc⟩ := h3 (by rw [List.length_map]; exact h0)
  refine ⟨b, off, rfl, hb, fun j hj => ?_⟩
  have h4 := hc j (by rw [List.length_map]; exact hj)
  have h5 := h4 0 (.int .i64 (l[j].1 : Int)) (by simp [sgv])
  have h6 := h4 1 (.int .i64 (l[j].2.1 : Int)) (by simp [sgv])
  have h7 := h4 2 (.int .i64 (l[j].2.2.1 : Int)) (by simp [sgv])
  have h8 := h4 3 (.int .i64 (l[j].2.2.2 : Int)) (by simp [sgv])
  exact ⟨by simpa using h5, by rw [Nat.add_assoc]; exact h6, by rw [Nat.add_assoc]; exact h7, by rw [Nat.add_assoc]; exact h8⟩
theorem ssAt_keep {B C : Nat} {w w' : World} {v : Value} {l : List M.Sg} (h : SsAt B w v l) (hb : Below C w w') (hC : B ≤ C) : SsAt B w' v l := by
  obtain ⟨a, cap, rfl, h3⟩ := h
  refine ⟨a, cap, rfl, fun h0 => ?_⟩
  obtain ⟨b, off, rfl, hlt, hc⟩ := h3 h0
  refine ⟨b, off, rfl, hlt, fun j hj => ?_⟩
  obtain ⟨x0, x1, x2, x3⟩ := hc j hj
  exact ⟨(hb.cell (p := ⟨b, off + j * 4, none⟩) (Nat.lt_of_lt_of_le hlt hC)).trans x0, (hb.cell (p := ⟨b, off + j * 4 + 1, none⟩) (Nat.lt_of_lt_of_le hlt hC)).trans x1, (hb.cell (p := ⟨b, off + j * 4 + 2, none⟩) (Nat.lt_of_lt_of_le hlt hC)).trans x2, (hb.cell (p := ⟨b, off + j * 4 + 3, none⟩) (Nat.lt_of_lt_of_le hlt hC)).trans x3⟩

theorem one_place (w : World) (a b c : Nat) : Vs 3 (w.alloc (.cells #[.int .i64 (a : Int), .int .i64 (b : Int), .int .i64 (c : Int)] 43)) (.slice (some ⟨w.heap.size, 0, none⟩) 1 1) [plv (a, b, c)] :=
  vs_cells 3 43 w [plv (a, b, c)] _ 1 rfl (map_len (f := plv) (fun _ => rfl) [(a, b, c)]) rfl (by simp)
theorem one_seg (w : World) (a b c d : Nat) : Vs 4 (w.alloc (.cells #[.int .i64 (a : Int), .int .i64 (b : Int), .int .i64 (c : Int), .int .i64 (d : Int)] 35)) (.slice (some ⟨w.heap.size, 0, none⟩) 1 1) [sgv (a, b, c, d)] :=
  vs_cells 4 35 w [sgv (a, b, c, d)] _ 1 rfl (map_len (f := sgv) (fun _ => rfl) [(a, b, c, d)]) rfl (by simp)
theorem one_piece (w : World) (t : List UInt8) (S : ByteArray) (f : Int) (hS : bytes t = S) : Vs 2 (w.alloc (.cells #[.string S, .int .i64 f] 33)) (.slice (some ⟨w.heap.size, 0, none⟩) 1 1) [pv (t, f)] := by
  subst hS
  exact vs_cells 2 33 w [pv (t, f)] _ 1 rfl (map_len (f := pv) (fun _ => rfl) [(t, f)]) rfl (by simp)
theorem wpl_place {w : World} {ops : Array Oper} {rest : List Oper} {o : Oper} {a : Act} {Q : Exit → Act → World → Prop} (hgd : o.guard = none) (s x : Operand)
    (ho : o.op = .call { callee := .builtin .append, args := #[s, x], argTypes := #[38, 38] })
    (B : Nat) (v u : Value) (l t : List (Nat × Nat × Nat)) (p : Nat × Nat × Nat) (hs : a.eval s = v) (hown : OwnL B w v l) (hx : a.eval x = u) (hu : Vs 3 w u [plv p]) (hnn : NNv u)
    (hlen : l.length ≤ 4294967296) (hB : B ≤ w.heap.size) (ht : l ++ [p] = t)
    (h : ∀ v' w', OwnL B w' v' t → Below B w w' → wpList Tryd.prog ops Q rest (a.put o.dst v') w') : wpList Tryd.prog ops Q (o :: rest) a w :=
  wpl_appendV hgd s x ho Tryd.underlying38 infoPl rfl (by decide) B v u (l.map plv) [plv p] (t.map plv) hs hown hx hu hnn (map_len (f := plv) (fun _ => rfl) [p]) (map_one plv_one [p]) (by simp; omega) (by decide) hB (by rw [← ht]; simp) h
theorem wpl_seg {w : World} {ops : Array Oper} {rest : List Oper} {o : Oper} {a : Act} {Q : Exit → Act → World → Prop} (hgd : o.guard = none) (s x : Operand)
    (ho : o.op = .call { callee := .builtin .append, args := #[s, x], argTypes := #[27, 27] })
    (B : Nat) (v u : Value) (l t : List M.Sg) (p : M.Sg) (hs : a.eval s = v) (hown : OwnS B w v l) (hx : a.eval x = u) (hu : Vs 4 w u [sgv p]) (hnn : NNv u)
    (hlen : l.length ≤ 4294967296) (hB : B ≤ w.heap.size) (ht : l ++ [p] = t)
    (h : ∀ v' w', OwnS B w' v' t → Below B w w' → wpList Tryd.prog ops Q rest (a.put o.dst v') w') : wpList Tryd.prog ops Q (o :: rest) a w :=
  wpl_appendV hgd s x ho Tryd.underlying27 infoSg rfl (by decide) B v u (l.map sgv) [sgv p] (t.map sgv) hs hown hx hu hnn (map_len (f := sgv) (fun _ => rfl) [p]) (map_one sgv_one [p]) (by simp; omega) (by decide) hB (by rw [← ht]; simp) h
theorem wpl_pieces {w : World} {ops : Array Oper} {rest : List Oper} {o : Oper} {a : Act} {Q : Exit → Act → World → Prop} (hgd : o.guard = none) (s x : Operand)
    (ho : o.op = .call { callee := .builtin .append, args := #[s, x], argTypes := #[22, 22] })
    (B : Nat) (v u : Value) (l k t : M.Pcs) (hs : a.eval s = v) (hown : OwnP B w v l) (hx : a.eval x = u) (hu : Vs 2 w u (k.map pv)) (hnn : NNv u)
    (hlen : l.length + k.length ≤ 4294967296) (hB : B ≤ w.heap.size) (ht : l ++ k = t)
    (h : ∀ v' w', OwnP B w' v' t → Below B w w' → wpList Tryd.prog ops Q rest (a.put o.dst v') w') : wpList Tryd.prog ops Q (o :: rest) a w :=
  wpl_appendV hgd s x ho Tryd.underlying22 infoPc rfl (by decide) B v u (l.map pv) (k.map pv) (t.map pv) hs hown hx hu hnn (map_len (f := pv) (fun _ => rfl) k) (map_one pv_one k) (by simp; omega) (by decide) hB (by rw [← ht]; simp) h
end Go.Proofs.YtpedipalpebolaaDoor
