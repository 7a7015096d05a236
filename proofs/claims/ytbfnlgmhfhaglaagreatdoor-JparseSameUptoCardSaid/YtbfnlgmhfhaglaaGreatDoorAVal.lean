/- Values of JSON, of any shape, in memory: lists of values as forests; a value that came in, opened. -/
import Derived.Test.YtbfnlgmhfhaglaaGreatDoorJgB
import Derived.Deep.Slices
import Derived.Deep.Fields
import Derived.Deep.MidRow
import Derived.ChangeSame
import Derived.ProofKit
import Derived.OpenShut
namespace Go.Proofs.YtbfnlgmhfhaglaaGreatDoor
open Go.RowKit Go.ChangeShapes Go.WideShapes
set_option linter.unusedVariables false
set_option linter.unusedSimpArgs false

/-- A value but for its items. -/
structure Vh where
  k : Int
  tx : List Int
  ng : Bool
  dg : List UInt8
  ex : List UInt8
  fr : Int
  tt : Int
  ms : List Int
/-- A list of values: the first one, its items; the rest. -/
inductive Vo where
  | nil : Vo
  | cons (h : Vh) (kids rest : Vo) : Vo
def Vo.len : Vo → Nat
  | .nil => 0
  | .cons _ _ r => r.len + 1
/-- The n-th one. -/
def Vo.at? : Vo → Nat → Option (Vh × Vo)
  | .nil, _ => none
  | .cons h kids _, 0 => some (h, kids)
  | .cons _ _ r, n + 1 => r.at? n
theorem Vo.at_some (L : Vo) : ∀ j, j < L.len → ∃ h kids, L.at? j = some (h, kids) := by
  induction L with
  | nil => intro j h; simp [Vo.len] at h
  | cons h kids rest _ ih =>
    intro j hj
    cases j with
    | zero => exact ⟨h, kids, rfl⟩
    | succ j => exact ih j (by simp [Vo.len] at hj; omega)
theorem vo_at_lt (L : Vo) : ∀ i {x}, L.at? i = some x → i < L.len := by
  induction L with
  | nil => intro i x h; simp [Vo.at?] at h
  | cons h kids rest _ ih =>
    intro i x hx
    cases i with
    | zero => simp [Vo.len]
    | succ i => have := ih i hx; simp [Vo.len]; omega
/-- Its cells. -/
def vvl (h : Vh) (tv v mv : Value) : List Value := [.int .i64 h.k, tv, .bool h.ng, .string (bytes h.dg), .string (bytes h.ex), v, .int .i64 h.fr, .int .i64 h.tt, mv]
def vv (h : Vh) (tv v mv : Value) : Array Value := (vvl h tv v mv).toArray
/-- A slice of these ints; the block that it lies in is as P says. -/
def IsP (P : Nat → Prop) (w : World) (v : Value) (l : List Int) : Prop :=
  ∃ a cap, v = .slice a l.length cap ∧ l.length ≤ cap ∧ cap ≤ maxLen ∧ (a = none → cap = 0) ∧ (0 < l.length → ∃ b off, a = some ⟨b, off, none⟩ ∧ P b ∧ ∀ j (h : j < l.length), w.cell? ⟨b, off + j, none⟩ = some (.int .i64 l[j]))
abbrev In (w : World) : Nat → Prop := fun b => b < w.heap.size
theorem cell_same {w w' : World} {b off : Nat} (h : w'.heap[b]? = w.heap[b]?) : w'.cell? ⟨b, off, none⟩ = w.cell? ⟨b, off, none⟩ := by
  unfold World.cell?; rw [h]
theorem range_same {w w' : World} {b o : Nat} {cs : List Value} (h : w.rangeAt b o cs) (hb : w'.heap[b]? = w.heap[b]?) : w'.rangeAt b o cs := fun j u hu => by
  rw [cell_same hb]; exact h j u hu
theorem IsP.keep {P : Nat → Prop} {w w' : World} {v : Value} {l : List Int} (h : IsP P w v l) (hf : ∀ b, P b → w'.heap[b]? = w.heap[b]?) : IsP P w' v l := by
  obtain ⟨a, cap, rfl, h1, h2, h3, h4⟩ := h
  refine ⟨a, cap, rfl, h1, h2, h3, fun h0 => ?_⟩
  obtain ⟨b, off, e, hp, hc⟩ := h4 h0
  exact ⟨b, off, e, hp, fun j hj => by rw [cell_same (hf b hp)]; exact hc j hj⟩
theorem IsP.mono {P Q : Nat → Prop} {w : World} {v : Value} {l : List Int} (h : IsP P w v l) (hq : ∀ b, P b → Q b) : IsP Q w v l := by
  obtain ⟨a, cap, rfl, h1, h2, h3, h4⟩ := h
  refine ⟨a, cap, rfl, h1, h2, h3, fun h0 => ?_⟩
  obtain ⟨b, off, e, hp, hc⟩ := h4 h0
  exact ⟨b, off, e, hq b hp, hc⟩
theorem IsP.is {P : Nat → Prop} {w : World} {v : Value} {l : List Int} (h : IsP P w v l) (hq : ∀ b, P b → b < w.heap.size) : Is w v l := by
  obtain ⟨a, cap, rfl, h1, h2, h3, h4⟩ := h
  refine ⟨a, cap, rfl, h1, h2, fun h0 => ?_⟩
  obtain ⟨b, off, e, hp, hc⟩ := h4 h0
  exact ⟨b, off, e, hq b hp, hc⟩
theorem IsP.nn {P : Nat → Prop} {w : World} {v : Value} {l : List Int} (h : IsP P w v l) : NN v := by
  obtain ⟨a, cap, rfl, h1, h2, h3, h4⟩ := h
  intro n c e
  simp only [Value.slice.injEq] at e
  obtain ⟨e1, -, e2⟩ := e
  rw [← e2]; exact h3 e1
theorem IsP.slice {P : Nat → Prop} {w : World} {v : Value} {l : List Int} (h : IsP P w v l) : ∃ a cap, v = .slice a l.length cap := by
  obtain ⟨a, cap, rfl, _⟩ := h; exact ⟨a, cap, rfl⟩
theorem isP_nil (P : Nat → Prop) (w : World) : IsP P w (.slice none 0 0) [] := ⟨none, 0, rfl, by simp, by decide, fun _ => rfl, fun h => by simp at h⟩
theorem is_isP {w : World} {v : Value} {l : List Int} (h : Is w v l) (hn : NN v) : IsP (In w) w v l := by
  obtain ⟨a, cap, rfl, h1, h2, h3⟩ := h
  exact ⟨a, cap, rfl, h1, h2, fun e => by subst e; exact hn _ _ rfl, h3⟩
/-- What of a value lies elsewhere, but for its items. -/
structure HdP (P : Nat → Prop) (w : World) (h : Vh) (tv mv : Value) : Prop where
  d : h.dg.length ≤ maxLen
  e : h.ex.length ≤ maxLen
  t : IsP P w tv h.tx
  m : IsP P w mv h.ms
theorem HdP.keep {P : Nat → Prop} {w w' : World} {h : Vh} {tv mv : Value} (x : HdP P w h tv mv) (hf : ∀ b, P b → w'.heap[b]? = w.heap[b]?) : HdP P w' h tv mv := ⟨x.d, x.e, x.t.keep hf, x.m.keep hf⟩
theorem HdP.mono {P Q : Nat → Prop} {w : World} {h : Vh} {tv mv : Value} (x : HdP P w h tv mv) (hq : ∀ b, P b → Q b) : HdP Q w h tv mv := ⟨x.d, x.e, x.t.mono hq, x.m.mono hq⟩
/-- Such a list in memory, from a place on; each block that is met is as P says. -/
def VoAt (P : Nat → Prop) (w : World) : Vo → Nat → Nat → Prop
  | .nil, _, _ => True
  | .cons h kids rest, b, off => (∃ tv mv a cap, HdP P w h tv mv ∧ w.rangeAt b off (vvl h tv (.slice a kids.len cap) mv) ∧ kids.len ≤ cap ∧ cap ≤ maxLen ∧ (a = none → cap = 0) ∧ (0 < kids.len → ∃ b' off', a = some ⟨b', off', none⟩ ∧ P b' ∧ VoAt P w kids b' off')) ∧
      VoAt P w rest b (off + 9)
/-- A slice of values. -/
def VoP (P : Nat → Prop) (w : World) (v : Value) (L : Vo) : Prop :=
  ∃ a cap, v = .slice a L.len cap ∧ L.len ≤ cap ∧ cap ≤ maxLen ∧ (a = none → cap = 0) ∧ (0 < L.len → ∃ b off, a = some ⟨b, off, none⟩ ∧ P b ∧ VoAt P w L b off)
abbrev VoS (w : World) (v : Value) (L : Vo) : Prop := VoP (In w) w v L
abbrev HdS (w : World) (h : Vh) (tv mv : Value) : Prop := HdP (In w) w h tv mv
theorem voAt_keep {P : Nat → Prop} {w w' : World} (hf : ∀ b, P b → w'.heap[b]? = w.heap[b]?) (L : Vo) : ∀ b off, P b → VoAt P w L b off → VoAt P w' L b off := by
  induction L with
  | nil => intros; trivial
  | cons h kids rest ih1 ih2 =>
    rintro b off hp ⟨⟨tv, mv, a, cap, hd, hr, h1, h2, h3, h4⟩, h5⟩
    refine ⟨⟨tv, mv, a, cap, hd.keep hf, range_same hr (hf b hp), h1, h2, h3, fun h0 => ?_⟩, ih2 b (off + 9) hp h5⟩
    obtain ⟨b', off', e, hp', hk⟩ := h4 h0
    exact ⟨b', off', e, hp', ih1 b' off' hp' hk⟩
theorem voAt_mono {P Q : Nat → Prop} {w : World} (hq : ∀ b, P b → Q b) (L : Vo) : ∀ b off, VoAt P w L b off → VoAt Q w L b off := by
  induction L with
  | nil => intros; trivial
  | cons h kids rest ih1 ih2 =>
    rintro b off ⟨⟨tv, mv, a, cap, hd, hr, h1, h2, h3, h4⟩, h5⟩
    refine ⟨⟨tv, mv, a, cap, hd.mono hq, hr, h1, h2, h3, fun h0 => ?_⟩, ih2 b (off + 9) h5⟩
    obtain ⟨b', off', e, hp', hk⟩ := h4 h0
    exact ⟨b', off', e, hq b' hp', ih1 b' off' hk⟩
theorem VoP.keep {P : Nat → Prop} {w w' : World} {v : Value} {L : Vo} (h : VoP P w v L) (hf : ∀ b, P b → w'.heap[b]? = w.heap[b]?) : VoP P w' v L := by
  obtain ⟨a, cap, rfl, h1, h2, h3, h4⟩ := h
  refine ⟨a, cap, rfl, h1, h2, h3, fun h0 => ?_⟩
  obtain ⟨b, off, e, hl, hk⟩ := h4 h0
  exact ⟨b, off, e, hl, voAt_keep hf L b off hl hk⟩
theorem VoP.mono {P Q : Nat → Prop} {w : World} {v : Value} {L : Vo} (h : VoP P w v L) (hq : ∀ b, P b → Q b) : VoP Q w v L := by
  obtain ⟨a, cap, rfl, h1, h2, h3, h4⟩ := h
  refine ⟨a, cap, rfl, h1, h2, h3, fun h0 => ?_⟩
  obtain ⟨b, off, e, hl, hk⟩ := h4 h0
  exact ⟨b, off, e, hq b hl, voAt_mono hq L b off hk⟩
theorem in_keep {w w' : World} (hb : Below w.heap.size w w') : (∀ b, In w b → w'.heap[b]? = w.heap[b]?) ∧ ∀ b, In w b → In w' b :=
  ⟨fun b h => hb.block b h, fun b h => Nat.lt_of_lt_of_le h hb.size⟩
theorem VoP.below {w w' : World} {v : Value} {L : Vo} (h : VoS w v L) (hb : Below w.heap.size w w') : VoS w' v L := (VoP.keep h (in_keep hb).1).mono (in_keep hb).2
theorem HdP.below {w w' : World} {h : Vh} {tv mv : Value} (x : HdS w h tv mv) (hb : Below w.heap.size w w') : HdS w' h tv mv := (HdP.keep x (in_keep hb).1).mono (in_keep hb).2
theorem VoP.slice {P : Nat → Prop} {w : World} {v : Value} {L : Vo} (h : VoP P w v L) : ∃ a cap, v = .slice a L.len cap := by obtain ⟨a, cap, rfl, _⟩ := h; exact ⟨a, cap, rfl⟩
theorem voP_nil (P : Nat → Prop) (w : World) : VoP P w (.slice none 0 0) .nil := ⟨none, 0, rfl, by simp [Vo.len], by decide, fun _ => rfl, fun h => by simp [Vo.len] at h⟩
theorem voAt_get {P : Nat → Prop} {w : World} (L : Vo) : ∀ b off j h kids, VoAt P w L b off → L.at? j = some (h, kids) →
    ∃ tv mv v, HdP P w h tv mv ∧ w.rangeAt b (off + j * 9) (vvl h tv v mv) ∧ VoP P w v kids := by
  induction L with
  | nil => intro b off j h kids _ e; simp [Vo.at?] at e
  | cons h0 kids0 rest ih1 ih2 =>
    rintro b off j h kids ⟨⟨tv, mv, a, cap, hd, hr, h1, h2, h3, h4⟩, h5⟩ hj
    cases j with
    | zero =>
      simp only [Vo.at?, Option.some.injEq, Prod.mk.injEq] at hj
      obtain ⟨rfl, rfl⟩ := hj
      rw [Nat.zero_mul, Nat.add_zero]
      exact ⟨tv, mv, _, hd, hr, a, cap, rfl, h1, h2, h3, h4⟩
    | succ j =>
      have := ih2 b (off + 9) j h kids h5 hj
      rw [show off + (j + 1) * 9 = off + 9 + j * 9 by omega]
      exact this
/-- A list put together out of its values. -/
theorem voAt_of {P : Nat → Prop} {w : World} {b : Nat} (n : Nat) : ∀ off, (∀ j, j < n → ∃ h tv mv v kids, HdP P w h tv mv ∧ w.rangeAt b (off + j * 9) (vvl h tv v mv) ∧ VoP P w v kids) → ∃ L : Vo, L.len = n ∧ VoAt P w L b off := by
  induction n with
  | zero => intro off _; exact ⟨.nil, rfl, trivial⟩
  | succ n ih =>
    intro off h
    obtain ⟨hh, tv, mv, v, kids, hd, hr, a, cap, rfl, h1, h2, h3, h4⟩ := h 0 (by omega)
    obtain ⟨L, hL, hat⟩ := ih (off + 9) (fun j hj => by
      have := h (j + 1) (by omega)
      rw [show off + (j + 1) * 9 = off + 9 + j * 9 by omega] at this
      exact this)
    rw [Nat.zero_mul, Nat.add_zero] at hr
    exact ⟨.cons hh kids L, by simp [Vo.len, hL], ⟨tv, mv, a, cap, hd, hr, h1, h2, h3, h4⟩, hat⟩
theorem list_ofR {α : Type} {R : Nat → α → Prop} : ∀ n, (∀ j, j < n → ∃ x, R j x) → ∃ l : List α, l.length = n ∧ ∀ j (h : j < l.length), R j l[j] := by
  intro n
  induction n with
  | zero => intro _; exact ⟨[], rfl, fun j h => by simp at h⟩
  | succ n ih =>
    intro h
    obtain ⟨l, hl, hr⟩ := ih fun j hj => h j (by omega)
    obtain ⟨x, hx⟩ := h n (by omega)
    refine ⟨l ++ [x], by simp [hl], fun j hj => ?_⟩
    by_cases hjn : j < l.length
    · rw [List.getElem_append_left hjn]; exact hr j hjn
    · have e : j = l.length := by simp at hj; omega
      subst e
      rw [List.getElem_append_right (Nat.le_refl _)]
      simp only [Nat.sub_self, List.getElem_cons_zero]
      rw [hl]; exact hx
theorem cut1 (cs : List Value) (j : Nat) (h : j < cs.length) : (cs.drop j).take 1 = [cs[j]] := by rw [List.drop_eq_getElem_cons h]; rfl
/-- An address that a cell is read from, plain. -/
theorem addr_plain {W : World} {a : Addr} {u : Value} (h : W.cell? (a.add 0) = some u) : ∃ b off, a = ⟨b, off, none⟩ ∧ b < W.heap.size := by
  obtain ⟨b, off, sp⟩ := a
  have hs2 : sp = none := by
    cases sp with
    | none => rfl
    | some s => exfalso; revert h; simp [Addr.add, World.cell?]; cases W.heap[b]? with
      | none => simp
      | some o => cases o <;> simp
  subst hs2
  refine ⟨b, off, rfl, ?_⟩
  have := World.block_lt_of_cell? W _ h
  rw [Go.WideShapes.add_plain] at this
  exact this
theorem open_ints_n {H : Type} {enc : TypeId × Value → H} {W : World} (fuel : Nat) (c : Value) (x : DataW H × List MemPlace)
    (h : DataW.trod enc Tryz.prog W 0 (fun _ => true) true fuel 22 [c] = some x) : ∃ l, IsP (In W) W c l := by
  have ci : Tryz.prog.cellsOf 3 = 1 := by kernel_rfl
  rcases DataW.trod_slice Tryz.underlying22 h with ⟨h0, _⟩ | ⟨a, len, cap, elems, rest, n, hn, h0, _, _, hl, hm, hlen, hel, _⟩
  · simp only [List.cons.injEq, and_true] at h0
    rw [h0]
    exact ⟨[], isP_nil _ _⟩
  · simp only [List.cons.injEq, and_true] at h0
    rw [h0]
    have each : ∀ j, j < len → ∃ z : Int, W.cell? (a.add j) = some (.int .i64 z) := by
      intro j hj
      have := hel j hj
      rw [List.getElem?_eq_getElem (by omega)] at this
      obtain ⟨cs', h1, h2⟩ := Option.bind_eq_some_iff.1 this
      rw [ci] at h1
      obtain ⟨z, hz, _⟩ := DataW.trod_int Tryz.underlying3 h2
      obtain ⟨_, hcl', hat⟩ := World.cells?_some h1
      subst hz
      have := hat 0 (by decide)
      rw [Nat.mul_one] at this
      refine ⟨z, ?_⟩
      have e : (a.add j).add 0 = a.add j := by simp [Addr.add]
      rw [e] at this
      rw [this]; rfl
    obtain ⟨l, hll, hlc⟩ := list_ofR len each
    refine ⟨l, some a, cap, by rw [hll], by omega, hm, by simp, fun h0 => ?_⟩
    obtain ⟨b, off, rfl, hb⟩ := addr_plain (hlc 0 h0)
    exact ⟨b, off, rfl, hb, fun j hj => by have := hlc j hj; rwa [Go.WideShapes.add_plain] at this⟩
theorem st_open {H : Type} {enc : TypeId × Value → H} {W : World} {fuel : Nat} {T : TypeId} {fs : Array Field} {cs : List Value} {x : DataW H × List MemPlace} (hT : Tryz.prog.underlying T = some (.struct fs))
    (h : DataW.trod enc Tryz.prog W 0 (fun _ => true) true fuel T cs = some x) : cs.length = Tryz.prog.cellsOf T ∧ ∃ n', fuel = n' + 1 ∧ ∀ (i : Nat) (f : Field), fs[i]? = some f → ∃ y, DataW.trod enc Tryz.prog W 0 (fun _ => true) true n' f.type ((cs.drop f.offset).take (Tryz.prog.cellsOf f.type)) = some y := by
  obtain ⟨xs, n', hfu, _, hcl, hxl, hfl⟩ := DataW.trod_struct hT h
  refine ⟨hcl, n', hfu, fun i f hf => ?_⟩
  have h1 := hfl i f hf
  rw [h1]
  have hj : i < xs.length := by have := (Array.getElem?_eq_some_iff.1 hf).1; omega
  exact ⟨_, List.getElem?_eq_getElem hj⟩
set_option maxRecDepth 100000 in
theorem open_val_n {H : Type} {enc : TypeId × Value → H} {W : World} : ∀ (fuel : Nat) (cs : List Value) (x : DataW H × List MemPlace),
    DataW.trod enc Tryz.prog W 0 (fun _ => true) true fuel 27 cs = some x → ∃ h tv v mv L, cs = vvl h tv v mv ∧ HdS W h tv mv ∧ VoS W v L := by
  intro fuel
  induction fuel using Nat.strongRecOn with
  | _ fuel ih =>
    intro cs x h
    have ce : Tryz.prog.cellsOf 27 = 9 := by kernel_rfl
    have cn : Tryz.prog.cellsOf 24 = 3 := by kernel_rfl
    obtain ⟨hcl, n', hfu, hf⟩ := st_open Tryz.underlying27 h
    rw [ce] at hcl
    have one : ∀ (n : Nat) (cs : List Value) (j : Nat) (T : TypeId) (hj : j < cs.length), Tryz.prog.cellsOf T = 1 → (∃ y, DataW.trod enc Tryz.prog W 0 (fun _ => true) true n T ((cs.drop j).take (Tryz.prog.cellsOf T)) = some y) → ∃ y, DataW.trod enc Tryz.prog W 0 (fun _ => true) true n T [cs[j]] = some y := by
      intro n cs j T hj hT ⟨y, hy⟩
      rw [hT, cut1 cs j hj] at hy
      exact ⟨y, hy⟩
    obtain ⟨y0, e0⟩ := one n' cs 0 3 (by omega) (by kernel_rfl) (hf 0 _ rfl)
    obtain ⟨y1, e1⟩ := one n' cs 1 22 (by omega) (by kernel_rfl) (hf 1 _ rfl)
    obtain ⟨yn, en⟩ : ∃ y, DataW.trod enc Tryz.prog W 0 (fun _ => true) true n' 24 ((cs.drop 2).take (Tryz.prog.cellsOf 24)) = some y := hf 2 _ rfl
    obtain ⟨y5, e5⟩ := one n' cs 5 25 (by omega) (by kernel_rfl) (hf 3 _ rfl)
    obtain ⟨y6, e6⟩ := one n' cs 6 3 (by omega) (by kernel_rfl) (hf 4 _ rfl)
    obtain ⟨y7, e7⟩ := one n' cs 7 3 (by omega) (by kernel_rfl) (hf 5 _ rfl)
    obtain ⟨y8, e8⟩ := one n' cs 8 22 (by omega) (by kernel_rfl) (hf 6 _ rfl)
    rw [cn] at en
    obtain ⟨hcl2, n2, hfu2, hf2⟩ := st_open Tryz.underlying24 en
    rw [cn] at hcl2
    obtain ⟨z0, g0⟩ := one n2 _ 0 4 (by omega) (by kernel_rfl) (hf2 0 _ rfl)
    obtain ⟨z1, g1⟩ := one n2 _ 1 9 (by omega) (by kernel_rfl) (hf2 1 _ rfl)
    obtain ⟨z2, g2⟩ := one n2 _ 2 9 (by omega) (by kernel_rfl) (hf2 2 _ rfl)
    obtain ⟨k, hk, _⟩ := DataW.trod_int Tryz.underlying3 e0
    obtain ⟨f, hfr, _⟩ := DataW.trod_int Tryz.underlying3 e6
    obtain ⟨t, hto, _⟩ := DataW.trod_int Tryz.underlying3 e7
    obtain ⟨ng, hng, _⟩ := DataW.trod_bool Tryz.underlying4 g0
    obtain ⟨dg, hdg, _, hdz⟩ := DataW.trod_string Tryz.underlying9 g1
    obtain ⟨ex, hex, _, hez⟩ := DataW.trod_string Tryz.underlying9 g2
    obtain ⟨tx, htx⟩ := open_ints_n _ _ _ e1
    obtain ⟨mk, hmk⟩ := open_ints_n _ _ _ e8
    simp only [List.cons.injEq, and_true, List.getElem_take, List.getElem_drop, Nat.reduceAdd] at hk hfr hto hng hdg hex
    have hcs : cs = vvl ⟨k, tx, ng, dg.data.toList, ex.data.toList, f, t, mk⟩ (cs[1]'(by omega)) (cs[5]'(by omega)) (cs[8]'(by omega)) := by
      apply List.ext_getElem (by simpa [vvl] using hcl)
      intro i h1 h2
      match i, h2 with
      | 0, _ => exact hk
      | 1, _ => rfl
      | 2, _ => exact hng
      | 3, _ => exact hdg.trans (by simp [vvl, bytes])
      | 4, _ => exact hex.trans (by simp [vvl, bytes])
      | 5, _ => rfl
      | 6, _ => exact hfr
      | 7, _ => exact hto
      | 8, _ => rfl
    suffices hS : ∃ L, VoS W (cs[5]'(by omega)) L by
      obtain ⟨L, hL⟩ := hS
      exact ⟨⟨k, tx, ng, dg.data.toList, ex.data.toList, f, t, mk⟩, _, _, _, L, hcs, ⟨by show dg.data.toList.length ≤ _; rw [Array.length_toList]; exact hdz, by show ex.data.toList.length ≤ _; rw [Array.length_toList]; exact hez, htx, hmk⟩, hL⟩
    rcases DataW.trod_slice Tryz.underlying25 e5 with ⟨h0, _⟩ | ⟨a, len, cap, elems, rest, n, hn, h0, _, _, hl, hm, hlen, hel, _⟩
    · simp only [List.cons.injEq, and_true] at h0
      rw [h0]
      exact ⟨.nil, voP_nil _ _⟩
    · simp only [List.cons.injEq, and_true] at h0
      rw [h0]
      have each : ∀ j, j < len → ∃ h tv mv v kids, HdS W h tv mv ∧ VoS W v kids ∧ ∀ i u, (vvl h tv v mv)[i]? = some u → W.cell? (a.add (j * 9 + i)) = some u := by
        intro j hj
        have := hel j hj
        rw [List.getElem?_eq_getElem (by omega)] at this
        obtain ⟨cs', h1, h2⟩ := Option.bind_eq_some_iff.1 this
        obtain ⟨h, tv, v, mv, L, rfl, hd, hL⟩ := ih n (by omega) cs' _ h2
        rw [ce] at h1
        obtain ⟨_, hcl', hat⟩ := World.cells?_some h1
        refine ⟨h, tv, mv, v, L, hd, hL, fun i u hu => ?_⟩
        have hi : i < 9 := by have := (List.getElem?_eq_some_iff.1 hu).1; simpa [vvl] using this
        rw [← Go.Deep.add_add, hat i hi]
        exact hu
      rcases Nat.eq_zero_or_pos len with hz | hz
      · subst hz
        exact ⟨.nil, _, cap, rfl, Nat.zero_le _, hm, by simp, fun h => by simp [Vo.len] at h⟩
      · obtain ⟨h', tv', mv', v', kids', _, _, c0⟩ := each 0 hz
        obtain ⟨b, off, rfl, hb⟩ := addr_plain (c0 0 _ rfl)
        obtain ⟨L, hL, hat⟩ := voAt_of (P := In W) (w := W) (b := b) len off (fun j hj => by
          obtain ⟨h, tv, mv, v, kids, hd, hv, hc⟩ := each j hj
          refine ⟨h, tv, mv, v, kids, hd, fun i u hu => ?_, hv⟩
          have := hc i u hu
          rw [Go.WideShapes.add_plain, ← Nat.add_assoc] at this
          exact this)
        subst hL
        exact ⟨L, _, cap, rfl, hl, hm, by simp, fun _ => ⟨b, off, rfl, hb, hat⟩⟩
end Go.Proofs.YtbfnlgmhfhaglaaGreatDoor
