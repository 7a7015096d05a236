import Derived.Test.YtbfnlgmhfhaglaaGreatDoorQb03
import Derived.Test.YtbfnlgmhfhaglaaGreatDoorQb08
import Derived.Stop.LaidErr
import Derived.Test.YtbfnlgmhfhaglaaGreatDoorQb02
import Derived.Deep.Slices
import Derived.Deep.Fields
import Derived.Deep.MidRow
import Derived.ChangeSame
import Derived.ProofKit
import Derived.OpenShut
import Derived.Deep.DeepCutAuto
set_option maxHeartbeats 4000000
set_option maxRecDepth 100000
namespace Go.Proofs.YtbfnlgmhfhaglaaGreatDoor
open Go.RowKit Go.Lib Go.Shelf
theorem star_es : "*" ++ "errors.errorString" = "*errors.errorString" := by decide
theorem row_es (u : TypeId) (h : Tryz.prog.typeName? 3 u = some "*errors.errorString") : u = 197 :=
 typeName_ptr_named (nm := "errors.errorString") (by rw [star_es]; kernel_rfl) (by kernel_rfl) (by decide) u (by rw [star_es]; exact h)
theorem tabx_of {W : World} (h : laidMetH Tryz.prog laidList W) : TabX W := by
 refine ⟨tabs_of h, ?_⟩
 rw [MakeChecks.laidMetH_plain _ _ _ (by kernel_rfl)] at h
 have h5 := h.tail.tail.tail.tail.tail
 obtain ⟨a, s, hv, hc, _⟩ := laid_sentinel (g := 4) (ti := 150) h5 (by kernel_rfl) (by kernel_rfl) Tryz.underlying150 row_es Tryz.underlying197 Tryz.underlying199 rfl rfl Tryz.underlying9 (by kernel_rfl) (by kernel_rfl)
 have hg : Tryz.prog.globalNamed "strconv.ErrSyntax" = some 4 := by kernel_rfl
 exact ⟨_, by simpa using World.var?_cell hg hv 0, .inr ⟨_, _, rfl⟩⟩
end Go.Proofs.YtbfnlgmhfhaglaaGreatDoor
namespace Go.Proofs.YtbfnlgmhfhaglaaGreatDoor
open Go.RowKit Go.ChangeShapes Go.WideShapes
set_option linter.unusedVariables false
set_option linter.unusedSimpArgs false
structure Vh where
 k : Int
 tx : List Int
 ng : Bool
 dg : List UInt8
 ex : List UInt8
 fr : Int
 tt : Int
 ms : List Int
inductive Vo where
 | nil : Vo
 | cons (h : Vh) (kids rest : Vo) : Vo
def Vo.len : Vo -> Nat
 | .nil => 0
 | .cons _ _ r => r.len + 1
def Vo.at? : Vo -> Nat -> Option (Vh × Vo)
 | .nil, _ => none
 | .cons h kids _, 0 => some (h, kids)
 | .cons _ _ r, n + 1 => r.at? n
theorem Vo.at_some (L : Vo) : ∀ j, j < L.len -> ∃ h kids, L.at? j = some (h, kids) := by
 induction L with
 | nil => intro j h; simp [Vo.len] at h
 | cons h kids rest _ ih =>
  intro j hj
  cases j with
  | zero => exact ⟨h, kids, rfl⟩
  | succ j => exact ih j (by simp [Vo.len] at hj; omega)
theorem vo_at_lt (L : Vo) : ∀ i {x}, L.at? i = some x -> i < L.len := by
 induction L with
 | nil => intro i x h; simp [Vo.at?] at h
 | cons h kids rest _ ih =>
  intro i x hx
  cases i with
  | zero => simp [Vo.len]
  | succ i => have := ih i hx; simp [Vo.len]; omega
def vvl (h : Vh) (tv v mv : Value) : List Value := [.int .i64 h.k, tv, .bool h.ng, .string (bytes h.dg), .string (bytes h.ex), v, .int .i64 h.fr, .int .i64 h.tt, mv]
def vv (h : Vh) (tv v mv : Value) : Array Value := (vvl h tv v mv).toArray
def IsP (P : Nat -> Prop) (w : World) (v : Value) (l : List Int) : Prop :=
 ∃ a cap, v = .slice a l.length cap /\ l.length <= cap /\ cap <= maxLen /\ (a = none -> cap = 0) /\ (0 < l.length -> ∃ b off, a = some ⟨b, off, none⟩ /\ P b /\ ∀ j (h : j < l.length), w.cell? ⟨b, off + j, none⟩ = some (.int .i64 l[j]))
abbrev In (w : World) : Nat -> Prop := fun b => b < w.heap.size
theorem cell_same {w w' : World} {b off : Nat} (h : w'.heap[b]? = w.heap[b]?) : w'.cell? ⟨b, off, none⟩ = w.cell? ⟨b, off, none⟩ := by
 unfold World.cell?; rw [h]
theorem range_same {w w' : World} {b o : Nat} {cs : List Value} (h : w.rangeAt b o cs) (hb : w'.heap[b]? = w.heap[b]?) : w'.rangeAt b o cs := fun j u hu => by
 rw [cell_same hb]; exact h j u hu
theorem IsP.keep {P : Nat -> Prop} {w w' : World} {v : Value} {l : List Int} (h : IsP P w v l) (hf : ∀ b, P b -> w'.heap[b]? = w.heap[b]?) : IsP P w' v l := by
 obtain ⟨a, cap, rfl, h1, h2, h3, h4⟩ := h
 refine ⟨a, cap, rfl, h1, h2, h3, fun h0 => ?_⟩
 obtain ⟨b, off, e, hp, hc⟩ := h4 h0
 exact ⟨b, off, e, hp, fun j hj => by rw [cell_same (hf b hp)]; exact hc j hj⟩
theorem IsP.mono {P Q : Nat -> Prop} {w : World} {v : Value} {l : List Int} (h : IsP P w v l) (hq : ∀ b, P b -> Q b) : IsP Q w v l := by
 obtain ⟨a, cap, rfl, h1, h2, h3, h4⟩ := h
 refine ⟨a, cap, rfl, h1, h2, h3, fun h0 => ?_⟩
 obtain ⟨b, off, e, hp, hc⟩ := h4 h0
 exact ⟨b, off, e, hq b hp, hc⟩
theorem IsP.is {P : Nat -> Prop} {w : World} {v : Value} {l : List Int} (h : IsP P w v l) (hq : ∀ b, P b -> b < w.heap.size) : Is w v l := by
 obtain ⟨a, cap, rfl, h1, h2, h3, h4⟩ := h
 refine ⟨a, cap, rfl, h1, h2, fun h0 => ?_⟩
 obtain ⟨b, off, e, hp, hc⟩ := h4 h0
 exact ⟨b, off, e, hq b hp, hc⟩
theorem IsP.slice {P : Nat -> Prop} {w : World} {v : Value} {l : List Int} (h : IsP P w v l) : ∃ a cap, v = .slice a l.length cap := by
 obtain ⟨a, cap, rfl, _⟩ := h; exact ⟨a, cap, rfl⟩
theorem isP_nil (P : Nat -> Prop) (w : World) : IsP P w (.slice none 0 0) [] := ⟨none, 0, rfl, by simp, by decide, fun _ => rfl, fun h => by simp at h⟩
structure HdP (P : Nat -> Prop) (w : World) (h : Vh) (tv mv : Value) : Prop where
 d : h.dg.length <= maxLen
 e : h.ex.length <= maxLen
 t : IsP P w tv h.tx
 m : IsP P w mv h.ms
theorem HdP.keep {P : Nat -> Prop} {w w' : World} {h : Vh} {tv mv : Value} (x : HdP P w h tv mv) (hf : ∀ b, P b -> w'.heap[b]? = w.heap[b]?) : HdP P w' h tv mv := ⟨x.d, x.e, x.t.keep hf, x.m.keep hf⟩
theorem HdP.mono {P Q : Nat -> Prop} {w : World} {h : Vh} {tv mv : Value} (x : HdP P w h tv mv) (hq : ∀ b, P b -> Q b) : HdP Q w h tv mv := ⟨x.d, x.e, x.t.mono hq, x.m.mono hq⟩
def VoAt (P : Nat -> Prop) (w : World) : Vo -> Nat -> Nat -> Prop
 | .nil, _, _ => True
 | .cons h kids rest, b, off => (∃ tv mv a cap, HdP P w h tv mv /\ w.rangeAt b off (vvl h tv (.slice a kids.len cap) mv) /\ kids.len <= cap /\ cap <= maxLen /\ (a = none -> cap = 0) /\ (0 < kids.len -> ∃ b' off', a = some ⟨b', off', none⟩ /\ P b' /\ VoAt P w kids b' off')) /\
   VoAt P w rest b (off + 9)
def VoP (P : Nat -> Prop) (w : World) (v : Value) (L : Vo) : Prop :=
 ∃ a cap, v = .slice a L.len cap /\ L.len <= cap /\ cap <= maxLen /\ (a = none -> cap = 0) /\ (0 < L.len -> ∃ b off, a = some ⟨b, off, none⟩ /\ P b /\ VoAt P w L b off)
abbrev VoS (w : World) (v : Value) (L : Vo) : Prop := VoP (In w) w v L
abbrev HdS (w : World) (h : Vh) (tv mv : Value) : Prop := HdP (In w) w h tv mv
theorem voAt_keep {P : Nat -> Prop} {w w' : World} (hf : ∀ b, P b -> w'.heap[b]? = w.heap[b]?) (L : Vo) : ∀ b off, P b -> VoAt P w L b off -> VoAt P w' L b off := by
 induction L with
 | nil => intros; trivial
 | cons h kids rest ih1 ih2 =>
  rintro b off hp ⟨⟨tv, mv, a, cap, hd, hr, h1, h2, h3, h4⟩, h5⟩
  refine ⟨⟨tv, mv, a, cap, hd.keep hf, range_same hr (hf b hp), h1, h2, h3, fun h0 => ?_⟩, ih2 b (off + 9) hp h5⟩
  obtain ⟨b', off', e, hp', hk⟩ := h4 h0
  exact ⟨b', off', e, hp', ih1 b' off' hp' hk⟩
theorem voAt_mono {P Q : Nat -> Prop} {w : World} (hq : ∀ b, P b -> Q b) (L : Vo) : ∀ b off, VoAt P w L b off -> VoAt Q w L b off := by
 induction L with
 | nil => intros; trivial
 | cons h kids rest ih1 ih2 =>
  rintro b off ⟨⟨tv, mv, a, cap, hd, hr, h1, h2, h3, h4⟩, h5⟩
  refine ⟨⟨tv, mv, a, cap, hd.mono hq, hr, h1, h2, h3, fun h0 => ?_⟩, ih2 b (off + 9) h5⟩
  obtain ⟨b', off', e, hp', hk⟩ := h4 h0
  exact ⟨b', off', e, hq b' hp', ih1 b' off' hk⟩
theorem VoP.keep {P : Nat -> Prop} {w w' : World} {v : Value} {L : Vo} (h : VoP P w v L) (hf : ∀ b, P b -> w'.heap[b]? = w.heap[b]?) : VoP P w' v L := by
 obtain ⟨a, cap, rfl, h1, h2, h3, h4⟩ := h
 refine ⟨a, cap, rfl, h1, h2, h3, fun h0 => ?_⟩
 obtain ⟨b, off, e, hl, hk⟩ := h4 h0
 exact ⟨b, off, e, hl, voAt_keep hf L b off hl hk⟩
theorem VoP.mono {P Q : Nat -> Prop} {w : World} {v : Value} {L : Vo} (h : VoP P w v L) (hq : ∀ b, P b -> Q b) : VoP Q w v L := by
 obtain ⟨a, cap, rfl, h1, h2, h3, h4⟩ := h
 refine ⟨a, cap, rfl, h1, h2, h3, fun h0 => ?_⟩
 obtain ⟨b, off, e, hl, hk⟩ := h4 h0
 exact ⟨b, off, e, hq b hl, voAt_mono hq L b off hk⟩
theorem in_keep {w w' : World} (hb : Below w.heap.size w w') : (∀ b, In w b -> w'.heap[b]? = w.heap[b]?) /\ ∀ b, In w b -> In w' b :=
 ⟨fun b h => hb.block b h, fun b h => Nat.lt_of_lt_of_le h hb.size⟩
theorem VoP.below {w w' : World} {v : Value} {L : Vo} (h : VoS w v L) (hb : Below w.heap.size w w') : VoS w' v L := (VoP.keep h (in_keep hb).1).mono (in_keep hb).2
theorem HdP.below {w w' : World} {h : Vh} {tv mv : Value} (x : HdS w h tv mv) (hb : Below w.heap.size w w') : HdS w' h tv mv := (HdP.keep x (in_keep hb).1).mono (in_keep hb).2
theorem VoP.slice {P : Nat -> Prop} {w : World} {v : Value} {L : Vo} (h : VoP P w v L) : ∃ a cap, v = .slice a L.len cap := by obtain ⟨a, cap, rfl, _⟩ := h; exact ⟨a, cap, rfl⟩
theorem voP_nil (P : Nat -> Prop) (w : World) : VoP P w (.slice none 0 0) .nil := ⟨none, 0, rfl, by simp [Vo.len], by decide, fun _ => rfl, fun h => by simp [Vo.len] at h⟩
theorem voAt_get {P : Nat -> Prop} {w : World} (L : Vo) : ∀ b off j h kids, VoAt P w L b off -> L.at? j = some (h, kids) ->
  ∃ tv mv v, HdP P w h tv mv /\ w.rangeAt b (off + j * 9) (vvl h tv v mv) /\ VoP P w v kids := by
 induction L with
 | nil => intro b off j h kids _ e; simp [Vo.at?] at e
 | cons h0 kids0 rest ih1 ih2 =>
  rintro b off j h kids ⟨⟨tv, mv, a, cap, hd, hr, h1, h2, h3, h4⟩, h5⟩ hj
  cases j with
  | zero =>
   simp only [Vo.at?, Option.some.injEq, Prod.mk.injEq] at hj
   obtain ⟨rfl, rfl⟩ := hj
   rw [Nat.zero_mul, Nat.add_zero]
   exact ⟨tv, mv, _, hd, hr, a, cap, rfl, h1, h2, h3, h4⟩
  | succ j =>
   have := ih2 b (off + 9) j h kids h5 hj
   rw [show off + (j + 1) * 9 = off + 9 + j * 9 by omega]
   exact this
theorem list_ofR {α : Type} {R : Nat -> α -> Prop} : ∀ n, (∀ j, j < n -> ∃ x, R j x) -> ∃ l : List α, l.length = n /\ ∀ j (h : j < l.length), R j l[j] := by
 intro n
 induction n with
 | zero => intro _; exact ⟨[], rfl, fun j h => by simp at h⟩
 | succ n ih =>
  intro h
  obtain ⟨l, hl, hr⟩ := ih fun j hj => h j (by omega)
  obtain ⟨x, hx⟩ := h n (by omega)
  refine ⟨l ++ [x], by simp [hl], fun j hj => ?_⟩
  by_cases hjn : j < l.length
  ·rw [List.getElem_append_left hjn]; exact hr j hjn
  ·have e : j = l.length := by simp at hj; omega
   subst e
   rw [List.getElem_append_right (Nat.le_refl _)]
   simp only [Nat.sub_self, List.getElem_cons_zero]
   rw [hl]; exact hx
theorem cut1 (cs : List Value) (j : Nat) (h : j < cs.length) : (cs.drop j).take 1 = [cs[j]] := by rw [List.drop_eq_getElem_cons h]; rfl
theorem addr_plain {W : World} {a : Addr} {u : Value} (h : W.cell? (a.add 0) = some u) : ∃ b off, a = ⟨b, off, none⟩ /\ b < W.heap.size := by
 obtain ⟨b, off, sp⟩ := a
 have hs2 : sp = none := by
  cases sp with
  | none => rfl
  | some s => exfalso; revert h; simp [Addr.add, World.cell?]; cases W.heap[b]? with
   | none => simp
   | some o => cases o <;> simp
 subst hs2
 refine ⟨b, off, rfl, ?_⟩
 have := World.block_lt_of_cell? W _ h
 rw [Go.WideShapes.add_plain] at this
 exact this
theorem open_ints_n {H : Type} {enc : TypeId × Value -> H} {W : World} (fuel : Nat) (c : Value) (x : DataW H × List MemPlace)
  (h : DataW.trod enc Tryz.prog W 0 (fun _ => true) true fuel 22 [c] = some x) : ∃ l, IsP (In W) W c l := by
 have ci : Tryz.prog.cellsOf 3 = 1 := by kernel_rfl
 rcases DataW.trod_slice Tryz.underlying22 h with ⟨h0, _⟩ | ⟨a, len, cap, elems, rest, n, hn, h0, _, _, hl, hm, hlen, hel, _⟩
 ·simp only [List.cons.injEq, and_true] at h0
  rw [h0]
  exact ⟨[], isP_nil _ _⟩
 ·simp only [List.cons.injEq, and_true] at h0
  rw [h0]
  have each : ∀ j, j < len -> ∃ z : Int, W.cell? (a.add j) = some (.int .i64 z) := by
   intro j hj
   have := hel j hj
   rw [List.getElem?_eq_getElem (by omega)] at this
   obtain ⟨cs', h1, h2⟩ := Option.bind_eq_some_iff.1 this
   rw [ci] at h1
   obtain ⟨z, hz, _⟩ := DataW.trod_int Tryz.underlying3 h2
   obtain ⟨_, hcl', hat⟩ := World.cells?_some h1
   subst hz
   have := hat 0 (by decide)
   rw [Nat.mul_one] at this
   refine ⟨z, ?_⟩
   have e : (a.add j).add 0 = a.add j := by simp [Addr.add]
   rw [e] at this
   rw [this]; rfl
  obtain ⟨l, hll, hlc⟩ := list_ofR len each
  refine ⟨l, some a, cap, by rw [hll], by omega, hm, by simp, fun h0 => ?_⟩
  obtain ⟨b, off, rfl, hb⟩ := addr_plain (hlc 0 h0)
  exact ⟨b, off, rfl, hb, fun j hj => by have := hlc j hj; rwa [Go.WideShapes.add_plain] at this⟩
theorem st_open {H : Type} {enc : TypeId × Value -> H} {W : World} {fuel : Nat} {T : TypeId} {fs : Array Field} {cs : List Value} {x : DataW H × List MemPlace} (hT : Tryz.prog.underlying T = some (.struct fs))
  (h : DataW.trod enc Tryz.prog W 0 (fun _ => true) true fuel T cs = some x) : cs.length = Tryz.prog.cellsOf T /\ ∃ n', fuel = n' + 1 /\ ∀ (i : Nat) (f : Field), fs[i]? = some f -> ∃ y, DataW.trod enc Tryz.prog W 0 (fun _ => true) true n' f.type ((cs.drop f.offset).take (Tryz.prog.cellsOf f.type)) = some y := by
 obtain ⟨xs, n', hfu, _, hcl, hxl, hfl⟩ := DataW.trod_struct hT h
 refine ⟨hcl, n', hfu, fun i f hf => ?_⟩
 have h1 := hfl i f hf
 rw [h1]
 have hj : i < xs.length := by have := (Array.getElem?_eq_some_iff.1 hf).1; omega
 exact ⟨_, List.getElem?_eq_getElem hj⟩
end Go.Proofs.YtbfnlgmhfhaglaaGreatDoor
namespace Go.Proofs.YtbfnlgmhfhaglaaGreatDoor
open Go.RowKit
set_option linter.unusedVariables false
set_option linter.unusedSimpArgs false
def sizeVo : Vo -> Nat -> Nat -> Nat
 | .nil, _, n => n
 | .cons h kids rest, d, n => if n < 1000 then sizeVo rest d (n + (if 100 < d + 1 \/ 100 < h.dg.length \/ 100 < h.ex.length then 1000 else sizeVo kids (d + 1) (1 + h.tx.length + h.ms.length))) else n
def sizeH (h : Vh) (kids : Vo) (d : Nat) : Nat := if 100 < d \/ 100 < h.dg.length \/ 100 < h.ex.length then 1000 else sizeVo kids d (1 + h.tx.length + h.ms.length)
theorem sizeVo_cons (h : Vh) (kids rest : Vo) (d n : Nat) : sizeVo (.cons h kids rest) d n = if n < 1000 then sizeVo rest d (n + sizeH h kids (d + 1)) else n := rfl
theorem sizeVo_ge (L : Vo) : ∀ d n, n <= sizeVo L d n := by
 induction L with
 | nil => intro d n; exact Nat.le_refl _
 | cons h kids rest _ ih2 =>
  intro d n
  rw [sizeVo_cons]
  split
  ·exact Nat.le_trans (Nat.le_add_right _ _) (ih2 d _)
  ·exact Nat.le_refl _
def VoN : Vo -> Nat
 | .nil => 0
 | .cons _ kids rest => 1 + VoN kids + VoN rest
def VoC : Vo -> Nat
 | .nil => 0
 | .cons h kids rest => 1 + h.tx.length + h.ms.length + VoC kids + VoC rest
def VoL (A : Nat) : Vo -> Prop
 | .nil => True
 | .cons h kids rest => (h.dg.length <= A /\ h.ex.length <= A) /\ VoL A kids /\ VoL A rest
theorem sizeVo_few (L : Vo) : ∀ d n, sizeVo L d n <= 300 -> n + VoC L = sizeVo L d n /\ VoL 100 L := by
 induction L with
 | nil => intro d n _; exact ⟨rfl, trivial⟩
 | cons h kids rest ih1 ih2 =>
  intro d n hh
  rw [sizeVo_cons] at hh ⊢
  by_cases hn : n < 1000
  ·rw [if_pos hn] at hh ⊢
   have hg := sizeVo_ge rest d (n + sizeH h kids (d + 1))
   obtain ⟨e1, e2⟩ := ih2 d _ hh
   have hs : sizeH h kids (d + 1) <= 300 := by omega
   unfold sizeH at hs e1 ⊢
   split at hs
   ·omega
   ·rename_i hc
    obtain ⟨e3, e4⟩ := ih1 (d + 1) _ hs
    rw [if_neg hc] at e1 ⊢
    simp only [VoC, VoL]
    exact ⟨by omega, ⟨by omega, by omega⟩, e4, e2⟩
  ·rw [if_neg hn] at hh; omega
theorem fewH {h : Vh} {kids : Vo} (hh : sizeH h kids 0 <= 300) : VoC (.cons h kids .nil) <= 300 /\ VoL 100 (.cons h kids .nil) := by
 unfold sizeH at hh
 split at hh
 ·omega
 ·obtain ⟨e1, e2⟩ := sizeVo_few kids 0 _ hh
  simp only [VoC, VoL]
  exact ⟨by omega, ⟨by omega, by omega⟩, e2, trivial⟩
theorem VoL.mono {A B : Nat} (hAB : A <= B) (L : Vo) : VoL A L -> VoL B L := by
 induction L with
 | nil => intro _; trivial
 | cons h kids rest ih1 ih2 => rintro ⟨⟨a, b⟩, c, d⟩; exact ⟨⟨by omega, by omega⟩, ih1 c, ih2 d⟩
theorem voL_at {A : Nat} (L : Vo) : VoL A L -> ∀ j h kids, L.at? j = some (h, kids) -> (h.dg.length <= A /\ h.ex.length <= A) /\ VoL A kids := by
 induction L with
 | nil => intro _ j h kids e; simp [Vo.at?] at e
 | cons h0 kids0 rest _ ih =>
  rintro ⟨x, y, z⟩ j h kids e
  cases j with
  | zero => simp only [Vo.at?, Option.some.injEq, Prod.mk.injEq] at e; obtain ⟨rfl, rfl⟩ := e; exact ⟨x, y⟩
  | succ j => exact ih z j h kids e
theorem voC_at (L : Vo) : ∀ j h kids, L.at? j = some (h, kids) -> 1 + h.tx.length + h.ms.length + VoC kids <= VoC L := by
 induction L with
 | nil => intro j h kids e; simp [Vo.at?] at e
 | cons h0 kids0 rest _ ih =>
  intro j h kids e
  cases j with
  | zero => simp only [Vo.at?, Option.some.injEq, Prod.mk.injEq] at e; obtain ⟨rfl, rfl⟩ := e; simp only [VoC]; omega
  | succ j => have := ih j h kids e; simp only [VoC]; omega
theorem voC_len (L : Vo) : L.len <= VoC L := by
 induction L with
 | nil => exact Nat.le_refl _
 | cons h kids rest _ ih => simp only [Vo.len, VoC]; omega
theorem sizeVo_le (L : Vo) : ∀ d n, sizeVo L d n <= n + 1000 * VoC L := by
 induction L with
 | nil => intro d n; exact Nat.le_add_right _ _
 | cons h kids rest ih1 ih2 =>
  intro d n
  rw [sizeVo_cons]
  split
  ·have h2 := ih2 d (n + sizeH h kids (d + 1))
   have h1 : sizeH h kids (d + 1) <= 1000 * (1 + h.tx.length + h.ms.length + VoC kids) := by
    unfold sizeH
    split
    ·omega
    ·have := ih1 (d + 1) (1 + h.tx.length + h.ms.length); omega
   simp only [VoC]; omega
  ·omega
theorem sizeH_le (h : Vh) (kids : Vo) (d : Nat) : sizeH h kids d <= 1000 * (1 + h.tx.length + h.ms.length + VoC kids) := by
 unfold sizeH
 split
 ·omega
 ·have := sizeVo_le kids d (1 + h.tx.length + h.ms.length); omega
theorem infoVal : (Tryz.prog.info? 27).map (·.size) = some 9 := by kernel_rfl
theorem wpl_ldV {ops : Array Oper} {rest : List Oper} {o : Oper} {a : Act} {w : World} {Q : Exit -> Act -> World -> Prop} (hgd : o.guard = none) (x : Operand) (ho : o.op = .load 27 x)
  (b off : Nat) (h : Vh) (tv v mv : Value) (hx : a.eval x = .pointer (some ⟨b, off, none⟩)) (hr : w.rangeAt b off (vvl h tv v mv))
  (hK : wpList Tryz.prog ops Q rest (a.put o.dst (.agg (vv h tv v mv))) w) : wpList Tryz.prog ops Q (o :: rest) a w :=
 wpList_load_mid hgd 27 x ho b off hx (vvl h tv v mv) _ hr Tryz.underlying27 rfl infoVal hK
theorem wpl_ldVg {ops : Array Oper} {rest : List Oper} {o : Oper} {a : Act} {w : World} {Q : Exit -> Act -> World -> Prop} (hw : Region.wanted o (yielded ops a.tmps) = true) (x : Operand) (ho : o.op = .load 27 x)
  (b off : Nat) (h : Vh) (tv v mv : Value) (hx : a.eval x = .pointer (some ⟨b, off, none⟩)) (hr : w.rangeAt b off (vvl h tv v mv))
  (hK : wpList Tryz.prog ops Q rest (a.put o.dst (.agg (vv h tv v mv))) w) : wpList Tryz.prog ops Q (o :: rest) a w := by
 unfold wpList
 rw [if_pos hw]
 refine .inl ?_
 exact wp_load_mid 27 x ho b off hx (vvl h tv v mv) _ hr Tryz.underlying27 rfl infoVal hK
theorem vv_one (h : Vh) {tv v mv : Value} (h1 : tv.oneCell' = true) (h2 : v.oneCell' = true) (h3 : mv.oneCell' = true) : (vv h tv v mv).all (·.oneCell') = true := by
 rw [Array.all_eq_true_iff_forall_mem]
 intro c hc
 simp only [vv, vvl, List.mem_toArray, List.mem_cons, List.mem_nil_iff, or_false] at hc
 rcases hc with rfl | rfl | rfl | rfl | rfl | rfl | rfl | rfl | rfl
 all_goals first | rfl | assumption
theorem IsP.one {P : Nat -> Prop} {w : World} {v : Value} {l : List Int} (h : IsP P w v l) : v.oneCell' = true := by obtain ⟨a, c, rfl⟩ := h.slice; rfl
theorem VoP.one {P : Nat -> Prop} {w : World} {v : Value} {L : Vo} (h : VoP P w v L) : v.oneCell' = true := by obtain ⟨a, c, rfl⟩ := h.slice; rfl
theorem wpl_stV {ops : Array Oper} {rest : List Oper} {o : Oper} {a : Act} {w : World} {Q : Exit -> Act -> World -> Prop} (hgd : o.guard = none) (x y : Operand) (ho : o.op = .store 27 x y)
  (g : Nat) (old : Array Value) (h : Vh) (tv v mv : Value) (hx : a.eval x = .pointer (some ⟨g, 0, none⟩)) (hy : a.eval y = .agg (vv h tv v mv)) (hg : w.heap[g]? = some (.cells old 27 (0, 0))) (hs : old.size = 9)
  (h1 : tv.oneCell' = true) (h2 : v.oneCell' = true) (h3 : mv.oneCell' = true)
  (hK : wpList Tryz.prog ops Q rest (a.put o.dst undef) (w.setRow g (vv h tv v mv))) : wpList Tryz.prog ops Q (o :: rest) a w :=
 wpList_store_row hgd 27 x y ho g (vv h tv v mv) hx hy 27 old hg infoVal (by rw [hs]; rfl) (vv_one h h1 h2 h3) hK
def zv : Array Value := #[.int .i64 0, .slice none 0 0, .bool false, .string ⟨#[]⟩, .string ⟨#[]⟩, .slice none 0 0, .int .i64 0, .int .i64 0, .slice none 0 0]
theorem zvx {w W1 : World} (h : w.alloc (.cells zv 27) = W1) : w.alloc (.cells #[.int .i64 0, .slice none 0 0, .bool false, .string ⟨#[]⟩, .string ⟨#[]⟩, .slice none 0 0, .int .i64 0, .int .i64 0, .slice none 0 0] 27) = W1 := h
def SZV (h : Vh) (kids : Vo) : Prop :=
 ∀ (d : Nat) (w : World) (tv v mv : Value), d <= 101 -> 1 + h.tx.length + h.ms.length + VoC kids <= 2097152 -> HdS w h tv mv -> VoS w v kids -> Calls Tryz.prog 22 #[.agg (vv h tv v mv), .int .i64 (d : Int)] w fun e w' => e = .returned (.int .i64 (sizeH h kids d : Nat)) /\ Below w.heap.size w w'
theorem szv_big (h : Vh) (kids : Vo) (ta : Option Addr) (tn tc : Nat) (a : Option Addr) (n c : Nat) (ma : Option Addr) (mn mc : Nat) (d : Nat) (w : World) (hh : 100 < d \/ 100 < h.dg.length \/ 100 < h.ex.length) :
  Calls Tryz.prog 22 #[.agg (vv h (.slice ta tn tc) (.slice a n c) (.slice ma mn mc)), .int .i64 (d : Int)] w fun e w' => e = .returned (.int .i64 1000) /\ Below w.heap.size w w' := by
 have b0 : Hid (∀ o, Below w.heap.size w (w.alloc o)) := LH fun o => (Below.refl _ _).alloc (Nat.le_refl _) o
 have z1 : (bytes h.dg).size = h.dg.length := bytes_size _
 have z2 : (bytes h.ex).size = h.ex.length := bytes_size _
 obtain ⟨D, hD⟩ : ∃ x, bytes h.dg = x := ⟨_, rfl⟩
 obtain ⟨E, hE⟩ : ∃ x, bytes h.ex = x := ⟨_, rfl⟩
 unfold vv vvl
 rw [hD] at z1 ⊢
 rw [hE] at z2 ⊢
 rw [<- z1, <- z2] at hh
 clear hD hE z1 z2
 by_cases h1 : 100 < d
 ·have h2 : (100 : Int) < d := by omega
  clear hh h1
  go_enter Tryz.func22, Tryz.ntmps22
  go_wp2
  go_ret
  exact ⟨rfl, b0.out _⟩
 ·have h2 : ¬ (100 : Int) < d := by omega
  by_cases h3 : 100 < D.size
  ·have h4 : (100 : Int) < D.size := by omega
   clear hh h1 h3
   go_enter Tryz.func22, Tryz.ntmps22
   go_wp2
   go_ret
   exact ⟨rfl, b0.out _⟩
  ·have h4 : ¬ (100 : Int) < D.size := by omega
   have h5 : (100 : Int) < E.size := by omega
   clear hh h1 h3
   go_enter Tryz.func22, Tryz.ntmps22
   go_wp2
   go_ret
   exact ⟨rfl, b0.out _⟩
def SzV (L R : Vo) (d j n : Nat) (T : Nat) : Prop := R.len + j = L.len /\ (∀ i, R.at? i = L.at? (j + i)) /\ sizeVo R d n = T
theorem szv_node (h : Vh) (L : Vo) (SZ0 : ∀ j h kids, L.at? j = some (h, kids) -> SZV h kids) (d : Nat) (hd : d <= 100) (hC : 1 + h.tx.length + h.ms.length + VoC L <= 2097152) (hs : h.dg.length <= 100 /\ h.ex.length <= 100) (tv v mv : Value) (w : World) (ht : HdS w h tv mv) (hv : VoS w v L) :
  Calls Tryz.prog 22 #[.agg (vv h tv v mv), .int .i64 (d : Int)] w fun e w' => e = .returned (.int .i64 (sizeVo L d (1 + h.tx.length + h.ms.length) : Nat)) /\ Below w.heap.size w w' := by
 have hv' := hv
 have htl : h.tx.length <= 2097152 := by omega
 have hml : h.ms.length <= 2097152 := by omega
 have hLL : L.len <= 2097152 := by have := voC_len L; omega
 have hcat := LH (fun j h kids hj => voC_at L j h kids hj)
 have hCC := LH hC
 obtain ⟨ta, tc, htv⟩ := ht.t.slice
 obtain ⟨ma, mc, hmv⟩ := ht.m.slice
 obtain ⟨a, cap, rfl, h1, h2, h3, h4⟩ := hv
 obtain ⟨n, hn⟩ : ∃ n, L.len = n := ⟨_, rfl⟩
 obtain ⟨tn, htn⟩ : ∃ n, h.tx.length = n := ⟨_, rfl⟩
 obtain ⟨mn, hmn⟩ : ∃ n, h.ms.length = n := ⟨_, rfl⟩
 have hll : n <= 2097152 := by rw [<- hn]; exact hLL
 have HR := LH (fun j h kids (hj : L.at? j = some (h, kids)) W tv v mv ht hv => SZ0 j h kids hj (d + 1) W tv v mv (by omega) (by have := voC_at L j h kids hj; omega) ht hv)
 have HKB := LH (fun j h' kids' (hj : L.at? j = some (h', kids')) => (Nat.le_trans (sizeH_le h' kids' (d + 1)) (Nat.mul_le_mul_left 1000 (show 1 + h'.tx.length + h'.ms.length + VoC kids' <= 2097152 by have := voC_at L j h' kids' hj; omega)) : sizeH h' kids' (d + 1) <= 1000 * 2097152))
 have HN := LH hn
 rw [htn] at htl htv ⊢
 rw [hmn] at hml hmv ⊢
 subst htv hmv
 have FW0 := LH (show SzV L L d 0 (1 + tn + mn) (sizeVo L d (1 + tn + mn)) from ⟨by omega, fun i => by rw [Nat.zero_add], rfl⟩)
 rw [hn] at h4
 have H4 := LH h4
 rw [hn]
 obtain ⟨T, hT⟩ : ∃ T, sizeVo L d (1 + tn + mn) = T := ⟨_, rfl⟩
 have HT := LH hT
 rw [hT] at FW0 ⊢
 have z1 : (bytes h.dg).size = h.dg.length := bytes_size _
 have z2 : (bytes h.ex).size = h.ex.length := bytes_size _
 obtain ⟨D, hD⟩ : ∃ x, bytes h.dg = x := ⟨_, rfl⟩
 obtain ⟨E, hE⟩ : ∃ x, bytes h.ex = x := ⟨_, rfl⟩
 unfold vv vvl
 rw [hD] at z1 ⊢
 rw [hE] at z2 ⊢
 rw [<- z1, <- z2] at hs
 obtain ⟨K, hK⟩ : ∃ x, h.k = x := ⟨_, rfl⟩
 obtain ⟨NG, hNG⟩ : ∃ x, h.ng = x := ⟨_, rfl⟩
 obtain ⟨FR, hFR⟩ : ∃ x, h.fr = x := ⟨_, rfl⟩
 obtain ⟨TO, hTO⟩ : ∃ x, h.tt = x := ⟨_, rfl⟩
 rw [hK, hNG, hFR, hTO]
 have b0 := LH ((Below.refl w.heap.size w).alloc (Nat.le_refl _) (.cells #[.int .i64 K, .slice ta tn tc, .bool NG, .string D, .string E, .slice a n cap, .int .i64 FR, .int .i64 TO, .slice ma mn mc] 27))
 obtain ⟨W1, hW1⟩ : ∃ W, w.alloc (.cells #[.int .i64 K, .slice ta tn tc, .bool NG, .string D, .string E, .slice a n cap, .int .i64 FR, .int .i64 TO, .slice ma mn mc] 27) = W := ⟨_, rfl⟩
 have cl : ∀ j, W1.cell? ⟨w.heap.size, j, none⟩ = #[.int .i64 K, .slice ta tn tc, .bool NG, .string D, .string E, .slice a n cap, .int .i64 FR, .int .i64 TO, .slice ma mn mc][j]? := fun j => by rw [<- hW1]; exact World.cell?_alloc_at _ _ _ _ rfl
 rw [hW1] at b0
 have c1 := cl 1
 have c3 := cl 3
 have c4 := cl 4
 have c5 := cl 5
 have c8 := cl 8
 simp only [List.getElem?_toArray, List.getElem?_cons_zero, List.getElem?_cons_succ] at c1 c3 c4 c5 c8
 have zz : w.heap.size < W1.heap.size := by rw [<- hW1]; simp
 have HW1 := LH hW1
 have C5 := LH c5
 have d1 : ¬ (100 : Int) < d := by omega
 have d2 : ¬ (100 : Int) < D.size := by omega
 have d6 : ¬ (100 : Int) < E.size := by omega
 have d3 : (0 : Int) <= d := by omega
 have d4 : (d : Int) <= 100 := by omega
 have d5 : Hid (((d + 1 : Nat) : Int) = (d : Int) + 1) := LH (by omega)
 have t0 : (tn : Int) <= 2097152 := by omega
 have m0 : (mn : Int) <= 2097152 := by omega
 have t00 : (0 : Int) <= tn := by omega
 have m00 : (0 : Int) <= mn := by omega
 clear hn SZ0 h3 h4 hW1 hT c5 hd hs h1 h2 hv' hD hE z1 z2 hK hNG hFR hTO htn hmn ht hC hcat hLL
 go_enter Tryz.func22, Tryz.ntmps22
 go_upto_region 1 with fail
 rw [HW1.out]
 go_wp2
 go_loopw [5, 6] (fun nv iv wr => ∃ (j : Nat) (R : Vo) (m : Nat), iv = .int .i64 (j : Int) /\ j <= n /\ nv = .int .i64 (m : Int) /\ m <= 3000000000 /\ SzV L R d j m T /\ Below W1.heap.size W1 wr) (fun _ iv _ => n - (intOf iv).toNat)
 case atStart => exact ⟨0, L, 1 + tn + mn, rfl, by omega, by push_cast; rfl, by omega, FW0.out, Below.refl _ _⟩
 case round =>
  obtain ⟨j, R, m, rfl, hj, rfl, hm, hfw, hb⟩ := hrel
  have HB := LH (b0.out.trans (hb.mono b0.out.size))
  have HBR := LH hb
  have c5r := (hb.cell (p := ⟨w.heap.size, 5, none⟩) zz).trans C5.out
  clear hb
  by_cases hlt : j < n
  ·cases R with
   | nil => exfalso; have := hfw.1; have := HN.out; simp [Vo.len] at *; omega
   | cons h' kids rest =>
    by_cases hm2 : m < 1000
    ·have m0 : (m : Int) < 1000 := by omega
     have m1 : (0 : Int) <= m := by omega
     have hat : L.at? j = some (h', kids) := (hfw.2.1 0).symm
     obtain ⟨b, off, rfl, hbk, hfo⟩ := H4.out (by omega)
     obtain ⟨tv, mv, u, hd, hr, hu⟩ := voAt_get L b off j h' kids hfo hat
     have R1 := LH (HR.out j h' kids hat wr tv u mv (hd.below HB.out) (hu.below HB.out))
     have hrr := LH (range_same hr (HB.out.block b hbk))
     have j0 : (0 : Int) <= j := by omega
     have j1 : (j : Int) < n := by omega
     have hsz := HKB.out j h' kids hat
     have FW2 : Hid (SzV L rest d (j + 1) (m + sizeH h' kids (d + 1)) T) := LH ⟨by have := hfw.1; simp only [Vo.len] at this; omega, fun i => by
      have := hfw.2.1 (i + 1)
      rw [show j + (i + 1) = j + 1 + i by omega] at this
      exact this, by have := hfw.2.2; rw [sizeVo_cons, if_pos hm2] at this; exact this⟩
     rw [d5.out] at R1
     obtain ⟨r, hr⟩ : ∃ x, sizeH h' kids (d + 1) = x := ⟨_, rfl⟩
     rw [hr] at R1 FW2 hsz
     have r0 : (0 : Int) <= r := by omega
     have r1 : (r : Int) <= 2097152000 := by omega
     clear hat hfo hu hfw hr hsz hd
     as_aux_lemma =>
      go_wp2_with (first | (refine wpl_ldV rfl _ rfl b (off + j * 9) h' tv u mv rfl hrr.out ?_) | fail)
      refine (R1.out).mono ?_
      rintro e w2 ⟨rfl, hb2⟩
      have e2 := HBR.out.trans (hb2.mono HBR.out.size)
      clear hb2
      go_wp2
      go_roundw
      case rel => exact ⟨j + 1, rest, m + r, by go_num, by omega, by go_num, by omega, FW2.out, e2⟩
      case measure => simp [intOf]; omega
    ·have m0 : ¬ (m : Int) < 1000 := by omega
     have hfin : m = T := by have := hfw.2.2; rw [sizeVo_cons, if_neg hm2] at this; exact this
     subst hfin
     have j1 : (j : Int) < n := by omega
     clear hfw
     as_aux_lemma =>
      go_wp2
      go_ret
      exact ⟨rfl, HB.out⟩
  ·obtain rfl : j = n := by omega
   have t1 : decide ((j : Int) < j) = false := by simp
   have hnil : R = .nil := by
    have h1 := hfw.1
    have h2 := HN.out
    cases R with
    | nil => rfl
    | cons _ _ _ => simp [Vo.len] at h1; omega
   subst hnil
   have hfin : m = T := by have := hfw.2.2; simp only [sizeVo] at this; exact this
   subst hfin
   clear hlt hfw
   as_aux_lemma =>
    go_wp2
    go_ret
    exact ⟨rfl, HB.out⟩
theorem szv_one (h : Vh) (kids : Vo) (SZ0 : ∀ j h' kids', kids.at? j = some (h', kids') -> SZV h' kids') : SZV h kids := by
 intro d w tv v mv hd hC ht hv
 have hv' := hv
 obtain ⟨a, c, rfl⟩ := hv.slice
 obtain ⟨ta, tc, rfl⟩ := ht.t.slice
 obtain ⟨ma, mc, rfl⟩ := ht.m.slice
 unfold sizeH
 by_cases hh : 100 < d \/ 100 < h.dg.length \/ 100 < h.ex.length
 ·rw [if_pos hh]
  exact szv_big h kids ta _ tc a _ c ma _ mc d w hh
 ·rw [if_neg hh]
  exact szv_node h kids SZ0 d (by omega) hC (by omega) _ _ _ w ht hv'
theorem szv_list (L : Vo) : ∀ j h kids, L.at? j = some (h, kids) -> SZV h kids := by
 induction L with
 | nil => intro j h kids e; simp [Vo.at?] at e
 | cons h0 kids0 rest ih1 ih2 =>
  intro j h kids e
  cases j with
  | zero =>
   simp only [Vo.at?, Option.some.injEq, Prod.mk.injEq] at e
   obtain ⟨rfl, rfl⟩ := e
   exact szv_one h0 kids0 ih1
  | succ j => exact ih2 j h kids e
theorem szv_any (h : Vh) (kids : Vo) : SZV h kids := szv_one h kids (szv_list kids)
theorem fewv_any (h : Vh) (kids : Vo) (tv v mv : Value) (w : World) (hC : 1 + h.tx.length + h.ms.length + VoC kids <= 2097152) (ht : HdS w h tv mv) (hv : VoS w v kids) :
  Calls Tryz.prog 11 #[.agg (vv h tv v mv)] w fun e w' => e = .returned (.bool (decide (sizeH h kids 0 <= 300))) /\ Below w.heap.size w w' := by
 have b0 := LH ((Below.refl w.heap.size w).alloc (Nat.le_refl _) (.cells (vv h tv v mv) 27))
 have R := LH (szv_any h kids 0 _ tv v mv (by decide) hC (ht.below b0.out) (hv.below b0.out))
 obtain ⟨a, c, rfl⟩ := hv.slice
 obtain ⟨ta, tc, htv⟩ := ht.t.slice
 obtain ⟨ma, mc, hmv⟩ := ht.m.slice
 subst htv hmv
 obtain ⟨n, hn⟩ : ∃ n, kids.len = n := ⟨_, rfl⟩
 obtain ⟨tn, htn⟩ : ∃ n, h.tx.length = n := ⟨_, rfl⟩
 obtain ⟨mn, hmn⟩ : ∃ n, h.ms.length = n := ⟨_, rfl⟩
 rw [hn, htn, hmn] at R b0 ⊢
 generalize sizeH h kids 0 = m at R ⊢
 have HD := LH (show decide (m <= 300) = decide ((m : Int) <= 300) by apply decide_eq_decide.2; omega)
 rw [HD.out]
 obtain ⟨D, hD⟩ : ∃ x, bytes h.dg = x := ⟨_, rfl⟩
 obtain ⟨E, hE⟩ : ∃ x, bytes h.ex = x := ⟨_, rfl⟩
 obtain ⟨K, hK⟩ : ∃ x, h.k = x := ⟨_, rfl⟩
 obtain ⟨NG, hNG⟩ : ∃ x, h.ng = x := ⟨_, rfl⟩
 obtain ⟨FR, hFR⟩ : ∃ x, h.fr = x := ⟨_, rfl⟩
 obtain ⟨TO, hTO⟩ : ∃ x, h.tt = x := ⟨_, rfl⟩
 unfold vv vvl at R b0 ⊢
 rw [hD, hE, hK, hNG, hFR, hTO] at R b0 ⊢
 clear hn hC ht hv hD hE hK hNG hFR hTO htn hmn
 go_enter Tryz.func11, Tryz.ntmps11
 go_wp2_with fail
 refine (R.out).mono ?_
 rintro e w1 ⟨rfl, hb1⟩
 have hfin := b0.out.trans (hb1.mono b0.out.size)
 clear hb1
 go_wp2
 go_ret
 exact ⟨rfl, hfin⟩
end Go.Proofs.YtbfnlgmhfhaglaaGreatDoor
