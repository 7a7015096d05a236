/- Texts of ours in one: AVal ASize. -/
import Derived.Test.YtlobinjdgcidmaaGreatDoorQs02
import Derived.Deep.Slices
import Derived.Deep.Fields
import Derived.Deep.MidRow
import Derived.ChangeSame
import Derived.ProofKit
import Derived.OpenShut
import Derived.Deep.DeepCutAuto
/- Values of JSON, of any shape, in memory: lists of values as forests; a value that came in, opened. -/
namespace Go.Proofs.YtlobinjdgcidmaaGreatDoor
open Go.RowKit Go.ChangeShapes Go.WideShapes
set_option linter.unusedVariables false
set_option linter.unusedSimpArgs false

structure Vh where
  k : Int
  tx : List Int
  ng : Bool
  dg : List UInt8
  ex : List UInt8
  fr : Int
  tt : Int
  ms : List Int
inductive Vo where
  | nil : Vo
  | cons (h : Vh) (kids rest : Vo) : Vo
def Vo.len : Vo → Nat
  | .nil => 0
  | .cons _ _ r => r.len + 1
def Vo.at? : Vo → Nat → Option (Vh × Vo)
  | .nil, _ => none
  | .cons h kids _, 0 => some (h, kids)
  | .cons _ _ r, n + 1 => r.at? n
theorem Vo.at_some (L : Vo) : ∀ j, j < L.len → ∃ h kids, L.at? j = some (h, kids) := by
  induction L with
  | nil => intro j h; simp [Vo.len] at h
  | cons h kids rest _ ih =>
    intro j hj
    cases j with
    | zero => exact ⟨h, kids, rfl⟩
    | succ j => exact ih j (by simp [Vo.len] at hj; omega)
theorem vo_at_lt (L : Vo) : ∀ i {x}, L.at? i = some x → i < L.len := by
  induction L with
  | nil => intro i x h; simp [Vo.at?] at h
  | cons h kids rest _ ih =>
    intro i x hx
    cases i with
    | zero => simp [Vo.len]
    | succ i => have := ih i hx; simp [Vo.len]; omega
def vvl (h : Vh) (tv v mv : Value) : List Value := [.int .i64 h.k, tv, .bool h.ng, .string (bytes h.dg), .string (bytes h.ex), v, .int .i64 h.fr, .int .i64 h.tt, mv]
def vv (h : Vh) (tv v mv : Value) : Array Value := (vvl h tv v mv).toArray
def IsP (P : Nat → Prop) (w : World) (v : Value) (l : List Int) : Prop :=
  ∃ a cap, v = .slice a l.length cap ∧ l.length ≤ cap ∧ cap ≤ maxLen ∧ (a = none → cap = 0) ∧ (0 < l.length → ∃ b off, a = some ⟨b, off, none⟩ ∧ P b ∧ ∀ j (h : j < l.length), w.cell? ⟨b, off + j, none⟩ = some (.int .i64 l[j]))
abbrev In (w : World) : Nat → Prop := fun b => b < w.heap.size
theorem cell_same {w w' : World} {b off : Nat} (h : w'.heap[b]? = w.heap[b]?) : w'.cell? ⟨b, off, none⟩ = w.cell? ⟨b, off, none⟩ := by
  unfold World.cell?; rw [h]
theorem range_same {w w' : World} {b o : Nat} {cs : List Value} (h : w.rangeAt b o cs) (hb : w'.heap[b]? = w.heap[b]?) : w'.rangeAt b o cs := fun j u hu => by
  rw [cell_same hb]; exact h j u hu
theorem IsP.keep {P : Nat → Prop} {w w' : World} {v : Value} {l : List Int} (h : IsP P w v l) (hf : ∀ b, P b → w'.heap[b]? = w.heap[b]?) : IsP P w' v l := by
  obtain ⟨a, cap, rfl, h1, h2, h3, h4⟩ := h
  refine ⟨a, cap, rfl, h1, h2, h3, fun h0 => ?_⟩
  obtain ⟨b, off, e, hp, hc⟩ := h4 h0
  exact ⟨b, off, e, hp, fun j hj => by rw [cell_same (hf b hp)]; exact hc j hj⟩
theorem IsP.mono {P Q : Nat → Prop} {w : World} {v : Value} {l : List Int} (h : IsP P w v l) (hq : ∀ b, P b → Q b) : IsP Q w v l := by
  obtain ⟨a, cap, rfl, h1, h2, h3, h4⟩ := h
  refine ⟨a, cap, rfl, h1, h2, h3, fun h0 => ?_⟩
  obtain ⟨b, off, e, hp, hc⟩ := h4 h0
  exact ⟨b, off, e, hq b hp, hc⟩
theorem IsP.is {P : Nat → Prop} {w : World} {v : Value} {l : List Int} (h : IsP P w v l) (hq : ∀ b, P b → b < w.heap.size) : Is w v l := by
  obtain ⟨a, cap, rfl, h1, h2, h3, h4⟩ := h
  refine ⟨a, cap, rfl, h1, h2, fun h0 => ?_⟩
  obtain ⟨b, off, e, hp, hc⟩ := h4 h0
  exact ⟨b, off, e, hq b hp, hc⟩
theorem IsP.slice {P : Nat → Prop} {w : World} {v : Value} {l : List Int} (h : IsP P w v l) : ∃ a cap, v = .slice a l.length cap := by
  obtain ⟨a, cap, rfl, _⟩ := h; exact ⟨a, cap, rfl⟩
theorem isP_nil (P : Nat → Prop) (w : World) : IsP P w (.slice none 0 0) [] := ⟨none, 0, rfl, by simp, by decide, fun _ => rfl, fun h => by simp at h⟩
structure HdP (P : Nat → Prop) (w : World) (h : Vh) (tv mv : Value) : Prop where
  d : h.dg.length ≤ maxLen
  e : h.ex.length ≤ maxLen
  t : IsP P w tv h.tx
  m : IsP P w mv h.ms
theorem HdP.keep {P : Nat → Prop} {w w' : World} {h : Vh} {tv mv : Value} (x : HdP P w h tv mv) (hf : ∀ b, P b → w'.heap[b]? = w.heap[b]?) : HdP P w' h tv mv := ⟨x.d, x.e, x.t.keep hf, x.m.keep hf⟩
theorem HdP.mono {P Q : Nat → Prop} {w : World} {h : Vh} {tv mv : Value} (x : HdP P w h tv mv) (hq : ∀ b, P b → Q b) : HdP Q w h tv mv := ⟨x.d, x.e, x.t.mono hq, x.m.mono hq⟩
def VoAt (P : Nat → Prop) (w : World) : Vo → Nat → Nat → Prop
  | .nil, _, _ => True
  | .cons h kids rest, b, off => (∃ tv mv a cap, HdP P w h tv mv ∧ w.rangeAt b off (vvl h tv (.slice a kids.len cap) mv) ∧ kids.len ≤ cap ∧ cap ≤ maxLen ∧ (a = none → cap = 0) ∧ (0 < kids.len → ∃ b' off', a = some ⟨b', off', none⟩ ∧ P b' ∧ VoAt P w kids b' off')) ∧
      VoAt P w rest b (off + 9)
def VoP (P : Nat → Prop) (w : World) (v : Value) (L : Vo) : Prop :=
  ∃ a cap, v = .slice a L.len cap ∧ L.len ≤ cap ∧ cap ≤ maxLen ∧ (a = none → cap = 0) ∧ (0 < L.len → ∃ b off, a = some ⟨b, off, none⟩ ∧ P b ∧ VoAt P w L b off)
abbrev VoS (w : World) (v : Value) (L : Vo) : Prop := VoP (In w) w v L
abbrev HdS (w : World) (h : Vh) (tv mv : Value) : Prop := HdP (In w) w h tv mv
theorem voAt_keep {P : Nat → Prop} {w w' : World} (hf : ∀ b, P b → w'.heap[b]? = w.heap[b]?) (L : Vo) : ∀ b off, P b → VoAt P w L b off → VoAt P w' L b off := by
  induction L with
  | nil => intros; trivial
  | cons h kids rest ih1 ih2 =>
    rintro b off hp ⟨⟨tv, mv, a, cap, hd, hr, h1, h2, h3, h4⟩, h5⟩
    refine ⟨⟨tv, mv, a, cap, hd.keep hf, range_same hr (hf b hp), h1, h2, h3, fun h0 => ?_⟩, ih2 b (off + 9) hp h5⟩
    obtain ⟨b', off', e, hp', hk⟩ := h4 h0
    exact ⟨b', off', e, hp', ih1 b' off' hp' hk⟩
theorem voAt_mono {P Q : Nat → Prop} {w : World} (hq : ∀ b, P b → Q b) (L : Vo) : ∀ b off, VoAt P w L b off → VoAt Q w L b off := by
  induction L with
  | nil => intros; trivial
  | cons h kids rest ih1 ih2 =>
    rintro b off ⟨⟨tv, mv, a, cap, hd, hr, h1, h2, h3, h4⟩, h5⟩
    refine ⟨⟨tv, mv, a, cap, hd.mono hq, hr, h1, h2, h3, fun h0 => ?_⟩, ih2 b (off + 9) h5⟩
    obtain ⟨b', off', e, hp', hk⟩ := h4 h0
    exact ⟨b', off', e, hq b' hp', ih1 b' off' hk⟩
theorem VoP.keep {P : Nat → Prop} {w w' : World} {v : Value} {L : Vo} (h : VoP P w v L) (hf : ∀ b, P b → w'.heap[b]? = w.heap[b]?) : VoP P w' v L := by
  obtain ⟨a, cap, rfl, h1, h2, h3, h4⟩ := h
  refine ⟨a, cap, rfl, h1, h2, h3, fun h0 => ?_⟩
  obtain ⟨b, off, e, hl, hk⟩ := h4 h0
  exact ⟨b, off, e, hl, voAt_keep hf L b off hl hk⟩
theorem VoP.mono {P Q : Nat → Prop} {w : World} {v : Value} {L : Vo} (h : VoP P w v L) (hq : ∀ b, P b → Q b) : VoP Q w v L := by
  obtain ⟨a, cap, rfl, h1, h2, h3, h4⟩ := h
  refine ⟨a, cap, rfl, h1, h2, h3, fun h0 => ?_⟩
  obtain ⟨b, off, e, hl, hk⟩ := h4 h0
  exact ⟨b, off, e, hq b hl, voAt_mono hq L b off hk⟩
theorem in_keep {w w' : World} (hb : Below w.heap.size w w') : (∀ b, In w b → w'.heap[b]? = w.heap[b]?) ∧ ∀ b, In w b → In w' b :=
  ⟨fun b h => hb.block b h, fun b h => Nat.lt_of_lt_of_le h hb.size⟩
theorem VoP.below {w w' : World} {v : Value} {L : Vo} (h : VoS w v L) (hb : Below w.heap.size w w') : VoS w' v L := (VoP.keep h (in_keep hb).1).mono (in_keep hb).2
theorem HdP.below {w w' : World} {h : Vh} {tv mv : Value} (x : HdS w h tv mv) (hb : Below w.heap.size w w') : HdS w' h tv mv := (HdP.keep x (in_keep hb).1).mono (in_keep hb).2
theorem VoP.slice {P : Nat → Prop} {w : World} {v : Value} {L : Vo} (h : VoP P w v L) : ∃ a cap, v = .slice a L.len cap := by obtain ⟨a, cap, rfl, _⟩ := h; exact ⟨a, cap, rfl⟩
theorem voP_nil (P : Nat → Prop) (w : World) : VoP P w (.slice none 0 0) .nil := ⟨none, 0, rfl, by simp [Vo.len], by decide, fun _ => rfl, fun h => by simp [Vo.len] at h⟩
theorem voAt_get {P : Nat → Prop} {w : World} (L : Vo) : ∀ b off j h kids, VoAt P w L b off → L.at? j = some (h, kids) →
    ∃ tv mv v, HdP P w h tv mv ∧ w.rangeAt b (off + j * 9) (vvl h tv v mv) ∧ VoP P w v kids := by
  induction L with
  | nil => intro b off j h kids _ e; simp [Vo.at?] at e
  | cons h0 kids0 rest ih1 ih2 =>
    rintro b off j h kids ⟨⟨tv, mv, a, cap, hd, hr, h1, h2, h3, h4⟩, h5⟩ hj
    cases j with
    | zero =>
      simp only [Vo.at?, Option.some.injEq, Prod.mk.injEq] at hj
      obtain ⟨rfl, rfl⟩ := hj
      rw [Nat.zero_mul, Nat.add_zero]
      exact ⟨tv, mv, _, hd, hr, a, cap, rfl, h1, h2, h3, h4⟩
    | succ j =>
      have := ih2 b (off + 9) j h kids h5 hj
      rw [show off + (j + 1) * 9 = off + 9 + j * 9 by omega]
      exact this
end Go.Proofs.YtlobinjdgcidmaaGreatDoor
/- Values of any shape: chapter 7's own size and Few. -/
namespace Go.Proofs.YtlobinjdgcidmaaGreatDoor
open Go.RowKit
set_option linter.unusedVariables false
set_option linter.unusedSimpArgs false

theorem infoVal : (Tryz.prog.info? 48).map (·.size) = some 9 := by kernel_rfl
theorem wpl_ldV {ops : Array Oper} {rest : List Oper} {o : Oper} {a : Act} {w : World} {Q : Exit → Act → World → Prop} (hgd : o.guard = none) (x : Operand) (ho : o.op = .load 48 x)
    (b off : Nat) (h : Vh) (tv v mv : Value) (hx : a.eval x = .pointer (some ⟨b, off, none⟩)) (hr : w.rangeAt b off (vvl h tv v mv))
    (hK : wpList Tryz.prog ops Q rest (a.put o.dst (.agg (vv h tv v mv))) w) : wpList Tryz.prog ops Q (o :: rest) a w :=
  wpList_load_mid hgd 48 x ho b off hx (vvl h tv v mv) _ hr Tryz.underlying48 rfl infoVal hK
theorem wpl_ldVg {ops : Array Oper} {rest : List Oper} {o : Oper} {a : Act} {w : World} {Q : Exit → Act → World → Prop} (hw : Region.wanted o (yielded ops a.tmps) = true) (x : Operand) (ho : o.op = .load 48 x)
    (b off : Nat) (h : Vh) (tv v mv : Value) (hx : a.eval x = .pointer (some ⟨b, off, none⟩)) (hr : w.rangeAt b off (vvl h tv v mv))
    (hK : wpList Tryz.prog ops Q rest (a.put o.dst (.agg (vv h tv v mv))) w) : wpList Tryz.prog ops Q (o :: rest) a w := by
  unfold wpList
  rw [if_pos hw]
  refine .inl ?_
  exact wp_load_mid 48 x ho b off hx (vvl h tv v mv) _ hr Tryz.underlying48 rfl infoVal hK
theorem vv_one (h : Vh) {tv v mv : Value} (h1 : tv.oneCell' = true) (h2 : v.oneCell' = true) (h3 : mv.oneCell' = true) : (vv h tv v mv).all (·.oneCell') = true := by
  rw [Array.all_eq_true_iff_forall_mem]
  intro c hc
  simp only [vv, vvl, List.mem_toArray, List.mem_cons, List.mem_nil_iff, or_false] at hc
  rcases hc with rfl | rfl | rfl | rfl | rfl | rfl | rfl | rfl | rfl
  all_goals first | rfl | assumption
theorem IsP.one {P : Nat → Prop} {w : World} {v : Value} {l : List Int} (h : IsP P w v l) : v.oneCell' = true := by obtain ⟨a, c, rfl⟩ := h.slice; rfl
theorem VoP.one {P : Nat → Prop} {w : World} {v : Value} {L : Vo} (h : VoP P w v L) : v.oneCell' = true := by obtain ⟨a, c, rfl⟩ := h.slice; rfl
theorem wpl_stV {ops : Array Oper} {rest : List Oper} {o : Oper} {a : Act} {w : World} {Q : Exit → Act → World → Prop} (hgd : o.guard = none) (x y : Operand) (ho : o.op = .store 48 x y)
    (g : Nat) (old : Array Value) (h : Vh) (tv v mv : Value) (hx : a.eval x = .pointer (some ⟨g, 0, none⟩)) (hy : a.eval y = .agg (vv h tv v mv)) (hg : w.heap[g]? = some (.cells old 48 (0, 0))) (hs : old.size = 9)
    (h1 : tv.oneCell' = true) (h2 : v.oneCell' = true) (h3 : mv.oneCell' = true)
    (hK : wpList Tryz.prog ops Q rest (a.put o.dst undef) (w.setRow g (vv h tv v mv))) : wpList Tryz.prog ops Q (o :: rest) a w :=
  wpList_store_row hgd 48 x y ho g (vv h tv v mv) hx hy 48 old hg infoVal (by rw [hs]; rfl) (vv_one h h1 h2 h3) hK
def zv : Array Value := #[.int .i64 0, .slice none 0 0, .bool false, .string ⟨#[]⟩, .string ⟨#[]⟩, .slice none 0 0, .int .i64 0, .int .i64 0, .slice none 0 0]
end Go.Proofs.YtlobinjdgcidmaaGreatDoor
