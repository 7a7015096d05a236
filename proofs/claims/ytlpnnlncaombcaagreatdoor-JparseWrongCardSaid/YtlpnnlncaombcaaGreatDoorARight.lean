/- Values of any shape: may be (jmin.Right), plain; jmin.rightKeys, rightItems. -/
import Derived.Test.YtlpnnlncaombcaaGreatDoorASize
import Derived.Test.YtlpnnlncaombcaaGreatDoorJgN
import Derived.Test.YtlpnnlncaombcaaGreatDoorJgL
namespace Go.Proofs.YtlpnnlncaombcaaGreatDoor
open Go.RowKit
set_option linter.unusedVariables false
set_option linter.unusedSimpArgs false

def nnum (h : Vh) : Bool := !h.ng && h.dg.isEmpty && h.ex.isEmpty
/-- Is every other one, from the first on (e) or the second, a text? -/
def evK : Bool → Vo → Bool
  | _, .nil => true
  | e, .cons h _ r => (!e || decide (h.k = 3)) && evK (!e) r
def nlist (h : Vh) (n : Nat) : Bool := decide (n = 0) && decide (h.ms.length = 0) && decide (h.tt = 0)
def keysB (h : Vh) (L : Vo) : Bool := decide (h.k ≠ 1) || (evK true L && decide (L.len % 2 = 0))
def marksB (h : Vh) (n : Nat) : Bool := decide (0 ≤ h.tt) && decide (h.ms.length = n - 1) && h.ms.all (fun z => decide (0 ≤ z))
/-- What of a value but its items' own is right, given what its items are. -/
def headB (h : Vh) (n : Nat) (d : Nat) (kb : Bool) : Bool :=
  decide (0 ≤ h.fr) && (if h.k = 1 ∨ h.k = 2 then decide (h.tx.length = 0) && nnum h && decide (0 < d) && kb
    else if h.k = 3 then nnum h && nlist h n && M.rightU h.tx
    else if h.k = 4 then decide (h.tx.length = 0) && nlist h n && M.rightN h.dg h.ex
    else if h.k = 5 ∨ h.k = 6 ∨ h.k = 7 then decide (h.tx.length = 0) && nnum h && nlist h n else false)
/-- May all of a list be, with so many levels below? -/
def rightVo : Vo → Nat → Bool
  | .nil, _ => true
  | .cons h kids rest, d => headB h kids.len d (marksB h kids.len && keysB h kids && rightVo kids (d - 1)) && rightVo rest d
def rightH (h : Vh) (kids : Vo) (d : Nat) : Bool := headB h kids.len d (marksB h kids.len && keysB h kids && rightVo kids (d - 1))
theorem rightVo_cons (h : Vh) (kids rest : Vo) (d : Nat) : rightVo (.cons h kids rest) d = (rightH h kids d && rightVo rest d) := rfl
theorem rightVo_true (d : Nat) (L : Vo) : (∀ j h kids, L.at? j = some (h, kids) → rightH h kids d = true) → rightVo L d = true := by
  induction L with
  | nil => intro _; rfl
  | cons h kids rest _ ih =>
    intro H
    rw [rightVo_cons, H 0 h kids rfl, ih fun j h' k' hj => H (j + 1) h' k' hj]; rfl
theorem rightVo_false (d : Nat) (L : Vo) : ∀ j h kids, L.at? j = some (h, kids) → rightH h kids d = false → rightVo L d = false := by
  induction L with
  | nil => intro j h kids e; simp [Vo.at?] at e
  | cons h0 kids0 rest _ ih =>
    intro j h kids e hr
    cases j with
    | zero =>
      simp only [Vo.at?, Option.some.injEq, Prod.mk.injEq] at e
      obtain ⟨rfl, rfl⟩ := e
      rw [rightVo_cons, hr]; rfl
    | succ j => rw [rightVo_cons, ih j h kids e hr, Bool.and_false]
/-- The value is held in a block of its own. -/
def VB (w : World) (b : Nat) (h : Vh) (tv v mv : Value) : Prop := w.heap[b]? = some (.cells (vv h tv v mv) 27 (0, 0))
theorem VB.lt {w : World} {b : Nat} {h : Vh} {tv v mv : Value} (x : VB w b h tv v mv) : b < w.heap.size := (Array.getElem?_eq_some_iff.1 x).1
theorem VB.new (w : World) (h : Vh) (tv v mv : Value) : VB (w.alloc (.cells (vv h tv v mv) 27)) w.heap.size h tv v mv := heap_alloc_new w _
theorem VB.frame {w w' : World} {b : Nat} {h : Vh} {tv v mv : Value} (x : VB w b h tv v mv) (hb : w'.heap[b]? = w.heap[b]?) : VB w' b h tv v mv := by unfold VB; rw [hb]; exact x
theorem VB.keep {w w' : World} {b : Nat} {h : Vh} {tv v mv : Value} (x : VB w b h tv v mv) (hb : Below w.heap.size w w') : VB w' b h tv v mv := x.frame (hb.block b x.lt)
theorem VB.range {w : World} {b : Nat} {h : Vh} {tv v mv : Value} (x : VB w b h tv v mv) : w.rangeAt b 0 (vvl h tv v mv) := fun j u hu => by
  rw [Nat.zero_add, cell_of_row w b j _ _ _ x]
  exact (by simpa [vv] using hu)
theorem VB.cells {w : World} {b : Nat} {h : Vh} {tv v mv : Value} (x : VB w b h tv v mv) :
    w.cell? ⟨b, 0, none⟩ = some (.int .i64 h.k) ∧ w.cell? ⟨b, 1, none⟩ = some tv ∧ w.cell? ⟨b, 2, none⟩ = some (.bool h.ng) ∧ w.cell? ⟨b, 3, none⟩ = some (.string (bytes h.dg)) ∧ w.cell? ⟨b, 4, none⟩ = some (.string (bytes h.ex)) ∧ w.cell? ⟨b, 5, none⟩ = some v ∧ w.cell? ⟨b, 6, none⟩ = some (.int .i64 h.fr) ∧ w.cell? ⟨b, 7, none⟩ = some (.int .i64 h.tt) ∧ w.cell? ⟨b, 8, none⟩ = some mv :=
  ⟨x.range 0 _ rfl, x.range 1 _ rfl, x.range 2 _ rfl, x.range 3 _ rfl, x.range 4 _ rfl, x.range 5 _ rfl, x.range 6 _ rfl, x.range 7 _ rfl, x.range 8 _ rfl⟩
/-- A value that is stored into a new cell. -/
theorem vbox_set {w : World} {h : Vh} {tv v mv : Value} (W2 : World) (hW : (w.alloc (.cells zv 27)).setRow w.heap.size (vv h tv v mv) = W2) : VB W2 w.heap.size h tv v mv ∧ Below w.heap.size w W2 := by
  subst hW
  have b := (Below.refl w.heap.size w).alloc (Nat.le_refl _) (.cells zv 27)
  refine ⟨setRow_heap _ _ zv _ _ _ (heap_alloc_new w _), ⟨b.os, b.tape, b.output, by rw [setRow_size]; exact b.size, fun k hk => by rw [setRow_other _ w.heap.size k _ (by omega)]; exact b.block k hk⟩⟩
/-- The box of a value that a callee makes. -/
theorem vv_box (w : World) (h : Vh) (tv v mv : Value) : w.alloc (.cells #[.int .i64 h.k, tv, .bool h.ng, .string (bytes h.dg), .string (bytes h.ex), v, .int .i64 h.fr, .int .i64 h.tt, mv] 27) = w.alloc (.cells (vv h tv v mv) 27) := rfl
/-- On the way through the keys. -/
def KyV (L R : Vo) (i : Nat) : Prop := (∀ j, R.at? j = L.at? (i + j)) ∧ (R.len + i = L.len ∨ (R.len = 0 ∧ i = L.len + 1)) ∧ evK true R = evK true L
def Vo.two : Vo → Vo
  | .cons _ _ (.cons _ _ r) => r
  | _ => .nil
theorem ky_next {L R : Vo} {i : Nat} {h : Vh} {kids : Vo} (x : KyV L R i) (hi : i < L.len) (hh : L.at? i = some (h, kids)) (hk : h.k = 3) : KyV L R.two (i + 2) := by
  obtain ⟨x1, x2, x3⟩ := x
  cases R with
  | nil => simp [Vo.len] at x2; omega
  | cons h0 k0 r =>
    have e := x1 0
    rw [Nat.add_zero, hh] at e
    simp only [Vo.at?, Option.some.injEq, Prod.mk.injEq] at e
    obtain ⟨rfl, rfl⟩ := e
    cases r with
    | nil =>
      refine ⟨fun j => ?_, ?_, ?_⟩
      · have : L.at? (i + 2 + j) = none := by
          cases hj : L.at? (i + 2 + j) with
          | none => rfl
          | some y => have := vo_at_lt L _ hj; simp [Vo.len] at x2; omega
        rw [this]; rfl
      · right; simp [Vo.len] at x2 ⊢; simp [Vo.two, Vo.len]; omega
      · rw [← x3]; simp [Vo.two, evK, hk]
    | cons h1 k1 r1 =>
      refine ⟨fun j => ?_, ?_, ?_⟩
      · have := x1 (j + 2)
        rw [show i + 2 + j = i + (j + 2) by omega]
        exact this
      · left; simp [Vo.len] at x2; simp [Vo.two]; omega
      · rw [← x3]; simp [Vo.two, evK, hk]
theorem ky_bad {L R : Vo} {i : Nat} {h : Vh} {kids : Vo} (x : KyV L R i) (hi : i < L.len) (hh : L.at? i = some (h, kids)) (hk : h.k ≠ 3) : evK true L = false := by
  obtain ⟨x1, x2, x3⟩ := x
  cases R with
  | nil => simp [Vo.len] at x2; omega
  | cons h0 k0 r =>
    have e := x1 0
    rw [Nat.add_zero, hh] at e
    simp only [Vo.at?, Option.some.injEq, Prod.mk.injEq] at e
    obtain ⟨rfl, rfl⟩ := e
    rw [← x3]; simp [evK, hk]
theorem ky_end {L R : Vo} {i : Nat} (x : KyV L R i) (hi : ¬ i < L.len) : evK true L = true := by
  obtain ⟨x1, x2, x3⟩ := x
  cases R with
  | nil => rw [← x3]; rfl
  | cons h0 k0 r => simp [Vo.len] at x2; omega
end Go.Proofs.YtlpnnlncaombcaaGreatDoor
