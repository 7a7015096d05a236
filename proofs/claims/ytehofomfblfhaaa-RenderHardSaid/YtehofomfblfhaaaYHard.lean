/- Layouts: the documents of RenderHard and RenderLines, plain. -/
import Derived.Test.YtehofomfblfhaaaYFits
namespace Go.Proofs.Ytehofomfblfhaaa
open Go.RowKit
set_option linter.unusedVariables false
set_option linter.unusedSimpArgs false

def Fo.glue : Fo → Fo → Fo
  | .nil, M => M
  | .cons k f s kids rest, M => .cons k f s kids (Fo.glue rest M)
theorem items_glue (lv : Nat) (fl : Bool) (M : Fo) : ∀ L : Fo, items lv fl (Fo.glue L M) = items lv fl L ++ items lv fl M := by
  intro L
  induction L with
  | nil => rfl
  | cons k f s kids rest _ ih => simp only [Fo.glue, items, ih, List.cons_append]
def hb : Fo := .cons 4 0 ⟨#[]⟩ .nil (.cons 1 (-1) (bytes [98]) .nil .nil)
def hardL : List Nat → Fo
  | [] => .nil
  | n :: ns => Fo.glue (nests n hb) (hardL ns)
def hardT (ind : Nat) (ns : List Nat) : List UInt8 := ns.flatMap fun n => 10 :: List.replicate (n * ind) 32 ++ [98]
theorem lay_hardL (w ind : Nat) (ns : List Nat) : ∀ col, ptext (lay w ind (items 0 false (hardL ns)) col) = hardT ind ns := by
  induction ns with
  | nil => intro col; show ptext (lay w ind [] col) = []; rw [lay_nil]; rfl
  | cons n ns ih =>
    intro col
    show ptext (lay w ind (items 0 false (Fo.glue (nests n hb) (hardL ns))) col) = _
    rw [items_glue, lay_nests]
    show ptext (lay w ind (⟨4, 0, ⟨#[]⟩, .nil, 0 + n, false⟩ :: ⟨1, -1, bytes [98], .nil, 0 + n, false⟩ :: items 0 false (hardL ns)) col) = _
    rw [lay_brk _ _ _ (by omega), ptext_brk]
    obtain ⟨c, e⟩ := lay_word w ind [98] (-1) (0 + n) false (items 0 false (hardL ns)) ((0 + n) * ind)
    rw [e, ih c]
    simp [hardT]
theorem flatF_nests (n : Nat) (M : Fo) : (flatF (Fo.glue (nests n hb) M)).2 = false := by
  have key : ∀ n, ∃ k f s kids, nests n hb = .cons k f s kids .nil ∧ (flatD k s kids).2 = false := by
    intro n
    induction n with
    | zero => exact ⟨5, 0, ⟨#[]⟩, hb, rfl, rfl⟩
    | succ n ih =>
      obtain ⟨k, f, s, kids, e, h⟩ := ih
      refine ⟨7, 0, ⟨#[]⟩, nests n hb, rfl, ?_⟩
      have e7 : flatD 7 ⟨#[]⟩ (nests n hb) = flatF (nests n hb) := by unfold flatD; simp
      rw [e7, e, flatF_cons, if_neg (by rw [h]; simp)]
  obtain ⟨k, f, s, kids, e, h⟩ := key n
  rw [e]
  show (flatF (.cons k f s kids (Fo.glue .nil M))).2 = false
  rw [flatF_cons, if_neg (by rw [h]; simp)]
/-- RenderHard, plain. -/
theorem hard_plain (w ind : Nat) (ns : List Nat) : ptext (layD w ind 6 0 ⟨#[]⟩ (.cons 1 (-1) (bytes [97]) .nil (hardL ns))) = 97 :: hardT ind ns := by
  have h1 : flatD 1 (bytes [97]) .nil = ([97], true) := by
    unfold flatD; rw [if_pos rfl, bytes_list]
  have hF : flatF (.cons 1 (-1) (bytes [97]) .nil (hardL ns)) = (97 :: (flatF (hardL ns)).1, (flatF (hardL ns)).2) := by
    rw [flatF_cons, h1, if_pos rfl]; rfl
  unfold layD
  by_cases h : (flatF (.cons 1 (-1) (bytes [97]) .nil (hardL ns))).2 = true ∧ wd (bytes (flatF (.cons 1 (-1) (bytes [97]) .nil (hardL ns))).1) ≤ w
  · rw [group_fits w ind _ 0 h.1 h.2]
    cases ns with
    | nil => rfl
    | cons n ns =>
      have h2 := h.1
      rw [hF] at h2
      have h3 : (flatF (hardL (n :: ns))).2 = false := flatF_nests n (hardL ns)
      rw [show ((97 :: (flatF (hardL (n :: ns))).1, (flatF (hardL (n :: ns))).2) : List UInt8 × Bool).2 = (flatF (hardL (n :: ns))).2 from rfl, h3] at h2
      exact absurd h2 (by simp)
  · rw [group_breaks w ind _ 0 h]
    show ptext (lay w ind (⟨1, -1, bytes [97], .nil, 0, false⟩ :: items 0 false (hardL ns)) 0) = _
    obtain ⟨c, e⟩ := lay_word w ind [97] (-1) 0 false (items 0 false (hardL ns)) 0
    rw [e, lay_hardL w ind ns c]
    rfl
end Go.Proofs.Ytehofomfblfhaaa
