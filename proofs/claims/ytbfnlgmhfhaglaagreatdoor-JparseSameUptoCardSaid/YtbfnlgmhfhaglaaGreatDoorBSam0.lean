/- Values of any shape: when two are one, plain; == of numbers. -/
import Derived.Test.YtbfnlgmhfhaglaaGreatDoorASize
import Derived.Test.YtbfnlgmhfhaglaaGreatDoorJgB
import Derived.Laws.StructEq
import Derived.ChangeKeysEq
namespace Go.Proofs.YtbfnlgmhfhaglaaGreatDoor
open Go.RowKit
set_option linter.unusedVariables false
set_option linter.unusedSimpArgs false

theorem neqnum_any (ng ng' : Bool) (D E D' E' : List UInt8) (w : World) : (binOp .neq 24 (.agg #[.bool ng, .string (bytes D), .string (bytes E)]) (.agg #[.bool ng', .string (bytes D'), .string (bytes E')])).run Tryz.prog w = .ok (.bool (!(decide (ng = ng' ∧ D = D' ∧ E = E')))) w := by
  rw [run_neq_struct, run_equalIn_agg w _ _ _ _ (by simp [Program.fieldsOf, Tryz.underlying24]) Tryz.stoodInHeld24]
  have e0 : ∀ l : List UInt8, (bytes l).toList = l := fun l => by rw [ByteArray.toList_eq, bytes_list]
  have e2 : ∀ l k : List UInt8, (bytes l = bytes k) ↔ l = k := fun l k => ⟨fun h => by rw [← e0 l, ← e0 k, h], fun h => by rw [h]⟩
  by_cases h1 : ng = ng' <;> by_cases h2 : D = D' <;> by_cases h3 : E = E' <;> simp [Program.fieldsOf, Tryz.underlying24, Op.eqFields, part, go_sem, e0, e2, h1, h2, h3]
def sameHd (h h' : Vh) (n n' : Nat) : Bool := decide (h.k = h'.k) && decide (h.tx = h'.tx) && decide (h.ng = h'.ng ∧ h.dg = h'.dg ∧ h.ex = h'.ex) && decide (n = n')
/-- Are the values of two lists one, one by one? -/
def sameVo : Vo → Vo → Bool
  | .cons h kids rest, .cons h' kids' rest' => sameHd h h' kids.len kids'.len && sameVo kids kids' && sameVo rest rest'
  | .nil, .nil => true
  | .nil, .cons _ _ _ => false
  | .cons _ _ _, .nil => false
def sameH (h : Vh) (kids : Vo) (h' : Vh) (kids' : Vo) : Bool := sameHd h h' kids.len kids'.len && sameVo kids kids'
theorem sameVo_true (L : Vo) : ∀ L' : Vo, L.len = L'.len → (∀ j h kids h' kids', L.at? j = some (h, kids) → L'.at? j = some (h', kids') → sameH h kids h' kids' = true) → sameVo L L' = true := by
  induction L with
  | nil =>
    intro L' hn _
    cases L' with
    | nil => rfl
    | cons _ _ _ => simp [Vo.len] at hn
  | cons h kids rest _ ih =>
    intro L' hn H
    cases L' with
    | nil => simp [Vo.len] at hn
    | cons h' kids' rest' =>
      have h1 := H 0 h kids h' kids' rfl rfl
      have h2 := ih rest' (by simpa [Vo.len] using hn) (fun j a b c d e f => H (j + 1) a b c d e f)
      unfold sameH at h1
      simp only [sameVo, h2, Bool.and_true]
      exact h1
theorem sameVo_false (L : Vo) : ∀ (L' : Vo) j h kids h' kids', L.at? j = some (h, kids) → L'.at? j = some (h', kids') → sameH h kids h' kids' = false → sameVo L L' = false := by
  induction L with
  | nil => intro L' j h kids h' kids' e; simp [Vo.at?] at e
  | cons h0 kids0 rest _ ih =>
    intro L' j h kids h' kids' e e' hs
    cases L' with
    | nil => simp [Vo.at?] at e'
    | cons h0' kids0' rest' =>
      cases j with
      | zero =>
        simp only [Vo.at?, Option.some.injEq, Prod.mk.injEq] at e e'
        obtain ⟨rfl, rfl⟩ := e
        obtain ⟨rfl, rfl⟩ := e'
        unfold sameH at hs
        simp only [sameVo, hs, Bool.false_and]
      | succ j =>
        simp only [sameVo, ih rest' j h kids h' kids' e e' hs, Bool.and_false]

/-- One list behind the other. -/
def Vo.app : Vo → Vo → Vo
  | .nil, K => K
  | .cons h k r, K => .cons h k (r.app K)
theorem app_len (L K : Vo) : (L.app K).len = L.len + K.len := by
  induction L with
  | nil => simp [Vo.app, Vo.len]
  | cons h k r _ ih => simp only [Vo.app, Vo.len, ih]; omega
theorem app_N (L K : Vo) : VoN (L.app K) = VoN L + VoN K := by
  induction L with
  | nil => simp [Vo.app, VoN]
  | cons h k r _ ih => simp only [Vo.app, VoN, ih]; omega
theorem app_nil (L : Vo) : L.app .nil = L := by
  induction L with
  | nil => rfl
  | cons h k r _ ih => simp only [Vo.app, ih]
theorem vo_last (L : Vo) : ∀ n, L.len = n + 1 → ∃ (M : Vo) (h : Vh) (k : Vo), L = M.app (.cons h k .nil) ∧ M.len = n := by
  induction L with
  | nil => intro n h; simp [Vo.len] at h
  | cons h k r _ ih =>
    intro n hn
    cases r with
    | nil => exact ⟨.nil, h, k, rfl, by simp [Vo.len] at hn ⊢; omega⟩
    | cons h2 k2 r2 =>
      obtain ⟨M, h', k', e, hm⟩ := ih (n - 1) (by simp only [Vo.len] at hn ⊢; omega)
      exact ⟨.cons h k M, h', k', by rw [e]; rfl, by simp only [Vo.len] at hn ⊢; omega⟩
theorem sameVo_app (L : Vo) : ∀ (M K J : Vo), L.len = M.len → sameVo (L.app K) (M.app J) = (sameVo L M && sameVo K J) := by
  induction L with
  | nil =>
    intro M K J h
    cases M with
    | nil => simp [Vo.app, sameVo]
    | cons _ _ _ => simp [Vo.len] at h
  | cons h k r _ ih =>
    intro M K J hl
    cases M with
    | nil => simp [Vo.len] at hl
    | cons h' k' r' =>
      simp only [Vo.app, sameVo]
      rw [ih r' K J (by simpa [Vo.len] using hl)]
      simp only [Bool.and_assoc]
theorem sameVo_len (L : Vo) : ∀ M : Vo, L.len ≠ M.len → sameVo L M = false := by
  induction L with
  | nil =>
    intro M h
    cases M with
    | nil => simp [Vo.len] at h
    | cons _ _ _ => rfl
  | cons h k r _ ih =>
    intro M hl
    cases M with
    | nil => rfl
    | cons h' k' r' => simp only [sameVo]; rw [ih r' (by simpa [Vo.len] using hl)]; simp
end Go.Proofs.YtbfnlgmhfhaglaaGreatDoor
