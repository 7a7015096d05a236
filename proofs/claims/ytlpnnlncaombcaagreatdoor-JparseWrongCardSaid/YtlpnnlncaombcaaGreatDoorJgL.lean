/- Several texts of ours in one: JStr JSpell JLaw. -/
import Derived.Test.YtlpnnlncaombcaaGreatDoorJgB
import Derived.Test.YtlpnnlncaombcaaGreatDoorJgA
import Derived.StillTailTactics
import Derived.Deep.QuietTactic
import Derived.BigQuiet
import Derived.Lib.SlBytesConst
import Derived.Laws.BitsLemmas
import Derived.WalkSmall
/- Texts of JSON, written: what jstring.Right and jstring.Spell return, for any ints. -/
namespace Go.Proofs.YtlpnnlncaombcaaGreatDoor
open Go.RowKit
set_option linter.unusedVariables false

def iN (l : List Nat) : List Int := l.map fun (n : Nat) => (n : Int)
theorem iN_drop (l : List Nat) (n : Nat) : (iN l).drop n = iN (l.drop n) := by simp [iN]
theorem iN_len (l : List Nat) : (iN l).length = l.length := by simp [iN]
theorem iN_append (k l : List Nat) : iN (k ++ l) = iN k ++ iN l := by simp [iN]
theorem iN_of (l : List Int) (h : M.rightU l = true) : ∃ k : List Nat, l = iN k ∧ ∀ u ∈ k, u ≤ 65535 := by
  rw [M.rightU_iff] at h
  refine ⟨l.map Int.toNat, ?_, ?_⟩
  · unfold iN
    rw [List.map_map]
    conv => lhs; rw [← List.map_id l]
    apply List.map_congr_left
    intro x hx
    have := h x hx
    simp only [id, Function.comp]
    omega
  · intro u hu
    simp only [List.mem_map] at hu
    obtain ⟨x, hx, rfl⟩ := hu
    have := h x hx
    omega
theorem rightU_iN (k : List Nat) (h : ∀ u ∈ k, u ≤ 65535) : M.rightU (iN k) = true := by
  rw [M.rightU_iff]
  intro u hu
  simp only [iN, List.mem_map] at hu
  obtain ⟨x, hx, rfl⟩ := hu
  have := h x hx
  omega
theorem rightU_take (l : List Int) (k : Nat) (hk : k < l.length) (h : M.rightU (l.take k) = true) (h2 : 0 ≤ l[k] ∧ l[k] ≤ 65535) :
    M.rightU (l.take (k + 1)) = true := by
  rw [M.rightU_iff] at *
  rw [List.take_succ_eq_append_getElem hk]
  intro u hu
  rcases List.mem_append.1 hu with hu | hu
  · exact h u hu
  · simp at hu; subst hu; exact h2
theorem rightU_bad (l : List Int) (k : Nat) (hk : k < l.length) (h : l[k] < 0 ∨ 65535 < l[k]) : M.rightU l = false := by
  cases hr : M.rightU l with
  | false => rfl
  | true =>
    rw [M.rightU_iff] at hr
    have := hr _ (List.getElem_mem hk)
    omega

theorem tup2 {a b c d : Int} (h : a = c) (k : b = d) : Ending.returned (.tuple #[.int .i64 a, .int .i64 b]) = Ending.returned (.tuple #[.int .i64 c, .int .i64 d]) := by rw [h, k]
theorem jwraps_i64 (n : Int) (h₀ : 0 ≤ n) (h₁ : n < 2 ^ 62) : IntKind.i64.wrap n = n := by rw [IntKind.wrap_i64]; omega
theorem jand15 (n : Int) (h0 : 0 ≤ n) (h1 : n ≤ 1114111) : bits .and .i64 n 15 = n % 16 := bits_mask .i64 62 (by decide) jwraps_i64 4 (by decide) n h0 (by omega)

theorem hexAt : ∀ d : Fin 16, (ByteArray.mk #[48, 49, 50, 51, 52, 53, 54, 55, 56, 57, 97, 98, 99, 100, 101, 102])[d.val]'(by have := d.isLt; simp [ByteArray.size]) = M.hexd d.val := by decide +kernel
theorem hexAt' (d : Nat) (h : d < 16) (x : Nat) (hx : x = d) (h' : x < (ByteArray.mk #[48, 49, 50, 51, 52, 53, 54, 55, 56, 57, 97, 98, 99, 100, 101, 102]).size) :
    Value.int .u8 (((ByteArray.mk #[48, 49, 50, 51, 52, 53, 54, 55, 56, 57, 97, 98, 99, 100, 101, 102])[x]'h').toNat : Int) = .int .u8 ((M.hexd d).toNat : Int) := by
  subst hx; rw [hexAt ⟨x, h⟩]
/-- The facts of the tests of spelling: which of the seven, if any. -/
def eqs (x : Int) (l : List Int) : Prop := ∀ y ∈ l, (x == y) = false
end Go.Proofs.YtlpnnlncaombcaaGreatDoor

/- Texts of JSON, written: what jstring.Spell returns of units. -/
namespace Go.Proofs.YtlpnnlncaombcaaGreatDoor
open Go.RowKit
set_option linter.unusedVariables false

/-- What is written of any ints. -/
def spellI (l : List Int) : ByteArray := if M.rightU l then bytes (M.spell (l.map Int.toNat)) else ⟨#[]⟩
theorem spellI_iN (l : List Nat) (h : ∀ u ∈ l, u ≤ 65535) : spellI (iN l) = bytes (M.spell l) := by
  unfold spellI
  rw [rightU_iN l h, if_pos rfl]
  congr 2
  unfold iN
  rw [List.map_map]
  conv => rhs; rw [← List.map_id l]
  apply List.map_congr_left
  intro x _
  simp
end Go.Proofs.YtlpnnlncaombcaaGreatDoor

/- What the laws of texts of JSON share: the example of the document; units one behind the other. -/
namespace Go.Proofs.YtlpnnlncaombcaaGreatDoor
open Go.RowKit
set_option linter.unusedVariables false

theorem is_cells_new (w : World) (l : List Int) (cs : List Value) (n : Nat) (h : icells l = cs) (hn : cs.length = n) (hl : l.length ≤ 1048576) :
    Is (w.alloc (.cells cs.toArray 3)) (.slice (some ⟨w.heap.size, 0, none⟩) n n) l := by
  have := is_new w l hl
  have e : l.length = n := by rw [← hn, ← h]; simp [icells]
  rw [h] at this
  simpa [e] using this

theorem is_two (w : World) (x y : Int) : Is (w.alloc (.cells #[.int .i64 x, .int .i64 y] 3)) (.slice (some ⟨w.heap.size, 0, none⟩) 2 2) [x, y] := is_cells_new w [x, y] [.int .i64 x, .int .i64 y] 2 rfl rfl (by simp)
theorem is_one (w : World) (x : Int) : Is (w.alloc (.cells #[.int .i64 x] 3)) (.slice (some ⟨w.heap.size, 0, none⟩) 1 1) [x] := is_cells_new w [x] [.int .i64 x] 1 rfl rfl (by simp)
end Go.Proofs.YtlpnnlncaombcaaGreatDoor
