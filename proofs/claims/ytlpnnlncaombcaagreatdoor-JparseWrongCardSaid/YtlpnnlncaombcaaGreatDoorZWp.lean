/- JparseWrong. -/
import Derived.Test.YtlpnnlncaombcaaGreatDoorZAl7
import Derived.Deep.QuietTactic
import Derived.BigQuiet
namespace Go.Proofs.YtlpnnlncaombcaaGreatDoor
open Go.RowKit
set_option linter.unusedVariables false
set_option linter.unusedSimpArgs false

def twL : List (List UInt8) := [[49], [32, 49, 32], [], [32, 32], [49, 32, 50], [91, 49, 44, 93], [91, 44, 49, 93], [91, 49, 32, 50, 93], [91, 49], [123, 125], [123, 34, 97, 34, 125], [123, 34, 97, 34, 58, 125], [123, 34, 97, 34, 58, 49, 44, 125], [123, 97, 58, 49, 125], [123, 49, 58, 49, 125], [123, 34, 97, 34, 58, 49, 32, 34, 98, 34, 58, 50, 125], [123, 34, 97, 34, 58, 49, 44, 34, 97, 34, 58, 49, 125], [93], [91, 93, 93], [116, 114, 117, 101, 32, 102, 97, 108, 115, 101], [91, 91, 93], [58], [123, 34, 97, 34, 32, 49, 125], [110, 117, 108]]
def twN : List Int := [-1, -1, 0, 2, 2, 3, 1, 3, 2, -1, 4, 5, 7, 1, 1, 7, -1, 0, 2, 5, 3, 0, 5, 0]
def twT (k : Nat) : List UInt8 := twL.getD k []
def twA (k : Nat) : Int := twN.getD k 0
def parseC (l : List UInt8) (depth : Int) : Except (Int × Int) (Vh × Vo) := if (M.splitC l).2.1 = 0 then parP l (dpN depth) (M.splitC l).1 else .error ((M.splitC l).2.1, (M.splitC l).2.2)
theorem parseC_eq (l : List UInt8) (d : Int) : parseC l d = parseV l d := by unfold parseC parseV; rw [M.splitC_eq]
def twB (k : Nat) : Bool := match parseC (twT k) 60 with
  | .ok (h, _) => decide (twA k < 0) && decide (0 < h.k)
  | .error (a, b) => decide (0 ≤ twA k) && decide (a = 3) && decide (b = twA k)
set_option maxRecDepth 100000 in
theorem tw_all : ∀ k, k < 24 → twB k = true := by decide +kernel
theorem tw_ok (k : Nat) (hk : k < 24) : (∃ h kids, parseV (twT k) 60 = .ok (h, kids) ∧ twA k < 0 ∧ 0 < h.k) ∨ (parseV (twT k) 60 = .error (3, twA k) ∧ 0 ≤ twA k) := by
  have h := tw_all k hk
  unfold twB at h
  rw [parseC_eq] at h
  cases hp : parseV (twT k) 60 with
  | ok q =>
    obtain ⟨a, b⟩ := q
    rw [hp] at h
    simp only [Bool.and_eq_true, decide_eq_true_eq] at h
    exact .inl ⟨a, b, rfl, h⟩
  | error q =>
    obtain ⟨a, b⟩ := q
    rw [hp] at h
    simp only [Bool.and_eq_true, decide_eq_true_eq] at h
    obtain ⟨⟨h1, h2⟩, h3⟩ := h
    subst h2 h3
    exact .inr ⟨rfl, h1⟩
def twBlkS : Obj := .cells #[.string ⟨#[49]⟩, .string ⟨#[32, 49, 32]⟩, .string ⟨#[]⟩, .string ⟨#[32, 32]⟩, .string ⟨#[49, 32, 50]⟩, .string ⟨#[91, 49, 44, 93]⟩, .string ⟨#[91, 44, 49, 93]⟩, .string ⟨#[91, 49, 32, 50, 93]⟩, .string ⟨#[91, 49]⟩, .string ⟨#[123, 125]⟩, .string ⟨#[123, 34, 97, 34, 125]⟩, .string ⟨#[123, 34, 97, 34, 58, 125]⟩, .string ⟨#[123, 34, 97, 34, 58, 49, 44, 125]⟩, .string ⟨#[123, 97, 58, 49, 125]⟩, .string ⟨#[123, 49, 58, 49, 125]⟩, .string ⟨#[123, 34, 97, 34, 58, 49, 32, 34, 98, 34, 58, 50, 125]⟩, .string ⟨#[123, 34, 97, 34, 58, 49, 44, 34, 97, 34, 58, 49, 125]⟩, .string ⟨#[93]⟩, .string ⟨#[91, 93, 93]⟩, .string ⟨#[116, 114, 117, 101, 32, 102, 97, 108, 115, 101]⟩, .string ⟨#[91, 91, 93]⟩, .string ⟨#[58]⟩, .string ⟨#[123, 34, 97, 34, 32, 49, 125]⟩, .string ⟨#[110, 117, 108]⟩] 9
def twBlkA : Obj := .cells #[.int .i64 (-1), .int .i64 (-1), .int .i64 0, .int .i64 2, .int .i64 2, .int .i64 3, .int .i64 1, .int .i64 3, .int .i64 2, .int .i64 (-1), .int .i64 4, .int .i64 5, .int .i64 7, .int .i64 1, .int .i64 1, .int .i64 7, .int .i64 (-1), .int .i64 0, .int .i64 2, .int .i64 5, .int .i64 3, .int .i64 0, .int .i64 5, .int .i64 0] 3
theorem cases24 (k : Nat) (hk : k < 24) : k = 0 ∨ k = 1 ∨ k = 2 ∨ k = 3 ∨ k = 4 ∨ k = 5 ∨ k = 6 ∨ k = 7 ∨ k = 8 ∨ k = 9 ∨ k = 10 ∨ k = 11 ∨ k = 12 ∨ k = 13 ∨ k = 14 ∨ k = 15 ∨ k = 16 ∨ k = 17 ∨ k = 18 ∨ k = 19 ∨ k = 20 ∨ k = 21 ∨ k = 22 ∨ k = 23 := by omega
theorem twcS (w : World) (k : Nat) (hk : k < 24) : ((w.alloc twBlkS).alloc twBlkA).cell? ⟨w.heap.size, k, none⟩ = some (.string (bytes (twT k))) := by
  unfold twBlkS twBlkA
  rw [World.cell?_alloc_past _ _ _ (by simp), World.cell?_alloc_at _ _ _ _ rfl]
  rcases cases24 k hk with rfl | rfl | rfl | rfl | rfl | rfl | rfl | rfl | rfl | rfl | rfl | rfl | rfl | rfl | rfl | rfl | rfl | rfl | rfl | rfl | rfl | rfl | rfl | rfl <;> rfl
theorem twcA (w : World) (k : Nat) (hk : k < 24) : ((w.alloc twBlkS).alloc twBlkA).cell? ⟨w.heap.size + 1, k, none⟩ = some (.int .i64 (twA k)) := by
  unfold twBlkS twBlkA
  rw [World.cell?_alloc_at _ _ _ _ (by simp)]
  rcases cases24 k hk with rfl | rfl | rfl | rfl | rfl | rfl | rfl | rfl | rfl | rfl | rfl | rfl | rfl | rfl | rfl | rfl | rfl | rfl | rfl | rfl | rfl | rfl | rfl | rfl <;> rfl
theorem tw_size (k : Nat) (hk : k < 24) : (twT k).length ≤ 100 := by
  have : ∀ k, k < 24 → (twT k).length ≤ 100 := by decide +kernel
  exact this k hk
theorem eqf_any (a b : Int) (W : World) : (binOp .eql 34 (.agg #[.int .i64 a, .int .i64 b]) (.agg #[.int .i64 a, .int .i64 b])).run Tryz.prog W = .ok (.bool true) W := by
  simp [go_sem]
end Go.Proofs.YtlpnnlncaombcaaGreatDoor
