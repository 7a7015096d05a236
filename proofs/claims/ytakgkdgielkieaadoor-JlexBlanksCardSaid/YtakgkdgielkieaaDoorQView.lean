/- Tokens that lie somewhere. -/
import Derived.Test.YtakgkdgielkieaaDoorQAlive
import Derived.Test.YtakgkdgielkieaaDoorQMath6
import Derived.Deep.QuietTactic
namespace Go.Proofs.YtakgkdgielkieaaDoor
open Go.RowKit
set_option linter.unusedVariables false
set_option linter.unusedSimpArgs false

/-- A slice of tokens whose cells stand below a block. -/
def TsAt (B : Nat) (w : World) (v : Value) (l : M.Toks) : Prop := ∃ a cap, v = .slice a l.length cap ∧ (0 < l.length → ∃ b off, a = some ⟨b, off, none⟩ ∧ b < B ∧ ∀ j (hj : j < l.length),
    w.cell? ⟨b, off + j * 3, none⟩ = some (.int .i64 (l[j].1 : Int)) ∧ w.cell? ⟨b, off + j * 3 + 1, none⟩ = some (.int .i64 (l[j].2.1 : Int)) ∧ w.cell? ⟨b, off + j * 3 + 2, none⟩ = some (.int .i64 (l[j].2.2 : Int)))
theorem tsAt_of {w : World} {v : Value} {l : M.Toks} (h : Ts w v l) : TsAt w.heap.size w v l := ts_view h
theorem tsAt_keep {B C : Nat} {w w' : World} {v : Value} {l : M.Toks} (h : TsAt B w v l) (hb : Below C w w') (hC : B ≤ C) : TsAt B w' v l := by
  obtain ⟨a, cap, rfl, h3⟩ := h
  refine ⟨a, cap, rfl, fun h0 => ?_⟩
  obtain ⟨b, off, rfl, hlt, hc⟩ := h3 h0
  refine ⟨b, off, rfl, hlt, fun j hj => ?_⟩
  obtain ⟨x0, x1, x2⟩ := hc j hj
  exact ⟨(hb.cell (p := ⟨b, off + j * 3, none⟩) (Nat.lt_of_lt_of_le hlt hC)).trans x0, (hb.cell (p := ⟨b, off + j * 3 + 1, none⟩) (Nat.lt_of_lt_of_le hlt hC)).trans x1, (hb.cell (p := ⟨b, off + j * 3 + 2, none⟩) (Nat.lt_of_lt_of_le hlt hC)).trans x2⟩
theorem one_blank (w : World) : Bs (w.alloc (.cells #[.int .u8 32] 5)) (.slice (some ⟨w.heap.size, 0, none⟩) 1 1) [32] := bs_new w [32] (by decide)
end Go.Proofs.YtakgkdgielkieaaDoor
