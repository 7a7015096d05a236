/- A value of JSON that came in by value, with the bound of the second form. -/
import Derived.Test.YtbfnlgmhfhaglaaGreatDoorAValU
import Derived.Lib.SmallJoins
namespace Go.Proofs.YtbfnlgmhfhaglaaGreatDoor
open Go.RowKit
set_option linter.unusedVariables false
set_option linter.unusedSimpArgs false

set_option maxRecDepth 100000 in
set_option maxHeartbeats 1000000 in
theorem open_val_u {H : Type} {enc : TypeId × Value → H} {W : World} {r : Reach} {b0 : Nat} {x : Value} {d : DataW H} {p : List MemPlace} {ds : List (DataW H)} (hs : Value.okWide Tryz.prog W r b0 27 x)
    (h : DataW.Trod enc Tryz.prog W 0 (fun _ => true) true 27 x d p) (hk : Rows.uptoSmall H ds = true) (hd : d ∈ ds) : ∃ hh tv v mv L, x = .agg (vv hh tv v mv) ∧ HdS W hh tv mv ∧ VoS W v L ∧ 1 + hh.tx.length + hh.ms.length + VoC L ≤ 1048576 := by
  obtain ⟨cs, rfl, hsz⟩ := Go.WideShapes.okWide_struct Tryz.underlying27 hs
  obtain ⟨fuel, hf⟩ := h
  have hf : DataW.trod enc Tryz.prog W 0 (fun _ => true) true fuel 27 cs.toList = some (d, p) := hf
  have h1 := upto_all hk
  have h2 := bulk_mem hd
  obtain ⟨hh, tv, v, mv, L, e, a, b, c⟩ := open_val_b fuel cs.toList _ hf
  refine ⟨hh, tv, v, mv, L, ?_, a, b, by simp only at c; omega⟩
  congr 1
  apply Array.ext'
  rw [e]
  rfl
end Go.Proofs.YtbfnlgmhfhaglaaGreatDoor
