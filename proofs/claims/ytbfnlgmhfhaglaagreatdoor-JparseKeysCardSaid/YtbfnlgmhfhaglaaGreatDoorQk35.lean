/- Texts of ours in one: Open. -/
import Derived.Test.YtbfnlgmhfhaglaaGreatDoorQk02
import Derived.ProofKit
import Derived.OpenShut
import Derived.ChangeSame
/- Slices of bytes and of ints that came in, as the frame reads them. -/
namespace Go.Proofs.YtbfnlgmhfhaglaaGreatDoor
open Go.RowKit Go.ChangeShapes Go.WideShapes Go.ChangeAt
set_option linter.unusedVariables false

theorem open_intsI {H : Type} {enc : TypeId × Value → H} {W : World} {a : Option Addr} {len cap : Nat} {d : DataW H} {p : List MemPlace}
    (h : DataW.Trod enc Tryz.prog W 0 (fun _ => true) true 22 (.slice a len cap) d p) : ∃ l : List Int, l.length = len ∧ Is W (.slice a len cap) l ∧ NN (.slice a len cap) := by
  obtain ⟨fuel, hf⟩ := h
  have : ∃ zs, RowI W a len cap zs := by
    rcases open_ints Tryz.underlying22 Tryz.underlying3 (by kernel_rfl) hf with ⟨hcs, _⟩ | ⟨x, l, c, zs, hcs, _, hl, hm, hz, _, hcell, hwz⟩
    · simp [Value.cells] at hcs
      obtain ⟨rfl, rfl, rfl⟩ := hcs
      exact ⟨[], .inl ⟨rfl, rfl, rfl, rfl⟩⟩
    · simp [Value.cells] at hcs
      obtain ⟨rfl, rfl, rfl⟩ := hcs
      exact ⟨zs, .inr ⟨_, rfl, hl, hm, by simpa using hz, hcell, hwz⟩⟩
  obtain ⟨zs, hz⟩ := this
  exact row_is hz
end Go.Proofs.YtbfnlgmhfhaglaaGreatDoor
