/- Documents of any shape: without new lines, whole. -/
import Derived.Test.YtehofomfblfhaaaTFlat
import Derived.Test.YtehofomfblfhaaaTDoc4
import Derived.Deep.DeepCutAuto
namespace Go.Proofs.Ytehofomfblfhaaa
open Go.RowKit
set_option linter.unusedVariables false
set_option linter.unusedSimpArgs false

/-- On the way through a list: what is behind, what is left. -/
def FlW (L R : Fo) (j : Nat) (acc : List UInt8) (okb : Bool) : Prop :=
  R.len + j = L.len ∧ (∀ i, R.at? i = L.at? (j + i)) ∧ acc.length + FoSz R ≤ FoSz L ∧ flatF L = if okb = true then (acc ++ (flatF R).1, (flatF R).2) else (acc, false)
theorem FlW.go {L rest kids : Fo} {k f : Int} {s : ByteArray} {j : Nat} {acc : List UInt8} (h : FlW L (.cons k f s kids rest) j acc true) :
    FlW L rest (j + 1) (acc ++ (flatD k s kids).1) (flatD k s kids).2 ∧ L.at? j = some (k, f, s, kids) ∧ acc.length + (s.size + 1 + FoSz kids) ≤ FoSz L := by
  obtain ⟨h1, h2, h3, h4⟩ := h
  have hl := flatD_len k s kids
  simp only [Fo.len, FoSz] at h1 h3
  refine ⟨⟨by omega, fun i => ?_, by rw [List.length_append]; omega, ?_⟩, ?_, by omega⟩
  · have := h2 (i + 1)
    rw [show j + (i + 1) = j + 1 + i by omega] at this
    exact this
  · rw [h4, flatF_cons, if_pos rfl]
    cases hb : (flatD k s kids).2 with
    | true => simp
    | false => simp
  · have := h2 0; exact this.symm
end Go.Proofs.Ytehofomfblfhaaa
