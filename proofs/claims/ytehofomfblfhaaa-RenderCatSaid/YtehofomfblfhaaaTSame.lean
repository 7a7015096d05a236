/- Documents of any shape: chapter 10's own same, of a document and itself; the page's Wide. -/
import Derived.Test.YtehofomfblfhaaaMgWC
import Derived.Test.YtehofomfblfhaaaTRef2
import Derived.Deep.DeepCutAuto
import Derived.Deep.QuietTactic
import Derived.BigQuiet
import Derived.OrdersHeld
import Derived.Deep.RegionHeld3
namespace Go.Proofs.Ytehofomfblfhaaa
open Go.RowKit
set_option linter.unusedVariables false
set_option linter.unusedSimpArgs false

theorem ten_keep {w w' : World} {B b1 b2 b3 b4 : Nat} {o3 o4 : Nat} {u1 u2 c0 c1 c2 c3 e0 e1 e2 e3 : Value} (hb : Below B w w') (h1 : b1 < B) (h2 : b2 < B) (h3 : b3 < B) (h4 : b4 < B)
    (h : w.cell? ⟨b1, 3, none⟩ = some u1 ∧ w.cell? ⟨b2, 3, none⟩ = some u2 ∧ w.cell? ⟨b3, o3, none⟩ = some c0 ∧ w.cell? ⟨b3, o3 + 1, none⟩ = some c1 ∧ w.cell? ⟨b3, o3 + 2, none⟩ = some c2 ∧ w.cell? ⟨b3, o3 + 3, none⟩ = some c3 ∧ w.cell? ⟨b4, o4, none⟩ = some e0 ∧ w.cell? ⟨b4, o4 + 1, none⟩ = some e1 ∧ w.cell? ⟨b4, o4 + 2, none⟩ = some e2 ∧ w.cell? ⟨b4, o4 + 3, none⟩ = some e3) :
    w'.cell? ⟨b1, 3, none⟩ = some u1 ∧ w'.cell? ⟨b2, 3, none⟩ = some u2 ∧ w'.cell? ⟨b3, o3, none⟩ = some c0 ∧ w'.cell? ⟨b3, o3 + 1, none⟩ = some c1 ∧ w'.cell? ⟨b3, o3 + 2, none⟩ = some c2 ∧ w'.cell? ⟨b3, o3 + 3, none⟩ = some c3 ∧ w'.cell? ⟨b4, o4, none⟩ = some e0 ∧ w'.cell? ⟨b4, o4 + 1, none⟩ = some e1 ∧ w'.cell? ⟨b4, o4 + 2, none⟩ = some e2 ∧ w'.cell? ⟨b4, o4 + 3, none⟩ = some e3 := by
  obtain ⟨a1, a2, a3, a4, a5, a6, a7, a8, a9, a10⟩ := h
  exact ⟨(hb.cell (p := ⟨b1, 3, none⟩) h1).trans a1, (hb.cell (p := ⟨b2, 3, none⟩) h2).trans a2, (hb.cell (p := ⟨b3, o3, none⟩) h3).trans a3, (hb.cell (p := ⟨b3, o3 + 1, none⟩) h3).trans a4, (hb.cell (p := ⟨b3, o3 + 2, none⟩) h3).trans a5, (hb.cell (p := ⟨b3, o3 + 3, none⟩) h3).trans a6, (hb.cell (p := ⟨b4, o4, none⟩) h4).trans a7, (hb.cell (p := ⟨b4, o4 + 1, none⟩) h4).trans a8, (hb.cell (p := ⟨b4, o4 + 2, none⟩) h4).trans a9, (hb.cell (p := ⟨b4, o4 + 3, none⟩) h4).trans a10⟩
end Go.Proofs.Ytehofomfblfhaaa
