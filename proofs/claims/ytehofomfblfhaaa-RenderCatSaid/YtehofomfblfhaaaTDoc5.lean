/- Documents: doc.Cat of what has no kids, whole. -/
import Derived.Test.YtehofomfblfhaaaTDoc4
import Derived.Deep.DeepCutAuto
namespace Go.Proofs.Ytehofomfblfhaaa
open Go.RowKit
set_option linter.unusedVariables false
set_option linter.unusedSimpArgs false

/-- On the way: the kids' row, the document, the result's block. -/
def CatS (w : World) (B0 b5 : Nat) (k : Int) (v1 : Value) (l : List Lf) (wr : World) : Prop :=
  OwnD B0 wr v1 l ∧ DB wr b5 (dv k 0 ⟨#[]⟩ v1) ∧ DB wr w.heap.size (dv 0 0 ⟨#[]⟩ (.slice none 0 0)) ∧ Below w.heap.size w wr
theorem CatS.go {w : World} {B0 b5 B : Nat} {k : Int} {v1 : Value} {l : List Lf} {wr w' : World} (h : CatS w B0 b5 k v1 l wr) (hb : Below B wr w') (hB : B ≤ wr.heap.size) (h5 : b5 < B) (hw : w.heap.size < B) (hv : ∀ g, v1.ownBlock = some g → g < B) : CatS w B0 b5 k v1 l w' := by
  obtain ⟨⟨h1, h1b, h1c⟩, h2, h3, h4⟩ := h
  refine ⟨⟨?_, h1b, h1c⟩, h2.keep hb h5, h3.keep hb hw, h4.trans (hb.mono (by omega))⟩
  obtain ⟨hx, h0 | ⟨g, cap, cur, he, hg, hh, r⟩⟩ := h1
  · exact ⟨hx, .inl h0⟩
  · exact ⟨hx, .inr ⟨g, cap, cur, he, hg, by rw [hb.block g (hv g (by rw [he]; rfl))]; exact hh, r⟩⟩
theorem dv_one (k f : Int) (S : ByteArray) (v : Value) (h : v.oneCell' = true) : (dv k f S v).all (·.oneCell') = true := by
  rw [Array.all_eq_true_iff_forall_mem]
  intro x hx
  simp only [dv, List.mem_toArray, List.mem_cons, List.mem_nil_iff, or_false] at hx
  rcases hx with rfl | rfl | rfl | rfl
  · rfl
  · rfl
  · rfl
  · exact h
theorem ownD_setRow {B : Nat} {w : World} {v : Value} {l : List Lf} (h : OwnD B w v l) (b : Nat) (cs : Array Value) (hv : ∀ g, v.ownBlock = some g → g ≠ b) : OwnD B (w.setRow b cs) v l := by
  obtain ⟨⟨hx, h1⟩, h1b, h1c⟩ := h
  refine ⟨⟨hx, ?_⟩, h1b, h1c⟩
  rcases h1 with h0 | ⟨g, cap, cur, he, hg, hh, r⟩
  · exact .inl h0
  · exact .inr ⟨g, cap, cur, he, hg, by rw [setRow_other w b g cs (hv g (by rw [he]; rfl))]; exact hh, r⟩
end Go.Proofs.Ytehofomfblfhaaa
