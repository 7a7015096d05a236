/- Texts of ours in one: APie2. -/
import Derived.Test.YtbfnlgmhfhaglaaGreatDoorQk15
import Derived.Test.YtbfnlgmhfhaglaaGreatDoorQk02
import Derived.Deep.AppendLies
import Derived.Deep.RegionHeld3
/- Values of any shape: jmin.appendList, appendValue, Pieces. -/
namespace Go.Proofs.YtbfnlgmhfhaglaaGreatDoor
open Go.RowKit
set_option linter.unusedVariables false
set_option linter.unusedSimpArgs false

abbrev OwnJ (B : Nat) (w : World) (v : Value) (l : List Jp) : Prop := OwnV 54 2 B w v (l.map pcv)
structure JApp (B : Nat) (w : World) (lv : Value) (w' : World) (lv' : Value) (l' : List Jp) : Prop where
  own : OwnJ B w' lv' l'
  bl : Below B w w'
  fr : ∀ j, j < w.heap.size → some j ≠ lv.ownBlock → w'.heap[j]? = w.heap[j]?
  ob : lv'.ownBlock = lv.ownBlock ∨ ∃ j, w.heap.size ≤ j ∧ lv'.ownBlock = some j
def AL (h : Vh) (kids : Vo) : Prop :=
  ∀ (w0 : World) (d B : Nat) (w : World) (tv v mv lv : Value) (l : List Jp), Tabs w0 → HdS w0 h tv mv → VoS w0 v kids → h.k = 1 ∨ h.k = 2 → rightH h kids d = true → 1 + h.tx.length + h.ms.length + VoC kids ≤ 100000 → VoL 700 (.cons h kids .nil) →
    Below w0.heap.size w0 w → w0.heap.size ≤ B → B ≤ w.heap.size → OwnJ B w lv l → l.length + (pcsV h kids).length ≤ 1000000 →
    Calls Tryz.prog 56 #[lv, .agg (vv h tv v mv), .string (bytes (opB h.k)), .string (bytes (clB h.k))] w fun e w' => ∃ lv', e = .returned lv' ∧ JApp B w lv w' lv' (l ++ pcsV h kids)
theorem right_parts {h : Vh} {kids : Vo} {d : Nat} (hr : rightH h kids d = true) (hk : h.k = 1 ∨ h.k = 2) : h.ms.length = kids.len - 1 ∧ rightVo kids (d - 1) = true := by
  unfold rightH headB at hr
  rw [if_pos hk] at hr
  simp only [Bool.and_eq_true, decide_eq_true_eq] at hr
  obtain ⟨-, -, ⟨⟨hm, -⟩, hv⟩⟩ := hr
  unfold marksB at hm
  simp only [Bool.and_eq_true, decide_eq_true_eq] at hm
  exact ⟨hm.1.2, hv⟩
end Go.Proofs.YtbfnlgmhfhaglaaGreatDoor
