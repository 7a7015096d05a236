/- WriteString once more, with word of the blocks that stay as they were. -/
import Derived.Test.YtpfbhdkljcjhlaaDoorPBuild
namespace Go.Proofs.YtpfbhdkljcjhlaaDoor
open Go.RowKit
set_option linter.unusedVariables false
set_option linter.unusedSimpArgs false

/-- No block of another type than the bytes' changes, but the builder's own. -/
def Apt (b : Nat) (w w' : World) : Prop := ∀ (j : Nat) (cs : Array Value) (T : TypeId) (fr : Nat × Nat), j < w.heap.size → j ≠ b → w.heap[j]? = some (.cells cs T fr) → T ≠ 5 → w'.heap[j]? = w.heap[j]?
theorem bcheckF_any (B b : Nat) (l : List UInt8) (w : World) (h : Bd B b l w) :
    Calls Tryd.prog 29 #[.pointer (some ⟨b, 0, none⟩)] w fun e w' => e = .returned (.tuple #[]) ∧ Lib.BuilderAt 49 5 B b (.pointer (some ⟨b, 0, none⟩)) (bcells l) w' ∧ Below B w w' ∧ Apt b w w' := by
  rcases h with h | h
  · refine (bcheck_fresh b w h.cell0 h.shape h.frozen0).mono ?_
    rintro e w' ⟨rfl, rfl⟩
    exact ⟨rfl, h.used _, (Below.refl B w).setCell (p := ⟨b, 0, none⟩) h.1 _, fun j cs T fr _ hjb _ _ => Below.heap_setCell _ _ _ _ (fun e => hjb e)⟩
  · refine (bcheck_used b w h.cell0).mono ?_
    rintro e w' ⟨rfl, rfl⟩
    exact ⟨rfl, h, Below.refl B _, fun j cs T fr _ _ _ _ => rfl⟩
set_option maxRecDepth 100000 in
set_option maxHeartbeats 2000000 in
theorem bwriteF_any (B b : Nat) (l k t : List UInt8) (S : ByteArray) (hS : bytes k = S) (w : World) (h : Bd B b l w) (hl : l.length + k.length ≤ 4294967296) (hB : B ≤ w.heap.size) (ht : l ++ k = t) :
    Calls Tryd.prog 20 #[.pointer (some ⟨b, 0, none⟩), .string S] w fun e w' => e = .returned (.tuple #[.int .i64 (S.size : Int), .nilIface]) ∧ Bd B b t w' ∧ Below B w w' ∧ Apt b w w' := by
  have CK := Lib.hid (bcheckF_any B b l w h)
  have HS := Lib.hid hS
  have HT := Lib.hid ht
  clear hS h ht
  go_enter Tryd.func20, Tryd.ntmps20
  go_wp2_with fail
  refine CK.out.mono ?_
  rintro e w1 ⟨rfl, ⟨hBb, vv, hbk, hown, hne⟩, hb1, hap1⟩
  have HAP1 := Lib.hid hap1
  have HRAW := Lib.hid hown
  have hlt : b < w1.heap.size := Array.getElem?_eq_some_iff.1 hbk |>.1
  have c0 : w1.cell? ⟨b, 0, none⟩ = some (.pointer (some ⟨b, 0, none⟩)) := by rw [Lib.cell_of_heap hbk]; rfl
  have c1 : w1.cell? ⟨b, 1, none⟩ = some vv := by rw [Lib.cell_of_heap hbk]; rfl
  have hbz := hb1.size
  have hown2 : OwnB B w1 vv l := by unfold OwnB; rw [bcells_len] at hown; exact hown
  have HK := Lib.hid hbk
  have HNE := Lib.hid hne
  have Hb1 := Lib.hid hb1
  have HO := Lib.hid hown2
  have hB1 : B ≤ w1.heap.size := by omega
  clear hbk hne hb1 hown hown2 hap1
  go_wp2_with (at_builtin; refine wpl_append_strG rfl _ _ rfl B _ l k t S HS.out rfl HO.out rfl hl hB1 HT.out ?_)
  intro v' w2 hown' hbw hgrow
  have hb2 : w2.heap[b]? = some (.cells #[.pointer (some ⟨b, 0, none⟩), vv] 49 (0, 0)) := by
    rw [hgrow b hlt (fun e => HNE.out e.symm)]
    exact HK.out
  have d0 : w2.cell? ⟨b, 0, none⟩ = some (.pointer (some ⟨b, 0, none⟩)) := by rw [Lib.cell_of_heap hb2]; rfl
  have d1 : w2.cell? ⟨b, 1, none⟩ = some vv := by rw [Lib.cell_of_heap hb2]; rfl
  have f1 : w2.frozen? ⟨b, 1, none⟩ = false := Lib.frozen_of_heap hb2 1
  obtain ⟨ao, n', cap, rfl⟩ : ∃ ao n' cap, v' = .slice ao n' cap := by
    rcases hown'.2 with ⟨hv, _⟩ | ⟨g, cap, cur, hv, _⟩
    · exact ⟨_, _, _, hv⟩
    · exact ⟨_, _, _, hv⟩
  have HB2 := Lib.hid hb2
  have HO2 := Lib.hid hown'
  have HBW := Lib.hid hbw
  have HGR := Lib.hid hgrow
  clear hb2 hown' hgrow c0 c1 hbw
  go_wp2
  go_ret2
  refine ⟨rfl, .inr ?_, ?_, ?_⟩
  · refine Lib.BuilderAt.put hBb HB2.out ?_ (by decide)
    have h := HO2.out
    unfold OwnB at h
    rw [bcells_len]
    exact h
  · exact (Hb1.out.trans HBW.out).setCell (p := ⟨b, 1, none⟩) hBb _
  · intro j cs T fr hj hjb hcs hT
    have h1 := HAP1.out j cs T fr hj hjb hcs hT
    have h2 : w1.heap[j]? = some (.cells cs T fr) := h1.trans hcs
    have h3 : vv.ownBlock ≠ some j := Lib.ownBlock_ne HRAW.out h2 hT
    have hj1 : j < w1.heap.size := (Array.getElem?_eq_some_iff.1 h2).1
    rw [Below.heap_setCell _ _ _ _ (fun e => hjb e), HGR.out j hj1 (fun e => h3 e.symm), h1]
end Go.Proofs.YtpfbhdkljcjhlaaDoor
