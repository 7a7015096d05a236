/- Documents: one in cells; doc.Text; may be, for what has no kids. -/
import Derived.Test.YtehofomfblfhaaaMgB
import Derived.Laws.Tables
import Derived.Laws.Rows
import Derived.Laws.ResultCell
import Derived.Outline
namespace Go.Proofs.Ytehofomfblfhaaa
open Go.RowKit
set_option linter.unusedVariables false
set_option linter.unusedSimpArgs false

/-- A document's cells. -/
def dv (k f : Int) (S : ByteArray) (v : Value) : Array Value := #[.int .i64 k, .int .i64 f, .string S, v]
theorem infoD : (Try.prog.info? 24).map (fun i => (i.zero, i.size, i.bytes)) = some (some (.agg #[.int .i64 0, .int .i64 0, .string ⟨#[]⟩, .slice none 0 0]), 4, 56) := by kernel_rfl
theorem keep4 {w w1 : World} {c0 c1 c2 c3 : Value} {T : TypeId} (h : Below (w.alloc (.cells #[c0, c1, c2, c3] T)).heap.size (w.alloc (.cells #[c0, c1, c2, c3] T)) w1) :
    w1.cell? ⟨w.heap.size, 0, none⟩ = some c0 ∧ w1.cell? ⟨w.heap.size, 1, none⟩ = some c1 ∧ w1.cell? ⟨w.heap.size, 2, none⟩ = some c2 ∧ w1.cell? ⟨w.heap.size, 3, none⟩ = some c3 ∧ Below w.heap.size w w1 := by
  have hc : ∀ j, w1.cell? ⟨w.heap.size, j, none⟩ = (w.alloc (.cells #[c0, c1, c2, c3] T)).cell? ⟨w.heap.size, j, none⟩ := fun j => h.cell (p := ⟨w.heap.size, j, none⟩) (by simp)
  refine ⟨?_, ?_, ?_, ?_, ((Below.refl _ _).alloc (Nat.le_refl _) _).trans (h.mono (by simp))⟩
  all_goals (rw [hc, World.cell?_alloc_at _ _ _ _ rfl]; rfl)
theorem infoD4 : (Try.prog.info? 24).map (·.size) = some 4 := by kernel_rfl
/-- A document is returned. -/
theorem res_doc {fn : Func} {p : Tmp} (h : fn.results = #[.cell p 24]) (tmps : Array Value) (w : World) (g : Nat) (cs : Array Value)
    (hp : tmps.getD p undef = .pointer (some ⟨g, 0, none⟩)) (hg : w.heap[g]? = some (.cells cs 24 (0, 0))) (hs : cs.size = 4) :
    (results fn tmps).run Try.prog w = .ok (.agg cs) w := by
  have e : (results fn tmps).run Try.prog w = ((asAddr (tmps.getD p undef)).run Try.prog w).andThen fun a w₁ => (loadVar 24 a).run Try.prog w₁ := by
    simp only [results, h]
    simp [Sem.run_bind, Result.andThen]
  rw [e, hp]
  have : (asAddr (.pointer (some ⟨g, 0, none⟩))).run Try.prog w = .ok ⟨g, 0, none⟩ w := rfl
  rw [this]
  simp only [Result.andThen]
  exact run_loadVar_row w g 24 24 cs (0, 0) _ hg Try.underlying24 rfl (by rw [hs]; exact infoD4)
set_option maxRecDepth 100000 in
set_option maxHeartbeats 1000000 in
theorem hasnt_any (k : Int) (v : Value) (w : World) :
    Calls Try.prog 45 #[.agg (dv k 0 ⟨#[]⟩ v)] w fun e w' => e = .returned (.bool true) ∧ Below w.heap.size w w' := by
  have b0 : Hid (∀ o, Below w.heap.size w (w.alloc o)) := Lib.hid fun o => (Below.refl _ _).alloc (Nat.le_refl _) o
  unfold dv
  go_enter Try.func45, Try.ntmps45
  go_wp2
  go_ret
  exact ⟨rfl, b0.out _⟩
/-- What has no kids, and may be. -/
def LeafP (k f : Int) (S : ByteArray) : Prop := k = 1 ∨ (k = 2 ∧ f = 0 ∧ S = ⟨#[]⟩)
set_option maxRecDepth 100000 in
set_option maxHeartbeats 1000000 in
theorem rightl_any (k f : Int) (S : ByteArray) (d : Int) (w : World) (h : LeafP k f S) :
    Calls Try.prog 36 #[.agg (dv k f S (.slice none 0 0)), .int .i64 d] w fun e w' => e = .returned (.bool true) ∧ Below w.heap.size w w' := by
  rcases h with rfl | ⟨rfl, rfl, rfl⟩
  · have b0 : Hid (∀ o, Below w.heap.size w (w.alloc o)) := Lib.hid fun o => (Below.refl _ _).alloc (Nat.le_refl _) o
    unfold dv
    go_enter Try.func36, Try.ntmps36
    go_wp2
    go_ret
    exact ⟨rfl, b0.out _⟩
  · have H := Lib.hid (fun W => hasnt_any 2 (.slice none 0 0) W)
    unfold dv at H ⊢
    go_enter Try.func36, Try.ntmps36
    go_wp2_with fail
    refine (H.out _).mono ?_
    rintro e w1 ⟨rfl, hb1⟩
    obtain ⟨g0, g1, g2, g3, hb⟩ := keep4 hb1
    clear hb1
    go_wp2
    go_ret
    exact ⟨rfl, hb⟩
end Go.Proofs.Ytehofomfblfhaaa
