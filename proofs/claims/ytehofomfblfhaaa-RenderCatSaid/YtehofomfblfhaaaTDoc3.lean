/- Documents: a row of what has no kids, flat. -/
import Derived.Test.YtehofomfblfhaaaTDoc2
import Derived.Deep.Onto
import Derived.Deep.DeepCutAuto
namespace Go.Proofs.Ytehofomfblfhaaa
open Go.RowKit
set_option linter.unusedVariables false
set_option linter.unusedSimpArgs false

/-- The text of what has no kids. -/
def flatL (x : Lf) : List UInt8 := if x.1 = 1 then x.2.2 else [32]
theorem one_sp (w : World) : Bs (w.alloc (.cells #[.int .u8 32] 5)) (.slice (some ⟨w.heap.size, 0, none⟩) 1 1) [32] := bs_cells_new w [32] [.int .u8 32] 1 rfl rfl (by simp)
/-- What appending gives. -/
def AfP (B : Nat) (w : World) (t : List UInt8) (e : Ending) (w' : World) : Prop := ∃ v', e = .returned (.tuple #[v', .bool true]) ∧ OwnB B w' v' t ∧ Below B w w'
set_option maxRecDepth 100000 in
set_option maxHeartbeats 1000000 in
theorem righttop_any (v : Value) (l : List Lf) (w : World) (hv : Ds w v l) (hl : l.length ≤ 1000) (hok : ∀ x ∈ l, LfOk x) :
    Calls Try.prog 24 #[.agg (dv 6 0 ⟨#[]⟩ v)] w fun e w' => e = .returned (.bool true) ∧ Below w.heap.size w w' := by
  have b0 := Lib.hid ((Below.refl w.heap.size w).alloc (Nat.le_refl _) (.cells #[.int .i64 6, .int .i64 0, .string ⟨#[]⟩, v] 24))
  have R := Lib.hid (rightn_any v l 200 (by decide) (by decide) _ (Vs.keep hv b0.out) (by omega) hok)
  clear hv hok
  unfold dv at R ⊢
  go_enter Try.func24, Try.ntmps24
  go_wp2_with fail
  refine (R.out).mono ?_
  rintro e w1 ⟨rfl, hb1⟩
  have hfin := b0.out.trans (hb1.mono b0.out.size)
  clear hb1
  go_wp2
  go_ret
  exact ⟨rfl, hfin⟩
set_option maxRecDepth 100000 in
set_option maxHeartbeats 1000000 in
theorem righttop_leaf (k f : Int) (S : ByteArray) (w : World) (h : LeafP k f S) :
    Calls Try.prog 24 #[.agg (dv k f S (.slice none 0 0))] w fun e w' => e = .returned (.bool true) ∧ Below w.heap.size w w' := by
  have b0 := Lib.hid ((Below.refl w.heap.size w).alloc (Nat.le_refl _) (.cells #[.int .i64 k, .int .i64 f, .string S, .slice none 0 0] 24))
  have R := Lib.hid (rightl_any k f S 200 (w.alloc (.cells #[.int .i64 k, .int .i64 f, .string S, .slice none 0 0] 24)) h)
  clear h
  unfold dv at R ⊢
  go_enter Try.func24, Try.ntmps24
  go_wp2_with fail
  refine (R.out).mono ?_
  rintro e w1 ⟨rfl, hb1⟩
  have hfin := b0.out.trans (hb1.mono b0.out.size)
  clear hb1
  go_wp2
  go_ret
  exact ⟨rfl, hfin⟩
end Go.Proofs.Ytehofomfblfhaaa
