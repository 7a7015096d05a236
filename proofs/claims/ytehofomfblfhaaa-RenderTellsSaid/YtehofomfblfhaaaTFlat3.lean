/- doc.Right and doc.Flat of any document. -/
import Derived.Test.YtehofomfblfhaaaTFlat2
namespace Go.Proofs.Ytehofomfblfhaaa
open Go.RowKit
set_option linter.unusedVariables false
set_option linter.unusedSimpArgs false

set_option maxRecDepth 100000 in
set_option maxHeartbeats 2000000 in
theorem rightT_any (k f : Int) (s : ByteArray) (kids : Fo) (v : Value) (w : World) (hv : FoS w v kids) :
    Calls Try.prog 24 #[.agg (dv k f s v)] w fun e w' => e = .returned (.bool (rightD k f s kids 200)) ∧ Below w.heap.size w w' := by
  have hv' := hv
  obtain ⟨a, c, rfl⟩ := hv.slice
  have b0 := Lib.hid ((Below.refl w.heap.size w).alloc (Nat.le_refl _) (.cells #[.int .i64 k, .int .i64 f, .string s, .slice a kids.len c] 24))
  have R := Lib.hid (rc_any k f s kids 200 _ _ (by decide) (hv'.keep b0.out))
  obtain ⟨n, hn⟩ : ∃ n, kids.len = n := ⟨_, rfl⟩
  rw [hn] at R b0 ⊢
  generalize rightD k f s kids 200 = ans at R ⊢
  clear hv hv' hn
  unfold dv at R ⊢
  go_enter Try.func24, Try.ntmps24
  go_wp2_with fail
  refine (R.out).mono ?_
  rintro e w1 ⟨rfl, hb1⟩
  have hfin := b0.out.trans (hb1.mono b0.out.size)
  clear hb1
  go_wp2
  go_ret
  exact ⟨rfl, hfin⟩
/-- What doc.Flat gives. -/
def flatV (k f : Int) (s : ByteArray) (kids : Fo) : Value :=
  if rightD k f s kids 200 = true ∧ (flatD k s kids).2 = true then .tuple #[.string (bytes (flatD k s kids).1), .bool true] else .tuple #[.string ⟨#[]⟩, .bool false]
end Go.Proofs.Ytehofomfblfhaaa
