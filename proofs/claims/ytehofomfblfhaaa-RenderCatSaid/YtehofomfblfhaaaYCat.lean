/- Layouts: RenderCat's own cat. -/
import Derived.Test.YtehofomfblfhaaaYLaw
import Derived.Test.YtehofomfblfhaaaYPcs
import Derived.Test.YtehofomfblfhaaaTJoins
namespace Go.Proofs.Ytehofomfblfhaaa
open Go.RowKit
set_option linter.unusedVariables false
set_option linter.unusedSimpArgs false

set_option maxRecDepth 100000 in
set_option maxHeartbeats 4000000 in
theorem lcat_any (k0 f0 : Int) (s0 : ByteArray) (v0 : Value) (L0 : Fo) (k1 f1 : Int) (s1 : ByteArray) (v1 : Value) (L1 : Fo) (w : World) (hv0 : FoS w v0 L0) (hv1 : FoS w v1 L1) (z0 : s0.size ≤ 100) (z1 : s1.size ≤ 100) :
    Calls Try.prog 19 #[.agg (dv k0 f0 s0 v0), .agg (dv k1 f1 s1 v1)] w fun e w' => ∃ u, e = .returned (.agg (dv 5 0 ⟨#[]⟩ u)) ∧ FoS w' u (Fo.two k0 f0 s0 L0 k1 f1 s1 L1) ∧ Below w.heap.size w w' := by
  obtain ⟨x0, y0, rfl⟩ := hv0.slice
  obtain ⟨x1, y1, rfl⟩ := hv1.slice
  have bA := (Below.refl w.heap.size w).alloc (Nat.le_refl _) (.cells #[.int .i64 k0, .int .i64 f0, .string s0, .slice x0 L0.len y0] 24)
  have bB := bA.alloc bA.size (.cells #[.int .i64 k1, .int .i64 f1, .string s1, .slice x1 L1.len y1] 24)
  have bR := bB.alloc bB.size (.cells #[.int .i64 5, .int .i64 0, .string ⟨#[]⟩, .slice (some ⟨w.heap.size + 1 + 1 + 1, 0, none⟩) 2 2] 24)
  have P := pair_fos (k0 := k0) (f0 := f0) (k1 := k1) (f1 := f1) (hv0.keep bR) (hv1.keep bR) z0 z1
  have B := Lib.hid (bR.alloc bR.size (.cells #[.int .i64 k0, .int .i64 f0, .string s0, .slice x0 L0.len y0, .int .i64 k1, .int .i64 f1, .string s1, .slice x1 L1.len y1] 24))
  have D := DB.keep (DB.new ((w.alloc (.cells #[.int .i64 k0, .int .i64 f0, .string s0, .slice x0 L0.len y0] 24)).alloc (.cells #[.int .i64 k1, .int .i64 f1, .string s1, .slice x1 L1.len y1] 24)) #[.int .i64 5, .int .i64 0, .string ⟨#[]⟩, .slice (some ⟨w.heap.size + 1 + 1 + 1, 0, none⟩) 2 2]) ((Below.refl _ _).alloc (Nat.le_refl _) (.cells #[.int .i64 k0, .int .i64 f0, .string s0, .slice x0 L0.len y0, .int .i64 k1, .int .i64 f1, .string s1, .slice x1 L1.len y1] 24)) (by simp)
  have e2 : ((w.alloc (.cells #[.int .i64 k0, .int .i64 f0, .string s0, .slice x0 L0.len y0] 24)).alloc (.cells #[.int .i64 k1, .int .i64 f1, .string s1, .slice x1 L1.len y1] 24)).heap.size = w.heap.size + 1 + 1 := by simp
  have e3 : (((w.alloc (.cells #[.int .i64 k0, .int .i64 f0, .string s0, .slice x0 L0.len y0] 24)).alloc (.cells #[.int .i64 k1, .int .i64 f1, .string s1, .slice x1 L1.len y1] 24)).alloc (.cells #[.int .i64 5, .int .i64 0, .string ⟨#[]⟩, .slice (some ⟨w.heap.size + 1 + 1 + 1, 0, none⟩) 2 2] 24)).heap.size = w.heap.size + 1 + 1 + 1 := by simp
  rw [e3] at P
  rw [e2] at D
  have HP := Lib.hid P
  have HD := Lib.hid D
  obtain ⟨n0, hn0⟩ : ∃ n, L0.len = n := ⟨_, rfl⟩
  obtain ⟨n1, hn1⟩ : ∃ n, L1.len = n := ⟨_, rfl⟩
  rw [hn0, hn1] at HP HD B
  rw [hn0, hn1]
  clear hv0 hv1 hn0 hn1 z0 z1 P D bA bB bR e2 e3
  unfold dv
  go_enter Try.func19, Try.ntmps19
  go_wp2
  exact bodyPost_ret (res_doc rfl _ _ (w.heap.size + 1 + 1) _ rfl HD.out rfl) rfl ⟨_, rfl, HP.out, B.out⟩
end Go.Proofs.Ytehofomfblfhaaa
