/- The walk of DocJoins. -/
import Derived.Test.YtehofomfblfhaaaMgWC
import Derived.Test.YtehofomfblfhaaaTDoc6
import Derived.Test.YtehofomfblfhaaaTRef2
import Derived.Test.YtehofomfblfhaaaTSize
namespace Go.Proofs.Ytehofomfblfhaaa
open Go.RowKit
set_option linter.unusedVariables false
set_option linter.unusedSimpArgs false

theorem DB.four {w : World} {b : Nat} {c0 c1 c2 c3 : Value} (h : DB w b #[c0, c1, c2, c3]) : w.cell? ⟨b, 0, none⟩ = some c0 ∧ w.cell? ⟨b, 1, none⟩ = some c1 ∧ w.cell? ⟨b, 2, none⟩ = some c2 ∧ w.cell? ⟨b, 3, none⟩ = some c3 :=
  ⟨h.cell 0, h.cell 1, h.cell 2, h.cell 3⟩
/-- Two documents. -/
def Fo.two (k0 f0 : Int) (s0 : ByteArray) (L0 : Fo) (k1 f1 : Int) (s1 : ByteArray) (L1 : Fo) : Fo := .cons k0 f0 s0 L0 (.cons k1 f1 s1 L1 .nil)
theorem pair_fos {W : World} {k0 f0 k1 f1 : Int} {s0 s1 : ByteArray} {v0 v1 : Value} {L0 L1 : Fo} (h0 : FoS W v0 L0) (h1 : FoS W v1 L1) (z0 : s0.size ≤ 100) (z1 : s1.size ≤ 100) :
    FoS (W.alloc (.cells #[.int .i64 k0, .int .i64 f0, .string s0, v0, .int .i64 k1, .int .i64 f1, .string s1, v1] 24)) (.slice (some ⟨W.heap.size, 0, none⟩) 2 2) (Fo.two k0 f0 s0 L0 k1 f1 s1 L1) := by
  have b := (Below.refl W.heap.size W).alloc (Nat.le_refl _) (.cells #[.int .i64 k0, .int .i64 f0, .string s0, v0, .int .i64 k1, .int .i64 f1, .string s1, v1] 24)
  have g0 := h0.keep b
  have g1 := h1.keep b
  refine ⟨_, 2, rfl, (by show 2 ≤ 2; omega), by decide, by simp, fun _ => ⟨W.heap.size, 0, rfl, by simp, ?_⟩⟩
  have hc : ∀ j, (W.alloc (.cells #[.int .i64 k0, .int .i64 f0, .string s0, v0, .int .i64 k1, .int .i64 f1, .string s1, v1] 24)).cell? ⟨W.heap.size, j, none⟩ = #[.int .i64 k0, .int .i64 f0, .string s0, v0, .int .i64 k1, .int .i64 f1, .string s1, v1][j]? := fun j => World.cell?_alloc_at _ _ _ _ rfl
  obtain ⟨a0, c0, rfl, p1, p2, p3, p4⟩ := g0
  obtain ⟨a1, c1, rfl, q1, q2, q3, q4⟩ := g1
  exact ⟨⟨by unfold maxLen; omega, hc 0, hc 1, hc 2, a0, c0, hc 3, p1, p2, p3, p4⟩, ⟨by unfold maxLen; omega, hc 4, hc 5, hc 6, a1, c1, hc 7, q1, q2, q3, q4⟩, trivial⟩
/-- What doc.Flat gives, by its two ways. -/
theorem flatV_ways (k f : Int) (s : ByteArray) (L : Fo) : (∃ t, flatV k f s L = .tuple #[.string (bytes t), .bool true] ∧ flatD k s L = (t, true) ∧ rightD k f s L 200 = true) ∨ (flatV k f s L = .tuple #[.string ⟨#[]⟩, .bool false] ∧ ¬ (rightD k f s L 200 = true ∧ (flatD k s L).2 = true)) := by
  unfold flatV
  by_cases h : rightD k f s L 200 = true ∧ (flatD k s L).2 = true
  · rw [if_pos h]
    exact .inl ⟨_, rfl, Prod.ext rfl h.2, h.1⟩
  · rw [if_neg h]
    exact .inr ⟨rfl, h⟩
theorem flat_two (k0 f0 : Int) (s0 : ByteArray) (L0 : Fo) (k1 f1 : Int) (s1 : ByteArray) (L1 : Fo) (t0 t1 : List UInt8) (h0 : flatD k0 s0 L0 = (t0, true)) (h1 : flatD k1 s1 L1 = (t1, true)) : flatF (Fo.two k0 f0 s0 L0 k1 f1 s1 L1) = (t0 ++ t1, true) := by
  unfold Fo.two
  rw [flatF_cons, h0, if_pos rfl, flatF_cons, h1, if_pos rfl]
  simp [flatF]
theorem kid_flat (kind : Int) (hk : 5 ≤ kind) (P : Fo) : flatD kind ⟨#[]⟩ P = flatF P := by
  unfold flatD; rw [if_neg (by omega), if_neg (by omega), if_neg (by omega)]
end Go.Proofs.Ytehofomfblfhaaa
