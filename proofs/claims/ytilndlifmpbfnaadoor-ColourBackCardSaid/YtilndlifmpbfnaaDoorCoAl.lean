/- Colours: the example of the document. -/
import Derived.Test.YtilndlifmpbfnaaDoorCoSp
namespace Go.Proofs.YtilndlifmpbfnaaDoor
open Go.RowKit
set_option linter.unusedVariables false
set_option linter.unusedSimpArgs false

/-- Texts that lie in memory, one by one. -/
theorem s_cells {w : World} {v : Value} {l : List (List UInt8)} (h : SsC w v l) (h0 : 0 < l.length) : ∃ b off cap, v = .slice (some ⟨b, off, none⟩) l.length cap ∧ b < w.heap.size ∧ l.length ≤ cap ∧ cap ≤ maxLen ∧ ∀ j (hj : j < l.length), w.cell? ⟨b, off + j, none⟩ = some (.string (bytes l[j])) := by
  obtain ⟨a, cap, rfl, h1, h2, h3⟩ := h
  obtain ⟨b, off, rfl, hb, hc⟩ := h3 (by rw [srowC_len]; exact h0)
  rw [srowC_len] at h1
  refine ⟨b, off, cap, by rw [srowC_len], hb, h1, h2, fun j hj => ?_⟩
  have := hc j (by rw [srowC_len]; exact hj) 0 (.string (bytes l[j])) (by simp [srowC])
  simpa using this
set_option maxRecDepth 100000 in
set_option maxHeartbeats 2000000 in
theorem alive19_any (w : World) : Calls Tryd.prog 4 #[] w fun e w' => e = .returned (.bool true) ∧ Below w.heap.size w w' := by
  have SP := Lib.hid (spell_any (255, 255, 255, 255))
  have NA := Lib.hid (fun w => named_any [82, 69, 68] w (by simp))
  have e1 : M.spellC (255, 255, 255, 255) = [[35, 102, 102, 102], [35, 102, 102, 102, 102, 102, 102], [119, 104, 105, 116, 101]] := by decide +kernel
  have e2 : namedV [82, 69, 68] = ((255, 0, 0, 255), true) := by decide +kernel
  rw [e1] at SP
  rw [e2] at NA
  unfold arrV arrC at SP NA
  simp only at SP NA
  rw [show bytes [82, 69, 68] = ByteArray.mk #[82, 69, 68] from rfl] at NA
  clear e1 e2
  go_enter Tryd.func4, Tryd.ntmps4
  go_wp2_with fail
  refine (SP.out _).mono ?_
  rintro e w1 ⟨v1, rfl, hs1, hb1⟩
  have hz1 := hb1.size
  obtain ⟨b, off, cap, rfl, hbl, hc1, hc2, hc⟩ := s_cells hs1 (by simp)
  have c0 : w1.cell? ⟨b, off, none⟩ = some (.string ⟨#[35, 102, 102, 102]⟩) := hc 0 (by simp)
  have c2 : w1.cell? ⟨b, off + 2, none⟩ = some (.string ⟨#[119, 104, 105, 116, 101]⟩) := hc 2 (by simp)
  have HB1 := Lib.hid hb1
  clear hc hs1 hb1
  go_wp2_with fail
  refine (NA.out _).mono ?_
  rintro e w2 ⟨rfl, hb2⟩
  have hb3 := HB1.out.trans (hb2.mono hz1)
  have d0 := (hb2.cell (p := ⟨b, off, none⟩) hbl).trans c0
  have d2 := (hb2.cell (p := ⟨b, off + 2, none⟩) hbl).trans c2
  have hz2 := hb2.size
  have hb4 := (Below.refl w2.heap.size w2).alloc (Nat.le_refl _) (.cells #[.int .i64 255, .int .i64 0, .int .i64 0, .int .i64 255] 22)
  have f0 := (hb4.cell (p := ⟨b, off, none⟩) (Nat.lt_of_lt_of_le hbl hz2)).trans d0
  have f2 := (hb4.cell (p := ⟨b, off + 2, none⟩) (Nat.lt_of_lt_of_le hbl hz2)).trans d2
  have HB5 := Lib.hid (hb3.trans (hb4.mono (by omega)))
  clear hb2 c0 c2 hb3 d0 d2 hb4
  go_wp2_with (refine wpl_cmpA (by rfl) _ _ rfl (255, 0, 0, 255) (255, 0, 0, 255) true (by decide) rfl rfl ?_)
  go_wp2
  go_ret
  exact ⟨rfl, HB5.out⟩
end Go.Proofs.YtilndlifmpbfnaaDoor
