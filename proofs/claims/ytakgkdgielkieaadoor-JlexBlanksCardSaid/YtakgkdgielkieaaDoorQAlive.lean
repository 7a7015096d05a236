/- What the laws of jlex share: the example of the document. -/
import Derived.Test.YtakgkdgielkieaaDoorQJ7
import Derived.Lib.SmallJoins
namespace Go.Proofs.YtakgkdgielkieaaDoor
open Go.RowKit
set_option linter.unusedVariables false
set_option linter.unusedSimpArgs false

theorem ts_view {w : World} {v : Value} {l : M.Toks} (h : Ts w v l) : ∃ a cap, v = .slice a l.length cap ∧ (0 < l.length → ∃ b off, a = some ⟨b, off, none⟩ ∧ b < w.heap.size ∧ ∀ j (hj : j < l.length),
    w.cell? ⟨b, off + j * 3, none⟩ = some (.int .i64 (l[j].1 : Int)) ∧ w.cell? ⟨b, off + j * 3 + 1, none⟩ = some (.int .i64 (l[j].2.1 : Int)) ∧ w.cell? ⟨b, off + j * 3 + 2, none⟩ = some (.int .i64 (l[j].2.2 : Int))) := by
  obtain ⟨a, cap, rfl, h1, h2, h3⟩ := h
  refine ⟨a, cap, by rw [tvs_len], fun h0 => ?_⟩
  obtain ⟨b, off, rfl, hb, hc⟩ := h3 (by rw [tvs_len]; exact h0)
  refine ⟨b, off, rfl, hb, fun j hj => ?_⟩
  have hj' : j < (tvs l).length := by rw [tvs_len]; exact hj
  have e : (tvs l)[j] = tv l[j] := by simp [tvs]
  refine ⟨?_, ?_, ?_⟩
  · exact hc j hj' 0 _ (by rw [e]; rfl)
  · have := hc j hj' 1 (.int .i64 (l[j].2.1 : Int)) (by rw [e]; rfl)
    rwa [← Nat.add_assoc] at this
  · have := hc j hj' 2 (.int .i64 (l[j].2.2 : Int)) (by rw [e]; rfl)
    rwa [← Nat.add_assoc] at this
set_option maxRecDepth 100000 in
set_option maxHeartbeats 4000000 in
theorem alive_any (w : World) (hT : Tabs w) : Calls Tryd.prog 4 #[] w fun e w' => e = .returned (.bool true) ∧ Below w.heap.size w w' := by
  have S1 := Lib.hid (split_any _ [] _ w hT (bs_nil w) (by decide) M.split_nil)
  have S2 := Lib.hid (fun v w' hT hv => split_any v [32, 91, 49, 93] _ w' hT hv (by decide) M.split_ex)
  have HT := Lib.hid hT
  clear hT
  go_enter Tryd.func4, Tryd.ntmps4
  go_wp2_with fail
  refine S1.out.mono ?_
  rintro e w1 ⟨v1, rfl, ho1, hb1⟩
  obtain ⟨a1, c1, rfl, _⟩ := ts_view ho1.vs
  unfold fv
  obtain ⟨W2, hW2⟩ : ∃ W2, w1.alloc (.cells #[.int .i64 0, .int .i64 0] 28) = W2 := ⟨_, rfl⟩
  obtain ⟨W3, hW3⟩ : ∃ W3, W2.alloc (.cells #[.int .u8 32, .int .u8 91, .int .u8 49, .int .u8 93] 5 (4, 5)) = W3 := ⟨_, rfl⟩
  have hb2 : Below w.heap.size w W2 := by rw [← hW2]; exact hb1.alloc hb1.size _
  have hb3 : Below w.heap.size w W3 := by rw [← hW3]; exact hb2.alloc hb2.size _
  have hs2 : W2.heap.size = w1.heap.size + 1 := by rw [← hW2]; simp
  have hs3 : W3.heap.size = w1.heap.size + 1 + 1 := by rw [← hW3]; simp [hs2]
  have hB := bs_newm W2 [32, 91, 49, 93] (4, 5) (by decide)
  rw [hs2] at hB
  have hcv := fun v => Go.Joins.run_convert_bytes_const_at (P := Tryd.prog) W2 22 5 #[.int .u8 32, .int .u8 91, .int .u8 49, .int .u8 93] 4 4 (w1.heap.size + 1) v Tryd.underlying22 Tryd.underlying5
  rw [hs2, show (#[Value.int .u8 32, .int .u8 91, .int .u8 49, .int .u8 93] : Array Value).size = 4 from rfl, hW3] at hcv
  have hcv := hcv rfl
  rw [← hW2] at hcv
  have hB3 : Bs W3 (.slice (some ⟨w1.heap.size + 1, 0, none⟩) 4 4) [32, 91, 49, 93] := by rw [← hW3]; exact hB
  have c0 : W3.cell? ⟨w1.heap.size, 0, none⟩ = some (.int .i64 0) := by rw [← hW3, World.cell?_alloc_past _ _ _ (by rw [hs2]; omega), ← hW2]; simp
  have c1 : W3.cell? ⟨w1.heap.size, 1, none⟩ = some (.int .i64 0) := by rw [← hW3, World.cell?_alloc_past _ _ _ (by rw [hs2]; omega), ← hW2]; simp
  have S3 := Lib.hid (S2.out _ W3 (HT.out.keep hb3) hB3)
  have hz := hb1.size
  clear S1 S2 ho1 hW2 hW3 hB hB3
  go_wp2_with fail
  refine S3.out.mono ?_
  rintro e w4 ⟨v4, rfl, ho4, hb4⟩
  obtain ⟨a4, c4, rfl, hv4⟩ := ts_view ho4.vs
  obtain ⟨b, off, rfl, hbk, hcl⟩ := hv4 (by decide)
  obtain ⟨d0, d1, d2⟩ := hcl 1 (by decide)
  have e0 := (hb4.cell (p := ⟨w1.heap.size, 0, none⟩) (by show w1.heap.size < _; rw [hs3]; omega)).trans c0
  have e1 := (hb4.cell (p := ⟨w1.heap.size, 1, none⟩) (by show w1.heap.size < _; rw [hs3]; omega)).trans c1
  have hb5 := hb3.trans (hb4.mono hb3.size)
  have hlt : w1.heap.size < w4.heap.size := by have := hb4.size; omega
  simp only [Nat.one_mul, List.getElem_cons_succ, List.getElem_cons_zero, List.length_cons, List.length_nil] at d0 d1 d2 ⊢
  clear hcl hv4 ho4 c0 c1 hb2 hb3 hb4 hb1
  unfold fv
  go_wp2
  go_ret
  exact ⟨rfl, hb5.alloc hb5.size _⟩
end Go.Proofs.YtakgkdgielkieaaDoor
