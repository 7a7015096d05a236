/- Colours: which one a token is. -/
import Derived.Test.YtilndlifmpbfnaaDoorCoRd
import Derived.Test.YtilndlifmpbfnaaDoorCoAl
namespace Go.Proofs.YtilndlifmpbfnaaDoor
open Go.RowKit
set_option linter.unusedVariables false
set_option linter.unusedSimpArgs false

/-- The colour of a token of this kind with this text. -/
def readC (k : Int) (tx : List UInt8) : M.C4 × Bool := if k = 1 then namedV tx else if k = 4 then M.numX tx else ((0, 0, 0, 0), false)
set_option maxRecDepth 100000 in
set_option maxHeartbeats 2000000 in
theorem cread_any (k : Int) (tx : List UInt8) (c2 c3 c4 c5 c6 c7 c8 c9 c10 c11 c12 : Value) (S : ByteArray) (w : World) (hS : bytes tx = S) (hl : tx.length ≤ 4000000) :
    Calls Tryd.prog 8 #[.agg #[.int .i64 k, .string S, c2, c3, c4, c5, c6, c7, c8, c9, c10, c11, c12]] w fun e w' => e = .returned (.tuple #[arrV (readC k tx).1, .bool (readC k tx).2]) ∧ Below w.heap.size w w' := by
  have NA := Lib.hid (fun w => named_any tx w hl)
  have NU := Lib.hid (fun w => numbered_any tx w hl)
  rw [hS] at NA NU
  have a0 : AB ((w.alloc (.cells #[.int .i64 k, .string S, c2, c3, c4, c5, c6, c7, c8, c9, c10, c11, c12] 36)).alloc (.cells #[.int .i64 0, .int .i64 0, .int .i64 0, .int .i64 0] 22)) (w.heap.size + 1) (0, 0, 0, 0) := heap_alloc2_new w _ _
  have b0 := ((Below.refl w.heap.size w).alloc (Nat.le_refl _) (.cells #[.int .i64 k, .string S, c2, c3, c4, c5, c6, c7, c8, c9, c10, c11, c12] 36)).alloc (by simp) (.cells #[.int .i64 0, .int .i64 0, .int .i64 0, .int .i64 0] 22)
  have A0 := Lib.hid a0
  have B0 := Lib.hid b0
  clear a0 b0 hS hl
  unfold readC
  by_cases h1 : k = 1
  · subst h1
    rw [if_pos rfl]
    obtain ⟨R, hR⟩ : ∃ R, namedV tx = R := ⟨_, rfl⟩
    obtain ⟨R1, R2⟩ := R
    rw [hR] at NA ⊢
    unfold arrV at NA
    simp only at NA
    clear hR
    go_enter Tryd.func8, Tryd.ntmps8
    go_wp2_with fail
    refine (NA.out _).mono ?_
    rintro e w3 ⟨rfl, hb3⟩
    have a3 := A0.out.keep hb3 A0.out.lt
    have b3 := B0.out.trans (hb3.mono B0.out.size)
    have A3 := Lib.hid a3
    have B3 := Lib.hid b3
    clear a3 b3 hb3
    go_wp2_with (refine wpl_stA rfl _ _ rfl (w.heap.size + 1) (0, 0, 0, 0) R1 rfl rfl A3.out ?_)
    go_wp2
    (try simp only [Exit.inBlock, Exit.then])
    exact bodyPost_ret (res_arr rfl _ _ (w.heap.size + 1) _ _ rfl rfl (A3.out.set _)) rfl ⟨rfl, below_setRowA B3.out (by omega) _⟩
  · by_cases h4 : k = 4
    · subst h4
      rw [if_neg (by decide), if_pos rfl]
      obtain ⟨R, hR⟩ : ∃ R, M.numX tx = R := ⟨_, rfl⟩
      obtain ⟨R1, R2⟩ := R
      rw [hR] at NU ⊢
      unfold arrV at NU
      simp only at NU
      clear hR h1
      go_enter Tryd.func8, Tryd.ntmps8
      go_wp2_with fail
      refine (NU.out _).mono ?_
      rintro e w3 ⟨rfl, hb3⟩
      have a3 := A0.out.keep hb3 A0.out.lt
      have b3 := B0.out.trans (hb3.mono B0.out.size)
      have A3 := Lib.hid a3
      have B3 := Lib.hid b3
      clear a3 b3 hb3
      go_wp2_with (refine wpl_stA rfl _ _ rfl (w.heap.size + 1) (0, 0, 0, 0) R1 rfl rfl A3.out ?_)
      go_wp2
      (try simp only [Exit.inBlock, Exit.then])
      exact bodyPost_ret (res_arr rfl _ _ (w.heap.size + 1) _ _ rfl rfl (A3.out.set _)) rfl ⟨rfl, below_setRowA B3.out (by omega) _⟩
    · rw [if_neg h1, if_neg h4]
      have q1 : (k == 1) = false := by simpa using h1
      have q4 : (k == 4) = false := by simpa using h4
      clear h1 h4
      go_enter Tryd.func8, Tryd.ntmps8
      go_wp2_with (refine wpl_stA rfl _ _ rfl (w.heap.size + 1) (0, 0, 0, 0) (0, 0, 0, 0) rfl rfl A0.out ?_)
      go_wp2
      (try simp only [Exit.inBlock, Exit.then])
      exact bodyPost_ret (res_arr rfl _ _ (w.heap.size + 1) _ _ rfl rfl (A0.out.set _)) rfl ⟨rfl, below_setRowA B0.out (by omega) _⟩
end Go.Proofs.YtilndlifmpbfnaaDoor
