/- The reference's Put, for any number. -/
import Derived.Test.YtmhebcimpibipaaURef
namespace Go.Proofs.Ytmhebcimpibipaa
open Go.RowKit
set_option linter.unusedVariables false

set_option maxRecDepth 100000 in
set_option maxHeartbeats 1000000 in
theorem refput_out (B : Nat) (v : Value) (l t : List UInt8) (r : Int) (w : World) (h1 : r < 0 ∨ 1114111 < r) (hv : OwnB B w v l) (hl : l.length ≤ 1048576) (hB : B ≤ w.heap.size) (ht : l ++ M.enc 65533 = t) :
    Calls Try.prog 6 #[v, .int .i64 r] w fun e w' => ∃ v', e = .returned v' ∧ OwnB B w' v' t ∧ Below B w w' := by
  have hlen : l.length + (M.enc 65533).length ≤ 4294967296 := by have := M.enc_le 65533; omega
  have hal : ∀ o, OwnB B (w.alloc o) v l := fun o => World.ownsRow.alloc hv o
  have hba : ∀ o, Below B w (w.alloc o) := fun o => (Below.refl B w).alloc hB o
  have hbs := fun w : World => bs_cells_new w (M.enc 65533) [.int .u8 239, .int .u8 191, .int .u8 189] 3 (by rw [cells_three 65533 (by omega)]; rfl) rfl (by decide +kernel)
  have Hal := Lib.hid hal
  have Hba := Lib.hid hba
  have Hlen := Lib.hid hlen
  have Ht := Lib.hid ht
  have Hbs := Lib.hid hbs
  have e1 : bits .or .i64 224 15 = 239 := by decide +kernel
  have e2 : bits .and .i64 1023 63 = 63 := by decide +kernel
  have e3 : bits .or .i64 128 63 = 191 := by decide +kernel
  have e4 : bits .and .i64 65533 63 = 61 := by decide +kernel
  have e5 : bits .or .i64 128 61 = 189 := by decide +kernel
  clear hv hlen hal hba hbs ht
  have tst : (decide (r < 0) = true) ∨ (decide (r < 0) = false ∧ decide ((1114111 : Int) < r) = true) := by
    simp only [decide_eq_true_eq, decide_eq_false_iff_not]; omega
  clear h1
  rcases tst with t1 | ⟨t1, t2⟩
  all_goals
    go_enter Try.func6, Try.ntmps6
    go_wp2_with (at_builtin; refine wpl_append rfl _ _ rfl B v (.slice (some ⟨w.heap.size, 0, none⟩) 3 3) l (M.enc 65533) t rfl (Hal.out _) rfl (Hbs.out w) (fun n c h => by simp at h) Hlen.out (by simp only [World.alloc, Array.size_push]; omega) Ht.out ?_)
    intro v' w' ho hb
    have hb2 := (Hba.out _).trans hb
    clear hb
    go_wp2
    go_ret
    exact ⟨_, rfl, ho, hb2⟩
theorem refput_any (B : Nat) (v : Value) (l t : List UInt8) (r : Int) (w : World) (hv : OwnB B w v l) (hl : l.length ≤ 1048576) (hB : B ≤ w.heap.size) (ht : l ++ M.enc r = t) :
    Calls Try.prog 6 #[v, .int .i64 r] w fun e w' => ∃ v', e = .returned v' ∧ OwnB B w' v' t ∧ Below B w w' := by
  cases hc : M.isCP r with
  | true => exact refput_cp B v l t r w hc hv hl hB ht
  | false =>
    rw [M.enc_other r hc] at ht
    have h0 : ¬ (0 ≤ r ∧ r ≤ 1114111 ∧ (r < 55296 ∨ 57343 < r)) := by rw [← M.isCP_iff]; simp [hc]
    by_cases h : 55296 ≤ r ∧ r < 57344
    · exact refput_sur B v l t r w h.1 h.2 hv hl hB ht
    · exact refput_out B v l t r w (by omega) hv hl hB ht
end Go.Proofs.Ytmhebcimpibipaa
