import Derived.Test.YtbfnlgmhfhaglaaGreatDoorQb43
import Derived.Test.YtbfnlgmhfhaglaaGreatDoorQb22
set_option maxHeartbeats 2000000
set_option maxRecDepth 100000
namespace Go.Proofs.YtbfnlgmhfhaglaaGreatDoor
open Go.RowKit
set_option linter.unusedVariables false
set_option linter.unusedSimpArgs false
theorem rrtop_any (h : Vh) (kids : Vo) (tv v mv : Value) (w : World) (hC : 1 + h.tx.length + h.ms.length + VoC kids <= 2097152) (hL : VoL 100000 (.cons h kids .nil)) (ht : HdS w h tv mv) (hv : VoS w v kids) :
  Calls Tryz.prog 18 #[.agg (vv h tv v mv)] w fun e w' => e = .returned (.bool (rightH h kids 60)) /\ Below w.heap.size w w' := by
 have b0 := LH ((Below.refl w.heap.size w).alloc (Nat.le_refl _) (.cells (vv h tv v mv) 27))
 have R := LH (rr_any h kids 60 _ tv v mv (by decide) hC hL (ht.below b0.out) (hv.below b0.out))
 have X := LH (VB.new w h tv v mv)
 obtain ⟨W1, hW1⟩ : ∃ x, w.alloc (.cells (vv h tv v mv) 27) = x := ⟨_, rfl⟩
 rw [hW1] at b0 R X
 have HW1 := LH hW1
 obtain ⟨a, c, rfl⟩ := hv.slice
 obtain ⟨ta, tc, htv⟩ := ht.t.slice
 obtain ⟨ma, mc, hmv⟩ := ht.m.slice
 subst htv hmv
 obtain ⟨ans, hans⟩ : ∃ b, rightH h kids 60 = b := ⟨_, rfl⟩
 rw [hans] at R ⊢
 have EXP := LH (show vv h (.slice ta h.tx.length tc) (.slice a kids.len c) (.slice ma h.ms.length mc) = #[.int .i64 h.k, .slice ta h.tx.length tc, .bool h.ng, .string (bytes h.dg), .string (bytes h.ex), .slice a kids.len c, .int .i64 h.fr, .int .i64 h.tt, .slice ma h.ms.length mc] from rfl)
 have HW2 := LH HW1.out
 rw [EXP.out] at HW2 ⊢
 clear hW1 hans hv ht hC hL HW1
 go_enter Tryz.func18, Tryz.ntmps18
 go_upto_region 1 with fail
 rw [HW2.out]
 go_wp2_with (first | (refine wpl_ldV rfl _ rfl w.heap.size 0 h _ _ _ rfl X.out.range ?_) | fail)
 refine (R.out).mono ?_
 rintro e w1 ⟨rfl, hb1⟩
 have d1 := b0.out.trans (hb1.mono b0.out.size)
 clear hb1
 go_wp2
 go_ret
 exact ⟨rfl, d1⟩
end Go.Proofs.YtbfnlgmhfhaglaaGreatDoor
