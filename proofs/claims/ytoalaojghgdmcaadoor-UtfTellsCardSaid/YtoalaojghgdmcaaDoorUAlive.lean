/- What the laws of utf share: the example of the document. -/
import Derived.Test.YtoalaojghgdmcaaDoorUtf
namespace Go.Proofs.YtoalaojghgdmcaaDoor
open Go.RowKit

set_option maxHeartbeats 400000 in
theorem alive_any (w : World) (hT : Tabs w) : Calls Tryd.prog 16 #[] w fun e w' => e = .returned (.bool true) ∧ Below w.heap.size w w' := by
  have hn := bs_new w [195, 169] (by decide)
  have hb0 : Below w.heap.size w (w.alloc (.cells #[.int .u8 195, .int .u8 169] 5)) := (Below.refl _ _).alloc (Nat.le_refl _) _
  have hT0 := hT.keep hb0
  have Hn := Lib.hid hn
  clear hn hT
  go_enter Tryd.func16, Tryd.ntmps16
  go_wp2_with fail
  refine (next_any _ [195, 169] 0 (233, 2, true) _ hT0 Hn.out (by decide) (by decide +kernel)).mono ?_
  rintro e w1 ⟨rfl, hb1⟩
  unfold tri
  have hb2 := hb0.trans (hb1.mono (by simp))
  clear hb0 hb1 hT0 Hn
  go_wp2_with fail
  refine (units_any 65 _).mono ?_
  rintro e w2 ⟨rfl, rfl⟩
  go_wp2_with fail
  refine (put_any _ [] [195, 169] 233 _ (bs_nil _) (by decide) (by decide +kernel)).mono ?_
  rintro e w3 ⟨v, rfl, ho, hb3⟩
  have hcv := conv_own ho
  have hb4 := hb2.trans (hb3.mono hb2.size)
  clear hb2 hb3 ho
  unfold bytes at hcv
  go_wp2
  go_ret
  exact ⟨rfl, hb4⟩
end Go.Proofs.YtoalaojghgdmcaaDoor
