/- What the laws of vlq share: the example of the document. -/
import Derived.Test.YtkkidjaagahniaaPut
import Derived.Test.YtkkidjaagahniaaGet
namespace Go.Proofs.Ytkkidjaagahniaa
open Go.RowKit

set_option maxHeartbeats 400000 in
theorem alive_any (w : World) : Calls Try.prog 8 #[] w fun e w' => e = .returned (.bool true) ∧ Below w.heap.size w w' := by
  go_enter Try.func8, Try.ntmps8
  go_wp2_with fail
  refine (get_any ⟨#[103, 66]⟩ 0 (16, 2, true) _ (by decide) (by decide +kernel)).mono ?_
  rintro e w' ⟨rfl, rfl⟩
  unfold tri
  go_wp2_with fail
  refine (put_to ⟨#[]⟩ ⟨#[103, 66]⟩ 16 _ (by decide) (by decide) (by decide) (by decide +kernel)).mono ?_
  rintro e w1 ⟨rfl, hb1⟩
  go_wp2_with fail
  refine (put_to ⟨#[]⟩ ⟨#[68]⟩ (-1) _ (by decide) (by decide) (by decide) (by decide +kernel)).mono ?_
  rintro e w2 ⟨rfl, hb2⟩
  go_wp2
  go_ret
  exact ⟨rfl, hb1.trans (hb2.mono hb1.size)⟩
end Go.Proofs.Ytkkidjaagahniaa
