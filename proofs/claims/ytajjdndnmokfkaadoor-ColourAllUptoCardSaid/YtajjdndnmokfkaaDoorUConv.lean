/- Bytes out of a text that is no constant. -/
import Derived.Test.YtajjdndnmokfkaaDoorUBase
import Derived.Lib.ConvBytes
import Derived.Laws.AppendOwn
namespace Go.Proofs.YtajjdndnmokfkaaDoor
open Go.RowKit
set_option linter.unusedVariables false

theorem bw_size (W : World) (s : ByteArray) : (Lib.bytesWorld W 5 s).heap.size = W.heap.size + 1 := Lib.bytesWorld_size W _ s
theorem bw_below (W : World) (s : ByteArray) : Below W.heap.size W (Lib.bytesWorld W 5 s) :=
  ⟨rfl, rfl, rfl, by rw [bw_size]; omega, fun k hk => Lib.bytesWorld_at_old W _ s k hk⟩
theorem bw_bs (W : World) (s : ByteArray) (hs : s.size ≤ 4294967296) : Bs (Lib.bytesWorld W 5 s) (.slice (some ⟨W.heap.size, 0, none⟩) s.size (grownCap W s.size 0 5)) s.data.toList := by
  have e : s.data.toList.length = s.size := Array.length_toList
  refine ⟨_, grownCap W s.size 0 5, by rw [e], by rw [e]; exact grownCap_ge _ _ _ _, grownCap_le_maxLen _ _ _ _ (by unfold maxLen; omega), fun _ => ⟨W.heap.size, 0, rfl, by rw [bw_size]; omega, fun j hj => ?_⟩⟩
  rw [Nat.zero_add, Lib.bytesWorld_cell W _ s j (by rw [← e]; exact hj)]
  simp [List.getD, List.getElem?_eq_getElem hj]
theorem bw_conv (W : World) (s : ByteArray) : (convert 9 36 (.string s)).run Tryd.prog W = .ok (.slice (some ⟨W.heap.size, 0, none⟩) s.size (grownCap W s.size 0 5)) (Lib.bytesWorld W 5 s) :=
  Lib.run_convert_string_bytes W 9 36 5 s Tryd.underlying9 Tryd.underlying36 Tryd.underlying5
end Go.Proofs.YtajjdndnmokfkaaDoor
