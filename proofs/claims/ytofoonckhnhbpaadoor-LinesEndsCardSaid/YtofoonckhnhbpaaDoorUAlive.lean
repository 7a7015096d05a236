/- What the laws of utf share: the example of the document. -/
import Derived.Test.YtofoonckhnhbpaaDoorUtf
import Derived.Lib.BufferRead
namespace Go.Proofs.YtofoonckhnhbpaaDoor
open Go.RowKit

def bytes (l : List UInt8) : ByteArray := ⟨l.toArray⟩
theorem bytes_list (l : List UInt8) : (bytes l).data.toList = l := by simp [bytes]
theorem bytes_size (l : List UInt8) : (bytes l).size = l.length := by simp [bytes, ByteArray.size]

theorem bs_new (w : World) (l : List UInt8) (hl : l.length ≤ 1048576) : Bs (w.alloc (.cells (bcells l).toArray 5)) (.slice (some ⟨w.heap.size, 0, none⟩) l.length l.length) l := by
  refine ⟨_, _, rfl, Nat.le_refl _, by unfold maxLen; omega, fun _ => ⟨w.heap.size, 0, rfl, by simp, fun j hj => ?_⟩⟩
  rw [World.cell?_alloc_at _ _ _ _ rfl]
  simp [bcells, hj]
theorem bs_nil (w : World) : Bs w (.slice none 0 0) [] := ⟨none, 0, rfl, by simp, by decide, fun h => by simp at h⟩

theorem conv_own {B : Nat} {w : World} {v : Value} {l : List UInt8} (h : OwnB B w v l) : (convert 22 9 v).run Tryd.prog w = .ok (.string (bytes l)) w := by
  have hc := h
  obtain ⟨_, ⟨rfl, h0⟩ | ⟨g, cap, cur, rfl, _⟩⟩ := h
  · have : l = [] := List.length_eq_zero_iff.1 h0
    subst this
    exact Lib.run_convert_nil_bytes w 22 9 5 0 Tryd.underlying22 Tryd.underlying5 Tryd.underlying9
  · have hB : Lib.Bytes w g 0 (bytes l) := by
      intro i hi
      have hi' : i < l.length := by simpa [bytes, ByteArray.size] using hi
      have := World.ownsRow.cells hc rfl i (.int .u8 (l[i].toNat : Int)) (by simp [bcells, hi'])
      rw [show (⟨g, 0, none⟩ : Addr).add i = ⟨g, 0 + i, none⟩ by cases i <;> simp [Addr.add]] at this
      rw [this]
      congr 3
    have := Lib.run_convert_whole (P := Tryd.prog) w 22 5 9 Tryd.underlying22 Tryd.underlying5 Tryd.underlying9 g 0 _ hB cap
    rw [bytes_size] at this
    exact this

set_option maxHeartbeats 400000 in
theorem alive_any (w : World) (hT : Tabs w) : Calls Tryd.prog 16 #[] w fun e w' => e = .returned (.bool true) ∧ Below w.heap.size w w' := by
  have hn := bs_new w [195, 169] (by decide)
  have hb0 : Below w.heap.size w (w.alloc (.cells #[.int .u8 195, .int .u8 169] 5)) := (Below.refl _ _).alloc (Nat.le_refl _) _
  have hT0 := hT.keep hb0
  have Hn := Lib.hid hn
  clear hn hT
  go_enter Tryd.func16, Tryd.ntmps16
  go_wp2_with fail
  refine (next_any _ [195, 169] 0 (233, 2, true) _ hT0 Hn.out (by decide) (by decide +kernel)).mono ?_
  rintro e w1 ⟨rfl, hb1⟩
  unfold tri
  have hb2 := hb0.trans (hb1.mono (by simp))
  clear hb0 hb1 hT0 Hn
  go_wp2_with fail
  refine (units_any 65 _).mono ?_
  rintro e w2 ⟨rfl, rfl⟩
  go_wp2_with fail
  refine (put_any _ [] [195, 169] 233 _ (bs_nil _) (by decide) (by decide +kernel)).mono ?_
  rintro e w3 ⟨v, rfl, ho, hb3⟩
  have hcv := conv_own ho
  have hb4 := hb2.trans (hb3.mono hb2.size)
  clear hb2 hb3 ho
  unfold bytes at hcv
  go_wp2
  go_ret
  exact ⟨rfl, hb4⟩
end Go.Proofs.YtofoonckhnhbpaaDoor
