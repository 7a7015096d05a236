import Derived.Test.YtimjbjppmhdjnaaGreatDoorNPlain
namespace Go.Proofs.YtimjbjppmhdjnaaGreatDoor
open Go.RowKit
set_option linter.unusedVariables false
set_option linter.unusedSimpArgs false
theorem ss_get {w : World} {v : Value} {l : List (List UInt8)} (h : Ss w v l) : ∃ a cap, v = .slice a l.length cap /\ (0 < l.length -> ∃ b off, a = some ⟨b, off, none⟩ /\ b < w.heap.size /\ ∀ j (h : j < l.length), w.cell? ⟨b, off + j, none⟩ = some (.string (bytes l[j]))) := by
 obtain ⟨a, cap, hv, h1, h2, h3⟩ := h
 rw [srow_len] at hv
 refine ⟨a, cap, hv, fun h0 => ?_⟩
 obtain ⟨b, off, ha, hb, hc⟩ := h3 (by rw [srow_len]; exact h0)
 refine ⟨b, off, ha, hb, fun j hj => ?_⟩
 have := hc j (by rw [srow_len]; exact hj) 0 (.string (bytes l[j])) (by simp [srow])
 rwa [Nat.mul_one, Nat.add_zero] at this
end Go.Proofs.YtimjbjppmhdjnaaGreatDoor
