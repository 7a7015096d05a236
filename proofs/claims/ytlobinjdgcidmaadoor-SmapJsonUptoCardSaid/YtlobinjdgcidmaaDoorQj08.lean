/- Texts of ours in one: JgN. -/
import Derived.Test.YtlobinjdgcidmaaDoorQj07
import Derived.Test.YtlobinjdgcidmaaDoorQj05
import Derived.Test.YtlobinjdgcidmaaDoorQj00
import Derived.Deep.RegionWith
import Derived.Lib.AppendIntMem
import Derived.Lib.SmallJoins
import Derived.Deep.RegionHeld3
/- Several texts of ours in one: NRead NRead2 NRight. -/
/- Numbers: a text is read. -/
namespace Go.Proofs.YtlobinjdgcidmaaDoor
open Go.RowKit
set_option linter.unusedVariables false
set_option linter.unusedSimpArgs false

def numV (n : M.NumV) : Array Value := #[.bool n.1, .string (bytes n.2.1), .string (bytes n.2.2)]
theorem bcell {W w1 : World} (hb : Below W.heap.size W w1) : (∀ b o, b < W.heap.size → w1.cell? ⟨b, o, none⟩ = W.cell? ⟨b, o, none⟩) ∧ (∀ b o, b < W.heap.size → w1.frozen? ⟨b, o, none⟩ = W.frozen? ⟨b, o, none⟩) :=
  ⟨fun b o h => hb.cell (p := ⟨b, o, none⟩) h, fun b o h => hb.frozen (p := ⟨b, o, none⟩) h⟩
end Go.Proofs.YtlobinjdgcidmaaDoor

/- Numbers: a text is read, whole. -/
namespace Go.Proofs.YtlobinjdgcidmaaDoor
open Go.RowKit
set_option linter.unusedVariables false
set_option linter.unusedSimpArgs false

theorem divW_dig (l : List UInt8) (p : M.Parts) (h : M.divW l = (p, true)) : (∀ c ∈ p.2.1 ++ p.2.2.1, M.dig c = true) ∧ (∀ c ∈ p.2.2.2.2.2, M.dig c = true) ∧ (p.2.1 ++ p.2.2.1).length ≤ l.length ∧ p.2.2.2.2.2.length ≤ l.length := by
  obtain ⟨a, s1, hcs⟩ : ∃ a s1, M.csign l = (a, s1) := ⟨_, _, rfl⟩
  have l1 := csign_len l a s1 hcs
  have e1 := congrArg List.length (M.dg_rs s1)
  rw [List.length_append] at e1
  have hE : ∀ (F s3 : List UInt8), (∀ c ∈ F, M.dig c = true) → (M.dg s1).length + F.length + s3.length ≤ l.length → M.divE a (M.dg s1) F s3 = (p, true) → (∀ c ∈ p.2.1 ++ p.2.2.1, M.dig c = true) ∧ (∀ c ∈ p.2.2.2.2.2, M.dig c = true) ∧ (p.2.1 ++ p.2.2.1).length ≤ l.length ∧ p.2.2.2.2.2.length ≤ l.length := by
    intro F s3 hF hle h
    unfold M.divE at h
    have hd : ∀ c ∈ M.dg s1 ++ F, M.dig c = true := fun c hc => (List.mem_append.1 hc).elim (M.dg_dig s1 c) (hF c)
    split at h
    · simp only [Prod.mk.injEq] at h
      obtain ⟨rfl, _⟩ := h
      have h2 := csign_len s3.tail _ _ rfl
      have h3 := dg_len (M.csign s3.tail).2 _ rfl
      refine ⟨hd, M.dg_dig _, by simp only [List.length_append]; omega, ?_⟩
      simp only
      have h4 : s3.tail.length ≤ s3.length := by simp
      exact Nat.le_trans h3 (Nat.le_trans h2 (by omega))
    · simp only [Prod.mk.injEq] at h
      obtain ⟨rfl, _⟩ := h
      exact ⟨hd, by simp, by simp only [List.length_append]; omega, by simp⟩
  unfold M.divW at h
  rw [hcs] at h
  simp only at h
  split at h
  · split at h
    · simp at h
    · refine hE _ _ (M.dg_dig _) ?_ h
      have e2 := congrArg List.length (M.dg_rs (M.rs s1).tail)
      rw [List.length_append] at e2
      have : (M.rs s1).tail.length ≤ (M.rs s1).length := by simp
      omega
  · split at h
    · simp at h
    · exact hE [] _ (by simp) (by simp only [List.length_nil]; omega) h
theorem agg3 {a0 b0 : Bool} {a1 b1 a2 b2 : ByteArray} {c d : Bool} (h0 : a0 = b0) (h1 : a1 = b1) (h2 : a2 = b2) (h6 : c = d) :
    Ending.returned (.tuple #[.agg #[.bool a0, .string a1, .string a2], .bool c]) = .returned (.tuple #[.agg #[.bool b0, .string b1, .string b2], .bool d]) := by rw [h0, h1, h2, h6]
end Go.Proofs.YtlobinjdgcidmaaDoor

/- Numbers: may one be; its text without a power. -/
namespace Go.Proofs.YtlobinjdgcidmaaDoor
open Go.RowKit
set_option linter.unusedVariables false
set_option linter.unusedSimpArgs false

end Go.Proofs.YtlobinjdgcidmaaDoor
