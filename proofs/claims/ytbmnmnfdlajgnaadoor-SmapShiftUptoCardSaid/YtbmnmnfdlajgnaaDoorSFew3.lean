/- The law's Few. -/
import Derived.Test.YtbmnmnfdlajgnaaDoorSAlive3
namespace Go.Proofs.YtbmnmnfdlajgnaaDoor
open Go.RowKit
set_option linter.unusedVariables false
set_option linter.unusedSimpArgs false

def FewP (L : List M.S4) (w : World) (e : Ending) (w' : World) : Prop := ∃ q, e = .returned (.bool q) ∧ (q = true → L.length ≤ 60) ∧ w' = w
set_option maxRecDepth 100000 in
set_option maxHeartbeats 2000000 in
theorem sfew_any (v : Value) (L : List M.S4) (w : World) (hv : Ss w v L) :
    Calls Tryd.prog 8 #[v] w (FewP L w) := by
  have hpa := s4At_of hv
  obtain ⟨a, cap, rfl, h1, h2, -⟩ := id hpa
  have HP := Lib.hid hpa
  obtain ⟨n, hn⟩ : ∃ n, L.length = n := ⟨_, rfl⟩
  have HN := Lib.hid hn
  rw [hn] at h1 ⊢
  have hm : cap ≤ 9223372036854775807 := by unfold maxLen at h2; omega
  clear hpa hv hn
  go_enter Tryd.func8, Tryd.ntmps8
  go_wp2
  go_loopw [3] (fun iv wr => ∃ i : Nat, iv = .int .i64 (i : Int) ∧ i ≤ n ∧ wr = w) (fun iv _ => n - (intOf iv).toNat)
  case atStart => exact ⟨0, rfl, by omega, rfl⟩
  case round =>
    obtain ⟨i, rfl, hi, hwq⟩ := hrel
    have hwq := hwq.symm
    subst hwq
    by_cases hlt : i < n
    · obtain ⟨b, off, rfl, hbk, c0, c1, c2, c3⟩ := s4At_get (by have h := HP.out; rw [HN.out] at h; exact h) i (by rw [HN.out]; exact hlt)
      obtain ⟨x, hx⟩ : ∃ x, (L[i]'(by rw [HN.out]; exact hlt)).1 = x := ⟨_, rfl⟩
      rw [hx] at c0
      have i1 : (i : Int) < n := by omega
      have i0 : (0 : Int) ≤ i := by omega
      clear c1 c2 c3 hx
      by_cases g1 : 200 < x
      · by_cases g2 : x ≤ 100000
        · go_wp2
          go_ret
          exact ⟨false, rfl, fun h => by simp at h, rfl⟩
        · have g3 : 100000 < x := by omega
          go_wp2
          go_roundw
          case rel => exact ⟨i + 1, by go_num, by omega, by first | rfl | trivial⟩
          case measure => simp [intOf]; omega
      · have g3 : x ≤ 200 := by omega
        go_wp2
        go_roundw
        case rel => exact ⟨i + 1, by go_num, by omega, by first | rfl | trivial⟩
        case measure => simp [intOf]; omega
    · obtain rfl : i = n := by omega
      go_wp2
      go_ret
      exact ⟨_, rfl, fun h => by have := of_decide_eq_true h; have := HN.out; omega, rfl⟩
end Go.Proofs.YtbmnmnfdlajgnaaDoor
