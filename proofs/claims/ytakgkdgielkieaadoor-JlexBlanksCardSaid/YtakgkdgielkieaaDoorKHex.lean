/- Texts of JSON as the reference reads them: hexDigit. -/
import Derived.Test.YtakgkdgielkieaaDoorKMath
import Derived.Test.YtakgkdgielkieaaDoorUBase
import Derived.Deep.QuietTactic
import Derived.BigQuiet
import Derived.Outline
namespace Go.Proofs.YtakgkdgielkieaaDoor
open Go.RowKit
set_option linter.unusedVariables false
set_option linter.unusedSimpArgs false

theorem ret_i {k : IntKind} {a b : Int} (h : a = b) : Ending.returned (.int k a) = .returned (.int k b) := by rw [h]
set_option maxRecDepth 100000 in
set_option maxHeartbeats 1000000 in
theorem hex_any (c : UInt8) (x : Int) (w : World) (hx : M.hexV c = x) :
    Calls Tryd.prog 16 #[.int .u8 (c.toNat : Int)] w fun e w' => e = .returned (.int .i64 x) ∧ w = w' := by
  have hb : c.toNat < 256 := c.toNat_lt
  unfold M.hexV at hx
  have hs : (c.toNat < 48 ∧ x = -1) ∨ (48 ≤ c.toNat ∧ c.toNat ≤ 57 ∧ x = (c.toNat : Int) - 48) ∨ (57 < c.toNat ∧ c.toNat < 65 ∧ x = -1) ∨ (65 ≤ c.toNat ∧ c.toNat ≤ 70 ∧ x = (c.toNat : Int) - 55) ∨ (70 < c.toNat ∧ c.toNat < 97 ∧ x = -1) ∨ (97 ≤ c.toNat ∧ c.toNat ≤ 102 ∧ x = (c.toNat : Int) - 87) ∨ (102 < c.toNat ∧ x = -1) := by
    repeat' split at hx
    all_goals omega
  obtain ⟨C, hC⟩ : ∃ C : Int, (c.toNat : Int) = C := ⟨_, rfl⟩
  rw [hC] at hs ⊢
  have hs2 : (C < 48 ∧ x = -1) ∨ (48 ≤ C ∧ C ≤ 57 ∧ x = C - 48) ∨ (57 < C ∧ C < 65 ∧ x = -1) ∨ (65 ≤ C ∧ C ≤ 70 ∧ x = C - 55) ∨ (70 < C ∧ C < 97 ∧ x = -1) ∨ (97 ≤ C ∧ C ≤ 102 ∧ x = C - 87) ∨ (102 < C ∧ x = -1) := by omega
  have C0 : 0 ≤ C := by omega
  have C9 : C < 256 := by omega
  clear hs hx hC hb
  rcases hs2 with ⟨h1, rfl⟩ | ⟨h1, h2, hx⟩ | ⟨h1, h2, rfl⟩ | ⟨h1, h2, hx⟩ | ⟨h1, h2, rfl⟩ | ⟨h1, h2, hx⟩ | ⟨h1, rfl⟩
  · have t1 : decide ((48 : Int) ≤ C) = false := by simp; omega
    have t2 : decide ((97 : Int) ≤ C) = false := by simp; omega
    have t3 : decide ((65 : Int) ≤ C) = false := by simp; omega
    go_enter Tryd.func16, Tryd.ntmps16
    go_wp2
    go_ret
    exact ⟨rfl, rfl⟩
  · have Hx := Lib.hid hx
    have t1 : decide ((48 : Int) ≤ C) = true := by simp; omega
    have t2 : decide (C ≤ (57 : Int)) = true := by simp; omega
    clear hx
    go_enter Tryd.func16, Tryd.ntmps16
    go_wp2
    go_ret
    exact ⟨ret_i (by have := Hx.out; omega), rfl⟩
  · have t1 : decide ((48 : Int) ≤ C) = true := by simp; omega
    have t2 : decide (C ≤ (57 : Int)) = false := by simp; omega
    have t3 : decide ((97 : Int) ≤ C) = false := by simp; omega
    have t4 : decide ((65 : Int) ≤ C) = false := by simp; omega
    go_enter Tryd.func16, Tryd.ntmps16
    go_wp2
    go_ret
    exact ⟨rfl, rfl⟩
  · have Hx := Lib.hid hx
    have t1 : decide ((48 : Int) ≤ C) = true := by simp; omega
    have t2 : decide (C ≤ (57 : Int)) = false := by simp; omega
    have t3 : decide ((97 : Int) ≤ C) = false := by simp; omega
    have t4 : decide ((65 : Int) ≤ C) = true := by simp; omega
    have t5 : decide (C ≤ (70 : Int)) = true := by simp; omega
    clear hx
    go_enter Tryd.func16, Tryd.ntmps16
    go_wp2
    go_ret
    exact ⟨ret_i (by have := Hx.out; omega), rfl⟩
  · have t1 : decide ((48 : Int) ≤ C) = true := by simp; omega
    have t2 : decide (C ≤ (57 : Int)) = false := by simp; omega
    have t3 : decide ((97 : Int) ≤ C) = false := by simp; omega
    have t4 : decide ((65 : Int) ≤ C) = true := by simp; omega
    have t5 : decide (C ≤ (70 : Int)) = false := by simp; omega
    go_enter Tryd.func16, Tryd.ntmps16
    go_wp2
    go_ret
    exact ⟨rfl, rfl⟩
  · have Hx := Lib.hid hx
    have t1 : decide ((48 : Int) ≤ C) = true := by simp; omega
    have t2 : decide (C ≤ (57 : Int)) = false := by simp; omega
    have t3 : decide ((97 : Int) ≤ C) = true := by simp; omega
    have t4 : decide (C ≤ (102 : Int)) = true := by simp; omega
    clear hx
    go_enter Tryd.func16, Tryd.ntmps16
    go_wp2
    go_ret
    exact ⟨ret_i (by have := Hx.out; omega), rfl⟩
  · have t1 : decide ((48 : Int) ≤ C) = true := by simp; omega
    have t2 : decide (C ≤ (57 : Int)) = false := by simp; omega
    have t3 : decide ((97 : Int) ≤ C) = true := by simp; omega
    have t4 : decide (C ≤ (102 : Int)) = false := by simp; omega
    have t5 : decide ((65 : Int) ≤ C) = true := by simp; omega
    have t6 : decide (C ≤ (70 : Int)) = false := by simp; omega
    go_enter Tryd.func16, Tryd.ntmps16
    go_wp2
    go_ret
    exact ⟨rfl, rfl⟩
end Go.Proofs.YtakgkdgielkieaaDoor
