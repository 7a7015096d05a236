/- The reference's decimal of an int, for any of some size. -/
import Derived.Test.YtmfcfkmkmlcepaaDoorDDec
namespace Go.Proofs.YtmfcfkmkmlcepaaDoor
open Go.RowKit
set_option linter.unusedVariables false

theorem refdec_any (z : Int) (w : World) (h1 : -100000000 ≤ z) (h2 : z ≤ 100000000) :
    Calls Tryd.prog 12 #[.int .i64 z] w fun e w' => e = .returned (.string (bytes (M.txt z))) ∧ w = w' := by
  by_cases h : 0 ≤ z
  · obtain ⟨n, rfl⟩ : ∃ n : Nat, z = n := ⟨z.toNat, by omega⟩
    rw [M.txt_nat]
    exact refdec_pos n n w (Nat.le_refl _) (by omega)
  · obtain ⟨n, hn⟩ : ∃ n : Nat, z = -(n : Int) := ⟨(-z).toNat, by omega⟩
    have hcall := fun W => refdec_pos n n W (Nat.le_refl _) (by omega)
    have hl := M.decS_len n 8 (by omega)
    obtain ⟨S, hS⟩ : ∃ S, bytes (M.decS n) = S := ⟨_, rfl⟩
    have hSs : S.size ≤ 100 := by rw [← hS, bytes_size]; omega
    have hcat : ByteArray.mk #[45] ++ S = bytes (M.txt z) := by
      rw [hn, M.txt_minus n (by omega), ← hS]; apply ByteArray.ext; simp [bytes]
    have a1 : ∀ W, (Op.stringOp .add (ByteArray.mk #[45]) S).run Tryd.prog W = .ok (.string (ByteArray.mk #[45] ++ S)) W := fun W => run_string_add W _ _ (by rw [show (ByteArray.mk #[45]).size = 1 from rfl]; decide) (by omega)
    rw [hS, show (n : Int) = -z by omega] at hcall
    have hz : z < 0 := by omega
    have Hc := Lib.hid hcall
    have Hcat := Lib.hid hcat
    clear hcall hcat hS hl hn h
    go_enter Tryd.func12, Tryd.ntmps12
    go_wp2_with fail
    refine (Hc.out _).mono ?_
    rintro e w' ⟨rfl, rfl⟩
    go_wp2_with fail
    go_ret
    exact ⟨by rw [← Hcat.out]; rfl, rfl⟩
end Go.Proofs.YtmfcfkmkmlcepaaDoor
