/- Texts of ours in one: JgR. -/
import Derived.Test.YtbfnlgmhfhaglaaGreatDoorQk10
import Derived.Test.YtbfnlgmhfhaglaaGreatDoorQk00
import Derived.Deep.QuietTactic
import Derived.BigQuiet
import Derived.Outline
import Derived.Test.YtbfnlgmhfhaglaaGreatDoorQk13
import Derived.Test.YtbfnlgmhfhaglaaGreatDoorQk02
import Derived.Deep.AppendLies
import Derived.Deep.RegionHeld3
import Derived.Deep.DeepCutAuto
/- Several texts of ours in one: DRef DReck DReck2 DDec DRAdd NRRight NRRun NRNum0. -/
/- Decimals: the reference's own words: digits, RightDecimal. -/
namespace Go.Proofs.YtbfnlgmhfhaglaaGreatDoor
open Go.RowKit
set_option linter.unusedVariables false
set_option linter.unusedSimpArgs false

end Go.Proofs.YtbfnlgmhfhaglaaGreatDoor

/- Decimals: the reference's sign, smaller, digit, reckon. -/
namespace Go.Proofs.YtbfnlgmhfhaglaaGreatDoor
open Go.RowKit
set_option linter.unusedVariables false
set_option linter.unusedSimpArgs false

end Go.Proofs.YtbfnlgmhfhaglaaGreatDoor

/- Decimals: the reference's reckon: two rows of digits together, or one less the other. -/
namespace Go.Proofs.YtbfnlgmhfhaglaaGreatDoor
open Go.RowKit
set_option linter.unusedVariables false
set_option linter.unusedSimpArgs false

end Go.Proofs.YtbfnlgmhfhaglaaGreatDoor

/- Decimals: the reference's Dec: the decimal text of an int. -/
namespace Go.Proofs.YtbfnlgmhfhaglaaGreatDoor
open Go.RowKit
set_option linter.unusedVariables false
set_option linter.unusedSimpArgs false

theorem dig_cut (k : Nat) (hk : k < 10) (s e : Nat) (hs : s = k) (he : e = k + 1) : (ByteArray.mk #[48, 49, 50, 51, 52, 53, 54, 55, 56, 57]).extract s e = bytes [M.ofD k] := by
  subst hs he
  have : s = 0 ∨ s = 1 ∨ s = 2 ∨ s = 3 ∨ s = 4 ∨ s = 5 ∨ s = 6 ∨ s = 7 ∨ s = 8 ∨ s = 9 := by omega
  rcases this with rfl | rfl | rfl | rfl | rfl | rfl | rfl | rfl | rfl | rfl <;> decide +kernel
theorem bytes_app (k l : List UInt8) : bytes k ++ bytes l = bytes (k ++ l) := by
  apply ByteArray.ext; simp [bytes]

theorem ret_s {a b : ByteArray} (h : a = b) : Ending.returned (.string a) = .returned (.string b) := by rw [h]
set_option maxRecDepth 100000 in
set_option maxHeartbeats 1000000 in
theorem refdec_pos (k : Nat) : ∀ (n : Nat) (w : World), n ≤ k → n ≤ 100000000 →
    Calls Tryz.prog 16 #[.int .i64 (n : Int)] w fun e w' => e = .returned (.string (bytes (M.decS n))) ∧ w = w' := by
  induction k with
  | zero =>
    intro n w hk _
    obtain rfl : n = 0 := by omega
    go_enter Tryz.func16, Tryz.ntmps16
    go_wp2_with fail
    go_ret
    exact ⟨rfl, rfl⟩
  | succ k ih =>
    intro n w hk hn
    obtain ⟨N, hN⟩ : ∃ N : Int, (n : Int) = N := ⟨_, rfl⟩
    have hN0 : 0 ≤ N := by omega
    have hN1 : N ≤ 100000000 := by omega
    have hcut := fun s e hs he => dig_cut (n % 10) (by omega) s e hs he
    have Hcut := Lib.hid hcut
    have HN := Lib.hid hN
    by_cases h9 : n ≤ 9
    · have h9' : N ≤ 9 := by omega
      have hd : M.ofD (n % 10) = M.ofD n := by unfold M.ofD; congr 1; omega
      rw [hN, M.decS_small n h9]
      have Hd := Lib.hid hd
      clear hcut hd hN hk hn h9
      go_enter Tryz.func16, Tryz.ntmps16
      go_wp2_with fail
      go_ret
      exact ⟨ret_s (by rw [Hcut.out _ _ (by have := HN.out; omega) (by have := HN.out; omega), Hd.out]), rfl⟩
    · have h9' : 9 < N := by omega
      have hd : M.ofD (n % 10) = M.ofD n := by unfold M.ofD; congr 1; omega
      have hcall := fun W => ih (n / 10) W (by omega) (by omega)
      rw [show ((n / 10 : Nat) : Int) = N / 10 by omega] at hcall
      have hl := M.decS_len (n / 10) 8 (by omega)
      obtain ⟨S, hS⟩ : ∃ S, bytes (M.decS (n / 10)) = S := ⟨_, rfl⟩
      have hSs : S.size ≤ 100 := by rw [← hS, bytes_size]; omega
      rw [hS] at hcall
      have hsum : S ++ bytes [M.ofD n] = bytes (M.decS n) := by rw [← hS, bytes_app, ← M.decS_step n (by omega)]
      obtain ⟨T, hT⟩ : ∃ T, (ByteArray.mk #[48, 49, 50, 51, 52, 53, 54, 55, 56, 57]).extract (N % 10).toNat (N % 10 + 1).toNat = T := ⟨_, rfl⟩
      have hTe : T = bytes [M.ofD n] := by rw [← hT, hcut _ _ (by omega) (by omega), hd]
      have hTs : T.size ≤ 100 := by rw [hTe, bytes_size]; simp
      rw [← hTe] at hsum
      have a1 : ∀ W, (Op.stringOp .add S T).run Tryz.prog W = .ok (.string (S ++ T)) W := fun W => run_string_add W _ _ (by omega) (by omega)
      have Hc := Lib.hid hcall
      have Hsum := Lib.hid hsum
      have HT := Lib.hid hT
      rw [hN, ← hsum]
      clear hcut hd hN hk hn h9 hcall hl hS hsum hT hTe ih Hcut
      go_enter Tryz.func16, Tryz.ntmps16
      go_wp2_with fail
      simp only [HT.out]
      refine (Hc.out _).mono ?_
      rintro e w' ⟨rfl, rfl⟩
      go_wp2_with fail
      go_ret
      exact ⟨rfl, rfl⟩
end Go.Proofs.YtbfnlgmhfhaglaaGreatDoor

/- Decimals: the reference's Add, LessDecimal, Int, Dec, for any arguments of the size that the laws speak of. -/
namespace Go.Proofs.YtbfnlgmhfhaglaaGreatDoor
open Go.RowKit
set_option linter.unusedVariables false
set_option linter.unusedSimpArgs false

theorem refdec_any (z : Int) (w : World) (h1 : -100000000 ≤ z) (h2 : z ≤ 100000000) :
    Calls Tryz.prog 16 #[.int .i64 z] w fun e w' => e = .returned (.string (bytes (M.txt z))) ∧ w = w' := by
  by_cases h : 0 ≤ z
  · obtain ⟨n, rfl⟩ : ∃ n : Nat, z = n := ⟨z.toNat, by omega⟩
    rw [M.txt_nat]
    exact refdec_pos n n w (Nat.le_refl _) (by omega)
  · obtain ⟨n, hn⟩ : ∃ n : Nat, z = -(n : Int) := ⟨(-z).toNat, by omega⟩
    have hcall := fun W => refdec_pos n n W (Nat.le_refl _) (by omega)
    have hl := M.decS_len n 8 (by omega)
    obtain ⟨S, hS⟩ : ∃ S, bytes (M.decS n) = S := ⟨_, rfl⟩
    have hSs : S.size ≤ 100 := by rw [← hS, bytes_size]; omega
    have hcat : ByteArray.mk #[45] ++ S = bytes (M.txt z) := by
      rw [hn, M.txt_minus n (by omega), ← hS]; apply ByteArray.ext; simp [bytes]
    have a1 : ∀ W, (Op.stringOp .add (ByteArray.mk #[45]) S).run Tryz.prog W = .ok (.string (ByteArray.mk #[45] ++ S)) W := fun W => run_string_add W _ _ (by rw [show (ByteArray.mk #[45]).size = 1 from rfl]; decide) (by omega)
    rw [hS, show (n : Int) = -z by omega] at hcall
    have hz : z < 0 := by omega
    have Hc := Lib.hid hcall
    have Hcat := Lib.hid hcat
    clear hcall hcat hS hl hn h
    go_enter Tryz.func16, Tryz.ntmps16
    go_wp2_with fail
    refine (Hc.out _).mono ?_
    rintro e w' ⟨rfl, rfl⟩
    go_wp2_with fail
    go_ret
    exact ⟨by rw [← Hcat.out]; rfl, rfl⟩

end Go.Proofs.YtbfnlgmhfhaglaaGreatDoor

/- Numbers: the reference's RightNum. -/
namespace Go.Proofs.YtbfnlgmhfhaglaaGreatDoor
open Go.RowKit
set_option linter.unusedVariables false
set_option linter.unusedSimpArgs false

end Go.Proofs.YtbfnlgmhfhaglaaGreatDoor

/- Numbers: the reference's run and stripped. -/
namespace Go.Proofs.YtbfnlgmhfhaglaaGreatDoor
open Go.RowKit
set_option linter.unusedVariables false
set_option linter.unusedSimpArgs false

end Go.Proofs.YtbfnlgmhfhaglaaGreatDoor

/- Numbers: the reference's ReadNum. -/
namespace Go.Proofs.YtbfnlgmhfhaglaaGreatDoor
open Go.RowKit
set_option linter.unusedVariables false
set_option linter.unusedSimpArgs false

end Go.Proofs.YtbfnlgmhfhaglaaGreatDoor
