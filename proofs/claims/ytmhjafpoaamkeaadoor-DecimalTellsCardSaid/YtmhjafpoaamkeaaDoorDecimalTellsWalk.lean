/- The walk of DecimalTells: what the call comes to, in any memory in which the tables are laid. -/
import Derived.Test.YtmhjafpoaamkeaaDoorDTied7
import Derived.WalkKit
import Derived.ProofKit
import Derived.OpenShut
import Derived.ShutString
import Derived.ChangeOld
import Derived.Below
import Derived.Test.YtmhjafpoaamkeaaDoorDAlive
import Derived.Test.YtmhjafpoaamkeaaDoorDRLess
import Derived.Test.YtmhjafpoaamkeaaDoorDMath5
namespace Go.Proofs.YtmhjafpoaamkeaaDoor.decimalTells
open Go.ChangeShapes Go.WideShapes Go.ChangeAt Go.RowKit
open Go.ChangeMaps (open_string shut_string)
set_option linter.unusedVariables false

set_option linter.unusedSimpArgs false
set_option maxRecDepth 100000 in
set_option maxHeartbeats 4000000 in
theorem walk_l (a b : List UInt8) (w : World) :
    Calls Tryd.prog 3 #[.string (bytes a), .string (bytes b)] w fun e w' => e = .returned (.bool true) ∧ Below w.heap.size w w' := by
  have al := Lib.hid (fun W => alive_any W)
  have sa := bytes_size a
  have sb := bytes_size b
  by_cases la : 200 < a.length
  · have h1 : (200 : Int) < (a.length : Int) := by omega
    clear sb
    go_enter Tryd.func3, Tryd.ntmps3
    have c0 := Below.refl w.heap.size w
    go_wp2_with fail
    refine (al.out _).mono ?_
    rintro e w1 ⟨rfl, hb1⟩
    have c1 := c0.trans (hb1.mono c0.size)
    clear hb1 c0
    go_wp2
    go_ret
    exact ⟨rfl, c1⟩
  by_cases lb : 200 < b.length
  · have h1 : (200 : Int) < (b.length : Int) := by omega
    go_enter Tryd.func3, Tryd.ntmps3
    have c0 := Below.refl w.heap.size w
    go_wp2_with fail
    refine (al.out _).mono ?_
    rintro e w1 ⟨rfl, hb1⟩
    have c1 := c0.trans (hb1.mono c0.size)
    clear hb1 c0
    go_wp2
    go_ret
    exact ⟨rfl, c1⟩
  obtain ⟨⟨s, ok⟩, hs⟩ : ∃ s, M.addD a b = s := ⟨_, rfl⟩
  obtain ⟨⟨n, has⟩, hn⟩ : ∃ s, M.intD a = s := ⟨_, rfl⟩
  obtain ⟨r, hr⟩ : ∃ s, M.rightD a = s := ⟨_, rfl⟩
  obtain ⟨q, hq⟩ : ∃ s, M.lessT a b = s := ⟨_, rfl⟩
  have X1 := Lib.hid (fun W => add_any a b _ W (by omega) (by omega) hs)
  have X2 := Lib.hid (fun W => refadd_any a b _ W (by omega) (by omega) hs)
  have X3 := Lib.hid (fun W => int_any a _ W (by omega) hn)
  have X4 := Lib.hid (fun W => refint_any a _ W (by omega) hn)
  have R1 := Lib.hid (fun W => right_any a r W (by omega) hr)
  have R2 := Lib.hid (fun W => refright_any a r W (by omega) hr)
  have L1 := Lib.hid (fun W => less_any a b q W (by omega) (by omega) hq)
  have L2 := Lib.hid (fun W => refless_any a b q W (by omega) (by omega) hq)
  unfold strB at X1 X2
  unfold intB at X3 X4
  dsimp only at X1 X2 X3 X4
  obtain ⟨S, hS⟩ : ∃ S, bytes s = S := ⟨_, rfl⟩
  obtain ⟨A, hA⟩ : ∃ S, bytes a = S := ⟨_, rfl⟩
  obtain ⟨B, hB⟩ : ∃ S, bytes b = S := ⟨_, rfl⟩
  rw [hS] at X1 X2
  rw [hA] at X1 X2 X3 X4 R1 R2 L1 L2 sa ⊢
  rw [hB] at X1 X2 L1 L2 sb ⊢
  have lA : A.size ≤ 200 := by omega
  have lB : B.size ≤ 200 := by omega
  have e1 : (S.toList == S.toList) = true := by simp
  have e2 : (n == n) = true := by simp
  have e3 : (ok == ok) = true := by simp
  have e4 : (has == has) = true := by simp
  have e5 : (r == r) = true := by simp
  have e6 : (q == q) = true := by simp
  clear hs hn hr hq hS hA hB sa sb la lb
  go_enter Tryd.func3, Tryd.ntmps3
  have c0 := Below.refl w.heap.size w
  go_wp2_with fail
  refine (al.out _).mono ?_
  rintro e w1 ⟨rfl, hb1⟩
  have c1 := c0.trans (hb1.mono c0.size)
  clear hb1 c0
  go_wp2_with fail
  refine (X1.out _).mono ?_
  rintro e w2 ⟨rfl, hb2⟩
  have c2 := c1.trans (hb2.mono c1.size)
  clear hb2 c1
  go_wp2_with fail
  refine (X2.out _).mono ?_
  rintro e w3 ⟨rfl, hb3⟩
  have c3 := c2.trans (hb3.mono c2.size)
  clear hb3 c2
  go_wp2_with fail
  refine (X3.out _).mono ?_
  rintro e w4 ⟨rfl, hb4⟩
  have c4 := c3.trans (hb4.mono c3.size)
  clear hb4 c3
  go_wp2_with fail
  refine (X4.out _).mono ?_
  rintro e w5 ⟨rfl, hb5⟩
  have c5 := c4.trans (hb5.mono c4.size)
  clear hb5 c4
  go_wp2_with fail
  refine (R1.out _).mono ?_
  rintro e w' ⟨rfl, rfl⟩
  go_wp2_with fail
  refine (R2.out _).mono ?_
  rintro e w' ⟨rfl, rfl⟩
  go_wp2_with fail
  refine (L1.out _).mono ?_
  rintro e w' ⟨rfl, rfl⟩
  go_wp2_with fail
  refine (L2.out _).mono ?_
  rintro e w6 ⟨rfl, hb6⟩
  have c6 := c5.trans (hb6.mono c5.size)
  clear hb6 c5
  go_wp2
  go_ret
  exact ⟨by simp, c6⟩
theorem walk (a0 a1 : ByteArray) (w0 : a0.size ≤ maxLen) (w1 : a1.size ≤ maxLen) (w : World) (hT : Tabs w) :
    Calls Tryd.prog 3 #[.string a0, .string a1] w fun e w' => e = .returned (.bool true) ∧ Below w.heap.size w w' := by
  have := walk_l a0.data.toList a1.data.toList w
  rwa [bytes_of, bytes_of] at this

end Go.Proofs.YtmhjafpoaamkeaaDoor.decimalTells
