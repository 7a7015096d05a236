/- The walk of DecimalOrder: what the call comes to, in any memory in which the tables are laid. -/
import Derived.Test.YtmhjafpoaamkeaaDoorDTied
import Derived.WalkKit
import Derived.ProofKit
import Derived.OpenShut
import Derived.ShutString
import Derived.ChangeOld
import Derived.Below
import Derived.Test.YtmhjafpoaamkeaaDoorDAlive
import Derived.Test.YtmhjafpoaamkeaaDoorDRef
import Derived.Test.YtmhjafpoaamkeaaDoorDMath4
namespace Go.Proofs.YtmhjafpoaamkeaaDoor.decimalOrder
open Go.ChangeShapes Go.WideShapes Go.ChangeAt Go.RowKit
open Go.ChangeMaps (open_string shut_string)
set_option linter.unusedVariables false

set_option linter.unusedSimpArgs false
set_option maxRecDepth 100000 in
set_option maxHeartbeats 4000000 in
theorem walk_l (a b c : List UInt8) (w : World) :
    Calls Tryd.prog 6 #[.string (bytes a), .string (bytes b), .string (bytes c)] w fun e w' => e = .returned (.bool true) ∧ Below w.heap.size w w' := by
  have sa := bytes_size a
  have sb := bytes_size b
  have sc := bytes_size c
  have na := toList_bytes a
  have nb := toList_bytes b
  by_cases la : 100 < a.length
  · have h1 : (100 : Int) < (a.length : Int) := by omega
    clear sb sc na nb
    go_enter Tryd.func6, Tryd.ntmps6
    go_wp2_with fail
    refine (alive_any _).mono ?_
    rintro e w1 ⟨rfl, hb⟩
    go_wp2
    go_ret
    exact ⟨rfl, hb⟩
  by_cases lb : 100 < b.length
  · have h1 : (100 : Int) < (b.length : Int) := by omega
    clear sc na nb
    go_enter Tryd.func6, Tryd.ntmps6
    go_wp2_with fail
    refine (alive_any _).mono ?_
    rintro e w1 ⟨rfl, hb⟩
    go_wp2
    go_ret
    exact ⟨rfl, hb⟩
  by_cases lc : 100 < c.length
  · have h1 : (100 : Int) < (c.length : Int) := by omega
    clear na nb
    go_enter Tryd.func6, Tryd.ntmps6
    go_wp2_with fail
    refine (alive_any _).mono ?_
    rintro e w1 ⟨rfl, hb⟩
    go_wp2
    go_ret
    exact ⟨rfl, hb⟩
  cases ra : M.rightD a with
  | false =>
    have A1 := Lib.hid (fun W => refright_any a false W (by omega) ra)
    clear na nb ra
    go_enter Tryd.func6, Tryd.ntmps6
    go_wp2_with fail
    refine (alive_any _).mono ?_
    rintro e w1 ⟨rfl, hb⟩
    go_wp2_with fail
    refine (A1.out _).mono ?_
    rintro e w' ⟨rfl, rfl⟩
    go_wp2
    go_ret
    exact ⟨rfl, hb⟩
  | true =>
  have A1 := Lib.hid (fun W => refright_any a true W (by omega) ra)
  cases rb : M.rightD b with
  | false =>
    have B1 := Lib.hid (fun W => refright_any b false W (by omega) rb)
    clear na nb ra rb
    go_enter Tryd.func6, Tryd.ntmps6
    go_wp2_with fail
    refine (alive_any _).mono ?_
    rintro e w1 ⟨rfl, hb⟩
    go_wp2_with fail
    refine (A1.out _).mono ?_
    rintro e w' ⟨rfl, rfl⟩
    go_wp2_with fail
    refine (B1.out _).mono ?_
    rintro e w' ⟨rfl, rfl⟩
    go_wp2
    go_ret
    exact ⟨rfl, hb⟩
  | true =>
  have B1 := Lib.hid (fun W => refright_any b true W (by omega) rb)
  cases rc : M.rightD c with
  | false =>
    have C1 := Lib.hid (fun W => refright_any c false W (by omega) rc)
    clear na nb ra rb rc
    go_enter Tryd.func6, Tryd.ntmps6
    go_wp2_with fail
    refine (alive_any _).mono ?_
    rintro e w1 ⟨rfl, hb⟩
    go_wp2_with fail
    refine (A1.out _).mono ?_
    rintro e w' ⟨rfl, rfl⟩
    go_wp2_with fail
    refine (B1.out _).mono ?_
    rintro e w' ⟨rfl, rfl⟩
    go_wp2_with fail
    refine (C1.out _).mono ?_
    rintro e w' ⟨rfl, rfl⟩
    go_wp2
    go_ret
    exact ⟨rfl, hb⟩
  | true =>
  have C1 := Lib.hid (fun W => refright_any c true W (by omega) rc)
  have lx := M.sum_len a c ra rc 100 (by omega) (by omega)
  have ly := M.sum_len b c rb rc 100 (by omega) (by omega)
  have hxy := M.less_sums a b c ra rb rc
  have hadd1 := M.add_right a c ra rc
  have hadd2 := M.add_right b c rb rc
  obtain ⟨x, hx⟩ : ∃ x, M.txt (M.valD a + M.valD c) = x := ⟨_, rfl⟩
  obtain ⟨y, hy⟩ : ∃ y, M.txt (M.valD b + M.valD c) = y := ⟨_, rfl⟩
  rw [hx] at lx hadd1
  rw [hy] at ly hadd2
  rw [hx, hy] at hxy
  have X1 := Lib.hid (fun W => add_any a c (x, true) W (by omega) (by omega) hadd1)
  have Y1 := Lib.hid (fun W => add_any b c (y, true) W (by omega) (by omega) hadd2)
  have hp := M.less_right a b ra rb
  have hq := M.less_right b a rb ra
  have hinj := M.val_inj a b ra rb
  rcases Int.lt_trichotomy (M.valD a) (M.valD b) with hlt | heq | hgt
  · rw [show decide (M.valD a < M.valD b) = true by simpa using hlt] at hp
    rw [show decide (M.valD b < M.valD a) = false by simp; omega] at hq
    rw [hp] at hxy
    have hne : ((bytes a).toList == (bytes b).toList) = false := by
      rw [na, nb, beq_eq_false_iff_ne]; intro h; rw [h] at hlt; omega
    have P1 := Lib.hid (fun W => less_any a b true W (by omega) (by omega) hp)
    have Q1 := Lib.hid (fun W => less_any b a false W (by omega) (by omega) hq)
    have Z1 := Lib.hid (fun W => less_any x y true W (by omega) (by omega) hxy)
    clear hp hq hinj hlt hx hy lx ly hadd1 hadd2 hxy ra rb rc na nb
    go_enter Tryd.func6, Tryd.ntmps6
    go_wp2_with fail
    refine (alive_any _).mono ?_
    rintro e w1 ⟨rfl, hb⟩
    go_wp2_with fail
    refine (A1.out _).mono ?_
    rintro e w' ⟨rfl, rfl⟩
    go_wp2_with fail
    refine (B1.out _).mono ?_
    rintro e w' ⟨rfl, rfl⟩
    go_wp2_with fail
    refine (C1.out _).mono ?_
    rintro e w' ⟨rfl, rfl⟩
    go_wp2_with fail
    refine (P1.out _).mono ?_
    rintro e w' ⟨rfl, rfl⟩
    go_wp2_with fail
    refine (Q1.out _).mono ?_
    rintro e w' ⟨rfl, rfl⟩
    go_wp2_with fail
    refine (X1.out _).mono ?_
    rintro e w2 ⟨rfl, hb2⟩
    unfold strB
    go_wp2_with fail
    refine (Y1.out _).mono ?_
    rintro e w3 ⟨rfl, hb3⟩
    unfold strB
    go_wp2_with fail
    refine (Z1.out _).mono ?_
    rintro e w' ⟨rfl, rfl⟩
    go_wp2_with fail
    refine (P1.out _).mono ?_
    rintro e w' ⟨rfl, rfl⟩
    go_wp2
    go_ret
    exact ⟨by rfl, (hb.trans (hb2.mono hb.size)).trans (hb3.mono (Nat.le_trans hb.size hb2.size))⟩
  · have hab := hinj heq
    subst hab
    rw [show decide (M.valD a < M.valD a) = false by simp] at hp
    rw [hp] at hxy
    have hne : ((bytes a).toList == (bytes a).toList) = true := by simp
    have P1 := Lib.hid (fun W => less_any a a false W (by omega) (by omega) hp)
    have Z1 := Lib.hid (fun W => less_any x y false W (by omega) (by omega) hxy)
    clear hp hq hinj heq hx hy lx ly hadd1 hadd2 hxy ra rb rc na nb
    go_enter Tryd.func6, Tryd.ntmps6
    go_wp2_with fail
    refine (alive_any _).mono ?_
    rintro e w1 ⟨rfl, hb⟩
    go_wp2_with fail
    refine (A1.out _).mono ?_
    rintro e w' ⟨rfl, rfl⟩
    go_wp2_with fail
    refine (A1.out _).mono ?_
    rintro e w' ⟨rfl, rfl⟩
    go_wp2_with fail
    refine (C1.out _).mono ?_
    rintro e w' ⟨rfl, rfl⟩
    go_wp2_with fail
    refine (P1.out _).mono ?_
    rintro e w' ⟨rfl, rfl⟩
    go_wp2_with fail
    refine (P1.out _).mono ?_
    rintro e w' ⟨rfl, rfl⟩
    go_wp2_with fail
    refine (X1.out _).mono ?_
    rintro e w2 ⟨rfl, hb2⟩
    unfold strB
    go_wp2_with fail
    refine (Y1.out _).mono ?_
    rintro e w3 ⟨rfl, hb3⟩
    unfold strB
    go_wp2_with fail
    refine (Z1.out _).mono ?_
    rintro e w' ⟨rfl, rfl⟩
    go_wp2_with fail
    refine (P1.out _).mono ?_
    rintro e w' ⟨rfl, rfl⟩
    go_wp2
    go_ret
    exact ⟨by rfl, (hb.trans (hb2.mono hb.size)).trans (hb3.mono (Nat.le_trans hb.size hb2.size))⟩
  · rw [show decide (M.valD a < M.valD b) = false by simp; omega] at hp
    rw [show decide (M.valD b < M.valD a) = true by simpa using hgt] at hq
    rw [hp] at hxy
    have hne : ((bytes a).toList == (bytes b).toList) = false := by
      rw [na, nb, beq_eq_false_iff_ne]; intro h; rw [h] at hgt; omega
    have P1 := Lib.hid (fun W => less_any a b false W (by omega) (by omega) hp)
    have Q1 := Lib.hid (fun W => less_any b a true W (by omega) (by omega) hq)
    have Z1 := Lib.hid (fun W => less_any x y false W (by omega) (by omega) hxy)
    clear hp hq hinj hgt hx hy lx ly hadd1 hadd2 hxy ra rb rc na nb
    go_enter Tryd.func6, Tryd.ntmps6
    go_wp2_with fail
    refine (alive_any _).mono ?_
    rintro e w1 ⟨rfl, hb⟩
    go_wp2_with fail
    refine (A1.out _).mono ?_
    rintro e w' ⟨rfl, rfl⟩
    go_wp2_with fail
    refine (B1.out _).mono ?_
    rintro e w' ⟨rfl, rfl⟩
    go_wp2_with fail
    refine (C1.out _).mono ?_
    rintro e w' ⟨rfl, rfl⟩
    go_wp2_with fail
    refine (P1.out _).mono ?_
    rintro e w' ⟨rfl, rfl⟩
    go_wp2_with fail
    refine (Q1.out _).mono ?_
    rintro e w' ⟨rfl, rfl⟩
    go_wp2_with fail
    refine (X1.out _).mono ?_
    rintro e w2 ⟨rfl, hb2⟩
    unfold strB
    go_wp2_with fail
    refine (Y1.out _).mono ?_
    rintro e w3 ⟨rfl, hb3⟩
    unfold strB
    go_wp2_with fail
    refine (Z1.out _).mono ?_
    rintro e w' ⟨rfl, rfl⟩
    go_wp2_with fail
    refine (P1.out _).mono ?_
    rintro e w' ⟨rfl, rfl⟩
    go_wp2
    go_ret
    exact ⟨by rfl, (hb.trans (hb2.mono hb.size)).trans (hb3.mono (Nat.le_trans hb.size hb2.size))⟩

theorem walk (a0 a1 a2 : ByteArray) (w0 : a0.size ≤ maxLen) (w1 : a1.size ≤ maxLen) (w2 : a2.size ≤ maxLen) (w : World) (hT : Tabs w) :
    Calls Tryd.prog 6 #[.string a0, .string a1, .string a2] w fun e w' => e = .returned (.bool true) ∧ Below w.heap.size w w' := by
  have := walk_l a0.data.toList a1.data.toList a2.data.toList w
  rwa [bytes_of, bytes_of, bytes_of] at this

end Go.Proofs.YtmhjafpoaamkeaaDoor.decimalOrder
