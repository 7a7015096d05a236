/- The walk of DecimalAdds: what the call comes to, in any memory in which the tables are laid. -/
import Derived.Test.YtmhjafpoaamkeaaDoorDTied
import Derived.WalkKit
import Derived.ProofKit
import Derived.OpenShut
import Derived.ShutString
import Derived.ChangeOld
import Derived.Below
import Derived.Test.YtmhjafpoaamkeaaDoorDAlive
import Derived.Test.YtmhjafpoaamkeaaDoorDRef
import Derived.Test.YtmhjafpoaamkeaaDoorDMath5
namespace Go.Proofs.YtmhjafpoaamkeaaDoor.decimalAdds
open Go.ChangeShapes Go.WideShapes Go.ChangeAt Go.RowKit
open Go.ChangeMaps (open_string shut_string)
set_option linter.unusedVariables false

set_option linter.unusedSimpArgs false
set_option maxRecDepth 100000 in
set_option maxHeartbeats 4000000 in
theorem walk_l (a b c : List UInt8) (w : World) :
    Calls Tryd.prog 5 #[.string (bytes a), .string (bytes b), .string (bytes c)] w fun e w' => e = .returned (.bool true) ∧ Below w.heap.size w w' := by
  have sa := bytes_size a
  have sb := bytes_size b
  have sc := bytes_size c
  have na := toList_bytes a
  have nb := toList_bytes b
  by_cases la : 100 < a.length
  · have h1 : (100 : Int) < (a.length : Int) := by omega
    clear sb sc na nb
    go_enter Tryd.func5, Tryd.ntmps5
    go_wp2_with fail
    refine (alive_any _).mono ?_
    rintro e w1 ⟨rfl, hb⟩
    go_wp2
    go_ret
    exact ⟨rfl, hb⟩
  by_cases lb : 100 < b.length
  · have h1 : (100 : Int) < (b.length : Int) := by omega
    clear sc na nb
    go_enter Tryd.func5, Tryd.ntmps5
    go_wp2_with fail
    refine (alive_any _).mono ?_
    rintro e w1 ⟨rfl, hb⟩
    go_wp2
    go_ret
    exact ⟨rfl, hb⟩
  by_cases lc : 100 < c.length
  · have h1 : (100 : Int) < (c.length : Int) := by omega
    clear na nb
    go_enter Tryd.func5, Tryd.ntmps5
    go_wp2_with fail
    refine (alive_any _).mono ?_
    rintro e w1 ⟨rfl, hb⟩
    go_wp2
    go_ret
    exact ⟨rfl, hb⟩
  cases ra : M.rightD a with
  | false =>
    have A1 := Lib.hid (fun W => refright_any a false W (by omega) ra)
    clear na nb ra
    go_enter Tryd.func5, Tryd.ntmps5
    go_wp2_with fail
    refine (alive_any _).mono ?_
    rintro e w1 ⟨rfl, hb⟩
    go_wp2_with fail
    refine (A1.out _).mono ?_
    rintro e w' ⟨rfl, rfl⟩
    go_wp2
    go_ret
    exact ⟨rfl, hb⟩
  | true =>
  have A1 := Lib.hid (fun W => refright_any a true W (by omega) ra)
  cases rb : M.rightD b with
  | false =>
    have B1 := Lib.hid (fun W => refright_any b false W (by omega) rb)
    clear na nb ra rb
    go_enter Tryd.func5, Tryd.ntmps5
    go_wp2_with fail
    refine (alive_any _).mono ?_
    rintro e w1 ⟨rfl, hb⟩
    go_wp2_with fail
    refine (A1.out _).mono ?_
    rintro e w' ⟨rfl, rfl⟩
    go_wp2_with fail
    refine (B1.out _).mono ?_
    rintro e w' ⟨rfl, rfl⟩
    go_wp2
    go_ret
    exact ⟨rfl, hb⟩
  | true =>
  have B1 := Lib.hid (fun W => refright_any b true W (by omega) rb)
  cases rc : M.rightD c with
  | false =>
    have C1 := Lib.hid (fun W => refright_any c false W (by omega) rc)
    clear na nb ra rb rc
    go_enter Tryd.func5, Tryd.ntmps5
    go_wp2_with fail
    refine (alive_any _).mono ?_
    rintro e w1 ⟨rfl, hb⟩
    go_wp2_with fail
    refine (A1.out _).mono ?_
    rintro e w' ⟨rfl, rfl⟩
    go_wp2_with fail
    refine (B1.out _).mono ?_
    rintro e w' ⟨rfl, rfl⟩
    go_wp2_with fail
    refine (C1.out _).mono ?_
    rintro e w' ⟨rfl, rfl⟩
    go_wp2
    go_ret
    exact ⟨rfl, hb⟩
  | true =>
  have C1 := Lib.hid (fun W => refright_any c true W (by omega) rc)
  have lx := M.sum_len a b ra rb 100 (by omega) (by omega)
  have lu := M.sum_len b c rb rc 100 (by omega) (by omega)
  have hx := M.val_txt (M.valD a + M.valD b)
  have hu := M.val_txt (M.valD b + M.valD c)
  have f1 := M.add_right a b ra rb
  have f2 := M.add_right b a rb ra
  rw [Int.add_comm (M.valD b) (M.valD a)] at f2
  have f3 := M.add_right _ c hx.2 rc
  rw [hx.1] at f3
  have f4 := M.add_right b c rb rc
  have f5 := M.add_right a _ ra hu.2
  rw [hu.1, ← Int.add_assoc] at f5
  have f6 : ∀ n, M.rightD n = true → M.valD n = -M.valD b → M.addD (M.txt (M.valD a + M.valD b)) n = (a, true) := by
    intro n h1 h2
    rw [M.add_right _ n hx.2 h1, hx.1, h2, show M.valD a + M.valD b + -M.valD b = M.valD a by omega, M.txt_val a ra]
  have f7 : M.addD a [48] = (a, true) := by
    rw [M.add_right a [48] ra (by decide +kernel), show M.valD [48] = 0 by decide +kernel, Int.add_zero, M.txt_val a ra]
  obtain ⟨x, ex⟩ : ∃ x, M.txt (M.valD a + M.valD b) = x := ⟨_, rfl⟩
  obtain ⟨u, eu⟩ : ∃ u, M.txt (M.valD b + M.valD c) = u := ⟨_, rfl⟩
  obtain ⟨z, ez⟩ : ∃ z, M.txt (M.valD a + M.valD b + M.valD c) = z := ⟨_, rfl⟩
  rw [ex] at lx f1 f2 f3 f6 hx
  rw [eu] at lu f4 f5 hu
  rw [ez] at f3 f5
  have X1 := Lib.hid (fun W => add_any a b (x, true) W (by omega) (by omega) f1)
  have X2 := Lib.hid (fun W => add_any b a (x, true) W (by omega) (by omega) f2)
  have X3 := Lib.hid (fun W => add_any x c (z, true) W (by omega) (by omega) f3)
  have X4 := Lib.hid (fun W => add_any b c (u, true) W (by omega) (by omega) f4)
  have X5 := Lib.hid (fun W => add_any a u (z, true) W (by omega) (by omega) f5)
  have s1 : ∀ W, Calls Tryd.prog 8 #[.string (bytes a), .string ⟨#[48]⟩] W fun e w' => e = .returned (strB (a, true)) ∧ Below W.heap.size W w' := fun W => add_any a [48] (a, true) W (by omega) (by simp) f7
  have X7 := Lib.hid s1
  have R1 := Lib.hid (fun W => right_any x true W (by omega) hx.2)
  have e1 : ((bytes x).toList == (bytes x).toList) = true := by simp
  have e2 : ((bytes z).toList == (bytes z).toList) = true := by simp
  have e3 : ((bytes a).toList == (bytes a).toList) = true := by simp
  clear f1 f2 f3 f4 f5 f7 s1 lu hu eu ez ex
  by_cases b0 : b = [48]
  · subst b0
    have f8 := f6 [48] (by decide +kernel) (by decide +kernel)
    have s2 : ∀ W, Calls Tryd.prog 8 #[.string (bytes x), .string (bytes [48])] W fun e w' => e = .returned (strB (a, true)) ∧ Below W.heap.size W w' := fun W => add_any x [48] (a, true) W (by omega) (by simp) f8
    have X6 := Lib.hid s2
    have q1 : ((bytes [48]).toList == [48]) = true := by rw [toList_bytes]; rfl
    have a1 : ∀ W, (Op.stringOp .add (ByteArray.mk #[45]) (bytes [48])).run Tryd.prog W = .ok (.string (ByteArray.mk #[45] ++ bytes [48])) W := fun W => run_string_add W _ _ (by decide) (by decide)
    clear f6 f8 s2 hx lx ra rb rc na nb
    go_enter Tryd.func5, Tryd.ntmps5
    go_wp2_with fail
    refine (alive_any _).mono ?_
    rintro e w1 ⟨rfl, hb⟩
    go_wp2_with fail
    refine (A1.out _).mono ?_
    rintro e w' ⟨rfl, rfl⟩
    go_wp2_with fail
    refine (B1.out _).mono ?_
    rintro e w' ⟨rfl, rfl⟩
    go_wp2_with fail
    refine (C1.out _).mono ?_
    rintro e w' ⟨rfl, rfl⟩
    have c1 := hb
    go_wp2_with fail
    refine (X1.out _).mono ?_
    rintro e w2 ⟨rfl, hb2⟩
    unfold strB
    have c2 := c1.trans (hb2.mono c1.size)
    clear hb2 c1
    go_wp2_with fail
    refine (X2.out _).mono ?_
    rintro e w3 ⟨rfl, hb3⟩
    unfold strB
    have c3 := c2.trans (hb3.mono c2.size)
    clear hb3 c2
    go_wp2_with fail
    refine (X3.out _).mono ?_
    rintro e w4 ⟨rfl, hb4⟩
    unfold strB
    have c4 := c3.trans (hb4.mono c3.size)
    clear hb4 c3
    go_wp2_with fail
    refine (X4.out _).mono ?_
    rintro e w5 ⟨rfl, hb5⟩
    unfold strB
    have c5 := c4.trans (hb5.mono c4.size)
    clear hb5 c4
    go_wp2_with fail
    refine (X5.out _).mono ?_
    rintro e w6 ⟨rfl, hb6⟩
    unfold strB
    have c6 := c5.trans (hb6.mono c5.size)
    clear hb6 c5
    go_wp2_with fail
    refine (X6.out _).mono ?_
    rintro e w7 ⟨rfl, hb7⟩
    unfold strB
    have c7 := c6.trans (hb7.mono c6.size)
    clear hb7 c6
    go_wp2_with fail
    refine (X7.out _).mono ?_
    rintro e w8 ⟨rfl, hb8⟩
    unfold strB
    have c8 := c7.trans (hb8.mono c7.size)
    clear hb8 c7
    go_wp2_with fail
    refine (R1.out _).mono ?_
    rintro e w' ⟨rfl, rfl⟩
    go_wp2
    go_ret
    exact ⟨rfl, c8⟩
  by_cases b1 : M.isNeg b = true
  · obtain ⟨t, rfl⟩ : ∃ t, b = 45 :: t := by
      cases b with
      | nil => simp [M.isNeg] at b1
      | cons d t => simp [M.isNeg] at b1; exact ⟨t, by rw [b1]⟩
    have ⟨g1, g2, g3⟩ := M.neg_head t rb
    have f8 := f6 t g1 g2
    have X6 := Lib.hid (fun W => add_any x t (a, true) W (by omega) (by simp at lb; omega) f8)
    have q1 : ((bytes (45 :: t)).toList == [48]) = false := by rw [toList_bytes]; simp
    have htl := bytes_tail 45 t
    have Htl := Lib.hid htl
    have hpos : 0 < (bytes (45 :: t)).size := by rw [sb]; simp
    have hS0 : ∀ h : 0 < (bytes (45 :: t)).size, (bytes (45 :: t))[0]'h = 45 := fun _ => rfl
    have a1 : ∀ W, (Op.stringOp .add (ByteArray.mk #[45]) (bytes (45 :: t))).run Tryd.prog W = .ok (.string (ByteArray.mk #[45] ++ bytes (45 :: t))) W := fun W => run_string_add W _ _ (by rw [show (ByteArray.mk #[45]).size = 1 from rfl]; decide) (by rw [sb]; omega)
    obtain ⟨S, hS⟩ : ∃ S, bytes (45 :: t) = S := ⟨_, rfl⟩
    have lS : S.size ≤ 100 := by rw [← hS, sb]; omega
    clear f6 f8 htl hx lx ra rb rc na nb g1 g2 g3 b0 b1 sb
    rw [hS]
    simp only [hS] at B1 X1 X2 X4 q1 Htl hpos hS0 a1
    have hS1 : S[0]'hpos = 45 := hS0 hpos
    clear hS lb hS0
    go_enter Tryd.func5, Tryd.ntmps5
    go_wp2_with fail
    refine (alive_any _).mono ?_
    rintro e w1 ⟨rfl, hb⟩
    go_wp2_with fail
    refine (A1.out _).mono ?_
    rintro e w' ⟨rfl, rfl⟩
    go_wp2_with fail
    refine (B1.out _).mono ?_
    rintro e w' ⟨rfl, rfl⟩
    go_wp2_with fail
    refine (C1.out _).mono ?_
    rintro e w' ⟨rfl, rfl⟩
    have c1 := hb
    go_wp2_with fail
    refine (X1.out _).mono ?_
    rintro e w2 ⟨rfl, hb2⟩
    unfold strB
    have c2 := c1.trans (hb2.mono c1.size)
    clear hb2 c1
    go_wp2_with fail
    refine (X2.out _).mono ?_
    rintro e w3 ⟨rfl, hb3⟩
    unfold strB
    have c3 := c2.trans (hb3.mono c2.size)
    clear hb3 c2
    go_wp2_with fail
    refine (X3.out _).mono ?_
    rintro e w4 ⟨rfl, hb4⟩
    unfold strB
    have c4 := c3.trans (hb4.mono c3.size)
    clear hb4 c3
    go_wp2_with fail
    refine (X4.out _).mono ?_
    rintro e w5 ⟨rfl, hb5⟩
    unfold strB
    have c5 := c4.trans (hb5.mono c4.size)
    clear hb5 c4
    go_wp2_with fail
    refine (X5.out _).mono ?_
    rintro e w6 ⟨rfl, hb6⟩
    unfold strB
    have c6 := c5.trans (hb6.mono c5.size)
    clear hb6 c5
    go_wp2_with fail
    rw [Htl.out]
    refine (X6.out _).mono ?_
    rintro e w7 ⟨rfl, hb7⟩
    unfold strB
    have c7 := c6.trans (hb7.mono c6.size)
    clear hb7 c6
    go_wp2_with fail
    refine (X7.out _).mono ?_
    rintro e w8 ⟨rfl, hb8⟩
    unfold strB
    have c8 := c7.trans (hb8.mono c7.size)
    clear hb8 c7
    go_wp2_with fail
    refine (R1.out _).mono ?_
    rintro e w' ⟨rfl, rfl⟩
    go_wp2
    go_ret
    exact ⟨rfl, c8⟩
  · have hneg : M.isNeg b = false := by simpa using b1
    have ⟨g1, g2⟩ := M.neg_more b rb hneg b0
    have f8 := f6 (45 :: b) g1 g2
    have X6 := Lib.hid (fun W => add_any x (45 :: b) (a, true) W (by omega) (by simp; omega) f8)
    have q1 : ((bytes b).toList == [48]) = false := by rw [nb, beq_eq_false_iff_ne]; exact b0
    obtain ⟨d, t, hdt⟩ : ∃ d t, b = d :: t := by
      cases b with
      | nil => exact absurd rb (by decide +kernel)
      | cons d t => exact ⟨d, t, rfl⟩
    have hpos : 0 < (bytes b).size := by rw [sb, hdt]; simp
    have hd : d ≠ 45 := by
      intro h; rw [hdt, h] at hneg; simp [M.isNeg] at hneg
    have hS0 : ∀ h : 0 < (bytes b).size, (bytes b)[0]'h = d := by intro h; subst hdt; rfl
    have hdn : d.toNat ≠ 45 := fun hh => hd (UInt8.toNat_inj.1 hh)
    have q2 : ((d.toNat : Int) == 45) = false := by rw [beq_eq_false_iff_ne]; omega
    have hcat : ByteArray.mk #[45] ++ bytes b = bytes (45 :: b) := by
      apply ByteArray.ext; simp [bytes]
    have Hcat := Lib.hid hcat
    have a1 : ∀ W, (Op.stringOp .add (ByteArray.mk #[45]) (bytes b)).run Tryd.prog W = .ok (.string (ByteArray.mk #[45] ++ bytes b)) W := fun W => run_string_add W _ _ (by rw [show (ByteArray.mk #[45]).size = 1 from rfl]; decide) (by rw [sb]; omega)
    obtain ⟨S, hS⟩ : ∃ S, bytes b = S := ⟨_, rfl⟩
    have lS : S.size ≤ 100 := by rw [← hS, sb]; omega
    clear f6 f8 hcat hx lx ra rb rc na nb g1 g2 b0 b1 hneg sb hdn hd hdt
    rw [hS]
    simp only [hS] at B1 X1 X2 X4 q1 Hcat hpos hS0 a1
    have hS1 : S[0]'hpos = d := hS0 hpos
    clear hS lb hS0
    go_enter Tryd.func5, Tryd.ntmps5
    go_wp2_with fail
    refine (alive_any _).mono ?_
    rintro e w1 ⟨rfl, hb⟩
    go_wp2_with fail
    refine (A1.out _).mono ?_
    rintro e w' ⟨rfl, rfl⟩
    go_wp2_with fail
    refine (B1.out _).mono ?_
    rintro e w' ⟨rfl, rfl⟩
    go_wp2_with fail
    refine (C1.out _).mono ?_
    rintro e w' ⟨rfl, rfl⟩
    have c1 := hb
    go_wp2_with fail
    refine (X1.out _).mono ?_
    rintro e w2 ⟨rfl, hb2⟩
    unfold strB
    have c2 := c1.trans (hb2.mono c1.size)
    clear hb2 c1
    go_wp2_with fail
    refine (X2.out _).mono ?_
    rintro e w3 ⟨rfl, hb3⟩
    unfold strB
    have c3 := c2.trans (hb3.mono c2.size)
    clear hb3 c2
    go_wp2_with fail
    refine (X3.out _).mono ?_
    rintro e w4 ⟨rfl, hb4⟩
    unfold strB
    have c4 := c3.trans (hb4.mono c3.size)
    clear hb4 c3
    go_wp2_with fail
    refine (X4.out _).mono ?_
    rintro e w5 ⟨rfl, hb5⟩
    unfold strB
    have c5 := c4.trans (hb5.mono c4.size)
    clear hb5 c4
    go_wp2_with fail
    refine (X5.out _).mono ?_
    rintro e w6 ⟨rfl, hb6⟩
    unfold strB
    have c6 := c5.trans (hb6.mono c5.size)
    clear hb6 c5
    go_wp2_with fail
    rw [Hcat.out]
    refine (X6.out _).mono ?_
    rintro e w7 ⟨rfl, hb7⟩
    unfold strB
    have c7 := c6.trans (hb7.mono c6.size)
    clear hb7 c6
    go_wp2_with fail
    refine (X7.out _).mono ?_
    rintro e w8 ⟨rfl, hb8⟩
    unfold strB
    have c8 := c7.trans (hb8.mono c7.size)
    clear hb8 c7
    go_wp2_with fail
    refine (R1.out _).mono ?_
    rintro e w' ⟨rfl, rfl⟩
    go_wp2
    go_ret
    exact ⟨rfl, c8⟩

theorem walk (a0 a1 a2 : ByteArray) (w0 : a0.size ≤ maxLen) (w1 : a1.size ≤ maxLen) (w2 : a2.size ≤ maxLen) (w : World) (hT : Tabs w) :
    Calls Tryd.prog 5 #[.string a0, .string a1, .string a2] w fun e w' => e = .returned (.bool true) ∧ Below w.heap.size w w' := by
  have := walk_l a0.data.toList a1.data.toList a2.data.toList w
  rwa [bytes_of, bytes_of, bytes_of] at this

end Go.Proofs.YtmhjafpoaamkeaaDoor.decimalAdds
