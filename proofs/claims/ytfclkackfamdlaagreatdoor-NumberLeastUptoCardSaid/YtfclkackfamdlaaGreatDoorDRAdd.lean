/- Decimals: the reference's Add, LessDecimal, Int, Dec, for any arguments of the size that the laws speak of. -/
import Derived.Test.YtfclkackfamdlaaGreatDoorDReck2
import Derived.Test.YtfclkackfamdlaaGreatDoorDDec
import Derived.Test.YtfclkackfamdlaaGreatDoorDAdd2
import Derived.Test.YtfclkackfamdlaaGreatDoorDMath3
import Derived.Test.YtfclkackfamdlaaGreatDoorDInt
namespace Go.Proofs.YtfclkackfamdlaaGreatDoor
open Go.RowKit
set_option linter.unusedVariables false
set_option linter.unusedSimpArgs false

theorem refdec_any (z : Int) (w : World) (h1 : -100000000 ≤ z) (h2 : z ≤ 100000000) :
    Calls Tryz.prog 13 #[.int .i64 z] w fun e w' => e = .returned (.string (bytes (M.txt z))) ∧ w = w' := by
  by_cases h : 0 ≤ z
  · obtain ⟨n, rfl⟩ : ∃ n : Nat, z = n := ⟨z.toNat, by omega⟩
    rw [M.txt_nat]
    exact refdec_pos n n w (Nat.le_refl _) (by omega)
  · obtain ⟨n, hn⟩ : ∃ n : Nat, z = -(n : Int) := ⟨(-z).toNat, by omega⟩
    have hcall := fun W => refdec_pos n n W (Nat.le_refl _) (by omega)
    have hl := M.decS_len n 8 (by omega)
    obtain ⟨S, hS⟩ : ∃ S, bytes (M.decS n) = S := ⟨_, rfl⟩
    have hSs : S.size ≤ 100 := by rw [← hS, bytes_size]; omega
    have hcat : ByteArray.mk #[45] ++ S = bytes (M.txt z) := by
      rw [hn, M.txt_minus n (by omega), ← hS]; apply ByteArray.ext; simp [bytes]
    have a1 : ∀ W, (Op.stringOp .add (ByteArray.mk #[45]) S).run Tryz.prog W = .ok (.string (ByteArray.mk #[45] ++ S)) W := fun W => run_string_add W _ _ (by rw [show (ByteArray.mk #[45]).size = 1 from rfl]; decide) (by omega)
    rw [hS, show (n : Int) = -z by omega] at hcall
    have hz : z < 0 := by omega
    have Hc := Lib.hid hcall
    have Hcat := Lib.hid hcat
    clear hcall hcat hS hl hn h
    go_enter Tryz.func13, Tryz.ntmps13
    go_wp2_with fail
    refine (Hc.out _).mono ?_
    rintro e w' ⟨rfl, rfl⟩
    go_wp2_with fail
    go_ret
    exact ⟨by rw [← Hcat.out]; rfl, rfl⟩

theorem ret_sb {a b : ByteArray} {c d : Bool} (h : a = b) (h2 : c = d) : Ending.returned (.tuple #[.string a, .bool c]) = .returned (.tuple #[.string b, .bool d]) := by rw [h, h2]
theorem right_ne (a : List UInt8) (h : M.rightD a = true) : a ≠ [] := by
  intro hh; subst hh; exact absurd h (by decide +kernel)

set_option maxRecDepth 100000 in
set_option maxHeartbeats 1000000 in
theorem refadd_any (a b : List UInt8) (res : List UInt8 × Bool) (w : World) (la : a.length ≤ 1100000) (lb : b.length ≤ 1100000) (hr : M.addD a b = res) :
    Calls Tryz.prog 12 #[.string (bytes a), .string (bytes b)] w fun e w' => e = .returned (strB res) ∧ Below w.heap.size w w' := by
  unfold M.addD at hr
  cases ha : M.rightD a with
  | false =>
    rw [ha] at hr
    simp only [Bool.false_and, Bool.false_eq_true, if_false] at hr
    subst hr
    have A1 := Lib.hid (fun W => refright_any a false W (by omega) ha)
    clear ha
    go_enter Tryz.func12, Tryz.ntmps12
    go_wp2_with fail
    refine (A1.out _).mono ?_
    rintro e w' ⟨rfl, rfl⟩
    go_wp2
    go_ret2
    exact ⟨rfl, Below.refl _ _⟩
  | true =>
    have A1 := Lib.hid (fun W => refright_any a true W (by omega) ha)
    cases hb : M.rightD b with
    | false =>
      rw [ha, hb] at hr
      simp only [Bool.and_false, Bool.false_eq_true, if_false] at hr
      subst hr
      have B1 := Lib.hid (fun W => refright_any b false W (by omega) hb)
      clear ha hb
      go_enter Tryz.func12, Tryz.ntmps12
      go_wp2_with fail
      refine (A1.out _).mono ?_
      rintro e w' ⟨rfl, rfl⟩
      go_wp2_with fail
      refine (B1.out _).mono ?_
      rintro e w' ⟨rfl, rfl⟩
      go_wp2
      go_ret2
      exact ⟨rfl, Below.refl _ _⟩
    | true =>
      rw [ha, hb] at hr
      simp only [Bool.and_self, if_true] at hr
      subst hr
      have B1 := Lib.hid (fun W => refright_any b true W (by omega) hb)
      have hrad := M.radd_txt a b ha hb
      obtain ⟨x, hx⟩ : ∃ x, M.unsign a = x := ⟨_, rfl⟩
      obtain ⟨y, hy⟩ : ∃ y, M.unsign b = y := ⟨_, rfl⟩
      obtain ⟨p, hp⟩ : ∃ y, M.isNeg a = y := ⟨_, rfl⟩
      obtain ⟨q, hq⟩ : ∃ y, M.isNeg b = y := ⟨_, rfl⟩
      have S1 := Lib.hid (fun W => refsign_any a p x W (right_ne a ha) (by omega) hp hx)
      have S2 := Lib.hid (fun W => refsign_any b q y W (right_ne b hb) (by omega) hq hy)
      have lx : x.length ≤ 1100000 := by rw [← hx]; have := unsign_len a; omega
      have ly : y.length ≤ 1100000 := by rw [← hy]; have := unsign_len b; omega
      have rx := M.row_unsign a ha
      have ry := M.row_unsign b hb
      unfold M.radd at hrad
      rw [hx, hy, hp, hq] at hrad
      rw [hx] at rx
      rw [hy] at ry
      have x0 : 0 < x.length := List.length_pos_iff.2 rx.2.1
      have y0 : 0 < y.length := List.length_pos_iff.2 ry.2.1
      obtain ⟨K, hK⟩ : ∃ K, K = 1100000 := ⟨_, rfl⟩
      -- what stands behind the three ways: a number's text with its sign
      have fin : ∀ (n : Nat) (neg : Bool), M.neg1 neg (M.decS n) = M.txt (M.valD a + M.valD b) → n < 10 ^ (K + 1) → (neg = false ∧ bytes (M.decS n) = bytes (M.txt (M.valD a + M.valD b))) ∨ (neg = true ∧ bytes (M.decS n) = bytes (M.txt (M.valD a + M.valD b)) ∧ (bytes (M.decS n)).toList = [48]) ∨ (neg = true ∧ (bytes (M.decS n)).toList ≠ [48] ∧ (bytes (M.decS n)).size ≤ 1100001 ∧ ByteArray.mk #[45] ++ bytes (M.decS n) = bytes (M.txt (M.valD a + M.valD b))) := by
        intro n neg h hn
        unfold M.neg1 at h
        cases neg with
        | false => left; exact ⟨rfl, by rw [← h]; simp⟩
        | true =>
          right
          by_cases h0 : n = 0
          · left; subst h0; exact ⟨rfl, by rw [← h]; simp [M.decS], by rw [toList_bytes]; rfl⟩
          · right
            have hne : M.decS n ≠ [48] := fun hh => h0 ((M.decS_zero n).1 hh)
            refine ⟨rfl, by rw [toList_bytes]; exact hne, by rw [bytes_size]; have := M.decS_len n K hn; omega, ?_⟩
            rw [← h]; simp only [Bool.true_and, bne_iff_ne, ne_eq, hne, not_false_eq_true, if_true]
            apply ByteArray.ext; simp [bytes]
      obtain ⟨Z, hZ⟩ : ∃ Z, M.txt (M.valD a + M.valD b) = Z := ⟨_, rfl⟩
      rw [hZ] at fin hrad ⊢
      have dlx : M.dval x < 10 ^ K := Nat.lt_of_lt_of_le (M.dval_lt x rx.1) (Nat.pow_le_pow_right (by decide) (by omega))
      have dly : M.dval y < 10 ^ K := Nat.lt_of_lt_of_le (M.dval_lt y ry.1) (Nat.pow_le_pow_right (by decide) (by omega))
      have hpw : 10 ^ (K + 1) = 10 * 10 ^ K := by rw [Nat.pow_succ, Nat.mul_comm]
      have hless := M.less_dval x y rx ry
      by_cases hpq : p = q
      · subst hpq
        rw [if_pos rfl] at hrad
        have RK := fun W => reck_sum x y W lx ly x0 rx.1 ry.1
        obtain ⟨V, hV⟩ : ∃ V, bytes (M.decS (M.dval x + M.dval y)) = V := ⟨_, rfl⟩
        have hf := fin _ _ hrad (by omega)
        rw [hV] at hf RK
        have R1 := Lib.hid RK
        clear fin hrad hZ dlx dly hpw hless rx ry ha hb hx hy hp hq la lb lx ly RK hV hK x0 y0
        rcases hf with ⟨rfl, he⟩ | ⟨rfl, he, hl⟩ | ⟨rfl, hl, hs, he⟩
        · have He := Lib.hid he
          clear he
          go_enter Tryz.func12, Tryz.ntmps12
          go_wp2_with fail
          refine (A1.out _).mono ?_
          rintro e w' ⟨rfl, rfl⟩
          go_wp2_with fail
          refine (B1.out _).mono ?_
          rintro e w' ⟨rfl, rfl⟩
          have c0 := Below.refl w.heap.size w
          go_wp2_with fail
          refine (S1.out _).mono ?_
          rintro e w1 ⟨rfl, hb1⟩
          have c1 := c0.trans (hb1.mono c0.size)
          clear hb1 c0
          go_wp2_with fail
          refine (S2.out _).mono ?_
          rintro e w2 ⟨rfl, hb2⟩
          have c2 := c1.trans (hb2.mono c1.size)
          clear hb2 c1
          go_wp2_with fail
          refine (R1.out _).mono ?_
          rintro e w3 ⟨rfl, hb3⟩
          have c3 := c2.trans (hb3.mono c2.size)
          clear hb3 c2
          go_wp2
          go_ret2
          exact ⟨ret_sb He.out rfl, c3⟩
        · have q1 : (V.toList == [48]) = true := by rw [hl]; rfl
          have q2 : (V.toList != [48]) = false := by rw [hl]; rfl
          have He := Lib.hid he
          clear he hl
          go_enter Tryz.func12, Tryz.ntmps12
          go_wp2_with fail
          refine (A1.out _).mono ?_
          rintro e w' ⟨rfl, rfl⟩
          go_wp2_with fail
          refine (B1.out _).mono ?_
          rintro e w' ⟨rfl, rfl⟩
          have c0 := Below.refl w.heap.size w
          go_wp2_with fail
          refine (S1.out _).mono ?_
          rintro e w1 ⟨rfl, hb1⟩
          have c1 := c0.trans (hb1.mono c0.size)
          clear hb1 c0
          go_wp2_with fail
          refine (S2.out _).mono ?_
          rintro e w2 ⟨rfl, hb2⟩
          have c2 := c1.trans (hb2.mono c1.size)
          clear hb2 c1
          go_wp2_with fail
          refine (R1.out _).mono ?_
          rintro e w3 ⟨rfl, hb3⟩
          have c3 := c2.trans (hb3.mono c2.size)
          clear hb3 c2
          go_wp2
          go_ret2
          exact ⟨ret_sb He.out rfl, c3⟩
        · have q1 : (V.toList == [48]) = false := by simpa using hl
          have q2 : (V.toList != [48]) = true := by simpa using hl
          have He := Lib.hid he
          have a1 : ∀ W, (Op.stringOp .add (ByteArray.mk #[45]) V).run Tryz.prog W = .ok (.string (ByteArray.mk #[45] ++ V)) W := fun W => run_string_add W _ _ (by rw [show (ByteArray.mk #[45]).size = 1 from rfl]; decide) (by omega)
          clear he hl hs
          go_enter Tryz.func12, Tryz.ntmps12
          go_wp2_with fail
          refine (A1.out _).mono ?_
          rintro e w' ⟨rfl, rfl⟩
          go_wp2_with fail
          refine (B1.out _).mono ?_
          rintro e w' ⟨rfl, rfl⟩
          have c0 := Below.refl w.heap.size w
          go_wp2_with fail
          refine (S1.out _).mono ?_
          rintro e w1 ⟨rfl, hb1⟩
          have c1 := c0.trans (hb1.mono c0.size)
          clear hb1 c0
          go_wp2_with fail
          refine (S2.out _).mono ?_
          rintro e w2 ⟨rfl, hb2⟩
          have c2 := c1.trans (hb2.mono c1.size)
          clear hb2 c1
          go_wp2_with fail
          refine (R1.out _).mono ?_
          rintro e w3 ⟨rfl, hb3⟩
          have c3 := c2.trans (hb3.mono c2.size)
          clear hb3 c2
          go_wp2
          go_ret2
          exact ⟨ret_sb He.out rfl, c3⟩
      · rw [if_neg hpq] at hrad
        cases hL : M.lessB x y with
        | true =>
          rw [hL, if_pos rfl] at hrad
          have hle : M.dval x ≤ M.dval y := by rw [hL] at hless; have := of_decide_eq_true hless.symm; omega
          have hlen := M.row_len y x ry rx hle
          have SM := Lib.hid (fun W => refsmall_any x y true W (by omega) (by omega) hL)
          have RK := fun W => reck_dif y x W ly lx y0 ry.1 rx.1 hlen hle
          have hne : (p == q) = false := by simpa using hpq
          have hne2 : p = !q := by revert hpq; cases p <;> cases q <;> simp
          subst hne2
          clear hpq hne
          obtain ⟨V, hV⟩ : ∃ V, bytes (M.decS (M.dval y - M.dval x)) = V := ⟨_, rfl⟩
          have hf := fin _ _ hrad (by omega)
          rw [hV] at hf RK
          have R1 := Lib.hid RK
          clear fin hrad hZ dlx dly hpw hless rx ry ha hb hx hy hp hq la lb lx ly RK hV hK x0 y0 hL hle hlen
          rcases hf with ⟨rfl, he⟩ | ⟨rfl, he, hl⟩ | ⟨rfl, hl, hs, he⟩
          · have He := Lib.hid he
            clear he
            go_enter Tryz.func12, Tryz.ntmps12
            go_wp2_with fail
            refine (A1.out _).mono ?_
            rintro e w' ⟨rfl, rfl⟩
            go_wp2_with fail
            refine (B1.out _).mono ?_
            rintro e w' ⟨rfl, rfl⟩
            have c0 := Below.refl w.heap.size w
            go_wp2_with fail
            refine (S1.out _).mono ?_
            rintro e w1 ⟨rfl, hb1⟩
            have c1 := c0.trans (hb1.mono c0.size)
            clear hb1 c0
            go_wp2_with fail
            refine (S2.out _).mono ?_
            rintro e w2 ⟨rfl, hb2⟩
            have c2 := c1.trans (hb2.mono c1.size)
            clear hb2 c1
            go_wp2_with fail
            refine (SM.out _).mono ?_
            rintro e w' ⟨rfl, rfl⟩
            go_wp2_with fail
            refine (R1.out _).mono ?_
            rintro e w4 ⟨rfl, hb4⟩
            have c4 := c2.trans (hb4.mono c2.size)
            clear hb4 c2
            go_wp2
            go_ret2
            exact ⟨ret_sb He.out rfl, c4⟩
          · have q1 : (V.toList == [48]) = true := by rw [hl]; rfl
            have q2 : (V.toList != [48]) = false := by rw [hl]; rfl
            have He := Lib.hid he
            clear he hl
            go_enter Tryz.func12, Tryz.ntmps12
            go_wp2_with fail
            refine (A1.out _).mono ?_
            rintro e w' ⟨rfl, rfl⟩
            go_wp2_with fail
            refine (B1.out _).mono ?_
            rintro e w' ⟨rfl, rfl⟩
            have c0 := Below.refl w.heap.size w
            go_wp2_with fail
            refine (S1.out _).mono ?_
            rintro e w1 ⟨rfl, hb1⟩
            have c1 := c0.trans (hb1.mono c0.size)
            clear hb1 c0
            go_wp2_with fail
            refine (S2.out _).mono ?_
            rintro e w2 ⟨rfl, hb2⟩
            have c2 := c1.trans (hb2.mono c1.size)
            clear hb2 c1
            go_wp2_with fail
            refine (SM.out _).mono ?_
            rintro e w' ⟨rfl, rfl⟩
            go_wp2_with fail
            refine (R1.out _).mono ?_
            rintro e w4 ⟨rfl, hb4⟩
            have c4 := c2.trans (hb4.mono c2.size)
            clear hb4 c2
            go_wp2
            go_ret2
            exact ⟨ret_sb He.out rfl, c4⟩
          · have q1 : (V.toList == [48]) = false := by simpa using hl
            have q2 : (V.toList != [48]) = true := by simpa using hl
            have He := Lib.hid he
            have a1 : ∀ W, (Op.stringOp .add (ByteArray.mk #[45]) V).run Tryz.prog W = .ok (.string (ByteArray.mk #[45] ++ V)) W := fun W => run_string_add W _ _ (by rw [show (ByteArray.mk #[45]).size = 1 from rfl]; decide) (by omega)
            clear he hl hs
            go_enter Tryz.func12, Tryz.ntmps12
            go_wp2_with fail
            refine (A1.out _).mono ?_
            rintro e w' ⟨rfl, rfl⟩
            go_wp2_with fail
            refine (B1.out _).mono ?_
            rintro e w' ⟨rfl, rfl⟩
            have c0 := Below.refl w.heap.size w
            go_wp2_with fail
            refine (S1.out _).mono ?_
            rintro e w1 ⟨rfl, hb1⟩
            have c1 := c0.trans (hb1.mono c0.size)
            clear hb1 c0
            go_wp2_with fail
            refine (S2.out _).mono ?_
            rintro e w2 ⟨rfl, hb2⟩
            have c2 := c1.trans (hb2.mono c1.size)
            clear hb2 c1
            go_wp2_with fail
            refine (SM.out _).mono ?_
            rintro e w' ⟨rfl, rfl⟩
            go_wp2_with fail
            refine (R1.out _).mono ?_
            rintro e w4 ⟨rfl, hb4⟩
            have c4 := c2.trans (hb4.mono c2.size)
            clear hb4 c2
            go_wp2
            go_ret2
            exact ⟨ret_sb He.out rfl, c4⟩
        | false =>
          rw [hL, if_neg (by simp)] at hrad
          have hle : M.dval y ≤ M.dval x := by rw [hL] at hless; have := of_decide_eq_false hless.symm; omega
          have hlen := M.row_len x y rx ry hle
          have SM := Lib.hid (fun W => refsmall_any x y false W (by omega) (by omega) hL)
          have RK := fun W => reck_dif x y W lx ly x0 rx.1 ry.1 hlen hle
          have hne2 : q = !p := by revert hpq; cases p <;> cases q <;> simp
          subst hne2
          clear hpq
          obtain ⟨V, hV⟩ : ∃ V, bytes (M.decS (M.dval x - M.dval y)) = V := ⟨_, rfl⟩
          have hf := fin _ _ hrad (by omega)
          rw [hV] at hf RK
          have R1 := Lib.hid RK
          clear fin hrad hZ dlx dly hpw hless rx ry ha hb hx hy hp hq la lb lx ly RK hV hK x0 y0 hL hle hlen
          rcases hf with ⟨rfl, he⟩ | ⟨rfl, he, hl⟩ | ⟨rfl, hl, hs, he⟩
          · have He := Lib.hid he
            clear he
            go_enter Tryz.func12, Tryz.ntmps12
            go_wp2_with fail
            refine (A1.out _).mono ?_
            rintro e w' ⟨rfl, rfl⟩
            go_wp2_with fail
            refine (B1.out _).mono ?_
            rintro e w' ⟨rfl, rfl⟩
            have c0 := Below.refl w.heap.size w
            go_wp2_with fail
            refine (S1.out _).mono ?_
            rintro e w1 ⟨rfl, hb1⟩
            have c1 := c0.trans (hb1.mono c0.size)
            clear hb1 c0
            go_wp2_with fail
            refine (S2.out _).mono ?_
            rintro e w2 ⟨rfl, hb2⟩
            have c2 := c1.trans (hb2.mono c1.size)
            clear hb2 c1
            go_wp2_with fail
            refine (SM.out _).mono ?_
            rintro e w' ⟨rfl, rfl⟩
            go_wp2_with fail
            refine (R1.out _).mono ?_
            rintro e w4 ⟨rfl, hb4⟩
            have c4 := c2.trans (hb4.mono c2.size)
            clear hb4 c2
            go_wp2
            go_ret2
            exact ⟨ret_sb He.out rfl, c4⟩
          · have q1 : (V.toList == [48]) = true := by rw [hl]; rfl
            have q2 : (V.toList != [48]) = false := by rw [hl]; rfl
            have He := Lib.hid he
            clear he hl
            go_enter Tryz.func12, Tryz.ntmps12
            go_wp2_with fail
            refine (A1.out _).mono ?_
            rintro e w' ⟨rfl, rfl⟩
            go_wp2_with fail
            refine (B1.out _).mono ?_
            rintro e w' ⟨rfl, rfl⟩
            have c0 := Below.refl w.heap.size w
            go_wp2_with fail
            refine (S1.out _).mono ?_
            rintro e w1 ⟨rfl, hb1⟩
            have c1 := c0.trans (hb1.mono c0.size)
            clear hb1 c0
            go_wp2_with fail
            refine (S2.out _).mono ?_
            rintro e w2 ⟨rfl, hb2⟩
            have c2 := c1.trans (hb2.mono c1.size)
            clear hb2 c1
            go_wp2_with fail
            refine (SM.out _).mono ?_
            rintro e w' ⟨rfl, rfl⟩
            go_wp2_with fail
            refine (R1.out _).mono ?_
            rintro e w4 ⟨rfl, hb4⟩
            have c4 := c2.trans (hb4.mono c2.size)
            clear hb4 c2
            go_wp2
            go_ret2
            exact ⟨ret_sb He.out rfl, c4⟩
          · have q1 : (V.toList == [48]) = false := by simpa using hl
            have q2 : (V.toList != [48]) = true := by simpa using hl
            have He := Lib.hid he
            have a1 : ∀ W, (Op.stringOp .add (ByteArray.mk #[45]) V).run Tryz.prog W = .ok (.string (ByteArray.mk #[45] ++ V)) W := fun W => run_string_add W _ _ (by rw [show (ByteArray.mk #[45]).size = 1 from rfl]; decide) (by omega)
            clear he hl hs
            go_enter Tryz.func12, Tryz.ntmps12
            go_wp2_with fail
            refine (A1.out _).mono ?_
            rintro e w' ⟨rfl, rfl⟩
            go_wp2_with fail
            refine (B1.out _).mono ?_
            rintro e w' ⟨rfl, rfl⟩
            have c0 := Below.refl w.heap.size w
            go_wp2_with fail
            refine (S1.out _).mono ?_
            rintro e w1 ⟨rfl, hb1⟩
            have c1 := c0.trans (hb1.mono c0.size)
            clear hb1 c0
            go_wp2_with fail
            refine (S2.out _).mono ?_
            rintro e w2 ⟨rfl, hb2⟩
            have c2 := c1.trans (hb2.mono c1.size)
            clear hb2 c1
            go_wp2_with fail
            refine (SM.out _).mono ?_
            rintro e w' ⟨rfl, rfl⟩
            go_wp2_with fail
            refine (R1.out _).mono ?_
            rintro e w4 ⟨rfl, hb4⟩
            have c4 := c2.trans (hb4.mono c2.size)
            clear hb4 c2
            go_wp2
            go_ret2
            exact ⟨ret_sb He.out rfl, c4⟩
end Go.Proofs.YtfclkackfamdlaaGreatDoor
