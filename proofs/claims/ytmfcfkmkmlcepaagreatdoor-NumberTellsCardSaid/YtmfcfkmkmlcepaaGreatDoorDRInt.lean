/- Decimals (Int alone): the reference's LessDecimal and Int, for any texts of the size that the laws speak of. -/
import Derived.Test.YtmfcfkmkmlcepaaGreatDoorDRAdd
import Derived.Test.YtmfcfkmkmlcepaaGreatDoorDInt
namespace Go.Proofs.YtmfcfkmkmlcepaaGreatDoor
open Go.RowKit
set_option linter.unusedVariables false
set_option linter.unusedSimpArgs false

theorem int_of (l x : List UInt8) (p : Bool) (h : M.rightD l = true) (hx : M.unsign l = x) (hp : M.isNeg l = p) : M.intD l = if M.dval x ≤ 1000000 then ((if p then -(M.dval x : Int) else M.dval x), true) else (0, false) := by
  have hv : M.valD l = if p then -(M.dval x : Int) else M.dval x := by unfold M.valD; rw [hx, hp]
  unfold M.intD
  rw [hv, h]
  cases p
  · simp only [Bool.false_eq_true, if_false, true_and]
    by_cases h1 : M.dval x ≤ 1000000
    · rw [if_pos h1, if_pos (by omega)]
    · rw [if_neg h1, if_neg (by omega)]
  · simp only [if_true, true_and]
    by_cases h1 : M.dval x ≤ 1000000
    · rw [if_pos h1, if_pos (by omega)]
    · rw [if_neg h1, if_neg (by omega)]

set_option maxRecDepth 100000 in
set_option maxHeartbeats 1000000 in
theorem refint_any (l : List UInt8) (res : Int × Bool) (w : World) (la : l.length ≤ 100000) (hr : M.intD l = res) :
    Calls Tryz.prog 31 #[.string (bytes l)] w fun e w' => e = .returned (intB res) ∧ Below w.heap.size w w' := by
  have hsz : (bytes l).size = l.length := bytes_size l
  cases ha : M.rightD l with
  | false =>
    rw [M.int_wrong l ha] at hr
    subst hr
    have A1 := Lib.hid (fun W => refright_any l false W (by omega) ha)
    clear ha hsz
    go_enter Tryz.func31, Tryz.ntmps31
    go_wp2_with fail
    refine (A1.out _).mono ?_
    rintro e w' ⟨rfl, rfl⟩
    go_wp2
    go_ret2
    exact ⟨rfl, Below.refl _ _⟩
  | true =>
    have A1 := Lib.hid (fun W => refright_any l true W (by omega) ha)
    by_cases hl : 8 < l.length
    · rw [M.int_long l hl] at hr
      subst hr
      have h8 : (8 : Int) < (l.length : Int) := by omega
      clear ha
      go_enter Tryz.func31, Tryz.ntmps31
      go_wp2_with fail
      refine (A1.out _).mono ?_
      rintro e w' ⟨rfl, rfl⟩
      go_wp2
      go_ret2
      exact ⟨rfl, Below.refl _ _⟩
    · obtain ⟨x, hx⟩ : ∃ x, M.unsign l = x := ⟨_, rfl⟩
      obtain ⟨p, hp⟩ : ∃ y, M.isNeg l = y := ⟨_, rfl⟩
      have S1 := Lib.hid (fun W => refsign_any l p x W (right_ne l ha) (by omega) hp hx)
      have lx : x.length ≤ 8 := by rw [← hx]; have := unsign_len l; omega
      have rx := M.row_unsign l ha
      rw [hx] at rx
      have hd := rx.1
      rw [int_of l x p ha hx hp] at hr
      have l8 : decide ((8 : Int) < (l.length : Int)) = false := by simp; omega
      have sx := bytes_size x
      obtain ⟨s, hs⟩ : ∃ s, bytes x = s := ⟨_, rfl⟩
      rw [hs] at sx
      have hget : ∀ (k : Nat) (hk : k < s.size) (hk2 : k < x.length), s[k] = x[k] := by
        intro k hk hk2
        subst hs
        rfl
      rw [hs] at S1
      have hs8 : s.size ≤ 8 := by omega
      have Hd := Lib.hid hd
      have Hr := Lib.hid hr
      have Hget := Lib.hid hget
      have Sx := Lib.hid sx
      clear hr ha hx hp rx hd hget sx hs lx
      go_enter Tryz.func31, Tryz.ntmps31
      go_wp2_with fail
      refine (A1.out _).mono ?_
      rintro e w' ⟨rfl, rfl⟩
      have c0 := Below.refl w.heap.size w
      go_wp2_with fail
      refine (S1.out _).mono ?_
      rintro e w1 ⟨rfl, hb1⟩
      have c1 := c0.trans (hb1.mono c0.size)
      clear hb1 c0
      go_wp2
      go_loop [6, 7] (fun nv iv => ∃ k : Nat, iv = .int .i64 k ∧ k ≤ s.size ∧ nv = .int .i64 (M.dval (x.take k) : Nat)) (fun _ iv => s.size - (intOf iv).toNat)
      case atStart => exact ⟨0, rfl, by omega, rfl⟩
      case round =>
        obtain ⟨k, rfl, hk, rfl⟩ := hrel
        have hbd : M.dval (x.take k) < 100000000 := by
          have := M.dval_lt (x.take k) (fun c hc => Hd.out c (List.mem_of_mem_take hc))
          have h2 : (10 : Nat) ^ (x.take k).length ≤ 10 ^ 8 := Nat.pow_le_pow_right (by omega) (by have := Sx.out; simp; omega)
          omega
        by_cases hlt : k < s.size
        · have hk2 : k < x.length := by rw [← Sx.out]; exact hlt
          have hsk := Hget.out k hlt hk2
          have hnx : M.dval (x.take (k + 1)) = 10 * M.dval (x.take k) + (x[k].toNat - 48) := by rw [List.take_succ_eq_append_getElem hk2, M.dval_snoc]
          have hdg := (M.dig_iff _).1 (Hd.out x[k] (List.getElem_mem hk2))
          obtain ⟨c, hc⟩ : ∃ c, x[k] = c := ⟨_, rfl⟩
          rw [hc] at hsk hnx hdg
          obtain ⟨D, hD⟩ : ∃ D : Int, (M.dval (x.take k) : Int) = D := ⟨_, rfl⟩
          have D0 : 0 ≤ D := by omega
          have D1 : D < 100000000 := by omega
          obtain ⟨d1, d2⟩ := hdg
          have Hnx := Lib.hid hnx
          have HD := Lib.hid hD
          rw [hD]
          clear hnx hc hD hbd
          go_wp2
          go_round
          case rel => exact ⟨k + 1, by go_num, by omega, by have := Hnx.out; have := HD.out; congr 1; omega⟩
          case measure => simp [intOf]; omega
        · obtain rfl : k = s.size := by omega
          have hfull : x.take s.size = x := List.take_of_length_le (by have := Sx.out; omega)
          rw [hfull] at hbd ⊢
          have hr := Hr.out
          obtain ⟨D, hD⟩ : ∃ D, M.dval x = D := ⟨_, rfl⟩
          rw [hD] at hr hbd ⊢
          clear hfull hlt hD
          by_cases hm : D ≤ 1000000
          · have hm2 : decide ((1000000 : Int) < (D : Int)) = false := by simp; omega
            rw [if_pos hm] at hr
            cases p with
            | true =>
              simp only [if_true] at hr
              subst hr
              go_wp2
              go_ret2
              exact ⟨rfl, c1⟩
            | false =>
              simp only [Bool.false_eq_true, if_false] at hr
              subst hr
              go_wp2
              go_ret2
              exact ⟨rfl, c1⟩
          · have hm2 : decide ((1000000 : Int) < (D : Int)) = true := by simp; omega
            rw [if_neg hm] at hr
            subst hr
            go_wp2
            go_ret2
            exact ⟨rfl, c1⟩
end Go.Proofs.YtmfcfkmkmlcepaaGreatDoor
