/- Lines and columns as the reference has them: abridgerref1.At, Back and Count, for any bytes and any place. -/
import Derived.Test.YtpedipalpebolaaDoorPNext
import Derived.Test.YtpedipalpebolaaDoorLMath5
import Derived.Test.YtpedipalpebolaaDoorRNext
namespace Go.Proofs.YtpedipalpebolaaDoor
open Go.RowKit
set_option linter.unusedVariables false

theorem cap_any (i : Int) (len t : Nat) (w : World) (hl : len ≤ 4294967296) (hi : (i = t ∧ t ≤ len) ∨ (i < 0 ∧ t = 0) ∨ ((len : Int) ≤ i ∧ t = len)) :
    Calls Tryd.prog 19 #[.int .i64 i, .int .i64 0, .int .i64 (len : Int)] w fun e w' => e = .returned (.int .i64 (t : Int)) ∧ w = w' := by
  by_cases h0 : i < 0
  · obtain rfl : t = 0 := by omega
    clear hi
    go_enter Tryd.func19, Tryd.ntmps19
    go_wp2
    go_ret
    exact ⟨rfl, rfl⟩
  · by_cases h1 : (len : Int) < i
    · obtain rfl : t = len := by omega
      clear hi
      go_enter Tryd.func19, Tryd.ntmps19
      go_wp2
      go_ret
      exact ⟨rfl, rfl⟩
    · obtain rfl : i = t := by omega
      clear hi
      go_enter Tryd.func19, Tryd.ntmps19
      go_wp2
      go_ret
      exact ⟨rfl, rfl⟩

theorem refends_any (v : Value) (l : List UInt8) (p : Nat) (r : Bool) (w : World) (hv : Bs w v l) (hp : p < l.length) (hl : l.length ≤ 4294967296) (hr : M.endsAt l p = r) :
    Calls Tryd.prog 20 #[v, .int .i64 (p : Int)] w fun e w' => e = .returned (.bool r) ∧ w = w' := by
  obtain ⟨a, cap, rfl, h1, h2, h3⟩ := hv
  obtain ⟨b, off, rfl, hb, hc⟩ := h3 (by omega)
  have hc0 := bs_at hc p hp
  unfold M.endsAt at hr
  have i1 : (0 : Int) ≤ p := by omega
  have i2 : (p : Int) < l.length := by omega
  by_cases h10 : M.byte l p = 10
  · obtain rfl : r = true := by rw [← hr, if_neg (by omega)]; simp [h10]
    have q1 : ((M.byte l p : Int) == 10) = true := by rw [beq_iff_eq]; omega
    generalize M.byte l p = c at *
    clear h3 hc hr h10
    go_enter Tryd.func20, Tryd.ntmps20
    go_wp2
    go_ret
    exact ⟨rfl, rfl⟩
  · have q1 : ((M.byte l p : Int) == 10) = false := by rw [beq_eq_false_iff_ne]; omega
    by_cases h13 : M.byte l p = 13
    · have q2 : ((M.byte l p : Int) == 13) = true := by rw [beq_iff_eq]; omega
      rw [if_pos h13] at hr
      by_cases he : p + 1 = l.length
      · obtain rfl : r = true := by rw [← hr]; simp [he]
        have q3 : ((p : Int) + 1 == l.length) = true := by rw [beq_iff_eq]; omega
        generalize M.byte l p = c at *
        clear h3 hc hr h10 h13 he
        go_enter Tryd.func20, Tryd.ntmps20
        go_wp2
        go_ret
        exact ⟨rfl, rfl⟩
      · have q3 : ((p : Int) + 1 == l.length) = false := by rw [beq_eq_false_iff_ne]; omega
        have hc1 := bs_at hc (p + 1) (by omega)
        have i3 : (p : Int) + 1 < l.length := by omega
        have hr2 : (((M.byte l (p + 1) : Nat) : Int) != 10) = r := by
          rw [← hr]
          have : (p + 1 == l.length) = false := by simp [he]
          rw [this, Bool.false_or]
          rw [Bool.eq_iff_iff]; simp; omega
        generalize M.byte l (p + 1) = d at *
        generalize M.byte l p = c at *
        have Hr2 := Lib.hid hr2
        clear h3 hc hr h10 h13 he hr2
        go_enter Tryd.func20, Tryd.ntmps20
        go_wp2
        go_ret
        exact ⟨by rw [← Hr2.out]; simp, rfl⟩
    · have q2 : ((M.byte l p : Int) == 13) = false := by rw [beq_eq_false_iff_ne]; omega
      obtain rfl : r = false := by rw [← hr, if_neg h13]; simp [h10]
      generalize M.byte l p = c at *
      clear h3 hc hr h10 h13
      go_enter Tryd.func20, Tryd.ntmps20
      go_wp2
      go_ret
      exact ⟨rfl, rfl⟩

theorem refunits_any (r : Int) (w : World) : Calls Tryd.prog 22 #[.int .i64 r] w fun e w' => e = .returned (.int .i64 (if 65536 ≤ r then 2 else 1)) ∧ w = w' := by
  by_cases h : 65536 ≤ r
  · rw [if_pos h]
    go_enter Tryd.func22, Tryd.ntmps22
    go_wp2
    go_ret
    exact ⟨rfl, rfl⟩
  · rw [if_neg h]
    go_enter Tryd.func22, Tryd.ntmps22
    go_wp2
    go_ret
    exact ⟨rfl, rfl⟩
theorem refunits_nat (r u : Nat) (w : World) (h : M.unitsOf r = u) : Calls Tryd.prog 22 #[.int .i64 (r : Int)] w fun e w' => e = .returned (.int .i64 (u : Int)) ∧ w = w' := by
  refine (refunits_any r w).mono ?_
  rintro e w' ⟨rfl, rfl⟩
  refine ⟨?_, rfl⟩
  subst h
  unfold M.unitsOf
  by_cases h : 65536 ≤ r
  · rw [if_pos h, if_pos (by omega)]; rfl
  · rw [if_neg h, if_neg (by omega)]; rfl
theorem nextAt_dec (l : List UInt8) (p R K : Nat) (hp : p < l.length) (h : M.dec (l.drop p) = (R, K)) : ∃ ok, M.nextAt l p = ((R : Int), (K : Int), ok) := by
  rw [M.nextAt_in l p hp]
  unfold M.nx
  rw [h]
  by_cases hb : (R, K) = (65533, 1)
  · rw [if_pos hb]; simp only [Prod.mk.injEq] at hb; rw [hb.1, hb.2]; exact ⟨_, rfl⟩
  · rw [if_neg hb]; exact ⟨_, rfl⟩

theorem tupn {a b c d : Nat} (h : a = c) (k : b = d) : Ending.returned (.tuple #[.int .i64 (a : Int), .int .i64 (b : Int)]) = Ending.returned (.tuple #[.int .i64 (c : Int), .int .i64 (d : Int)]) := by rw [h, k]
set_option maxHeartbeats 1000000 in
theorem refat_any (v : Value) (l : List UInt8) (t : Nat) (i : Int) (w : World) (hv : Bs w v l) (hl : l.length ≤ 1048576) (ht : t ≤ l.length) (hi : (i = t) ∨ (i < 0 ∧ t = 0) ∨ ((l.length : Int) ≤ i ∧ t = l.length)) (r : Nat × Nat) (hr : M.atP l t = r) :
    Calls Tryd.prog 15 #[v, .int .i64 i] w fun e w' => e = .returned (.tuple #[.int .i64 (r.1 : Int), .int .i64 (r.2 : Int)]) ∧ w = w' := by
  have hv2 := hv
  obtain ⟨a, cap, rfl, h1, h2, h3⟩ := hv2
  clear h3
  have hcap := fun W => cap_any i l.length t W (by omega) (by omega)
  have hres : M.refAt l t = r := by rw [M.refAt_eq l t ht, hr]
  have Hv := Lib.hid hv
  have Hcap := Lib.hid hcap
  have Hres := Lib.hid hres
  clear hv hi hcap hres hr
  go_enter Tryd.func15, Tryd.ntmps15
  go_wp2_with fail
  refine (Hcap.out _).mono ?_
  rintro e w' ⟨rfl, rfl⟩
  go_wp2
  go_loop [6, 7, 8] (fun lv fv iv => ∃ k : Nat, iv = .int .i64 k ∧ k ≤ t ∧ lv = .int .i64 (M.lineOf l k : Int) ∧ fv = .int .i64 (M.fromOf l k : Int)) (fun _ _ iv => t - (intOf iv).toNat)
  case atStart => exact ⟨0, rfl, by omega, rfl, rfl⟩
  case round =>
    obtain ⟨k, rfl, hk, rfl, rfl⟩ := hrel
    have hlo := M.lineOf_le l k
    have hfr := M.fromOf_le l k
    by_cases hlt : k < t
    · obtain ⟨b, hb⟩ : ∃ b, M.endsAt l k = b := ⟨_, rfl⟩
      have he := refends_any _ l k b w Hv.out (by omega) (by omega) hb
      have e1 : M.lineOf l (k + 1) = if b = true then M.lineOf l k + 1 else M.lineOf l k := by rw [← hb]; rfl
      have e2 : M.fromOf l (k + 1) = if b = true then k + 1 else M.fromOf l k := by rw [← hb]; rfl
      have He := Lib.hid he
      clear he hb
      generalize M.lineOf l k = x at *
      generalize M.fromOf l k = y at *
      cases b with
      | true =>
        simp only [if_true] at e1 e2
        have E1 := Lib.hid e1
        have E2 := Lib.hid e2
        clear e1 e2
        go_wp2_with fail
        refine He.out.mono ?_
        rintro e w' ⟨rfl, rfl⟩
        go_wp2
        go_round
        case rel => exact ⟨k + 1, by go_num, by omega, by rw [E1.out]; go_num, by rw [E2.out]; go_num⟩
        case measure => simp [intOf]; omega
      | false =>
        simp only [Bool.false_eq_true, if_false] at e1 e2
        have E1 := Lib.hid e1
        have E2 := Lib.hid e2
        clear e1 e2
        go_wp2_with fail
        refine He.out.mono ?_
        rintro e w' ⟨rfl, rfl⟩
        go_wp2
        go_round
        case rel => exact ⟨k + 1, by go_num, by omega, by rw [E1.out], by rw [E2.out]⟩
        case measure => simp [intOf]; omega
    · obtain rfl : k = t := by omega
      have hres := Hres.out
      unfold M.refAt at hres
      subst hres
      obtain ⟨x, hx⟩ : ∃ x, M.lineOf l k = x := ⟨_, rfl⟩
      obtain ⟨y, hy⟩ : ∃ x, M.fromOf l k = x := ⟨_, rfl⟩
      rw [hx] at hlo ⊢
      rw [hy] at hfr ⊢
      have Hx := Lib.hid hx
      have Hy := Lib.hid hy
      clear Hres hlt hx hy
      go_wp2
      go_loop [9, 10, 11, 12, 13] (fun cv iv _ _ _ => ∃ f p c : Nat, iv = .int .i64 p ∧ cv = .int .i64 c ∧ p ≤ l.length ∧ k ≤ p + f ∧ c ≤ 2 * p ∧ M.colGo l k f p c = M.colGo l k l.length y 0) (fun _ iv _ _ _ => l.length - (intOf iv).toNat)
      case atStart => exact ⟨l.length, y, 0, rfl, rfl, by omega, by omega, by omega, rfl⟩
      case round =>
        obtain ⟨f, p, c, rfl, rfl, hp, hf, hcp, hcol⟩ := hrel
        by_cases hlt : p < k
        · have hw := M.dec_width (l.drop p)
          have hle := M.dec_le (l.drop p) (by simp; omega)
          rw [List.length_drop] at hle
          obtain ⟨R, K, hRK⟩ : ∃ R K, M.dec (l.drop p) = (R, K) := ⟨_, _, rfl⟩
          obtain ⟨okk, hnx⟩ := nextAt_dec l p R K (by omega) hRK
          rw [M.colGo_step l k f p c hlt (by omega), hRK] at hcol
          rw [hRK] at hw hle
          simp only at hw hle hcol
          obtain ⟨u, hu⟩ : ∃ u, M.unitsOf R = u := ⟨_, rfl⟩
          have hu2 : u ≤ 2 ∧ 1 ≤ u := by rw [← hu]; unfold M.unitsOf; split <;> omega
          rw [hu] at hcol
          have Hnx := Lib.hid hnx
          have Hcol := Lib.hid hcol
          have Hu := Lib.hid hu
          clear hnx hcol hu hRK
          go_wp2_with fail
          refine (refnext_any _ l p _ w Hv.out (by omega) Hnx.out).mono ?_
          rintro e w' ⟨rfl, rfl⟩
          unfold tri
          go_wp2_with fail
          refine (refunits_nat R u w Hu.out).mono ?_
          rintro e w' ⟨rfl, rfl⟩
          go_wp2
          go_round
          case rel => exact ⟨f - 1, p + K, c + u, by go_num, by go_num, by omega, by omega, by omega, Hcol.out⟩
          case measure => simp [intOf]; omega
        · rw [M.colGo_stop l k f p c (by omega)] at hcol
          have Hcol := Lib.hid hcol
          clear hcol
          go_wp2
          go_ret2
          exact ⟨tupn (by rw [← Hx.out]) (by rw [Hcol.out, ← Hy.out]), rfl⟩
end Go.Proofs.YtpedipalpebolaaDoor
