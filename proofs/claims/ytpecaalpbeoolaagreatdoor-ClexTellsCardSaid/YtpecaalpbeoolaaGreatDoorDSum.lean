/- Decimals: adding and taking off, digit by digit; a row of digits with a sign; which is a decimal, which of two is less. -/
import Derived.Test.YtpecaalpbeoolaaGreatDoorDRev
import Derived.Deep.QuietTactic
import Derived.BigQuiet
namespace Go.Proofs.YtpecaalpbeoolaaGreatDoor
open Go.RowKit
set_option linter.unusedVariables false

theorem one_digit (w : World) (d : Nat) (v : Value) (h : v = .int .u8 ((M.ofD d).toNat : Int)) : Bs (w.alloc (.cells #[v] 5)) (.slice (some ⟨w.heap.size, 0, none⟩) 1 1) [M.ofD d] := by
  subst h; exact bs_cells_new w [M.ofD d] _ 1 rfl rfl (by simp)
theorem ofD_val (d : Nat) (x : Int) (h : x = 48 + (d % 10 : Nat)) : Value.int .u8 x = .int .u8 ((M.ofD d).toNat : Int) := by
  rw [M.ofD_nat, h]; congr 1

set_option maxHeartbeats 1000000 in
theorem sum_any (x y : List UInt8) (w : World) (hx : x.length ≤ 100000) (hy : y.length ≤ 100000) (dx : ∀ c ∈ x, M.dig c = true) (dy : ∀ c ∈ y, M.dig c = true) :
    Calls Tryz.prog 134 #[.string (bytes x), .string (bytes y)] w fun e w' => ∃ v l, e = .returned v ∧ OwnB w.heap.size w' v l ∧ l.length ≤ 100001 ∧ (∀ c ∈ l, M.dig c = true) ∧ M.dval l = M.dval x + M.dval y ∧ Below w.heap.size w w' := by
  have sx := bytes_size x
  have sy := bytes_size y
  have d1 := fun i r W h => dgt_any x i r W (by omega) dx h
  have d2 := fun i r W h => dgt_any y i r W (by omega) dy h
  obtain ⟨s, hs⟩ : ∃ s, bytes x = s := ⟨_, rfl⟩
  obtain ⟨t, ht⟩ : ∃ s, bytes y = s := ⟨_, rfl⟩
  rw [hs] at sx d1
  rw [ht] at sy d2
  rw [hs, ht]
  obtain ⟨K, hK⟩ : ∃ K, max x.length y.length = K := ⟨_, rfl⟩
  have hK1 : x.length ≤ K ∧ y.length ≤ K ∧ K ≤ 100000 := by omega
  have hmax : max (s.size : Int) (t.size : Int) = (K : Int) := by omega
  have hs1 : s.size ≤ 100000 := by omega
  have ht1 : t.size ≤ 100000 := by omega
  have D1 := Lib.hid d1
  have D2 := Lib.hid d2
  have Dx := Lib.hid dx
  have Dy := Lib.hid dy
  clear d1 d2 dx dy hs ht hK sx sy
  go_enter Tryz.func134, Tryz.ntmps134
  go_wp2
  clear hmax
  go_loopw [5, 6, 7, 8, 15] (fun ov cv _ _ iv wr => ∃ (k carry : Nat) (l : List UInt8), iv = .int .i64 k ∧ cv = .int .i64 carry ∧ k ≤ K + 1 ∧ M.Sum x y k l carry ∧ OwnB w.heap.size wr ov l ∧ Below w.heap.size w wr) (fun _ _ _ _ iv _ => K + 1 - (intOf iv).toNat)
  case atStart => exact ⟨0, 0, [], rfl, rfl, by omega, M.sum_start x y, World.ownsRow_nil _ _ _ _, Below.refl _ _⟩
  case round =>
    obtain ⟨k, carry, l, rfl, rfl, hk, hS, ho, hb⟩ := hrel
    have hc1 := hS.2.2.1
    have hll := hS.1
    have HS := Lib.hid hS
    have hsz := hb.size
    clear hS
    by_cases hlt : k < K + 1
    · obtain ⟨p, hp⟩ : ∃ p, M.dat x k = p := ⟨_, rfl⟩
      obtain ⟨q, hq⟩ : ∃ p, M.dat y k = p := ⟨_, rfl⟩
      have hp9 := M.dat_le x Dx.out k
      have hq9 := M.dat_le y Dy.out k
      have hstep := M.sum_step Dx.out Dy.out HS.out
      rw [hp] at hp9 hstep
      rw [hq] at hq9 hstep
      have c1 := fun W => D1.out k p W hp
      have c2 := fun W => D2.out k q W hq
      have C1 := Lib.hid c1
      have C2 := Lib.hid c2
      have Hstep := Lib.hid hstep
      obtain ⟨T, hT⟩ : ∃ T, p + q + carry = T := ⟨_, rfl⟩
      rw [hT] at Hstep
      obtain ⟨P, hP⟩ : ∃ P : Int, (p : Int) = P := ⟨_, rfl⟩
      obtain ⟨Q, hQ⟩ : ∃ P : Int, (q : Int) = P := ⟨_, rfl⟩
      obtain ⟨C, hC⟩ : ∃ P : Int, (carry : Int) = P := ⟨_, rfl⟩
      have hTi : P + Q + C = (T : Int) := by omega
      have P0 : 0 ≤ P := by omega
      have P9 : P ≤ 9 := by omega
      have Q0 : 0 ≤ Q := by omega
      have Q9 : Q ≤ 9 := by omega
      have C0' : 0 ≤ C := by omega
      have C9 : C ≤ 1 := by omega
      have hll2 : l.length ≤ 100001 := by omega
      rw [hP] at C1
      rw [hQ] at C2
      rw [hC]
      obtain ⟨R, hR⟩ : ∃ R, (P + Q + C) % 10 = R := ⟨_, rfl⟩
      obtain ⟨V, hV⟩ : ∃ R, (P + Q + C) / 10 = R := ⟨_, rfl⟩
      have R0 : 0 ≤ R := by omega
      have R9 : R ≤ 9 := by omega
      have hRT : R = ((T % 10 : Nat) : Int) := by omega
      have hVT : V = ((T / 10 : Nat) : Int) := by omega
      have HTi := Lib.hid hTi
      have HRT := Lib.hid hRT
      have HVT := Lib.hid hVT
      clear hRT hVT
      clear c1 c2 hp hq hstep hT hll hP hQ hC hTi hp9 hq9 hc1
      go_wp2_with fail
      refine (C1.out _).mono ?_
      rintro e w1 ⟨rfl, rfl⟩
      go_wp2_with fail
      refine (C2.out _).mono ?_
      rintro e w1 ⟨rfl, rfl⟩
      go_wp2_with (at_builtin; refine wpl_append rfl _ _ rfl w.heap.size _ (.slice (some ⟨wr.heap.size, 0, none⟩) 1 1) l [M.ofD T] (l ++ [M.ofD T]) rfl (ho.keep ((Below.refl _ _).alloc (Nat.le_refl _) _)) rfl (one_digit wr T _ (ofD_val T _ (by rw [HRT.out]))) (fun n c h => by simp at h) (by simp; omega) (by simp; omega) rfl ?_)
      intro v3 w3 ho3 hb4
      have hb5 := (hb.alloc hsz _).trans hb4
      clear hb hb4 ho
      go_wp2
      go_roundw
      case rel => exact ⟨k + 1, T / 10, l ++ [M.ofD T], by go_num, by have := HTi.out; congr 1; omega, by omega, Hstep.out, ho3, hb5⟩
      case measure => simp [intOf]; omega
    · obtain rfl : k = K + 1 := by omega
      have hend := M.sum_end Dx.out Dy.out HS.out (by omega) (by omega)
      have hdl := HS.out.2.1
      have Hend := Lib.hid hend
      have Hdl := Lib.hid hdl
      clear hend hdl hlt
      go_wp2_with fail
      refine (rev_any w.heap.size _ l l.reverse wr ho (by omega) rfl).mono ?_
      rintro e w2 ⟨rfl, ho2, hb2⟩
      have hb3 := hb.trans hb2
      clear hb hb2 ho
      go_wp2
      go_ret
      exact ⟨_, l.reverse, rfl, ho2, by simp; omega, fun c hc => Hdl.out c (by simpa using hc), by rw [M.dval_reverse]; exact Hend.out, hb3⟩
set_option maxHeartbeats 1000000 in
theorem dif_any (x y : List UInt8) (w : World) (hx : x.length ≤ 100000) (hy : y.length ≤ 100000) (dx : ∀ c ∈ x, M.dig c = true) (dy : ∀ c ∈ y, M.dig c = true) (hle : y.length ≤ x.length) (hval : M.dval y ≤ M.dval x) :
    Calls Tryz.prog 136 #[.string (bytes x), .string (bytes y)] w fun e w' => ∃ v l, e = .returned v ∧ OwnB w.heap.size w' v l ∧ l.length ≤ 100001 ∧ (∀ c ∈ l, M.dig c = true) ∧ M.dval l = M.dval x - M.dval y ∧ Below w.heap.size w w' := by
  have sx := bytes_size x
  have sy := bytes_size y
  have d1 := fun i r W h => dgt_any x i r W (by omega) dx h
  have d2 := fun i r W h => dgt_any y i r W (by omega) dy h
  obtain ⟨s, hs⟩ : ∃ s, bytes x = s := ⟨_, rfl⟩
  obtain ⟨t, ht⟩ : ∃ s, bytes y = s := ⟨_, rfl⟩
  rw [hs] at sx d1
  rw [ht] at sy d2
  rw [hs, ht]
  obtain ⟨K, hK⟩ : ∃ K, x.length = K := ⟨_, rfl⟩
  have hK1 : x.length ≤ K ∧ y.length ≤ K ∧ K ≤ 100000 := by omega
  have hmax : s.size = K := by omega
  have hs1 : s.size ≤ 100000 := by omega
  have ht1 : t.size ≤ 100000 := by omega
  have D1 := Lib.hid d1
  have D2 := Lib.hid d2
  have Dx := Lib.hid dx
  have Dy := Lib.hid dy
  clear d1 d2 dx dy hs ht hK sx sy
  have Hsz := Lib.hid hmax
  go_enter Tryz.func136, Tryz.ntmps136
  go_wp2
  go_loopw [5, 6, 7, 8, 11] (fun ov cv _ _ iv wr => ∃ (k carry : Nat) (l : List UInt8), iv = .int .i64 k ∧ cv = .int .i64 carry ∧ k ≤ K ∧ M.Dif x y k l carry ∧ OwnB w.heap.size wr ov l ∧ Below w.heap.size w wr) (fun _ _ _ _ iv _ => K - (intOf iv).toNat)
  case atStart => exact ⟨0, 0, [], rfl, rfl, by omega, M.dif_start x y, World.ownsRow_nil _ _ _ _, Below.refl _ _⟩
  case round =>
    obtain ⟨k, carry, l, rfl, rfl, hk, hS, ho, hb⟩ := hrel
    have hc1 := hS.2.2.1
    have hll := hS.1
    have HS := Lib.hid hS
    have hsz := hb.size
    clear hS
    by_cases hlt : k < K
    · obtain ⟨p, hp⟩ : ∃ p, M.dat x k = p := ⟨_, rfl⟩
      obtain ⟨q, hq⟩ : ∃ p, M.dat y k = p := ⟨_, rfl⟩
      have hp9 := M.dat_le x Dx.out k
      have hq9 := M.dat_le y Dy.out k
      have hstep := M.dif_step Dx.out Dy.out HS.out
      rw [hp] at hp9 hstep
      rw [hq] at hq9 hstep
      have c1 := fun W => D1.out k p W hp
      have c2 := fun W => D2.out k q W hq
      have C1 := Lib.hid c1
      have C2 := Lib.hid c2
      have Hstep := Lib.hid hstep
      obtain ⟨T, hT⟩ : ∃ T, p + 10 - q - carry = T := ⟨_, rfl⟩
      rw [hT] at Hstep
      obtain ⟨P, hP⟩ : ∃ P : Int, (p : Int) = P := ⟨_, rfl⟩
      obtain ⟨Q, hQ⟩ : ∃ P : Int, (q : Int) = P := ⟨_, rfl⟩
      obtain ⟨C, hC⟩ : ∃ P : Int, (carry : Int) = P := ⟨_, rfl⟩
      have hTi : P - Q - C + 10 = (T : Int) := by omega
      have P0 : 0 ≤ P := by omega
      have P9 : P ≤ 9 := by omega
      have Q0 : 0 ≤ Q := by omega
      have Q9 : Q ≤ 9 := by omega
      have C0' : 0 ≤ C := by omega
      have C9 : C ≤ 1 := by omega
      have hll2 : l.length ≤ 100001 := by omega
      rw [hP] at C1
      rw [hQ] at C2
      rw [hC]
      obtain ⟨R, hR⟩ : ∃ R, (P - Q - C + 10) % 10 = R := ⟨_, rfl⟩
      obtain ⟨V, hV⟩ : ∃ R, (P - Q - C + 10) / 10 = R := ⟨_, rfl⟩
      have R0 : 0 ≤ R := by omega
      have R9 : R ≤ 9 := by omega
      have hRT : R = ((T % 10 : Nat) : Int) := by omega
      have hVT : V = ((T / 10 : Nat) : Int) := by omega
      have HTi := Lib.hid hTi
      have HRT := Lib.hid hRT
      have HVT := Lib.hid hVT
      clear hRT hVT
      clear c1 c2 hp hq hstep hT hll hP hQ hC hTi hp9 hq9 hc1
      go_wp2_with fail
      refine (C1.out _).mono ?_
      rintro e w1 ⟨rfl, rfl⟩
      go_wp2_with fail
      refine (C2.out _).mono ?_
      rintro e w1 ⟨rfl, rfl⟩
      go_wp2_with (at_builtin; refine wpl_append rfl _ _ rfl w.heap.size _ (.slice (some ⟨wr.heap.size, 0, none⟩) 1 1) l [M.ofD T] (l ++ [M.ofD T]) rfl (ho.keep ((Below.refl _ _).alloc (Nat.le_refl _) _)) rfl (one_digit wr T _ (ofD_val T _ (by rw [HRT.out]))) (fun n c h => by simp at h) (by simp; omega) (by simp; omega) rfl ?_)
      intro v3 w3 ho3 hb4
      have hb5 := (hb.alloc hsz _).trans hb4
      clear hb hb4 ho
      go_wp2
      go_roundw
      case rel => exact ⟨k + 1, 1 - T / 10, l ++ [M.ofD T], by go_num, by have := HTi.out; congr 1; omega, by omega, Hstep.out, ho3, hb5⟩
      case measure => simp [intOf]; omega
    · obtain rfl : k = K := by omega
      have hend := M.dif_end HS.out (by omega) (by omega) hval
      have hdl := HS.out.2.1
      have Hend := Lib.hid hend
      have Hdl := Lib.hid hdl
      clear hend hdl hlt
      go_wp2_with fail
      refine (rev_any w.heap.size _ l l.reverse wr ho (by omega) rfl).mono ?_
      rintro e w2 ⟨rfl, ho2, hb2⟩
      have hb3 := hb.trans hb2
      clear hb hb2 ho
      go_wp2
      go_ret
      exact ⟨_, l.reverse, rfl, ho2, by simp; omega, fun c hc => Hdl.out c (by simpa using hc), by rw [M.dval_reverse]; exact Hend.out, hb3⟩
end Go.Proofs.YtpecaalpbeoolaaGreatDoor
