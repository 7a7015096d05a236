/- Numbers: the reference's noughts and Shortest, the law's same. -/
import Derived.Test.YtmfcfkmkmlcepaaGreatDoorNRRight
import Derived.Test.YtmfcfkmkmlcepaaGreatDoorNAlive
namespace Go.Proofs.YtmfcfkmkmlcepaaGreatDoor
open Go.RowKit
set_option linter.unusedVariables false
set_option linter.unusedSimpArgs false

set_option maxRecDepth 100000 in
set_option maxHeartbeats 1000000 in
theorem noughts_any (n : Nat) (w : World) (hn : n ≤ 1000) :
    Calls Tryz.prog 32 #[.int .i64 n] w fun e w' => e = .returned (.string (bytes (List.replicate n 48))) ∧ w = w' := by
  have hadd : ∀ k, k ≤ n → ∀ W : World, (Op.stringOp .add (bytes (List.replicate k 48)) (⟨#[48]⟩ : ByteArray)).run Tryz.prog W = .ok (.string (bytes (List.replicate (k + 1) 48))) W := fun k hk => by
    have := cat_run (List.replicate k 48) [48] (List.replicate (k + 1) 48) (by rw [List.replicate_succ']) (by simp; omega) (by simp)
    rwa [show bytes [48] = (⟨#[48]⟩ : ByteArray) from rfl] at this
  have HA := Lib.hid hadd
  have H0 : Hid ((⟨#[]⟩ : ByteArray) = bytes (List.replicate 0 48)) := Lib.hid rfl
  clear hadd
  go_enter Tryz.func32, Tryz.ntmps32
  go_wp2_with fail
  rw [H0.out]
  go_loop [3, 4] (fun sv iv => ∃ k : Nat, iv = .int .i64 (k : Int) ∧ k ≤ n ∧ sv = .string (bytes (List.replicate k 48))) (fun _ iv => n - (intOf iv).toNat)
  case atStart => exact ⟨0, rfl, by omega, rfl⟩
  case round =>
    obtain ⟨k, rfl, hk, rfl⟩ := hrel
    by_cases hlt : k < n
    · have ha := HA.out k hk
      obtain ⟨P, hP⟩ : ∃ P, bytes (List.replicate k 48) = P := ⟨_, rfl⟩
      obtain ⟨Q, hQ⟩ : ∃ P, bytes (List.replicate (k + 1) 48) = P := ⟨_, rfl⟩
      rw [hP, hQ] at ha
      rw [hP]
      have HQ := Lib.hid hQ
      clear hP hQ
      go_wp2
      go_round
      case rel => exact ⟨k + 1, by go_num, by omega, by rw [HQ.out]⟩
      case measure => simp [intOf] <;> omega
    · obtain rfl : k = n := by omega
      clear hlt hk
      go_wp2
      go_ret
      exact ⟨rfl, rfl⟩
set_option maxRecDepth 100000 in
set_option maxHeartbeats 2000000 in
theorem refshort_any (l : List (List UInt8)) (v : Value) (R : List UInt8) (w : World) (hv : Ss w v l) (hl : l.length ≤ 100) (hR : M.shortN l = R) (h4 : ∀ s ∈ l, s.length ≤ 1000000) :
    Calls Tryz.prog 14 #[v] w fun e w' => e = .returned (.string (bytes R)) ∧ w = w' := by
  obtain ⟨a, cap, rfl, hc⟩ := ss_get hv
  have HC := Lib.hid hc
  obtain ⟨n, hn⟩ : ∃ n, l.length = n := ⟨_, rfl⟩
  have HN := Lib.hid hn
  have HR := Lib.hid hR
  rw [hn] at hl ⊢
  by_cases h0 : n = 0
  · have hl0 : l = [] := List.length_eq_zero_iff.1 (by omega)
    subst h0
    have hr : bytes R = ⟨#[]⟩ := by rw [← hR, hl0]; rfl
    rw [hr]
    clear hv hc hn hR hl0 hr h4
    go_enter Tryz.func14, Tryz.ntmps14
    go_wp2
    go_ret
    exact ⟨rfl, rfl⟩
  · have hpos : 0 < n := by omega
    obtain ⟨b, off, rfl, hb, hcell⟩ := hc (by omega)
    have hc0 := hcell 0 (by omega)
    rw [Nat.add_zero] at hc0
    have hs1 := short_step l 0 (by omega)
    rw [if_pos rfl] at hs1
    obtain ⟨A0, hA0⟩ : ∃ x, bytes l[0] = x := ⟨_, rfl⟩
    rw [hA0] at hc0
    have HA0 : Hid (A0 = bytes (M.shortN (l.take 1))) := Lib.hid (by rw [hs1, hA0])
    have HCL := Lib.hid hcell
    have H4 := Lib.hid h4
    have q0 : ((n : Int) == 0) = false := by rw [beq_eq_false_iff_ne]; omega
    clear hv hc hn hR hcell hs1 hA0 h4
    go_enter Tryz.func14, Tryz.ntmps14
    go_wp2_with fail
    rw [HA0.out]
    go_loop [3, 4] (fun sv iv => ∃ k : Nat, iv = .int .i64 (k : Int) ∧ 1 ≤ k ∧ k ≤ n ∧ sv = .string (bytes (M.shortN (l.take k)))) (fun _ iv => n - (intOf iv).toNat)
    case atStart => exact ⟨1, rfl, by omega, by omega, rfl⟩
    case round =>
      obtain ⟨k, rfl, hk1, hk, rfl⟩ := hrel
      by_cases hlt : k < n
      · have hkl : k < l.length := by rw [HN.out]; exact hlt
        have hc1 := HCL.out k hkl
        have hst := short_step l k hkl
        rw [if_neg (by omega)] at hst
        have hmem := H4.out _ (List.getElem_mem hkl)
        have hmem2 := H4.out _ (List.mem_of_mem_take (M.short_mem (l.take k) (by intro e; have := congrArg List.length e; rw [List.length_take, List.length_nil, HN.out] at this; omega)))
        obtain ⟨s, hs⟩ : ∃ s, l[k] = s := ⟨_, rfl⟩
        obtain ⟨t, ht⟩ : ∃ s, M.shortN (l.take k) = s := ⟨_, rfl⟩
        rw [hs] at hc1 hst hmem
        rw [ht] at hst hmem2 ⊢
        have z1 := bytes_size s
        have z2 := bytes_size t
        obtain ⟨S, hS⟩ : ∃ S, bytes s = S := ⟨_, rfl⟩
        obtain ⟨T, hT⟩ : ∃ S, bytes t = S := ⟨_, rfl⟩
        rw [hS] at hc1 z1
        rw [hT] at z2 ⊢
        have hst2 : bytes (M.shortN (l.take (k + 1))) = if S.size < T.size then S else T := by
          rw [hst]; unfold M.less2
          rw [z1, z2]; split
          · exact hS
          · exact hT
        have HST := Lib.hid hst2
        have y1 : S.size ≤ 1000000 := by omega
        have y2 : T.size ≤ 1000000 := by omega
        clear hst hs ht hS hT hst2 z1 z2 hmem hmem2
        by_cases q : S.size < T.size
        · go_wp2
          go_round
          case rel => exact ⟨k + 1, by go_num, by omega, by omega, by rw [HST.out, if_pos q]⟩
          case measure => simp [intOf] <;> omega
        · have q2 : ¬ (S.size : Int) < T.size := by omega
          go_wp2
          go_round
          case rel => exact ⟨k + 1, by go_num, by omega, by omega, by rw [HST.out, if_neg q]⟩
          case measure => simp [intOf] <;> omega
      · obtain rfl : k = n := by omega
        have hfin : M.shortN (l.take k) = R := by rw [← HN.out, List.take_length]; exact HR.out
        rw [hfin]
        clear hlt hfin
        go_wp2
        go_ret
        exact ⟨rfl, rfl⟩
set_option maxRecDepth 100000 in
set_option maxHeartbeats 2000000 in
theorem same_any (l : List (List UInt8)) (u v : Value) (w : World) (hu : Ss w u l) (hv : Ss w v l) (hl : l.length ≤ 100) :
    Calls Tryz.prog 10 #[u, v] w fun e w' => e = .returned (.bool true) ∧ ∃ q, w' = w.drewN q := by
  obtain ⟨a, cap, rfl, hc⟩ := ss_get hu
  obtain ⟨a2, cap2, rfl, hc2⟩ := ss_get hv
  have HC := Lib.hid hc
  have HC2 := Lib.hid hc2
  obtain ⟨n, hn⟩ : ∃ n, l.length = n := ⟨_, rfl⟩
  have HN := Lib.hid hn
  rw [hn] at hl ⊢
  clear hu hv hc hc2 hn
  go_enter Tryz.func10, Tryz.ntmps10
  go_wp2_with fail
  go_loopw [5] (fun iv wx => ∃ k q : Nat, iv = .int .i64 (k : Int) ∧ k ≤ n ∧ wx = w.drewN q) (fun iv _ => n - (intOf iv).toNat)
  case atStart => exact ⟨0, 0, rfl, by omega, rfl⟩
  case round =>
    obtain ⟨k, q, rfl, hk, rfl⟩ := hrel
    by_cases hlt : k < n
    · have hkl : k < l.length := by rw [HN.out]; exact hlt
      obtain ⟨b, off, rfl, hb, hcell⟩ := HC.out (by omega)
      obtain ⟨b2, off2, rfl, hb2, hcell2⟩ := HC2.out (by omega)
      have c1 := hcell k hkl
      have c2 := hcell2 k hkl
      obtain ⟨S, hS⟩ : ∃ S, bytes l[k] = S := ⟨_, rfl⟩
      rw [hS] at c1 c2
      clear hcell hcell2 hS
      go_wp2
      go_region
      all_goals
        go_wp2
        go_roundw
        case rel => exact ⟨k + 1, q + 1, by go_num, by omega, rfl⟩
        case measure => simp [intOf] <;> omega
    · obtain rfl : k = n := by omega
      clear hlt
      go_wp2
      go_ret
      exact ⟨rfl, q, rfl⟩
end Go.Proofs.YtmfcfkmkmlcepaaGreatDoor
