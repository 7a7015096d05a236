/- The walk of SreadCuts. -/
import Derived.Test.YtpfbhdkljcjhlaaDoorSWr
import Derived.Test.YtpfbhdkljcjhlaaDoorSRMaps
import Derived.Deep.QuietTactic
import Derived.BigQuiet
import Derived.Deep.Cut
namespace Go.Proofs.YtpfbhdkljcjhlaaDoor
open Go.RowKit
set_option linter.unusedVariables false
set_option linter.unusedSimpArgs false

def FewP (L : List M.S4) (w : World) (e : Ending) (w' : World) : Prop := ∃ q, e = .returned (.bool q) ∧ (q = true → L.length ≤ 60) ∧ w' = w
set_option maxRecDepth 100000 in
set_option maxHeartbeats 2000000 in
theorem sfew_any (v : Value) (L : List M.S4) (w : World) (hv : Ss w v L) :
    Calls Tryd.prog 7 #[v] w (FewP L w) := by
  have hpa := s4At_of hv
  obtain ⟨a, cap, rfl, h1, h2, -⟩ := id hpa
  have HP := Lib.hid hpa
  obtain ⟨n, hn⟩ : ∃ n, L.length = n := ⟨_, rfl⟩
  have HN := Lib.hid hn
  rw [hn] at h1 ⊢
  have hm : cap ≤ 9223372036854775807 := by unfold maxLen at h2; omega
  clear hpa hv hn
  go_enter Tryd.func7, Tryd.ntmps7
  go_wp2
  go_loopw [3] (fun iv wr => ∃ i : Nat, iv = .int .i64 (i : Int) ∧ i ≤ n ∧ wr = w) (fun iv _ => n - (intOf iv).toNat)
  case atStart => exact ⟨0, rfl, by omega, rfl⟩
  case round =>
    obtain ⟨i, rfl, hi, hwq⟩ := hrel
    have hwq := hwq.symm
    subst hwq
    by_cases hlt : i < n
    · obtain ⟨b, off, rfl, hbk, c0, c1, c2, c3⟩ := s4At_get (by have h := HP.out; rw [HN.out] at h; exact h) i (by rw [HN.out]; exact hlt)
      obtain ⟨x, hx⟩ : ∃ x, (L[i]'(by rw [HN.out]; exact hlt)).1 = x := ⟨_, rfl⟩
      rw [hx] at c0
      have i1 : (i : Int) < n := by omega
      have i0 : (0 : Int) ≤ i := by omega
      clear c1 c2 c3 hx
      by_cases g1 : 200 < x
      · by_cases g2 : x ≤ 100000
        · go_wp2
          go_ret
          exact ⟨false, rfl, fun h => by simp at h, rfl⟩
        · have g3 : 100000 < x := by omega
          go_wp2
          go_roundw
          case rel => exact ⟨i + 1, by go_num, by omega, by first | rfl | trivial⟩
          case measure => simp [intOf]; omega
      · have g3 : x ≤ 200 := by omega
        go_wp2
        go_roundw
        case rel => exact ⟨i + 1, by go_num, by omega, by first | rfl | trivial⟩
        case measure => simp [intOf]; omega
    · obtain rfl : i = n := by omega
      go_wp2
      go_ret
      exact ⟨_, rfl, fun h => by have := of_decide_eq_true h; have := HN.out; omega, rfl⟩
theorem sbelow_drewN {B : Nat} {a w : World} (h : Below B a w) (n : Nat) : Below B a (w.drewN n) := ⟨h.os, h.tape, h.output, h.size, h.block⟩
set_option maxRecDepth 100000 in
set_option maxHeartbeats 4000000 in
theorem ssame_any (B C : Nat) (v u : Value) (l : List M.S4) (w : World) (hv : S4At B w v l) (hu : S4At C w u l) (hl : l.length ≤ 4294967296) :
    Calls Tryd.prog 9 #[v, u] w fun e w' => e = .returned (.bool true) ∧ Below w.heap.size w w' := by
  obtain ⟨a, cap, rfl, -⟩ := id hv
  obtain ⟨a', cap', rfl, -⟩ := id hu
  obtain ⟨n, hn⟩ : ∃ n, l.length = n := ⟨_, rfl⟩
  rw [hn] at hl hv hu ⊢
  have HN := Lib.hid hn
  have HV := Lib.hid hv
  have HU := Lib.hid hu
  clear hv hu hn
  go_enter Tryd.func9, Tryd.ntmps9
  go_wp2
  go_loopw [5] (fun iv wr => ∃ m q : Nat, iv = .int .i64 m ∧ m ≤ n ∧ wr = w.drewN q) (fun iv _ => n - (intOf iv).toNat)
  case atStart => exact ⟨0, 0, rfl, by omega, rfl⟩
  case round =>
    obtain ⟨m, q, rfl, hm, rfl⟩ := hrel
    by_cases hlt : m < n
    · obtain ⟨b, off, rfl, hb, c0, c1, c2, c3⟩ := s4At_get HV.out m (by rw [HN.out]; exact hlt)
      obtain ⟨b', off', rfl, hb', d0, d1, d2, d3⟩ := s4At_get HU.out m (by rw [HN.out]; exact hlt)
      obtain ⟨x, hx⟩ : ∃ x, (l[m]'(by rw [HN.out]; exact hlt)) = x := ⟨_, rfl⟩
      obtain ⟨x0, x1, x2, x3⟩ := x
      simp only [hx] at c0 c1 c2 c3 d0 d1 d2 d3
      have i1 : (0 : Int) ≤ m := by omega
      have i2 : (m : Int) < n := by omega
      clear hx
      go_wp2
      go_quiet (fail)
      go_wp2
      go_roundw
      case rel => exact ⟨m + 1, _, by go_num, by omega, rfl⟩
      case measure => simp [intOf]; omega
    · obtain rfl : m = n := by omega
      clear hlt
      go_wp2
      go_ret
      exact ⟨rfl, sbelow_drewN (Below.refl _ _) _⟩
theorem take_bytes (l : List UInt8) (k : Nat) : (bytes l).extract 0 k = bytes (l.take k) := by
  apply ByteArray.ext
  apply Array.ext'
  rw [ByteArray.data_extract, Array.toList_extract]
  simp [bytes, List.extract]
set_option maxRecDepth 100000 in
set_option maxHeartbeats 8000000 in
theorem srcuts_walk (a : Option Addr) (len cap : Nat) (x1 : Int) (L : List M.S4) (m : Int) (w : World) (hn : L.length = len) (hv : Ss w (.slice a len cap) L) (u0 : L.length ≤ 209715) (hm : w.cell? ⟨0, 0, none⟩ = some (.int .i64 m)) :
    Calls Tryd.prog 3 #[.slice a len cap, .int .i64 x1] w fun e w' => e = .returned (.bool true) ∧ Below w.heap.size w w' := by
  have al := Lib.hid (salive25_any m w hm)
  have HM := Lib.hid hm
  obtain ⟨mo, hmo⟩ : ∃ x, M.maps L = x := ⟨_, rfl⟩
  have RM := Lib.hid (fun w (h : Ss w (.slice a len cap) L) => refmaps_any (.slice a len cap) L mo w h u0 hmo)
  have FW := Lib.hid (fun w (h : Ss w (.slice a len cap) L) => sfew_any (.slice a len cap) L w h)
  have HV := Lib.hid hv
  have HN := Lib.hid hn
  have HMO := Lib.hid hmo
  have U0 := Lib.hid u0
  clear hm hv hn hmo u0
  go_enter Tryd.func3, Tryd.ntmps3
  go_wp2_with fail
  refine al.out.mono ?_
  rintro e w1 ⟨rfl, hb1⟩
  have V1 := Lib.hid (Ss.keep HV.out hb1)
  have M1 := Lib.hid (keepM HM.out hb1)
  have B1 := Lib.hid hb1
  clear hb1
  go_wp2_with fail
  refine (RM.out _ V1.out).mono ?_
  rintro e w2 ⟨rfl, hb2⟩
  have V2 := Lib.hid (Ss.keep V1.out hb2)
  have M2 := Lib.hid (keepM M1.out hb2)
  have B2 := Lib.hid (B1.out.trans (hb2.mono B1.out.size))
  clear hb2
  unfold mres
  obtain ⟨S, hS⟩ : ∃ x, bytes (mo.getD []) = x := ⟨_, rfl⟩
  rw [hS]
  have HS := Lib.hid hS
  clear hS
  go_wp2_with fail
  refine (FW.out _ V2.out).mono ?_
  rintro e w' ⟨q, rfl, hq, rfl⟩
  cases q with
  | false =>
    clear hq
    go_wp2
    go_ret
    exact ⟨rfl, B2.out⟩
  | true =>
    have HQ := Lib.hid (hq rfl)
    clear hq
    cases mo with
    | none =>
      simp only [Option.isSome_none]
      go_wp2
      go_ret
      exact ⟨rfl, B2.out⟩
    | some acc =>
      simp only [Option.isSome_some]
      have hS2 := HS.out
      simp only [Option.getD_some] at hS2
      have hsz : S.size = acc.length := by rw [← hS2, bytes_size]
      have HS2 := Lib.hid hS2
      have HSZ := Lib.hid hsz
      clear hS2 hsz
      by_cases h0 : S.size = 0
      · have q0 : ((S.size : Int) == 0) = true := by rw [beq_iff_eq]; omega
        clear h0
        go_wp2
        go_ret
        exact ⟨rfl, B2.out⟩
      · have q0 : ((S.size : Int) == 0) = false := by rw [beq_eq_false_iff_ne]; omega
        by_cases hneg : x1 < 0
        · clear h0
          go_wp2
          go_ret
          exact ⟨rfl, B2.out⟩
        · obtain ⟨X, rfl⟩ : ∃ X : Nat, x1 = X := ⟨x1.toNat, by omega⟩
          have hal := HSZ.out
          have hml := M.maps_len L acc HMO.out
          have h60 := HQ.out
          obtain ⟨n, hnS⟩ : ∃ n, S.size = n := ⟨_, rfl⟩
          rw [hnS] at q0 h0 hal
          have n0 : (n : Int) ≠ 0 := by omega
          have ht : ((X : Int)).tmod (n : Int) = ((X % n : Nat) : Int) := by rw [Int.ofNat_tmod]
          have hkn : X % n < n := Nat.mod_lt _ (by omega)
          obtain ⟨k, hk⟩ : ∃ k, X % n = k := ⟨_, rfl⟩
          rw [hk] at ht hkn
          have ex : S.extract 0 k = bytes (acc.take k) := by rw [← HS2.out]; exact take_bytes acc k
          obtain ⟨A, hA⟩ : ∃ x, bytes (acc.take k) = x := ⟨_, rfl⟩
          rw [hA] at ex
          have kn : (k : Int) ≤ n := by omega
          obtain ⟨R, hR⟩ : ∃ R, M.readM (acc.take k) = R := ⟨_, rfl⟩
          have SM := Lib.hid (fun w hm => smappings_any A (acc.take k) R m w hA (by rw [← hA, bytes_size, List.length_take]; omega) hm hR)
          have HRR := Lib.hid hR
          have NS := Lib.hid hnS
          have n1 : (n : Int) ≤ 200000 := by omega
          clear hR hA hk hml h60 hal
          have hLne : L ≠ [] := by
            intro e
            have h := HMO.out
            rw [e] at h
            have h2 : M.maps [] = some [] := by decide +kernel
            rw [h2] at h
            simp only [Option.some.injEq] at h
            have h3 : S.size = ([] : List UInt8).length := by rw [h]; exact HSZ.out
            have h4 := NS.out
            have h5 : S.size = 0 := h3
            omega
          have HLN := Lib.hid hLne
          clear hLne
          go_wp2_with fail
          refine (SM.out _ M2.out).mono ?_
          rintro e w3 ⟨v, rfl, hs3, hn3, hb3⟩
          have B3 := Lib.hid (B2.out.trans (hb3.mono B2.out.size))
          have V3 := Lib.hid (Ss.keep V2.out hb3)
          clear hb3
          cases R with
          | none =>
            obtain ⟨a', c', rfl, -, -, -⟩ := hs3
            simp only [Option.isSome_none]
            go_wp2
            go_ret
            exact ⟨by simp, B3.out⟩
          | some o =>
            simp only [Option.getD_some] at hs3
            have h1 := M.readM_maps _ _ HRR.out
            obtain ⟨kk, hkk⟩ := M.maps_pre o L (acc.take k) (acc.drop k) h1 (by rw [List.take_append_drop]; exact HMO.out)
            have hol : o.length ≤ len := by rw [← HN.out, hkk]; simp
            have hS4 := s4At_of hs3
            have hV4 := s4At_of V3.out
            have hsl : S4At w3.heap.size w3 (.slice a o.length cap) o := by
              obtain ⟨a2, c2, e, q1, q2, q3⟩ := hV4
              simp only [Value.slice.injEq] at e
              obtain ⟨rfl, -, rfl⟩ := e
              refine ⟨a, cap, rfl, by have := HN.out; omega, q2, fun h0 => ?_⟩
              obtain ⟨b, off, rfl, hb, hc⟩ := q3 (by rw [hkk]; simp; omega)
              refine ⟨b, off, rfl, hb, fun j hj => ?_⟩
              have := hc j (by rw [hkk]; simp; omega)
              have e2 : L[j]'(by rw [hkk]; simp; omega) = o[j] := by
                simp only [hkk]
                exact List.getElem_append_left hj
              rw [e2] at this
              exact this
            have hcap : len ≤ cap := by
              obtain ⟨a2, c2, e, q1, q2, q3⟩ := hV4
              simp only [Value.slice.injEq] at e
              obtain ⟨-, -, rfl⟩ := e
              rw [← HN.out]; exact q1
            obtain ⟨b, off, ha⟩ : ∃ b off, a = some ⟨b, off, none⟩ := by
              obtain ⟨a2, c2, e, q1, q2, q3⟩ := hV4
              simp only [Value.slice.injEq] at e
              obtain ⟨rfl, -, -⟩ := e
              obtain ⟨b, off, h, -⟩ := q3 (List.length_pos_iff.2 HLN.out)
              exact ⟨b, off, h⟩
            obtain ⟨av, cv, rfl, -, -, -⟩ := id hS4
            have SS := Lib.hid (ssame_any _ _ _ _ o w3 hS4 hsl (by have := U0.out; have := HN.out; omega))
            obtain ⟨on, hon⟩ : ∃ x, o.length = x := ⟨_, rfl⟩
            rw [hon] at SS hol
            rw [hon]
            subst ha
            simp only [Option.isSome_some]
            have o1 : (on : Int) ≤ len := by omega
            have o2 : (on : Int) ≤ cap := by omega
            clear hkk hS4 hV4 hsl hs3 h1 hn3
            go_wp2_with fail
            refine SS.out.mono ?_
            rintro e w4 ⟨rfl, hb4⟩
            have B4 := Lib.hid (B3.out.trans (hb4.mono B3.out.size))
            clear hb4
            go_wp2
            go_ret
            exact ⟨by first | (simp; done) | (simp; omega), B4.out⟩
end Go.Proofs.YtpfbhdkljcjhlaaDoor
