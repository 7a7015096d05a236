/- Tokens of CSS: the program's functions that run along code points. -/
import Derived.Test.YtpecaalpbeoolaaGreatDoorFSmall
import Derived.Deep.QuietTactic
import Derived.BigQuiet
namespace Go.Proofs.YtpecaalpbeoolaaGreatDoor
open Go.RowKit
set_option linter.unusedVariables false
set_option linter.unusedSimpArgs false

theorem below_drewNF {B : Nat} {a w : World} (h : Below B a w) (n : Nat) : Below B a (w.drewN n) := ⟨h.os, h.tape, h.output, h.size, h.block⟩
theorem get_ofF (l : List UInt8) (S : ByteArray) (hS : bytes l = S) : S.size = l.length ∧ ∀ (j : Nat) (h : j < S.size) (h2 : j < l.length), S[j]'h = l[j] := by
  subst hS
  exact ⟨bytes_size l, fun j h h2 => rfl⟩
/-- The code points of an ASCII text. -/
def asI (s : List UInt8) : List Int := s.map fun x => (x.toNat : Int)
theorem stC_at (s c : List Int) : M.stC s c = true ↔ s.length ≤ c.length ∧ ∀ j, j < s.length → c.getD j (-1) = s.getD j 0 := by
  induction s generalizing c with
  | nil => simp [M.stC]
  | cons a t ih =>
    cases c with
    | nil => simp [M.stC]
    | cons b u =>
      have e : M.stC (a :: t) (b :: u) = (a == b && M.stC t u) := rfl
      rw [e, Bool.and_eq_true, ih, beq_iff_eq]
      constructor
      · rintro ⟨rfl, h1, h2⟩
        refine ⟨by simpa using h1, fun j hj => ?_⟩
        cases j with
        | zero => rfl
        | succ j => simpa using h2 j (by simpa using hj)
      · rintro ⟨h1, h2⟩
        refine ⟨by have := h2 0 (by simp); simpa using this.symm, by simpa using h1, fun j hj => ?_⟩
        have := h2 (j + 1) (by simp; omega)
        simpa using this
set_option maxRecDepth 100000 in
set_option maxHeartbeats 2000000 in
theorem fstands_any (v : Value) (c : List Int) (i : Nat) (s : List UInt8) (b : Bool) (w : World) (hv : Lc w v c) (hl : c.length ≤ 4294967290) (hi : i ≤ 4294967290) (hs : s.length ≤ 100) (hs0 : 1 ≤ s.length) (h : M.stC (asI s) (c.drop i) = b) :
    Calls Tryz.prog 33 #[v, .int .i64 (i : Int), .string (bytes s)] w fun e w' => e = .returned (.bool b) ∧ Below w.heap.size w w' := by
  obtain ⟨n, hn⟩ : ∃ n, c.length = n := ⟨_, rfl⟩
  obtain ⟨a, cap, rfl, h1, h2, h3⟩ := lc_at hv hn
  obtain ⟨S, hS⟩ : ∃ S, bytes s = S := ⟨_, rfl⟩
  obtain ⟨hsz, hget⟩ := get_ofF s S hS
  rw [hS]
  rw [hn] at hl
  obtain ⟨m, hm⟩ : ∃ m, S.size = m := ⟨_, rfl⟩
  have hb : b = true ↔ m + i ≤ max n i ∧ ∀ j, j < m → c.getD (i + j) (-1) = ((s.getD j 0).toNat : Int) := by
    rw [← h, stC_at]
    unfold asI
    rw [List.length_map, List.length_drop, hn, ← hsz, hm]
    constructor
    · rintro ⟨e1, e2⟩
      refine ⟨by omega, fun j hj => ?_⟩
      have := e2 j hj
      rw [getD_drop] at this
      rw [this]
      simp [List.getD, show j < s.length by omega]
    · rintro ⟨e1, e2⟩
      refine ⟨by omega, fun j hj => ?_⟩
      rw [getD_drop, e2 j hj]
      simp [List.getD, show j < s.length by omega]
  have HB := Lib.hid hb
  have Hget := Lib.hid hget
  have HSZ := Lib.hid hsz
  have HM := Lib.hid hm
  have H3 := Lib.hid h3
  have s1 : S.size ≤ 100 := by omega
  have m1 : m ≤ 100 := by omega
  have m0 : 1 ≤ m := by omega
  clear hv hS hb hget hsz h3 h
  by_cases hshort : (n : Int) - i < m
  · obtain rfl : b = false := by
      cases b with
      | false => rfl
      | true =>
        have := (HB.out.1 rfl).1
        omega
    rw [← hm] at hshort
    have i0 : (0 : Int) ≤ i := by omega
    clear hm hn
    go_enter Tryz.func33, Tryz.ntmps33
    go_wp2
    go_ret
    exact ⟨rfl, Below.refl _ _⟩
  · rw [← hm] at hshort
    have i0 : (0 : Int) ≤ i := by omega
    have hfit : m + i ≤ n := by omega
    clear hm hn
    go_enter Tryz.func33, Tryz.ntmps33
    go_wp2
    go_loopw [17] (fun kv wr => ∃ k : Nat, kv = .int .i64 (k : Int) ∧ k ≤ m ∧ (∀ j, j < k → c.getD (i + j) (-1) = ((s.getD j 0).toNat : Int)) ∧ Below w.heap.size w wr) (fun kv _ => m - (intOf kv).toNat)
    case atStart => exact ⟨0, rfl, by omega, fun j hj => by omega, Below.refl _ _⟩
    case round =>
      obtain ⟨k, rfl, hk, hall, hb⟩ := hrel
      have HA := Lib.hid hall
      have HW := Lib.hid hb
      clear hall hb
      by_cases hlt : k < m
      · obtain ⟨q, hq⟩ : ∃ q, i + k = q := ⟨_, rfl⟩
        obtain ⟨p, off, rfl, hp, c0⟩ := H3.out q (by omega)
        have cr := HW.out.cell (p := ⟨p, off + q * 2, none⟩) hp
        rw [c0] at cr
        have hks : k < S.size := by rw [HM.out]; exact hlt
        have hkl : k < s.length := by rw [← HSZ.out]; exact hks
        have hsk := Hget.out k hks hkl
        have hsd : s.getD k 0 = s[k] := by simp [List.getD, hkl]
        obtain ⟨x, hx⟩ : ∃ x, s[k] = x := ⟨_, rfl⟩
        rw [hx] at hsk hsd
        obtain ⟨y, hy⟩ : ∃ y, c.getD q (-1) = y := ⟨_, rfl⟩
        rw [hy] at cr
        have q' : (i : Int) + k = q := by omega
        have k1 : (k : Int) < S.size := by omega
        have k0 : (0 : Int) ≤ k := by omega
        have q0 : (0 : Int) ≤ q := by omega
        have q1 : (q : Int) < n := by omega
        have x0 : (0 : Int) ≤ x.toNat := by omega
        have x1 : (x.toNat : Int) < 256 := by have := x.toNat_lt; omega
        have Hy := Lib.hid hy
        have Hsd := Lib.hid hsd
        have Hq := Lib.hid hq
        clear c0 hy hsd hx hkl hq
        by_cases hne : y = (x.toNat : Int)
        · have t1 : (y != (x.toNat : Int)) = false := by simp [hne]
          have Hne := Lib.hid hne
          clear hne
          go_wp2
          go_quiet (fail)
          go_wp2
          go_roundw
          case rel =>
            refine ⟨k + 1, by go_num, by omega, fun j hj => ?_, below_drewNF HW.out _⟩
            by_cases hjk : j < k
            · exact HA.out j hjk
            · obtain rfl : j = k := by omega
              rw [Hsd.out, Hq.out, Hy.out, Hne.out]
          case measure => simp [intOf]; omega
        · have t1 : (y != (x.toNat : Int)) = true := by simpa [bne] using hne
          obtain rfl : b = false := by
            cases b with
            | false => rfl
            | true =>
              have := (HB.out.1 rfl).2 k hlt
              rw [Hq.out, Hy.out, Hsd.out] at this
              exact absurd this hne
          clear hne
          go_wp2
          go_quiet (fail)
          go_wp2
          go_ret
          exact ⟨rfl, below_drewNF HW.out _⟩
      · obtain rfl : k = m := by omega
        obtain rfl : b = true := HB.out.2 ⟨by omega, HA.out⟩
        have k1 : ¬ (k : Int) < S.size := by rw [HM.out]; omega
        clear hlt
        go_wp2
        go_ret
        exact ⟨rfl, HW.out⟩
theorem digN_at (c : List Int) (i : Nat) (h : M.nDg (c.getD i (-1)) = true) : M.digN (c.drop i) = 1 + M.digN (c.drop (i + 1)) := by
  have hi : i < c.length := by
    rcases Nat.lt_or_ge i c.length with h1 | h1
    · exact h1
    · simp [List.getD, List.getElem?_eq_none h1, M.nDg] at h
  rw [drop_cons c i hi, M.digN_cons, if_pos (by rwa [getD_lt c i hi] at h)]
theorem digN_out (c : List Int) (i : Nat) (h : M.nDg (c.getD i (-1)) = false) : M.digN (c.drop i) = 0 := by
  by_cases hi : i < c.length
  · rw [drop_cons c i hi, M.digN_cons, if_neg (by rw [getD_lt c i hi] at h; simp [h])]
  · rw [List.drop_eq_nil_of_le (by omega)]; rfl
theorem blN_at (c : List Int) (i : Nat) (h : M.isBl (c.getD i (-1)) = true) : M.blN (c.drop i) = 1 + M.blN (c.drop (i + 1)) := by
  have hi : i < c.length := by
    rcases Nat.lt_or_ge i c.length with h1 | h1
    · exact h1
    · simp [List.getD, List.getElem?_eq_none h1, M.isBl] at h
  rw [drop_cons c i hi, M.blN_cons, if_pos (by rwa [getD_lt c i hi] at h)]
theorem blN_out (c : List Int) (i : Nat) (h : M.isBl (c.getD i (-1)) = false) : M.blN (c.drop i) = 0 := by
  by_cases hi : i < c.length
  · rw [drop_cons c i hi, M.blN_cons, if_neg (by rw [getD_lt c i hi] at h; simp [h])]
  · rw [List.drop_eq_nil_of_le (by omega)]; rfl
set_option maxRecDepth 100000 in
set_option maxHeartbeats 2000000 in
theorem fskipd_any (v : Value) (c : List Int) (i k : Nat) (w : World) (hv : Lc w v c) (hl : c.length ≤ 4294967200) (hi : i ≤ 4294967200) (h : i + M.digN (c.drop i) = k) :
    Calls Tryz.prog 91 #[v, .int .i64 (i : Int)] w fun e w' => e = .returned (.int .i64 (k : Int)) ∧ w = w' := by
  have HV := Lib.hid hv
  have hkl : k ≤ max i c.length := by
    have := M.digN_le (c.drop i)
    rw [List.length_drop] at this; omega
  have H0 := Lib.hid h
  obtain ⟨a, cap, rfl, h1, h2, h3⟩ := hv
  have HL := Lib.hid hl
  have HI := Lib.hid hi
  have HK := Lib.hid hkl
  clear h h3 h1 h2 hl hi hkl
  go_enter Tryz.func91, Tryz.ntmps91
  go_wp2
  go_loop [1] (fun iv => ∃ j : Nat, iv = .int .i64 (j : Int) ∧ j + M.digN (c.drop j) = k ∧ j ≤ k) (fun iv => k - (intOf iv).toNat)
  case atStart => exact ⟨i, rfl, H0.out, by have := H0.out; omega⟩
  case round =>
    obtain ⟨j, rfl, hj, hjk⟩ := hrel
    have HJ := Lib.hid hj
    clear hj
    have hjb : (j : Int) ≤ 4294967200 := by have := HK.out; have := HL.out; have := HI.out; omega
    cases hd : M.nDg (c.getD j (-1)) with
    | true =>
      have D1 := Lib.hid (fdig_any _ c j true w HV.out (by have := HL.out; omega) (by omega) hd)
      have hs := digN_at c j hd
      have hj2 : j + 1 ≤ k := by have := HJ.out; omega
      have HS := Lib.hid hs
      clear hd hs
      go_wp2_with fail
      refine (D1.out).mono ?_
      rintro e w' ⟨rfl, rfl⟩
      go_wp2
      go_round
      case rel => exact ⟨j + 1, by go_num, by have := HJ.out; have := HS.out; omega, hj2⟩
      case measure => simp [intOf]; omega
    | false =>
      have D1 := Lib.hid (fdig_any _ c j false w HV.out (by have := HL.out; omega) (by omega) hd)
      obtain rfl : j = k := by have := HJ.out; rw [digN_out c j hd] at this; omega
      clear hd
      go_wp2_with fail
      refine (D1.out).mono ?_
      rintro e w' ⟨rfl, rfl⟩
      go_wp2
      go_ret
      exact ⟨rfl, rfl⟩
set_option maxRecDepth 100000 in
set_option maxHeartbeats 2000000 in
theorem fskipb_any (v : Value) (c : List Int) (i k : Nat) (w : World) (hv : Lc w v c) (hl : c.length ≤ 4294967200) (hi : i ≤ 4294967200) (h : i + M.blN (c.drop i) = k) :
    Calls Tryz.prog 64 #[v, .int .i64 (i : Int)] w fun e w' => e = .returned (.int .i64 (k : Int)) ∧ w = w' := by
  have hkl : k ≤ max i c.length := by
    have := M.blN_le (c.drop i)
    rw [List.length_drop] at this; omega
  have H0 := Lib.hid h
  obtain ⟨n, hn⟩ : ∃ n, c.length = n := ⟨_, rfl⟩
  obtain ⟨a, cap, rfl, h1, h2, h3⟩ := lc_at hv hn
  have HN := Lib.hid hn
  have H3 := Lib.hid h3
  rw [hn] at hkl hl
  clear h h3 hn hv
  go_enter Tryz.func64, Tryz.ntmps64
  go_wp2
  go_loop [1] (fun iv => ∃ j : Nat, iv = .int .i64 (j : Int) ∧ j + M.blN (c.drop j) = k ∧ j ≤ k) (fun iv => k - (intOf iv).toNat)
  case atStart => exact ⟨i, rfl, H0.out, by have := H0.out; omega⟩
  case round =>
    obtain ⟨j, rfl, hj, hjk⟩ := hrel
    have HJ := Lib.hid hj
    clear hj
    have hjb : (j : Int) ≤ 4294967200 := by omega
    by_cases hjn : j < n
    · obtain ⟨p, off, rfl, hp, c0⟩ := H3.out j hjn
      have j0 : (0 : Int) ≤ j := by omega
      have j1 : (j : Int) < n := by omega
      have t1 : decide ((j : Int) < n) = true := by simp; omega
      cases hd : M.isBl (c.getD j (-1)) with
      | true =>
        have D1 := Lib.hid (isbl_any _ true w hd)
        have hs := blN_at c j hd
        have hj2 : j + 1 ≤ k := by have := HJ.out; omega
        have HS := Lib.hid hs
        obtain ⟨y, hy⟩ : ∃ y, c.getD j (-1) = y := ⟨_, rfl⟩
        rw [hy] at c0 D1
        clear hd hs hy
        go_wp2_with fail
        refine (D1.out).mono ?_
        rintro e w' ⟨rfl, rfl⟩
        go_wp2
        go_round
        case rel => exact ⟨j + 1, by go_num, by have := HJ.out; have := HS.out; omega, hj2⟩
        case measure => simp [intOf]; omega
      | false =>
        have D1 := Lib.hid (isbl_any _ false w hd)
        obtain rfl : j = k := by have := HJ.out; rw [blN_out c j hd] at this; omega
        obtain ⟨y, hy⟩ : ∃ y, c.getD j (-1) = y := ⟨_, rfl⟩
        rw [hy] at c0 D1
        clear hd hy
        go_wp2_with fail
        refine (D1.out).mono ?_
        rintro e w' ⟨rfl, rfl⟩
        go_wp2
        go_ret
        exact ⟨rfl, rfl⟩
    · obtain rfl : j = k := by
        have := HJ.out
        rw [List.drop_eq_nil_of_le (by rw [HN.out]; omega), M.blN_nil] at this; omega
      have j1 : ¬ (j : Int) < n := by omega
      have t1 : decide ((j : Int) < n) = false := by simp; omega
      clear hjn
      go_wp2
      go_ret
      exact ⟨rfl, rfl⟩
end Go.Proofs.YtpecaalpbeoolaaGreatDoor
