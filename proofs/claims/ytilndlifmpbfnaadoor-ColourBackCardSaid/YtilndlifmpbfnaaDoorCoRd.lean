/- Colours: which one a token is: digits. -/
import Derived.Test.YtilndlifmpbfnaaDoorCoRd0
import Derived.Deep.Cut
namespace Go.Proofs.YtilndlifmpbfnaaDoor
open Go.RowKit
set_option linter.unusedVariables false
set_option linter.unusedSimpArgs false

theorem numX_not (s : List UInt8) (j : Nat) (hj : j < s.length) (h : M.isXB (s.getD j 0) = false) : M.numX s = ((0, 0, 0, 0), false) := by
  unfold M.numX
  rw [if_neg]
  intro h2
  have := List.all_eq_true.1 h2 (s.getD j 0) (by rw [List.getD_eq_getElem?_getD, List.getElem?_eq_getElem hj]; exact List.getElem_mem _)
  rw [h] at this
  exact absurd this (by simp)
theorem all_hex (s : List UInt8) (h : ∀ i, i < s.length → M.isXB (s.getD i 0) = true) : s.all M.isXB = true := by
  rw [List.all_eq_true]
  intro c hc
  obtain ⟨i, hi, rfl⟩ := List.getElem_of_mem hc
  have := h i hi
  rwa [List.getD_eq_getElem?_getD, List.getElem?_eq_getElem hi] at this
theorem str_at (s : List UInt8) (S : ByteArray) (hS : bytes s = S) (j : Nat) (hj : j < s.length) (h' : j < S.size) : (S[j]'h') = s.getD j 0 := by
  subst hS
  rw [List.getD_eq_getElem?_getD, List.getElem?_eq_getElem hj]
  rfl
theorem bytes_addD (k l : List UInt8) : bytes (k ++ l) = bytes k ++ bytes l := by apply ByteArray.ext; simp [bytes]
set_option maxRecDepth 100000 in
set_option maxHeartbeats 8000000 in
theorem numbered_any (s : List UInt8) (w : World) (hl : s.length ≤ 4000000) : Calls Tryd.prog 13 #[.string (bytes s)] w fun e w' => e = .returned (.tuple #[arrV (M.numX s).1, .bool (M.numX s).2]) ∧ Below w.heap.size w w' := by
  have a0 := AB.new w (0, 0, 0, 0)
  have b0 := (Below.refl w.heap.size w).alloc (Nat.le_refl _) (.cells (arrC (0, 0, 0, 0)) 22)
  have z0 : w.heap.size + 1 ≤ (w.alloc (.cells (arrC (0, 0, 0, 0)) 22)).heap.size := by simp
  obtain ⟨W0, hW0⟩ : ∃ x, w.alloc (.cells (arrC (0, 0, 0, 0)) 22) = x := ⟨_, rfl⟩
  rw [hW0] at a0 b0 z0
  unfold arrC at hW0
  simp only at hW0
  obtain ⟨R, hR⟩ : ∃ R, M.numX s = R := ⟨_, rfl⟩
  obtain ⟨R1, R2⟩ := R
  rw [hR]
  have SA := Lib.hid (fun S hS => str_at s S hS)
  have NX := Lib.hid (numX_not s)
  obtain ⟨S, hS⟩ : ∃ S, bytes s = S := ⟨_, rfl⟩
  have hsz : S.size = s.length := by rw [← hS, bytes_size]
  rw [hS]
  obtain ⟨n, hn⟩ : ∃ n, s.length = n := ⟨_, rfl⟩
  rw [hn] at hsz hl NX
  have n1 : (n : Int) ≤ 4000000 := by omega
  have HS := Lib.hid hS
  have HN := Lib.hid hn
  have HR := Lib.hid hR
  have A0 := Lib.hid a0
  have B0 := Lib.hid b0
  have HW0 := Lib.hid hW0
  clear hS hn hR a0 b0 hW0 hl
  go_enter Tryd.func13, Tryd.ntmps13
  go_upto_region 1 with (fail)
  rw [HW0.out]
  go_wp2
  go_loopw [13] (fun iv wr => ∃ j : Nat, iv = .int .i64 (j : Int) ∧ j ≤ n ∧ (∀ i, i < j → M.isXB (s.getD i 0) = true) ∧ W0 = wr) (fun iv _ => n - (intOf iv).toNat)
  case atStart => exact ⟨0, rfl, by omega, fun i hi => by omega, rfl⟩
  case round =>
    obtain ⟨j, rfl, hj, hx, rfl⟩ := hrel
    by_cases hjn : j < n
    · have j1 : (j : Int) < n := by omega
      have at1 := SA.out S HS.out j (by rw [HN.out]; exact hjn) (by omega)
      obtain ⟨c, hc⟩ : ∃ c, s.getD j 0 = c := ⟨_, rfl⟩
      rw [hc] at at1
      obtain ⟨bx, hbx⟩ : ∃ b, M.isXB c = b := ⟨_, rfl⟩
      obtain ⟨X, hX⟩ : ∃ X : Int, (c.toNat : Int) = X := ⟨_, rfl⟩
      have x0 : 0 ≤ X := by omega
      have x1 : X < 256 := by have := c.toNat_lt; omega
      have IX := Lib.hid (fun w => ishexC_any c X bx w hX hbx)
      have HX := Lib.hid hx
      have HC := Lib.hid hc
      have HBX := Lib.hid hbx
      clear hx hc hbx
      cases bx with
      | true =>
        go_wp2_with fail
        refine (IX.out _).mono ?_
        rintro e w' ⟨rfl, rfl⟩
        go_wp2
        go_roundw
        case rel => exact ⟨j + 1, by go_num, by omega, fun i hi => by
          by_cases e : i < j
          · exact HX.out i e
          · obtain rfl : i = j := by omega
            rw [HC.out]; exact HBX.out, trivial⟩
        case measure => simp [intOf]; omega
      | false =>
        have nx := NX.out j hjn (by rw [HC.out]; exact HBX.out)
        rw [HR.out] at nx
        simp only [Prod.mk.injEq] at nx
        obtain ⟨rfl, rfl⟩ := nx
        go_wp2_with fail
        refine (IX.out _).mono ?_
        rintro e w' ⟨rfl, rfl⟩
        go_wp2_with (refine wpl_stA rfl _ _ rfl w.heap.size (0, 0, 0, 0) (0, 0, 0, 0) rfl rfl A0.out ?_)
        go_wp2
        (try simp only [Exit.inBlock, Exit.then])
        exact bodyPost_ret (res_arr rfl _ _ w.heap.size _ _ rfl rfl (A0.out.set _)) rfl ⟨rfl, below_setRowA B0.out (Nat.le_refl _) _⟩
    · obtain rfl : j = n := by omega
      have jf : decide ((j : Int) < j) = false := by simp
      have hal := all_hex s (by rw [HN.out]; exact hx)
      have hRR := HR.out
      unfold M.numX at hRR
      rw [if_pos hal, HN.out] at hRR
      have HX := Lib.hid hx
      clear hx hal
      by_cases h3 : j = 3
      · subst h3
        have hR1 : (cAt (M.valX s 1) 3, true) = (R1, R2) := by rw [← hRR]; rw [if_pos rfl]; rfl
        clear hRR
        rw [show ((3 : Nat) : Int) = 3 from rfl] at jf ⊢
        simp only [Prod.mk.injEq] at hR1
        obtain ⟨rfl, rfl⟩ := hR1
        have a1 : AB (W0.alloc (.cells #[.int .i64 0, .int .i64 0, .int .i64 0, .int .i64 255] 22)) W0.heap.size (cAt (M.valX s 1) 0) := AB.new W0 (0, 0, 0, 255)
        have bl1 := (Below.refl W0.heap.size W0).alloc (Nat.le_refl _) (.cells #[.int .i64 0, .int .i64 0, .int .i64 0, .int .i64 255] 22)
        have a2 := A0.out.keep bl1 (by omega)
        have b2 := B0.out.trans (bl1.mono (by omega))
        have z2 : W0.heap.size < (W0.alloc (.cells #[.int .i64 0, .int .i64 0, .int .i64 0, .int .i64 255] 22)).heap.size := by simp
        obtain ⟨W1, hW1⟩ : ∃ x, W0.alloc (.cells #[.int .i64 0, .int .i64 0, .int .i64 0, .int .i64 255] 22) = x := ⟨_, rfl⟩
        rw [hW1] at a1 a2 b2 z2
        have HW1 := Lib.hid hW1
        have A1 := Lib.hid a1
        have A2 := Lib.hid a2
        have B2 := Lib.hid b2
        clear hW1 a1 a2 b2 bl1
        go_upto_region 16 with (fail)
        rw [HW1.out]
        go_wp2
        go_loopw [38] (fun iv wr => ∃ i : Nat, iv = .int .i64 (i : Int) ∧ i ≤ 3 ∧ AB wr w.heap.size (0, 0, 0, 0) ∧ AB wr W0.heap.size (cAt (M.valX s 1) i) ∧ Below w.heap.size w wr) (fun iv _ => 3 - (intOf iv).toNat)
        case atStart => exact ⟨0, rfl, by omega, A2.out, A1.out, B2.out⟩
        case round =>
          obtain ⟨i, rfl, hi, a3, a4, b3⟩ := hrel
          by_cases him : i < 3
          · have i1 : (i : Int) < 3 := by omega
            have hx1 := HX.out i (by omega)
            have hx2 := HX.out i (by omega)
            have ex := one_of s i (by rw [HN.out]; omega)
            have hv : M.valX s 1 i = (M.hexNum [s.getD i 0, s.getD i 0] : Int) := by unfold M.valX; simp
            obtain ⟨c1, hc1⟩ : ∃ c, s.getD i 0 = c := ⟨_, rfl⟩
            rw [hc1] at hx1 hx2 ex hv
            obtain ⟨P, hP⟩ : ∃ P, bytes [c1] = P := ⟨_, rfl⟩
            rw [hP, HS.out] at ex
            have hq : ∀ c ∈ [c1, c1], M.hexN c < 16 := by
              intro c hc
              simp only [List.mem_cons, List.not_mem_nil, or_false] at hc
              rcases hc with rfl | rfl
              · simpa [M.isXB] using hx1
              · simpa [M.isXB] using hx2
            have hlt := hexNum_lt [c1, c1] hq 2 (by simp)
            have sm : bytes [c1, c1] = P ++ P := by rw [← hP]; exact bytes_addD [c1] [c1]
            have NU := Lib.hid (fun w => pu16_any [c1, c1] (P ++ P) 8 255 w sm hq (by simp) (.inl ⟨rfl, rfl, by simp⟩))
            rw [show [c1, c1].take 2 = [c1, c1] from rfl, show 16 ^ 2 = 256 from rfl] at hlt
            obtain ⟨Z, hZ⟩ : ∃ Z : Int, (M.hexNum [c1, c1] : Int) = Z := ⟨_, rfl⟩
            rw [hZ] at hv NU
            have zz0 : 0 ≤ Z := by omega
            have zz1 : Z < 256 := by omega
            have HV := Lib.hid hv
            have A3 := Lib.hid a3
            have A4 := Lib.hid a4
            have B3 := Lib.hid b3
            have ps : P.size = 1 := by rw [← hP, bytes_size]; rfl
            clear hx1 hx2 hv hZ hP hc1 sm hlt hq a3 a4 b3
            go_wp2_with fail
            refine (NU.out _).mono ?_
            rintro e w3 ⟨rfl, hb3⟩
            have a5 := A3.out.keep hb3 A3.out.lt
            have a6 := A4.out.keep hb3 A4.out.lt
            have b5 := B3.out.trans (hb3.mono B3.out.size)
            have fz := frozen_of_row w3 W0.heap.size i _ _ a6
            obtain ⟨old, hold⟩ := cAt_get (M.valX s 1) i (by omega)
            have ce := (cell_of_row w3 W0.heap.size i _ _ _ a6).trans hold
            have cs := cAt_set (M.valX s 1) i (by omega)
            rw [HV.out] at cs
            have A5 := Lib.hid a5
            have A6 := Lib.hid a6
            have B5 := Lib.hid b5
            have CS := Lib.hid cs
            clear a5 a6 b5 hb3 hold cs
            go_wp2
            go_roundw
            case rel => exact ⟨i + 1, by go_num, by omega, A5.out.other (by omega) _ _, A6.out.put _ _ CS.out, B5.out.setCell (by show w.heap.size ≤ W0.heap.size; omega) _⟩
            case measure => simp [intOf]; omega
          · obtain rfl : i = 3 := by omega
            have A3 := Lib.hid a3
            have A4 := Lib.hid a4
            have B3 := Lib.hid b3
            clear a3 a4 b3
            go_wp2_with (first | (refine wpl_ldA rfl _ rfl W0.heap.size (cAt (M.valX s 1) 3) rfl A4.out ?_) | (refine wpl_stA rfl _ _ rfl w.heap.size (0, 0, 0, 0) (cAt (M.valX s 1) 3) rfl rfl A3.out ?_))
            go_wp2
            (try simp only [Exit.inBlock, Exit.then])
            exact bodyPost_ret (res_arr rfl _ _ w.heap.size _ _ rfl rfl (A3.out.set _)) rfl ⟨rfl, below_setRowA B3.out (Nat.le_refl _) _⟩
      by_cases h4 : j = 4
      · subst h4
        have hR1 : (cAt (M.valX s 1) 4, true) = (R1, R2) := by rw [← hRR]; rw [if_neg (by decide)]; rw [if_pos rfl]; rfl
        clear hRR
        rw [show ((4 : Nat) : Int) = 4 from rfl] at jf ⊢
        simp only [Prod.mk.injEq] at hR1
        obtain ⟨rfl, rfl⟩ := hR1
        have a1 : AB (W0.alloc (.cells #[.int .i64 0, .int .i64 0, .int .i64 0, .int .i64 255] 22)) W0.heap.size (cAt (M.valX s 1) 0) := AB.new W0 (0, 0, 0, 255)
        have bl1 := (Below.refl W0.heap.size W0).alloc (Nat.le_refl _) (.cells #[.int .i64 0, .int .i64 0, .int .i64 0, .int .i64 255] 22)
        have a2 := A0.out.keep bl1 (by omega)
        have b2 := B0.out.trans (bl1.mono (by omega))
        have z2 : W0.heap.size < (W0.alloc (.cells #[.int .i64 0, .int .i64 0, .int .i64 0, .int .i64 255] 22)).heap.size := by simp
        obtain ⟨W1, hW1⟩ : ∃ x, W0.alloc (.cells #[.int .i64 0, .int .i64 0, .int .i64 0, .int .i64 255] 22) = x := ⟨_, rfl⟩
        rw [hW1] at a1 a2 b2 z2
        have HW1 := Lib.hid hW1
        have A1 := Lib.hid a1
        have A2 := Lib.hid a2
        have B2 := Lib.hid b2
        clear hW1 a1 a2 b2 bl1
        go_upto_region 16 with (fail)
        rw [HW1.out]
        go_wp2
        go_loopw [38] (fun iv wr => ∃ i : Nat, iv = .int .i64 (i : Int) ∧ i ≤ 4 ∧ AB wr w.heap.size (0, 0, 0, 0) ∧ AB wr W0.heap.size (cAt (M.valX s 1) i) ∧ Below w.heap.size w wr) (fun iv _ => 4 - (intOf iv).toNat)
        case atStart => exact ⟨0, rfl, by omega, A2.out, A1.out, B2.out⟩
        case round =>
          obtain ⟨i, rfl, hi, a3, a4, b3⟩ := hrel
          by_cases him : i < 4
          · have i1 : (i : Int) < 4 := by omega
            have hx1 := HX.out i (by omega)
            have hx2 := HX.out i (by omega)
            have ex := one_of s i (by rw [HN.out]; omega)
            have hv : M.valX s 1 i = (M.hexNum [s.getD i 0, s.getD i 0] : Int) := by unfold M.valX; simp
            obtain ⟨c1, hc1⟩ : ∃ c, s.getD i 0 = c := ⟨_, rfl⟩
            rw [hc1] at hx1 hx2 ex hv
            obtain ⟨P, hP⟩ : ∃ P, bytes [c1] = P := ⟨_, rfl⟩
            rw [hP, HS.out] at ex
            have hq : ∀ c ∈ [c1, c1], M.hexN c < 16 := by
              intro c hc
              simp only [List.mem_cons, List.not_mem_nil, or_false] at hc
              rcases hc with rfl | rfl
              · simpa [M.isXB] using hx1
              · simpa [M.isXB] using hx2
            have hlt := hexNum_lt [c1, c1] hq 2 (by simp)
            have sm : bytes [c1, c1] = P ++ P := by rw [← hP]; exact bytes_addD [c1] [c1]
            have NU := Lib.hid (fun w => pu16_any [c1, c1] (P ++ P) 8 255 w sm hq (by simp) (.inl ⟨rfl, rfl, by simp⟩))
            rw [show [c1, c1].take 2 = [c1, c1] from rfl, show 16 ^ 2 = 256 from rfl] at hlt
            obtain ⟨Z, hZ⟩ : ∃ Z : Int, (M.hexNum [c1, c1] : Int) = Z := ⟨_, rfl⟩
            rw [hZ] at hv NU
            have zz0 : 0 ≤ Z := by omega
            have zz1 : Z < 256 := by omega
            have HV := Lib.hid hv
            have A3 := Lib.hid a3
            have A4 := Lib.hid a4
            have B3 := Lib.hid b3
            have ps : P.size = 1 := by rw [← hP, bytes_size]; rfl
            clear hx1 hx2 hv hZ hP hc1 sm hlt hq a3 a4 b3
            go_wp2_with fail
            refine (NU.out _).mono ?_
            rintro e w3 ⟨rfl, hb3⟩
            have a5 := A3.out.keep hb3 A3.out.lt
            have a6 := A4.out.keep hb3 A4.out.lt
            have b5 := B3.out.trans (hb3.mono B3.out.size)
            have fz := frozen_of_row w3 W0.heap.size i _ _ a6
            obtain ⟨old, hold⟩ := cAt_get (M.valX s 1) i (by omega)
            have ce := (cell_of_row w3 W0.heap.size i _ _ _ a6).trans hold
            have cs := cAt_set (M.valX s 1) i (by omega)
            rw [HV.out] at cs
            have A5 := Lib.hid a5
            have A6 := Lib.hid a6
            have B5 := Lib.hid b5
            have CS := Lib.hid cs
            clear a5 a6 b5 hb3 hold cs
            go_wp2
            go_roundw
            case rel => exact ⟨i + 1, by go_num, by omega, A5.out.other (by omega) _ _, A6.out.put _ _ CS.out, B5.out.setCell (by show w.heap.size ≤ W0.heap.size; omega) _⟩
            case measure => simp [intOf]; omega
          · obtain rfl : i = 4 := by omega
            have A3 := Lib.hid a3
            have A4 := Lib.hid a4
            have B3 := Lib.hid b3
            clear a3 a4 b3
            go_wp2_with (first | (refine wpl_ldA rfl _ rfl W0.heap.size (cAt (M.valX s 1) 4) rfl A4.out ?_) | (refine wpl_stA rfl _ _ rfl w.heap.size (0, 0, 0, 0) (cAt (M.valX s 1) 4) rfl rfl A3.out ?_))
            go_wp2
            (try simp only [Exit.inBlock, Exit.then])
            exact bodyPost_ret (res_arr rfl _ _ w.heap.size _ _ rfl rfl (A3.out.set _)) rfl ⟨rfl, below_setRowA B3.out (Nat.le_refl _) _⟩
      by_cases h6 : j = 6
      · subst h6
        have hR1 : (cAt (M.valX s 2) 3, true) = (R1, R2) := by rw [← hRR]; rw [if_neg (by decide)]; rw [if_neg (by decide)]; rw [if_pos rfl]; rfl
        clear hRR
        rw [show ((6 : Nat) : Int) = 6 from rfl] at jf ⊢
        simp only [Prod.mk.injEq] at hR1
        obtain ⟨rfl, rfl⟩ := hR1
        have a1 : AB (W0.alloc (.cells #[.int .i64 0, .int .i64 0, .int .i64 0, .int .i64 255] 22)) W0.heap.size (cAt (M.valX s 2) 0) := AB.new W0 (0, 0, 0, 255)
        have bl1 := (Below.refl W0.heap.size W0).alloc (Nat.le_refl _) (.cells #[.int .i64 0, .int .i64 0, .int .i64 0, .int .i64 255] 22)
        have a2 := A0.out.keep bl1 (by omega)
        have b2 := B0.out.trans (bl1.mono (by omega))
        have z2 : W0.heap.size < (W0.alloc (.cells #[.int .i64 0, .int .i64 0, .int .i64 0, .int .i64 255] 22)).heap.size := by simp
        obtain ⟨W1, hW1⟩ : ∃ x, W0.alloc (.cells #[.int .i64 0, .int .i64 0, .int .i64 0, .int .i64 255] 22) = x := ⟨_, rfl⟩
        rw [hW1] at a1 a2 b2 z2
        have HW1 := Lib.hid hW1
        have A1 := Lib.hid a1
        have A2 := Lib.hid a2
        have B2 := Lib.hid b2
        clear hW1 a1 a2 b2 bl1
        go_upto_region 16 with (fail)
        rw [HW1.out]
        go_wp2
        go_loopw [38] (fun iv wr => ∃ i : Nat, iv = .int .i64 (i : Int) ∧ i ≤ 3 ∧ AB wr w.heap.size (0, 0, 0, 0) ∧ AB wr W0.heap.size (cAt (M.valX s 2) i) ∧ Below w.heap.size w wr) (fun iv _ => 3 - (intOf iv).toNat)
        case atStart => exact ⟨0, rfl, by omega, A2.out, A1.out, B2.out⟩
        case round =>
          obtain ⟨i, rfl, hi, a3, a4, b3⟩ := hrel
          by_cases him : i < 3
          · have i1 : (i : Int) < 3 := by omega
            have hx1 := HX.out (i * 2) (by omega)
            have hx2 := HX.out (i * 2 + 1) (by omega)
            have ex := two_of s (i * 2) 0 (by rw [HN.out]; omega)
            have hv : M.valX s 2 i = (M.hexNum [s.getD (i * 2) 0, s.getD (i * 2 + 1) 0] : Int) := by unfold M.valX; simp
            obtain ⟨c1, hc1⟩ : ∃ c, s.getD (i * 2) 0 = c := ⟨_, rfl⟩
            obtain ⟨c2, hc2⟩ : ∃ c, s.getD (i * 2 + 1) 0 = c := ⟨_, rfl⟩
            rw [hc1] at hx1 ex hv
            rw [hc2] at hx2 ex hv
            obtain ⟨P, hP⟩ : ∃ P, bytes [c1, c2] = P := ⟨_, rfl⟩
            rw [hP, HS.out] at ex
            have hq : ∀ c ∈ [c1, c2], M.hexN c < 16 := by
              intro c hc
              simp only [List.mem_cons, List.not_mem_nil, or_false] at hc
              rcases hc with rfl | rfl
              · simpa [M.isXB] using hx1
              · simpa [M.isXB] using hx2
            have hlt := hexNum_lt [c1, c2] hq 2 (by simp)
            have NU := Lib.hid (fun w => pu16_any [c1, c2] P 8 255 w hP hq (by simp) (.inl ⟨rfl, rfl, by simp⟩))
            rw [show [c1, c2].take 2 = [c1, c2] from rfl, show 16 ^ 2 = 256 from rfl] at hlt
            obtain ⟨Z, hZ⟩ : ∃ Z : Int, (M.hexNum [c1, c2] : Int) = Z := ⟨_, rfl⟩
            rw [hZ] at hv NU
            have zz0 : 0 ≤ Z := by omega
            have zz1 : Z < 256 := by omega
            have HV := Lib.hid hv
            have A3 := Lib.hid a3
            have A4 := Lib.hid a4
            have B3 := Lib.hid b3
            have ps : P.size = 2 := by rw [← hP, bytes_size]; rfl
            clear hx1 hx2 hv hZ hP hc1 hc2 hlt hq a3 a4 b3
            go_wp2_with fail
            refine (NU.out _).mono ?_
            rintro e w3 ⟨rfl, hb3⟩
            have a5 := A3.out.keep hb3 A3.out.lt
            have a6 := A4.out.keep hb3 A4.out.lt
            have b5 := B3.out.trans (hb3.mono B3.out.size)
            have fz := frozen_of_row w3 W0.heap.size i _ _ a6
            obtain ⟨old, hold⟩ := cAt_get (M.valX s 2) i (by omega)
            have ce := (cell_of_row w3 W0.heap.size i _ _ _ a6).trans hold
            have cs := cAt_set (M.valX s 2) i (by omega)
            rw [HV.out] at cs
            have A5 := Lib.hid a5
            have A6 := Lib.hid a6
            have B5 := Lib.hid b5
            have CS := Lib.hid cs
            clear a5 a6 b5 hb3 hold cs
            go_wp2
            go_roundw
            case rel => exact ⟨i + 1, by go_num, by omega, A5.out.other (by omega) _ _, A6.out.put _ _ CS.out, B5.out.setCell (by show w.heap.size ≤ W0.heap.size; omega) _⟩
            case measure => simp [intOf]; omega
          · obtain rfl : i = 3 := by omega
            have A3 := Lib.hid a3
            have A4 := Lib.hid a4
            have B3 := Lib.hid b3
            clear a3 a4 b3
            go_wp2_with (first | (refine wpl_ldA rfl _ rfl W0.heap.size (cAt (M.valX s 2) 3) rfl A4.out ?_) | (refine wpl_stA rfl _ _ rfl w.heap.size (0, 0, 0, 0) (cAt (M.valX s 2) 3) rfl rfl A3.out ?_))
            go_wp2
            (try simp only [Exit.inBlock, Exit.then])
            exact bodyPost_ret (res_arr rfl _ _ w.heap.size _ _ rfl rfl (A3.out.set _)) rfl ⟨rfl, below_setRowA B3.out (Nat.le_refl _) _⟩
      by_cases h8 : j = 8
      · subst h8
        have hR1 : (cAt (M.valX s 2) 4, true) = (R1, R2) := by rw [← hRR]; rw [if_neg (by decide)]; rw [if_neg (by decide)]; rw [if_neg (by decide)]; rw [if_pos rfl]; rfl
        clear hRR
        rw [show ((8 : Nat) : Int) = 8 from rfl] at jf ⊢
        simp only [Prod.mk.injEq] at hR1
        obtain ⟨rfl, rfl⟩ := hR1
        have a1 : AB (W0.alloc (.cells #[.int .i64 0, .int .i64 0, .int .i64 0, .int .i64 255] 22)) W0.heap.size (cAt (M.valX s 2) 0) := AB.new W0 (0, 0, 0, 255)
        have bl1 := (Below.refl W0.heap.size W0).alloc (Nat.le_refl _) (.cells #[.int .i64 0, .int .i64 0, .int .i64 0, .int .i64 255] 22)
        have a2 := A0.out.keep bl1 (by omega)
        have b2 := B0.out.trans (bl1.mono (by omega))
        have z2 : W0.heap.size < (W0.alloc (.cells #[.int .i64 0, .int .i64 0, .int .i64 0, .int .i64 255] 22)).heap.size := by simp
        obtain ⟨W1, hW1⟩ : ∃ x, W0.alloc (.cells #[.int .i64 0, .int .i64 0, .int .i64 0, .int .i64 255] 22) = x := ⟨_, rfl⟩
        rw [hW1] at a1 a2 b2 z2
        have HW1 := Lib.hid hW1
        have A1 := Lib.hid a1
        have A2 := Lib.hid a2
        have B2 := Lib.hid b2
        clear hW1 a1 a2 b2 bl1
        go_upto_region 16 with (fail)
        rw [HW1.out]
        go_wp2
        go_loopw [38] (fun iv wr => ∃ i : Nat, iv = .int .i64 (i : Int) ∧ i ≤ 4 ∧ AB wr w.heap.size (0, 0, 0, 0) ∧ AB wr W0.heap.size (cAt (M.valX s 2) i) ∧ Below w.heap.size w wr) (fun iv _ => 4 - (intOf iv).toNat)
        case atStart => exact ⟨0, rfl, by omega, A2.out, A1.out, B2.out⟩
        case round =>
          obtain ⟨i, rfl, hi, a3, a4, b3⟩ := hrel
          by_cases him : i < 4
          · have i1 : (i : Int) < 4 := by omega
            have hx1 := HX.out (i * 2) (by omega)
            have hx2 := HX.out (i * 2 + 1) (by omega)
            have ex := two_of s (i * 2) 0 (by rw [HN.out]; omega)
            have hv : M.valX s 2 i = (M.hexNum [s.getD (i * 2) 0, s.getD (i * 2 + 1) 0] : Int) := by unfold M.valX; simp
            obtain ⟨c1, hc1⟩ : ∃ c, s.getD (i * 2) 0 = c := ⟨_, rfl⟩
            obtain ⟨c2, hc2⟩ : ∃ c, s.getD (i * 2 + 1) 0 = c := ⟨_, rfl⟩
            rw [hc1] at hx1 ex hv
            rw [hc2] at hx2 ex hv
            obtain ⟨P, hP⟩ : ∃ P, bytes [c1, c2] = P := ⟨_, rfl⟩
            rw [hP, HS.out] at ex
            have hq : ∀ c ∈ [c1, c2], M.hexN c < 16 := by
              intro c hc
              simp only [List.mem_cons, List.not_mem_nil, or_false] at hc
              rcases hc with rfl | rfl
              · simpa [M.isXB] using hx1
              · simpa [M.isXB] using hx2
            have hlt := hexNum_lt [c1, c2] hq 2 (by simp)
            have NU := Lib.hid (fun w => pu16_any [c1, c2] P 8 255 w hP hq (by simp) (.inl ⟨rfl, rfl, by simp⟩))
            rw [show [c1, c2].take 2 = [c1, c2] from rfl, show 16 ^ 2 = 256 from rfl] at hlt
            obtain ⟨Z, hZ⟩ : ∃ Z : Int, (M.hexNum [c1, c2] : Int) = Z := ⟨_, rfl⟩
            rw [hZ] at hv NU
            have zz0 : 0 ≤ Z := by omega
            have zz1 : Z < 256 := by omega
            have HV := Lib.hid hv
            have A3 := Lib.hid a3
            have A4 := Lib.hid a4
            have B3 := Lib.hid b3
            have ps : P.size = 2 := by rw [← hP, bytes_size]; rfl
            clear hx1 hx2 hv hZ hP hc1 hc2 hlt hq a3 a4 b3
            go_wp2_with fail
            refine (NU.out _).mono ?_
            rintro e w3 ⟨rfl, hb3⟩
            have a5 := A3.out.keep hb3 A3.out.lt
            have a6 := A4.out.keep hb3 A4.out.lt
            have b5 := B3.out.trans (hb3.mono B3.out.size)
            have fz := frozen_of_row w3 W0.heap.size i _ _ a6
            obtain ⟨old, hold⟩ := cAt_get (M.valX s 2) i (by omega)
            have ce := (cell_of_row w3 W0.heap.size i _ _ _ a6).trans hold
            have cs := cAt_set (M.valX s 2) i (by omega)
            rw [HV.out] at cs
            have A5 := Lib.hid a5
            have A6 := Lib.hid a6
            have B5 := Lib.hid b5
            have CS := Lib.hid cs
            clear a5 a6 b5 hb3 hold cs
            go_wp2
            go_roundw
            case rel => exact ⟨i + 1, by go_num, by omega, A5.out.other (by omega) _ _, A6.out.put _ _ CS.out, B5.out.setCell (by show w.heap.size ≤ W0.heap.size; omega) _⟩
            case measure => simp [intOf]; omega
          · obtain rfl : i = 4 := by omega
            have A3 := Lib.hid a3
            have A4 := Lib.hid a4
            have B3 := Lib.hid b3
            clear a3 a4 b3
            go_wp2_with (first | (refine wpl_ldA rfl _ rfl W0.heap.size (cAt (M.valX s 2) 4) rfl A4.out ?_) | (refine wpl_stA rfl _ _ rfl w.heap.size (0, 0, 0, 0) (cAt (M.valX s 2) 4) rfl rfl A3.out ?_))
            go_wp2
            (try simp only [Exit.inBlock, Exit.then])
            exact bodyPost_ret (res_arr rfl _ _ w.heap.size _ _ rfl rfl (A3.out.set _)) rfl ⟨rfl, below_setRowA B3.out (Nat.le_refl _) _⟩
      have q3 : ((j : Int) == 3) = false := by rw [beq_eq_false_iff_ne]; omega
      have q4 : ((j : Int) == 4) = false := by rw [beq_eq_false_iff_ne]; omega
      have q6 : ((j : Int) == 6) = false := by rw [beq_eq_false_iff_ne]; omega
      have q8 : ((j : Int) == 8) = false := by rw [beq_eq_false_iff_ne]; omega
      rw [if_neg h3, if_neg h4, if_neg h6, if_neg h8] at hRR
      simp only [Prod.mk.injEq] at hRR
      obtain ⟨rfl, rfl⟩ := hRR
      clear h3 h4 h6 h8
      go_wp2_with (refine wpl_stA rfl _ _ rfl w.heap.size (0, 0, 0, 0) (0, 0, 0, 0) rfl rfl A0.out ?_)
      go_wp2
      (try simp only [Exit.inBlock, Exit.then])
      exact bodyPost_ret (res_arr rfl _ _ w.heap.size _ _ rfl rfl (A0.out.set _)) rfl ⟨rfl, below_setRowA B0.out (Nat.le_refl _) _⟩
end Go.Proofs.YtilndlifmpbfnaaDoor
