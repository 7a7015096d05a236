/- Texts of ours in one: SRMaps. -/
import Derived.Test.YtlobinjdgcidmaaGreatDoorQs33
import Derived.Test.YtlobinjdgcidmaaGreatDoorQs38
import Derived.Deep.QuietTactic
import Derived.BigQuiet
/- The reference's Mappings: what is returned, for any segments. -/
namespace Go.Proofs.YtlobinjdgcidmaaGreatDoor
open Go.RowKit
set_option linter.unusedVariables false
set_option linter.unusedSimpArgs false

theorem below_drewNS {B : Nat} {a w : World} (h : Below B a w) (n : Nat) : Below B a (w.drewN n) := ⟨h.os, h.tape, h.output, h.size, h.block⟩
theorem within_any (n : Int) (r : Bool) (w : World) (hr : (decide (0 ≤ n) && decide (n ≤ 1073741824)) = r) :
    Calls Tryz.prog 21 #[.int .i64 n] w fun e w' => e = .returned (.bool r) ∧ w' = w := by
  by_cases h0 : 0 ≤ n
  · by_cases h1 : n ≤ 1073741824
    · have : r = true := by rw [← hr]; simp [h0, h1]
      subst this
      clear hr
      go_enter Tryz.func21, Tryz.ntmps21
      go_wp2
      go_ret
      exact ⟨rfl, rfl⟩
    · have : r = false := by rw [← hr]; simp [h1]
      subst this
      have h2 : 1073741824 < n := by omega
      clear hr
      go_enter Tryz.func21, Tryz.ntmps21
      go_wp2
      go_ret
      exact ⟨rfl, rfl⟩
  · have : r = false := by rw [← hr]; simp [h0]
    subst this
    have h2 : n < 0 := by omega
    clear hr
    go_enter Tryz.func21, Tryz.ntmps21
    go_wp2
    go_ret
    exact ⟨rfl, rfl⟩
theorem rput_to (S T : ByteArray) (n : Int) (w : World) (h1 : -1099511627776 ≤ n) (h2 : n ≤ 1099511627776) (hs : S.size ≤ 8000000) (hT : S ++ V.bytes (V.text n) = T) :
    Calls Tryz.prog 22 #[.string S, .int .i64 n] w fun e w' => e = .returned (.string T) ∧ w' = w := by
  subst hT; exact vq_refput_in S n w h1 h2 hs
theorem vb59 (acc : List UInt8) : bytes acc ++ ByteArray.mk #[59] = bytes (acc ++ [59]) := bytes_join acc [59]
theorem vb44 (acc : List UInt8) : bytes acc ++ ByteArray.mk #[44] = bytes (acc ++ [44]) := bytes_join acc [44]
set_option maxRecDepth 100000 in
set_option maxHeartbeats 4000000 in
theorem refmaps_any (v : Value) (L : List M.S4) (r : Option (List UInt8)) (w : World) (hv : SsS w v L) (hL : L.length ≤ 209715) (hr : M.maps L = r) :
    Calls Tryz.prog 10 #[v] w (MpP w r) := by
  have hpa := s4At_of hv
  obtain ⟨a, cap, rfl, h1, h2, -⟩ := id hpa
  have HP := Lib.hid hpa
  obtain ⟨n, hn⟩ : ∃ n, L.length = n := ⟨_, rfl⟩
  have HN := Lib.hid hn
  have HR := Lib.hid hr
  rw [hn] at h1 hL ⊢
  clear hpa hv hn hr
  go_enter Tryz.func10, Tryz.ntmps10
  go_wp2
  go_loopw [4, 5, 6, 7, 8, 9] (fun sv lv cv av bv iv wr => ∃ (i : Nat) (acc : List UInt8), iv = .int .i64 (i : Int) ∧ sv = .string (bytes acc) ∧ lv = .int .i64 (M.lastOf L i).1 ∧ cv = .int .i64 (M.lastOf L i).2.1 ∧ av = .int .i64 (M.lastOf L i).2.2.1 ∧ bv = .int .i64 (M.lastOf L i).2.2.2 ∧ i ≤ n ∧ M.At L i acc ∧ ((acc.length : Int) ≤ (M.lastOf L i).1 + 37 * i) ∧ (i = 0 ∨ M.okS (M.lastOf L i) = true) ∧ Below w.heap.size w wr) (fun _ _ _ _ _ iv _ => n - (intOf iv).toNat)
  case atStart => exact ⟨0, [], rfl, rfl, by simp [M.lastOf], by simp [M.lastOf], by simp [M.lastOf], by simp [M.lastOf], by omega, M.at_start L, by simp [M.lastOf], .inl rfl, Below.refl _ _⟩
  case round =>
    obtain ⟨i, acc, rfl, rfl, rfl, rfl, rfl, rfl, hi, hat, hal, hlo, hb⟩ := hrel
    have hbz := hb.size
    have hlast := M.last_ok L i acc hlo
    by_cases hlt : i < n
    · have hil : i < L.length := by rw [HN.out]; exact hlt
      obtain ⟨b, off, rfl, hbk, c0, c1, c2, c3⟩ := s4At_get (by have h := HP.out; rw [HN.out] at h; exact s4At_keep h hb (Nat.le_refl _)) i hil
      have hbad := M.at_bad L i acc hat hil
      have hstep := M.at_step L i acc hat hil
      have hls := M.lastOf_succ L i hil
      obtain ⟨x, hx⟩ : ∃ x, L[i] = x := ⟨_, rfl⟩
      rw [hx] at hbad hstep hls c0 c1 c2 c3
      obtain ⟨y, hy⟩ : ∃ y, M.lastOf L i = y := ⟨_, rfl⟩
      rw [hy] at hbad hstep hlast hal hlo ⊢
      have HY := Lib.hid hy
      obtain ⟨W1, hW1⟩ : ∃ W, wr.alloc (.cells #[.int .i64 x.1, .int .i64 x.2.1, .int .i64 x.2.2.1, .int .i64 x.2.2.2] 39) = W := ⟨_, rfl⟩
      have hbox : SBlk W1 wr.heap.size x := by rw [← hW1]; exact SBlk.new wr x
      have hw1 : Below w.heap.size w W1 := by rw [← hW1]; exact hb.alloc hbz _
      have i1 : (i : Int) < n := by omega
      have i0 : (0 : Int) ≤ i := by omega
      have HAT := Lib.hid hstep
      have HBAD := Lib.hid hbad
      have HLS := Lib.hid hls
      have HW1 := Lib.hid hw1
      have HE := Lib.hid hW1
      obtain ⟨e0, e1, e2, e3⟩ := hbox.cells
      obtain ⟨S, hS⟩ : ∃ S, bytes acc = S := ⟨_, rfl⟩
      rw [hS]
      have HS := Lib.hid hS
      obtain ⟨b1, hb1⟩ : ∃ q, (decide (0 ≤ x.2.1) && decide (x.2.1 ≤ 1073741824)) = q := ⟨_, rfl⟩
      obtain ⟨b2, hb2⟩ : ∃ q, (decide (0 ≤ x.2.2.1) && decide (x.2.2.1 ≤ 1073741824)) = q := ⟨_, rfl⟩
      obtain ⟨b3, hb3⟩ : ∃ q, (decide (0 ≤ x.2.2.2) && decide (x.2.2.2 ≤ 1073741824)) = q := ⟨_, rfl⟩
      have I1 := Lib.hid (fun W => within_any x.2.1 b1 W hb1)
      have I2 := Lib.hid (fun W => within_any x.2.2.1 b2 W hb2)
      have I3 := Lib.hid (fun W => within_any x.2.2.2 b3 W hb3)
      have hokd : M.okS x = (decide (0 ≤ x.1) && decide (x.1 ≤ 100000) && b1 && b2 && b3) := by rw [← hb1, ← hb2, ← hb3]; rfl
      obtain ⟨x0, x1, x2, x3⟩ := x
      dsimp only at *
      have sS : S.size = acc.length := by rw [← hS]; rfl
      have sS2 : S.size ≤ 7900000 := by omega
      clear hbad hstep hls hx hy hbox hw1 hW1 hlo hS sS hat hb
      obtain ⟨y0, y1, y2, y3⟩ := y
      dsimp only at *
      by_cases hokx : M.okS (x0, x1, x2, x3) = true
      · have hp := (M.okS_iff _).1 hokx
        dsimp only at hp
        obtain ⟨p0, p1, p2, p3, p4, p5, p6, p7⟩ := hp
        have hbt : b1 = true ∧ b2 = true ∧ b3 = true := by rw [hokd] at hokx; simp only [Bool.and_eq_true] at hokx; exact ⟨hokx.1.1.2, hokx.1.2, hokx.2⟩
        obtain ⟨rfl, rfl, rfl⟩ := hbt
        have HOKX := Lib.hid hokx
        clear hokx hokd hb1 hb2 hb3
        by_cases hi0 : i = 0
        · have hd0 : decide (i = 0) = true := by simpa using hi0
          have hy0 : (y0, y1, y2, y3) = (0, 0, 0, 0) := by rw [← HY.out, hi0]; rfl
          simp only [Prod.mk.injEq] at hy0
          have hat2 := HAT.out (by rw [hd0]; simp [M.goodS, HOKX.out])
          rw [hd0] at hat2
          have HAT := Lib.hid hat2
          have HYZ := Lib.hid hy0
          have t1 : decide ((0 : Int) < i) = false := by simp; omega
          have t1n : ¬ 0 < i := by omega
          have hyx : y0 ≤ x0 := by omega
          clear hat2 hy0 hi0 hd0
          as_aux_lemma =>
            have hsep : M.sepS true (y0, y1, y2, y3) (x0, x1, x2, x3) = List.replicate (x0 - y0).toNat 59 := by unfold M.sepS; dsimp only; rw [if_neg (fun h => by simp at h)]
            have hcol : x1 - M.colOf (y0, y1, y2, y3) (x0, x1, x2, x3) = x1 := by unfold M.colOf; dsimp only; split <;> (have := HYZ.out; omega)
            obtain ⟨K, hK⟩ : ∃ K, (x0 - y0).toNat = K := ⟨_, rfl⟩
            rw [hK] at hsep
            obtain ⟨acc1, ha1⟩ : ∃ q, acc ++ List.replicate K 59 = q := ⟨_, rfl⟩
            have la1 : (acc1.length : Int) ≤ y0 + 37 * i + 1 + (x0 - y0) := by rw [← ha1]; simp only [List.length_append, List.length_replicate, List.length_cons, List.length_nil]; omega
            obtain ⟨S1, hS1⟩ : ∃ T, bytes acc1 = T := ⟨_, rfl⟩
            obtain ⟨T1, hT1⟩ : ∃ T, bytes (acc1 ++ V.text x1) = T := ⟨_, rfl⟩
            obtain ⟨T2, hT2⟩ : ∃ T, bytes (acc1 ++ V.text x1 ++ V.text 0) = T := ⟨_, rfl⟩
            have l1 := V.text_len x1
            have l2 := V.text_len 0
            have l3 := V.text_len (x2 - y2)
            have P1 := Lib.hid (fun W => rput_to S1 T1 x1 W (by omega) (by omega) (by rw [← hS1, bytes_size]; omega) (by rw [← hS1, ← hT1, bytes_join]))
            have P2 := Lib.hid (fun W => rput_to T1 T2 0 W (by omega) (by omega) (by rw [← hT1, bytes_size, List.length_append]; omega) (by rw [← hT1, ← hT2, bytes_join]))
            have t2s : T2.size ≤ 8000000 := by rw [← hT2, bytes_size, List.length_append, List.length_append]; omega
            have t3s : (T2 ++ V.bytes (V.text (x2 - y2))).size ≤ 8000000 := by rw [← hT2, bytes_join, bytes_size, List.length_append, List.length_append, List.length_append]; omega
            have hq4 : T2 ++ V.bytes (V.text (x2 - y2)) ++ V.bytes (V.text (x3 - y3)) = bytes (acc1 ++ V.text x1 ++ V.text 0 ++ V.text (x2 - y2) ++ V.text (x3 - y3)) := by rw [← hT2, bytes_join, bytes_join]
            have HQ4 := Lib.hid hq4
            have hch : acc ++ M.chunk true (y0, y1, y2, y3) (x0, x1, x2, x3) = acc1 ++ V.text x1 ++ V.text 0 ++ V.text (x2 - y2) ++ V.text (x3 - y3) := by
              unfold M.chunk M.four
              rw [hsep]
              dsimp only
              rw [hcol, ← ha1]
              simp only [List.append_assoc]
            have hcl := M.chunk_len true (y0, y1, y2, y3) (x0, x1, x2, x3) hyx
            dsimp only at hcl
            have hlen : ((acc1 ++ V.text x1 ++ V.text 0 ++ V.text (x2 - y2) ++ V.text (x3 - y3)).length : Int) ≤ x0 + 37 * (i + 1 : Nat) := by
              rw [← hch, List.length_append]; omega
            have hat2 := HAT.out
            rw [hch] at hat2
            have HAT2 := Lib.hid hat2
            have HLEN := Lib.hid hlen
            have HS1 := Lib.hid hS1
            have HA1 := Lib.hid ha1
            have HK := Lib.hid hK
            have hst : S = bytes (acc ++ List.replicate 0 59) := by rw [← HS.out]; simp
            have HST := Lib.hid hst
            clear hsep hcol hK ha1 hS1 hT1 hT2 hq4 l1 l2 l3 hch hcl hlen hat2 hst la1
            go_upto_region 10 with (fail)
            rw [HE.out]
            go_wp2_with (first | ((with_reducible refine (I1.out _).mono ?_); rintro e w' ⟨rfl, hq⟩; have hq := hq.symm; subst hq) | ((with_reducible refine (I2.out _).mono ?_); rintro e w' ⟨rfl, hq⟩; have hq := hq.symm; subst hq) | ((with_reducible refine (I3.out _).mono ?_); rintro e w' ⟨rfl, hq⟩; have hq := hq.symm; subst hq))
            go_loopw [4, 5] (fun sv lv wi => ∃ (j : Nat), sv = .string (bytes (acc ++ List.replicate j 59)) ∧ lv = .int .i64 (y0 + j) ∧ y0 + j ≤ x0 ∧ wi = W1) (fun _ lv _ => (x0 - intOf lv).toNat)
            case atStart => exact ⟨0, congrArg Value.string HST.out, by simp, by omega, rfl⟩
            case round =>
              obtain ⟨j, rfl, rfl, hj, hwq⟩ := hrel
              have hwq := hwq.symm
              subst hwq
              obtain ⟨Z, hZ⟩ : ∃ Z : Int, y0 + (j : Int) = Z := ⟨_, rfl⟩
              have hal2 := hal
              by_cases hjl : Z < x0
              · obtain ⟨SJ, hSJ⟩ : ∃ q, bytes (acc ++ List.replicate j 59) = q := ⟨_, rfl⟩
                have sj : SJ.size ≤ 8000000 := by rw [← hSJ, bytes_size]; simp only [List.length_append, List.length_replicate, List.length_cons, List.length_nil]; omega
                have hnx : SJ ++ ByteArray.mk #[59] = bytes (acc ++ List.replicate (j + 1) 59) := by rw [← hSJ, vb59, List.append_assoc acc, ← List.replicate_succ']
                have HNX := Lib.hid hnx
                have HZ := Lib.hid hZ
                have hZ0 : 0 ≤ Z := by omega
                rw [hSJ, hZ]
                clear hnx hSJ hZ
                go_wp2
                go_roundw
                case rel =>
                  have hz2 := HZ.out
                  refine ⟨j + 1, congrArg Value.string HNX.out, ?_, ?_, ?_⟩
                  · first | go_num | (congr 1; omega)
                  · omega
                  · first | rfl | trivial
                case measure => simp [intOf]; omega
              · have hjk : j = K := by have := HK.out; omega
                have hxz : Z = x0 := by omega
                subst hjk
                rw [HA1.out, HS1.out, hZ, hxz]
                clear hjl hZ hxz hj
                go_wp2_with (first | ((with_reducible refine (P1.out _).mono ?_); rintro e w' ⟨rfl, rfl⟩) | ((with_reducible refine (P2.out _).mono ?_); rintro e w' ⟨rfl, rfl⟩))
                refine wp_region_quiet_lit (by kernel_rfl) (by kernel_rfl) ?_
                repeat (any_goals (first | go_big_quiet_step (fail) | quiet_step (fail)))
                refine wpQuiet_step (fun K hK => ?_)
                go_simp
                refine ⟨_, fun a => (vq_refput_in T2 (x2 - y2) _ (by omega) (by omega) t2s).mono (fun e w'' h => ⟨h.1, a, h.2⟩), ?_⟩
                refine hK _ ?_
                clear hK K
                repeat (any_goals (first | go_big_quiet_step (fail) | quiet_step (fail)))
                refine wpQuiet_step (fun K hK => ?_)
                go_simp
                refine ⟨_, fun a => (vq_refput_in _ (x3 - y3) _ (by omega) (by omega) t3s).mono (fun e w'' h => ⟨h.1, a, h.2⟩), ?_⟩
                refine hK _ ?_
                clear hK K
                repeat (any_goals (first | go_big_quiet_step (fail) | quiet_step (fail)))
                refine wpQuiet_nil ?_
                intro _ hw'
                obtain ⟨nq, hw''⟩ := hw'
                subst hw''
                go_wp2
                go_roundw
                case rel => exact ⟨i + 1, acc1 ++ V.text x1 ++ V.text 0 ++ V.text (x2 - y2) ++ V.text (x3 - y3), by go_num, congrArg Value.string HQ4.out, by rw [HLS.out], by rw [HLS.out], by rw [HLS.out], by rw [HLS.out], by omega, HAT2.out, by rw [HLS.out]; exact HLEN.out, .inr (by rw [HLS.out]; exact HOKX.out), by first | exact HW1.out | exact below_drewNS HW1.out _⟩
                case measure => simp [intOf]; omega
        · have hd0 : decide (i = 0) = false := by simpa using hi0
          have t1 : decide ((0 : Int) < i) = true := by simp; omega
          have t1n : 0 < i := by omega
          clear hi0
          by_cases hbf : M.befS (y0, y1, y2, y3) (x0, x1, x2, x3) = true
          · have hb2 := (M.befS_iff _ _).1 hbf
            dsimp only at hb2
            have hat2 := HAT.out (by rw [hd0]; simp [M.goodS, HOKX.out, hbf])
            rw [hd0] at hat2
            have HAT := Lib.hid hat2
            have hyx : y0 ≤ x0 := by omega
            by_cases hg : y0 < x0
            · have q1 : (x0 == y0) = false := by rw [beq_eq_false_iff_ne]; omega
              clear hat2 hd0 hbf hb2
              as_aux_lemma =>
                have hsep : M.sepS false (y0, y1, y2, y3) (x0, x1, x2, x3) = List.replicate (x0 - y0).toNat 59 := by unfold M.sepS; dsimp only; rw [if_neg (fun h => by omega)]
                have hcol : x1 - M.colOf (y0, y1, y2, y3) (x0, x1, x2, x3) = x1 := by unfold M.colOf; dsimp only; rw [if_neg (by omega)]; omega
                obtain ⟨K, hK⟩ : ∃ K, (x0 - y0).toNat = K := ⟨_, rfl⟩
                rw [hK] at hsep
                obtain ⟨acc1, ha1⟩ : ∃ q, acc ++ List.replicate K 59 = q := ⟨_, rfl⟩
                have la1 : (acc1.length : Int) ≤ y0 + 37 * i + 1 + (x0 - y0) := by rw [← ha1]; simp only [List.length_append, List.length_replicate, List.length_cons, List.length_nil]; omega
                obtain ⟨S1, hS1⟩ : ∃ T, bytes acc1 = T := ⟨_, rfl⟩
                obtain ⟨T1, hT1⟩ : ∃ T, bytes (acc1 ++ V.text x1) = T := ⟨_, rfl⟩
                obtain ⟨T2, hT2⟩ : ∃ T, bytes (acc1 ++ V.text x1 ++ V.text 0) = T := ⟨_, rfl⟩
                have l1 := V.text_len x1
                have l2 := V.text_len 0
                have l3 := V.text_len (x2 - y2)
                have P1 := Lib.hid (fun W => rput_to S1 T1 x1 W (by omega) (by omega) (by rw [← hS1, bytes_size]; omega) (by rw [← hS1, ← hT1, bytes_join]))
                have P2 := Lib.hid (fun W => rput_to T1 T2 0 W (by omega) (by omega) (by rw [← hT1, bytes_size, List.length_append]; omega) (by rw [← hT1, ← hT2, bytes_join]))
                have t2s : T2.size ≤ 8000000 := by rw [← hT2, bytes_size, List.length_append, List.length_append]; omega
                have t3s : (T2 ++ V.bytes (V.text (x2 - y2))).size ≤ 8000000 := by rw [← hT2, bytes_join, bytes_size, List.length_append, List.length_append, List.length_append]; omega
                have hq4 : T2 ++ V.bytes (V.text (x2 - y2)) ++ V.bytes (V.text (x3 - y3)) = bytes (acc1 ++ V.text x1 ++ V.text 0 ++ V.text (x2 - y2) ++ V.text (x3 - y3)) := by rw [← hT2, bytes_join, bytes_join]
                have HQ4 := Lib.hid hq4
                have hch : acc ++ M.chunk false (y0, y1, y2, y3) (x0, x1, x2, x3) = acc1 ++ V.text x1 ++ V.text 0 ++ V.text (x2 - y2) ++ V.text (x3 - y3) := by
                  unfold M.chunk M.four
                  rw [hsep]
                  dsimp only
                  rw [hcol, ← ha1]
                  simp only [List.append_assoc]
                have hcl := M.chunk_len false (y0, y1, y2, y3) (x0, x1, x2, x3) hyx
                dsimp only at hcl
                have hlen : ((acc1 ++ V.text x1 ++ V.text 0 ++ V.text (x2 - y2) ++ V.text (x3 - y3)).length : Int) ≤ x0 + 37 * (i + 1 : Nat) := by
                  rw [← hch, List.length_append]; omega
                have hat2 := HAT.out
                rw [hch] at hat2
                have HAT2 := Lib.hid hat2
                have HLEN := Lib.hid hlen
                have HS1 := Lib.hid hS1
                have HA1 := Lib.hid ha1
                have HK := Lib.hid hK
                have hst : S = bytes (acc ++ List.replicate 0 59) := by rw [← HS.out]; simp
                have HST := Lib.hid hst
                clear hsep hcol hK ha1 hS1 hT1 hT2 hq4 l1 l2 l3 hch hcl hlen hat2 hst la1
                go_upto_region 10 with (fail)
                rw [HE.out]
                go_wp2_with (first | ((with_reducible refine (I1.out _).mono ?_); rintro e w' ⟨rfl, hq⟩; have hq := hq.symm; subst hq) | ((with_reducible refine (I2.out _).mono ?_); rintro e w' ⟨rfl, hq⟩; have hq := hq.symm; subst hq) | ((with_reducible refine (I3.out _).mono ?_); rintro e w' ⟨rfl, hq⟩; have hq := hq.symm; subst hq))
                go_loopw [4, 5] (fun sv lv wi => ∃ (j : Nat), sv = .string (bytes (acc ++ List.replicate j 59)) ∧ lv = .int .i64 (y0 + j) ∧ y0 + j ≤ x0 ∧ wi = W1) (fun _ lv _ => (x0 - intOf lv).toNat)
                case atStart => exact ⟨0, congrArg Value.string HST.out, by simp, by omega, rfl⟩
                case round =>
                  obtain ⟨j, rfl, rfl, hj, hwq⟩ := hrel
                  have hwq := hwq.symm
                  subst hwq
                  obtain ⟨Z, hZ⟩ : ∃ Z : Int, y0 + (j : Int) = Z := ⟨_, rfl⟩
                  have hal2 := hal
                  by_cases hjl : Z < x0
                  · obtain ⟨SJ, hSJ⟩ : ∃ q, bytes (acc ++ List.replicate j 59) = q := ⟨_, rfl⟩
                    have sj : SJ.size ≤ 8000000 := by rw [← hSJ, bytes_size]; simp only [List.length_append, List.length_replicate, List.length_cons, List.length_nil]; omega
                    have hnx : SJ ++ ByteArray.mk #[59] = bytes (acc ++ List.replicate (j + 1) 59) := by rw [← hSJ, vb59, List.append_assoc acc, ← List.replicate_succ']
                    have HNX := Lib.hid hnx
                    have HZ := Lib.hid hZ
                    have hZ0 : 0 ≤ Z := by omega
                    rw [hSJ, hZ]
                    clear hnx hSJ hZ
                    go_wp2
                    go_roundw
                    case rel =>
                      have hz2 := HZ.out
                      refine ⟨j + 1, congrArg Value.string HNX.out, ?_, ?_, ?_⟩
                      · first | go_num | (congr 1; omega)
                      · omega
                      · first | rfl | trivial
                    case measure => simp [intOf]; omega
                  · have hjk : j = K := by have := HK.out; omega
                    have hxz : Z = x0 := by omega
                    subst hjk
                    rw [HA1.out, HS1.out, hZ, hxz]
                    clear hjl hZ hxz hj
                    go_wp2_with (first | ((with_reducible refine (P1.out _).mono ?_); rintro e w' ⟨rfl, rfl⟩) | ((with_reducible refine (P2.out _).mono ?_); rintro e w' ⟨rfl, rfl⟩))
                    refine wp_region_quiet_lit (by kernel_rfl) (by kernel_rfl) ?_
                    repeat (any_goals (first | go_big_quiet_step (fail) | quiet_step (fail)))
                    refine wpQuiet_step (fun K hK => ?_)
                    go_simp
                    refine ⟨_, fun a => (vq_refput_in T2 (x2 - y2) _ (by omega) (by omega) t2s).mono (fun e w'' h => ⟨h.1, a, h.2⟩), ?_⟩
                    refine hK _ ?_
                    clear hK K
                    repeat (any_goals (first | go_big_quiet_step (fail) | quiet_step (fail)))
                    refine wpQuiet_step (fun K hK => ?_)
                    go_simp
                    refine ⟨_, fun a => (vq_refput_in _ (x3 - y3) _ (by omega) (by omega) t3s).mono (fun e w'' h => ⟨h.1, a, h.2⟩), ?_⟩
                    refine hK _ ?_
                    clear hK K
                    repeat (any_goals (first | go_big_quiet_step (fail) | quiet_step (fail)))
                    refine wpQuiet_nil ?_
                    intro _ hw'
                    obtain ⟨nq, hw''⟩ := hw'
                    subst hw''
                    go_wp2
                    go_roundw
                    case rel => exact ⟨i + 1, acc1 ++ V.text x1 ++ V.text 0 ++ V.text (x2 - y2) ++ V.text (x3 - y3), by go_num, congrArg Value.string HQ4.out, by rw [HLS.out], by rw [HLS.out], by rw [HLS.out], by rw [HLS.out], by omega, HAT2.out, by rw [HLS.out]; exact HLEN.out, .inr (by rw [HLS.out]; exact HOKX.out), by first | exact HW1.out | exact below_drewNS HW1.out _⟩
                    case measure => simp [intOf]; omega
            · have hle : x0 = y0 := by omega
              have hn : ¬ x0 < y0 := by omega
              have q1 : (x0 == y0) = true := by rw [beq_iff_eq]; exact hle
              have hcc : y1 < x1 := by omega
              have HLE := Lib.hid hle
              clear hat2 hd0 hbf hb2 hg hle
              as_aux_lemma =>
                have hsep : M.sepS false (y0, y1, y2, y3) (x0, x1, x2, x3) = [44] ++ List.replicate (x0 - y0).toNat 59 := by unfold M.sepS; dsimp only; rw [if_pos ⟨rfl, HLE.out⟩, show (x0 - y0).toNat = 0 by have := HLE.out; omega]; rfl
                have hcol : x1 - M.colOf (y0, y1, y2, y3) (x0, x1, x2, x3) = (x1 - y1) := by unfold M.colOf; dsimp only; rw [if_pos HLE.out]
                obtain ⟨K, hK⟩ : ∃ K, (x0 - y0).toNat = K := ⟨_, rfl⟩
                rw [hK] at hsep
                obtain ⟨acc1, ha1⟩ : ∃ q, acc ++ [44] ++ List.replicate K 59 = q := ⟨_, rfl⟩
                have la1 : (acc1.length : Int) ≤ y0 + 37 * i + 1 + (x0 - y0) := by rw [← ha1]; simp only [List.length_append, List.length_replicate, List.length_cons, List.length_nil]; omega
                obtain ⟨S1, hS1⟩ : ∃ T, bytes acc1 = T := ⟨_, rfl⟩
                obtain ⟨T1, hT1⟩ : ∃ T, bytes (acc1 ++ V.text (x1 - y1)) = T := ⟨_, rfl⟩
                obtain ⟨T2, hT2⟩ : ∃ T, bytes (acc1 ++ V.text (x1 - y1) ++ V.text 0) = T := ⟨_, rfl⟩
                have l1 := V.text_len (x1 - y1)
                have l2 := V.text_len 0
                have l3 := V.text_len (x2 - y2)
                have P1 := Lib.hid (fun W => rput_to S1 T1 (x1 - y1) W (by omega) (by omega) (by rw [← hS1, bytes_size]; omega) (by rw [← hS1, ← hT1, bytes_join]))
                have P2 := Lib.hid (fun W => rput_to T1 T2 0 W (by omega) (by omega) (by rw [← hT1, bytes_size, List.length_append]; omega) (by rw [← hT1, ← hT2, bytes_join]))
                have t2s : T2.size ≤ 8000000 := by rw [← hT2, bytes_size, List.length_append, List.length_append]; omega
                have t3s : (T2 ++ V.bytes (V.text (x2 - y2))).size ≤ 8000000 := by rw [← hT2, bytes_join, bytes_size, List.length_append, List.length_append, List.length_append]; omega
                have hq4 : T2 ++ V.bytes (V.text (x2 - y2)) ++ V.bytes (V.text (x3 - y3)) = bytes (acc1 ++ V.text (x1 - y1) ++ V.text 0 ++ V.text (x2 - y2) ++ V.text (x3 - y3)) := by rw [← hT2, bytes_join, bytes_join]
                have HQ4 := Lib.hid hq4
                have hch : acc ++ M.chunk false (y0, y1, y2, y3) (x0, x1, x2, x3) = acc1 ++ V.text (x1 - y1) ++ V.text 0 ++ V.text (x2 - y2) ++ V.text (x3 - y3) := by
                  unfold M.chunk M.four
                  rw [hsep]
                  dsimp only
                  rw [hcol, ← ha1]
                  simp only [List.append_assoc]
                have hcl := M.chunk_len false (y0, y1, y2, y3) (x0, x1, x2, x3) hyx
                dsimp only at hcl
                have hlen : ((acc1 ++ V.text (x1 - y1) ++ V.text 0 ++ V.text (x2 - y2) ++ V.text (x3 - y3)).length : Int) ≤ x0 + 37 * (i + 1 : Nat) := by
                  rw [← hch, List.length_append]; omega
                have hat2 := HAT.out
                rw [hch] at hat2
                have HAT2 := Lib.hid hat2
                have HLEN := Lib.hid hlen
                have HS1 := Lib.hid hS1
                have HA1 := Lib.hid ha1
                have HK := Lib.hid hK
                have hst : S ++ ByteArray.mk #[44] = bytes (acc ++ [44] ++ List.replicate 0 59) := by rw [← HS.out]; simp [vb44]
                have HST := Lib.hid hst
                clear hsep hcol hK ha1 hS1 hT1 hT2 hq4 l1 l2 l3 hch hcl hlen hat2 hst la1
                go_upto_region 10 with (fail)
                rw [HE.out]
                go_wp2_with (first | ((with_reducible refine (I1.out _).mono ?_); rintro e w' ⟨rfl, hq⟩; have hq := hq.symm; subst hq) | ((with_reducible refine (I2.out _).mono ?_); rintro e w' ⟨rfl, hq⟩; have hq := hq.symm; subst hq) | ((with_reducible refine (I3.out _).mono ?_); rintro e w' ⟨rfl, hq⟩; have hq := hq.symm; subst hq))
                go_loopw [4, 5] (fun sv lv wi => ∃ (j : Nat), sv = .string (bytes (acc ++ [44] ++ List.replicate j 59)) ∧ lv = .int .i64 (y0 + j) ∧ y0 + j ≤ x0 ∧ wi = W1) (fun _ lv _ => (x0 - intOf lv).toNat)
                case atStart => exact ⟨0, congrArg Value.string HST.out, by simp, by omega, rfl⟩
                case round =>
                  obtain ⟨j, rfl, rfl, hj, hwq⟩ := hrel
                  have hwq := hwq.symm
                  subst hwq
                  obtain ⟨Z, hZ⟩ : ∃ Z : Int, y0 + (j : Int) = Z := ⟨_, rfl⟩
                  have hal2 := hal
                  by_cases hjl : Z < x0
                  · obtain ⟨SJ, hSJ⟩ : ∃ q, bytes (acc ++ [44] ++ List.replicate j 59) = q := ⟨_, rfl⟩
                    have sj : SJ.size ≤ 8000000 := by rw [← hSJ, bytes_size]; simp only [List.length_append, List.length_replicate, List.length_cons, List.length_nil]; omega
                    have hnx : SJ ++ ByteArray.mk #[59] = bytes (acc ++ [44] ++ List.replicate (j + 1) 59) := by rw [← hSJ, vb59, List.append_assoc (acc ++ [44]), ← List.replicate_succ']
                    have HNX := Lib.hid hnx
                    have HZ := Lib.hid hZ
                    have hZ0 : 0 ≤ Z := by omega
                    rw [hSJ, hZ]
                    clear hnx hSJ hZ
                    go_wp2
                    go_roundw
                    case rel =>
                      have hz2 := HZ.out
                      refine ⟨j + 1, congrArg Value.string HNX.out, ?_, ?_, ?_⟩
                      · first | go_num | (congr 1; omega)
                      · omega
                      · first | rfl | trivial
                    case measure => simp [intOf]; omega
                  · have hjk : j = K := by have := HK.out; omega
                    have hxz : Z = x0 := by omega
                    subst hjk
                    rw [HA1.out, HS1.out, hZ, hxz]
                    clear hjl hZ hxz hj
                    go_wp2_with (first | ((with_reducible refine (P1.out _).mono ?_); rintro e w' ⟨rfl, rfl⟩) | ((with_reducible refine (P2.out _).mono ?_); rintro e w' ⟨rfl, rfl⟩))
                    refine wp_region_quiet_lit (by kernel_rfl) (by kernel_rfl) ?_
                    repeat (any_goals (first | go_big_quiet_step (fail) | quiet_step (fail)))
                    refine wpQuiet_step (fun K hK => ?_)
                    go_simp
                    refine ⟨_, fun a => (vq_refput_in T2 (x2 - y2) _ (by omega) (by omega) t2s).mono (fun e w'' h => ⟨h.1, a, h.2⟩), ?_⟩
                    refine hK _ ?_
                    clear hK K
                    repeat (any_goals (first | go_big_quiet_step (fail) | quiet_step (fail)))
                    refine wpQuiet_step (fun K hK => ?_)
                    go_simp
                    refine ⟨_, fun a => (vq_refput_in _ (x3 - y3) _ (by omega) (by omega) t3s).mono (fun e w'' h => ⟨h.1, a, h.2⟩), ?_⟩
                    refine hK _ ?_
                    clear hK K
                    repeat (any_goals (first | go_big_quiet_step (fail) | quiet_step (fail)))
                    refine wpQuiet_nil ?_
                    intro _ hw'
                    obtain ⟨nq, hw''⟩ := hw'
                    subst hw''
                    go_wp2
                    go_roundw
                    case rel => exact ⟨i + 1, acc1 ++ V.text (x1 - y1) ++ V.text 0 ++ V.text (x2 - y2) ++ V.text (x3 - y3), by go_num, congrArg Value.string HQ4.out, by rw [HLS.out], by rw [HLS.out], by rw [HLS.out], by rw [HLS.out], by omega, HAT2.out, by rw [HLS.out]; exact HLEN.out, .inr (by rw [HLS.out]; exact HOKX.out), by first | exact HW1.out | exact below_drewNS HW1.out _⟩
                    case measure => simp [intOf]; omega
          · have hbff : M.befS (y0, y1, y2, y3) (x0, x1, x2, x3) = false := by simpa using hbf
            have hb2 : ¬ (y0 < x0 ∨ (y0 = x0 ∧ y1 < x1)) := fun h => hbf ((M.befS_iff _ _).2 h)
            have hokF := HOKX.out
            have hnone := HBAD.out (by rw [hd0]; simp [M.goodS, HOKX.out, hbff])
            rw [HR.out] at hnone
            have HNONE := Lib.hid hnone
            clear hnone hbf hbff hd0 hokF
            by_cases hg : x0 < y0
            · clear hb2
              as_aux_lemma =>
                go_upto_region 10 with (fail)
                rw [HE.out]
                go_wp2_with (first | ((with_reducible refine (I1.out _).mono ?_); rintro e w' ⟨rfl, hq⟩; have hq := hq.symm; subst hq) | ((with_reducible refine (I2.out _).mono ?_); rintro e w' ⟨rfl, hq⟩; have hq := hq.symm; subst hq) | ((with_reducible refine (I3.out _).mono ?_); rintro e w' ⟨rfl, hq⟩; have hq := hq.symm; subst hq))
                go_ret2
                exact ⟨by (try rw [HNONE.out]); rfl, HW1.out⟩
            · have hle : x0 = y0 := by omega
              have q1 : (x0 == y0) = true := by rw [beq_iff_eq]; exact hle
              have hcc : x1 ≤ y1 := by omega
              clear hb2 hle
              as_aux_lemma =>
                go_upto_region 10 with (fail)
                rw [HE.out]
                go_wp2_with (first | ((with_reducible refine (I1.out _).mono ?_); rintro e w' ⟨rfl, hq⟩; have hq := hq.symm; subst hq) | ((with_reducible refine (I2.out _).mono ?_); rintro e w' ⟨rfl, hq⟩; have hq := hq.symm; subst hq) | ((with_reducible refine (I3.out _).mono ?_); rintro e w' ⟨rfl, hq⟩; have hq := hq.symm; subst hq))
                go_ret2
                exact ⟨by (try rw [HNONE.out]); rfl, HW1.out⟩
      · have hokF : M.okS (x0, x1, x2, x3) = false := by simpa using hokx
        have HF := Lib.hid hokF
        have hnone := HBAD.out (by simp [M.goodS, HF.out])
        rw [HR.out] at hnone
        have HNONE := Lib.hid hnone
        have hokd2 := hokd
        rw [hokF] at hokd2
        clear hnone hokx hokF hokd hb1 hb2 hb3
        by_cases g1 : x0 < 0
        · clear hokd2
          as_aux_lemma =>
            go_upto_region 10 with (fail)
            rw [HE.out]
            go_wp2_with (first | ((with_reducible refine (I1.out _).mono ?_); rintro e w' ⟨rfl, hq⟩; have hq := hq.symm; subst hq) | ((with_reducible refine (I2.out _).mono ?_); rintro e w' ⟨rfl, hq⟩; have hq := hq.symm; subst hq) | ((with_reducible refine (I3.out _).mono ?_); rintro e w' ⟨rfl, hq⟩; have hq := hq.symm; subst hq))
            go_ret2
            exact ⟨by (try rw [HNONE.out]); rfl, HW1.out⟩
        · by_cases g2 : 100000 < x0
          · clear hokd2
            as_aux_lemma =>
              go_upto_region 10 with (fail)
              rw [HE.out]
              go_wp2_with (first | ((with_reducible refine (I1.out _).mono ?_); rintro e w' ⟨rfl, hq⟩; have hq := hq.symm; subst hq) | ((with_reducible refine (I2.out _).mono ?_); rintro e w' ⟨rfl, hq⟩; have hq := hq.symm; subst hq) | ((with_reducible refine (I3.out _).mono ?_); rintro e w' ⟨rfl, hq⟩; have hq := hq.symm; subst hq))
              go_ret2
              exact ⟨by (try rw [HNONE.out]); rfl, HW1.out⟩
          · have g3 : 0 ≤ x0 := by omega
            have g4 : x0 ≤ 100000 := by omega
            rw [decide_eq_true g3, decide_eq_true g4] at hokd2
            cases b1 with
            | false =>
              clear hokd2
              as_aux_lemma =>
                go_upto_region 10 with (fail)
                rw [HE.out]
                go_wp2_with (first | ((with_reducible refine (I1.out _).mono ?_); rintro e w' ⟨rfl, hq⟩; have hq := hq.symm; subst hq) | ((with_reducible refine (I2.out _).mono ?_); rintro e w' ⟨rfl, hq⟩; have hq := hq.symm; subst hq) | ((with_reducible refine (I3.out _).mono ?_); rintro e w' ⟨rfl, hq⟩; have hq := hq.symm; subst hq))
                go_ret2
                exact ⟨by (try rw [HNONE.out]); rfl, HW1.out⟩
            | true =>
              cases b2 with
              | false =>
                clear hokd2
                as_aux_lemma =>
                  go_upto_region 10 with (fail)
                  rw [HE.out]
                  go_wp2_with (first | ((with_reducible refine (I1.out _).mono ?_); rintro e w' ⟨rfl, hq⟩; have hq := hq.symm; subst hq) | ((with_reducible refine (I2.out _).mono ?_); rintro e w' ⟨rfl, hq⟩; have hq := hq.symm; subst hq) | ((with_reducible refine (I3.out _).mono ?_); rintro e w' ⟨rfl, hq⟩; have hq := hq.symm; subst hq))
                  go_ret2
                  exact ⟨by (try rw [HNONE.out]); rfl, HW1.out⟩
              | true =>
                cases b3 with
                | false =>
                  clear hokd2
                  as_aux_lemma =>
                    go_upto_region 10 with (fail)
                    rw [HE.out]
                    go_wp2_with (first | ((with_reducible refine (I1.out _).mono ?_); rintro e w' ⟨rfl, hq⟩; have hq := hq.symm; subst hq) | ((with_reducible refine (I2.out _).mono ?_); rintro e w' ⟨rfl, hq⟩; have hq := hq.symm; subst hq) | ((with_reducible refine (I3.out _).mono ?_); rintro e w' ⟨rfl, hq⟩; have hq := hq.symm; subst hq))
                    go_ret2
                    exact ⟨by (try rw [HNONE.out]); rfl, HW1.out⟩
                | true => exact absurd hokd2 (by simp)
    · obtain rfl : i = n := by omega
      have hfin := M.at_end L acc (by have h := hat; rwa [← HN.out] at h)
      rw [HR.out] at hfin
      have HF := Lib.hid hfin
      clear hfin hat hlo hlt hal hlast
      go_wp2
      go_ret2
      exact ⟨by rw [HF.out]; rfl, hb⟩
end Go.Proofs.YtlobinjdgcidmaaGreatDoor
