/- Texts of ours in one: NDiv. -/
import Derived.Test.YtlobinjdgcidmaaGreatDoorQs16
import Derived.Below
/- Numbers: a text divided into its parts. -/
namespace Go.Proofs.YtlobinjdgcidmaaGreatDoor
open Go.RowKit
set_option linter.unusedVariables false
set_option linter.unusedSimpArgs false

def partsV (p : M.Parts) : Array Value := #[.bool p.1, .string (bytes p.2.1), .string (bytes p.2.2.1), .bool p.2.2.2.1, .bool p.2.2.2.2.1, .string (bytes p.2.2.2.2.2)]
theorem below_drewN {B : Nat} {a w : World} (h : Below B a w) (n : Nat) : Below B a (w.drewN n) := ⟨h.os, h.tape, h.output, h.size, h.block⟩
theorem csign_len (l : List UInt8) (p : Bool) (k : List UInt8) (h : M.csign l = (p, k)) : k.length ≤ l.length := by
  unfold M.csign at h
  split at h
  · simp only [Prod.mk.injEq] at h; rw [← h.2]; simp
  · simp only [Prod.mk.injEq] at h; rw [← h.2]; exact unsign_len l
theorem rs_len (l k : List UInt8) (h : M.rs l = k) : k.length ≤ l.length := by
  rw [← h]; unfold M.rs; exact (List.dropWhile_sublist _).length_le
theorem dg_len (l k : List UInt8) (h : M.dg l = k) : k.length ≤ l.length := by
  rw [← h]; unfold M.dg; exact (List.takeWhile_sublist _).length_le
theorem str_nil (S : ByteArray) (l : List UInt8) (h : bytes l = S) (h0 : l = []) : S.toList = [] ∧ S.toList.isEmpty = true ∧ (!S.toList.isEmpty) = false := by
  rw [← h, toList_bytes, h0]; exact ⟨rfl, rfl, rfl⟩
theorem str_ne (S : ByteArray) (l : List UInt8) (h : bytes l = S) (h0 : l ≠ []) : S.toList.isEmpty = false ∧ (!S.toList.isEmpty) = true ∧ 1 ≤ S.size := by
  rw [← h, toList_bytes, bytes_size]
  have := List.length_pos_iff.2 h0
  cases l with
  | nil => exact absurd rfl h0
  | cons c t => exact ⟨rfl, rfl, by simp⟩
theorem agg6 {a0 b0 a3 b3 a4 b4 : Bool} {a1 b1 a2 b2 a5 b5 : ByteArray} {c d : Bool} (h0 : a0 = b0) (h1 : a1 = b1) (h2 : a2 = b2) (h3 : a3 = b3) (h4 : a4 = b4) (h5 : a5 = b5) (h6 : c = d) :
    Ending.returned (.tuple #[.agg #[.bool a0, .string a1, .string a2, .bool a3, .bool a4, .string a5], .bool c]) = .returned (.tuple #[.agg #[.bool b0, .string b1, .string b2, .bool b3, .bool b4, .string b5], .bool d]) := by rw [h0, h1, h2, h3, h4, h5, h6]
set_option maxRecDepth 100000 in
set_option maxHeartbeats 40000000 in
theorem divide_any (l : List UInt8) (p : M.Parts) (ok : Bool) (w : World) (hl : l.length ≤ 100000) (hr : M.divW l = (p, ok)) :
    Calls Tryz.prog 94 #[.string (bytes l)] w fun e w' => e = .returned (.tuple #[.agg (partsV p), .bool ok]) ∧ Below w.heap.size w w' := by
  obtain ⟨a, s1, hcs⟩ : ∃ a s1, M.csign l = (a, s1) := ⟨_, _, rfl⟩
  have l1 := csign_len l a s1 hcs
  obtain ⟨W, hW⟩ : ∃ x, M.dg s1 = x := ⟨_, rfl⟩
  obtain ⟨s2, hs2⟩ : ∃ x, M.rs s1 = x := ⟨_, rfl⟩
  have l2 := rs_len s1 s2 hs2
  unfold M.divW at hr
  rw [hcs] at hr
  simp only [hW, hs2] at hr
  have C1 := Lib.hid (fun w => csign_any l a s1 w (by omega) hcs)
  have C2 := Lib.hid (fun w => cdig_any s1 W s2 w (by omega) hW hs2)
  obtain ⟨SL, hSL⟩ : ∃ S, bytes l = S := ⟨_, rfl⟩
  obtain ⟨S1, hS1⟩ : ∃ S, bytes s1 = S := ⟨_, rfl⟩
  obtain ⟨SW, hSW⟩ : ∃ S, bytes W = S := ⟨_, rfl⟩
  obtain ⟨S2, hS2⟩ : ∃ S, bytes s2 = S := ⟨_, rfl⟩
  rw [hSL, hS1] at C1
  rw [hS1, hSW, hS2] at C2
  have HSW := Lib.hid hSW
  rw [hSL]
  clear hcs hW hs2 hSL hS1
  by_cases hdot : s2.head? = some 46
  · rw [if_pos hdot] at hr
    have P1 := Lib.hid (fun w => pre_any s2 46 true w (by rw [hdot]; decide))
    rw [hS2] at P1
    have hs2l : 1 ≤ s2.length := by cases s2 with | nil => simp at hdot | cons c t => simp
    have hx := ext_from s2 1
    rw [List.drop_one] at hx
    have hsz := bytes_size s2
    rw [hS2] at hx hsz
    rw [← hsz] at hx
    have z1 : 1 ≤ S2.size := by omega
    have z2 : S2.size ≤ 100000 := by omega
    obtain ⟨s2', hs2'⟩ : ∃ x, s2.tail = x := ⟨_, rfl⟩
    rw [hs2'] at hr hx
    have l3 : s2'.length ≤ s2.length := by rw [← hs2']; simp
    obtain ⟨F, hF⟩ : ∃ x, M.dg s2' = x := ⟨_, rfl⟩
    obtain ⟨s3, hs3⟩ : ∃ x, M.rs s2' = x := ⟨_, rfl⟩
    have l4 := rs_len s2' s3 hs3
    simp only [hF, hs3] at hr
    have C3 := Lib.hid (fun w => cdig_any s2' F s3 w (by omega) hF hs3)
    rw [← hx] at C3
    obtain ⟨SF, hSF⟩ : ∃ S, bytes F = S := ⟨_, rfl⟩
    obtain ⟨S3, hS3⟩ : ∃ S, bytes s3 = S := ⟨_, rfl⟩
    rw [hSF, hS3] at C3
    have HSF := Lib.hid hSF
    by_cases hFe : F = []
    · rw [if_pos hFe] at hr
      simp only [Prod.mk.injEq] at hr
      obtain ⟨rfl, rfl⟩ := hr
      obtain ⟨e1, e2, e3⟩ := str_nil SF F hSF hFe
      clear hFe hSF hS3 hF hs3 hs2' hx hsz hS2 hSW hdot
      go_enter Tryz.func94, Tryz.ntmps94
      go_wp2_with fail
      refine (C1.out _).mono ?_
      rintro e w' ⟨rfl, n1, rfl⟩
      go_wp2_with fail
      refine (C2.out _).mono ?_
      rintro e w' ⟨rfl, n2, rfl⟩
      go_wp2_with fail
      refine (P1.out _).mono ?_
      rintro e w' ⟨rfl, rfl⟩
      go_wp2_with fail
      refine (C3.out _).mono ?_
      rintro e w' ⟨rfl, n3, rfl⟩
      go_wp2
      exact bodyPost_ret (v := .tuple #[.agg (partsV M.zeroP), .bool false]) (by simp [results, Tryz.results94, go_sem, partsV, M.zeroP, bytes]) rfl ⟨rfl, by repeat (first | with_reducible exact Below.refl _ _ | with_reducible refine Below.setCell ?_ (by simp) _ | with_reducible refine below_drewN ?_ _ | with_reducible refine Below.drew ?_ | with_reducible refine Below.alloc ?_ (by simp) _)⟩
    · rw [if_neg hFe] at hr
      obtain ⟨e1, e2, e3⟩ := str_ne SF F hSF hFe
      clear hFe hF hs3 hs2' hx hsz hS2 hdot
      unfold M.divE at hr
      have P2 := Lib.hid (fun w => pre_any s3 101 (s3.head? == some 101) w rfl)
      have P3 := Lib.hid (fun w => pre_any s3 69 (s3.head? == some 69) w rfl)
      rw [hS3] at P2 P3
      obtain ⟨t, ht⟩ : ∃ x, s3.tail = x := ⟨_, rfl⟩
      obtain ⟨b, s4, hcs4⟩ : ∃ a s, M.csign t = (a, s) := ⟨_, _, rfl⟩
      obtain ⟨G, hG⟩ : ∃ x, M.dg s4 = x := ⟨_, rfl⟩
      obtain ⟨s5, hs5⟩ : ∃ x, M.rs s4 = x := ⟨_, rfl⟩
      have m1 : t.length ≤ s3.length := by rw [← ht]; simp
      have m2 := csign_len t b s4 hcs4
      have hy := ext_from s3 1
      rw [List.drop_one, ht] at hy
      have hsy := bytes_size s3
      rw [hS3] at hy hsy
      rw [← hsy] at hy
      have C4 := Lib.hid (fun w => csign_any t b s4 w (by omega) hcs4)
      have C5 := Lib.hid (fun w => cdig_any s4 G s5 w (by omega) hG hs5)
      rw [← hy] at C4
      rw [ht] at hr
      simp only [hcs4, hG, hs5] at hr
      obtain ⟨S4, hS4⟩ : ∃ S, bytes s4 = S := ⟨_, rfl⟩
      obtain ⟨SG, hSG⟩ : ∃ S, bytes G = S := ⟨_, rfl⟩
      obtain ⟨S5, hS5⟩ : ∃ S, bytes s5 = S := ⟨_, rfl⟩
      rw [hS4] at C4 C5
      rw [hSG, hS5] at C5
      have HSG := Lib.hid hSG
      have hq5 : (s5 = [] ∧ S5.toList.isEmpty = true ∧ S5.toList = []) ∨ (s5 ≠ [] ∧ S5.toList.isEmpty = false ∧ (!S5.toList.isEmpty) = true) := by
        by_cases h : s5 = []
        · have := str_nil S5 s5 hS5 h; exact .inl ⟨h, this.2.1, this.1⟩
        · have := str_ne S5 s5 hS5 h; exact .inr ⟨h, this.1, this.2.1⟩
      have hqG : (G = [] ∧ SG.toList.isEmpty = true ∧ SG.toList = []) ∨ (G ≠ [] ∧ SG.toList.isEmpty = false ∧ (!SG.toList.isEmpty) = true) := by
        by_cases h : G = []
        · have := str_nil SG G hSG h; exact .inl ⟨h, this.2.1, this.1⟩
        · have := str_ne SG G hSG h; exact .inr ⟨h, this.1, this.2.1⟩
      have hq3 : (s3 = [] ∧ S3.toList.isEmpty = true ∧ S3.toList = []) ∨ (s3 ≠ [] ∧ S3.toList.isEmpty = false ∧ (!S3.toList.isEmpty) = true) := by
        by_cases h : s3 = []
        · have := str_nil S3 s3 hS3 h; exact .inl ⟨h, this.2.1, this.1⟩
        · have := str_ne S3 s3 hS3 h; exact .inr ⟨h, this.1, this.2.1⟩
      have HQ5 := Lib.hid hq5
      have HQG := Lib.hid hqG
      have HQ3 := Lib.hid hq3
      have y2 : S3.size ≤ 100000 := by omega
      have Hy1 : Hid (s3 ≠ [] → 1 ≤ S3.size) := Lib.hid (fun h => by have := List.length_pos_iff.2 h; omega)
      have HR := Lib.hid hr
      have hqW : (W = [] ∧ SW.toList.isEmpty = true ∧ SW.toList = []) ∨ (W ≠ [] ∧ SW.toList.isEmpty = false ∧ (!SW.toList.isEmpty) = true) := by
        by_cases h : W = []
        · have := str_nil SW W hSW h; exact .inl ⟨h, this.2.1, this.1⟩
        · have := str_ne SW W hSW h; exact .inr ⟨h, this.1, this.2.1⟩
      have HQW := Lib.hid hqW
      clear hqW hSF
      clear hr hS4 hSG hS5 hy hsy ht hcs4 hG hs5 hq5 hqG hq3 hS3 hSW
      go_enter Tryz.func94, Tryz.ntmps94
      go_wp2_with fail
      refine (C1.out _).mono ?_
      rintro e w' ⟨rfl, n1, rfl⟩
      go_wp2_with fail
      refine (C2.out _).mono ?_
      rintro e w' ⟨rfl, n2, rfl⟩
      go_wp2_with fail
      refine (P1.out _).mono ?_
      rintro e w' ⟨rfl, rfl⟩
      go_wp2_with fail
      refine (C3.out _).mono ?_
      rintro e w' ⟨rfl, n3, rfl⟩
      rcases HQW.out with ⟨i0, i1, i2⟩ | ⟨i0, i1, i2⟩
      all_goals
        clear i0
        by_cases h101 : s3.head? = some 101
        · rw [show (s3.head? == some 101) = true by rw [h101]; decide] at P2
          go_wp2_with fail
          refine (P2.out _).mono ?_
          rintro e w' ⟨rfl, rfl⟩
          have y1 := Hy1.out (by intro h; rw [h] at h101; simp at h101)
          go_wp2_with fail
          refine (C4.out _).mono ?_
          rintro e w' ⟨rfl, n4, rfl⟩
          go_wp2_with fail
          refine (C5.out _).mono ?_
          rintro e w' ⟨rfl, n5, rfl⟩
          rcases HQ5.out with ⟨k1, k2, k3⟩ | ⟨k1, k2, k3⟩
          all_goals
            rcases HQG.out with ⟨j1, j2, j3⟩ | ⟨j1, j2, j3⟩
            all_goals
              have hr := HR.out
              rw [if_pos (.inl h101)] at hr
              simp only [k1, j1, List.isEmpty_nil, Bool.not_true, Bool.not_false, Bool.and_false, Bool.and_true, Bool.false_and, Prod.mk.injEq] at hr
              obtain ⟨rfl, hok⟩ := hr
              have Hok := Lib.hid hok
              have K1 := Lib.hid k1
              have J1 := Lib.hid j1
              clear hok k1 j1
              go_wp2
              go_region
              all_goals
                go_wp2
                exact bodyPost_ret (v := .tuple #[.agg #[.bool a, .string SW, .string SF, .bool true, .bool b, .string SG], .bool ok]) (by simp [results, Tryz.results94, go_sem, ← Hok.out, K1.out, J1.out]) rfl ⟨agg6 rfl HSW.out.symm HSF.out.symm rfl rfl (by first | exact HSG.out.symm | (rw [← HSG.out, J1.out])) rfl, by repeat (first | with_reducible exact Below.refl _ _ | with_reducible refine Below.setCell ?_ (by simp) _ | with_reducible refine below_drewN ?_ _ | with_reducible refine Below.drew ?_ | with_reducible refine Below.alloc ?_ (by simp) _)⟩
        · rw [show (s3.head? == some 101) = false by simpa using h101] at P2
          by_cases h69 : s3.head? = some 69
          · rw [show (s3.head? == some 69) = true by rw [h69]; decide] at P3
            go_wp2_with fail
            refine (P2.out _).mono ?_
            rintro e w' ⟨rfl, rfl⟩
            go_wp2_with fail
            refine (P3.out _).mono ?_
            rintro e w' ⟨rfl, rfl⟩
            have y1 := Hy1.out (by intro h; rw [h] at h69; simp at h69)
            go_wp2_with fail
            refine (C4.out _).mono ?_
            rintro e w' ⟨rfl, n4, rfl⟩
            go_wp2_with fail
            refine (C5.out _).mono ?_
            rintro e w' ⟨rfl, n5, rfl⟩
            rcases HQ5.out with ⟨k1, k2, k3⟩ | ⟨k1, k2, k3⟩
            all_goals
              rcases HQG.out with ⟨j1, j2, j3⟩ | ⟨j1, j2, j3⟩
              all_goals
                have hr := HR.out
                rw [if_pos (.inr h69)] at hr
                simp only [k1, j1, List.isEmpty_nil, Bool.not_true, Bool.not_false, Bool.and_false, Bool.and_true, Bool.false_and, Prod.mk.injEq] at hr
                obtain ⟨rfl, hok⟩ := hr
                have Hok := Lib.hid hok
                have K1 := Lib.hid k1
                have J1 := Lib.hid j1
                clear hok k1 j1
                go_wp2
                go_region
                all_goals
                  go_wp2
                  exact bodyPost_ret (v := .tuple #[.agg #[.bool a, .string SW, .string SF, .bool true, .bool b, .string SG], .bool ok]) (by simp [results, Tryz.results94, go_sem, ← Hok.out, K1.out, J1.out]) rfl ⟨agg6 rfl HSW.out.symm HSF.out.symm rfl rfl (by first | exact HSG.out.symm | (rw [← HSG.out, J1.out])) rfl, by repeat (first | with_reducible exact Below.refl _ _ | with_reducible refine Below.setCell ?_ (by simp) _ | with_reducible refine below_drewN ?_ _ | with_reducible refine Below.drew ?_ | with_reducible refine Below.alloc ?_ (by simp) _)⟩
          · rw [show (s3.head? == some 69) = false by simpa using h69] at P3
            go_wp2_with fail
            refine (P2.out _).mono ?_
            rintro e w' ⟨rfl, rfl⟩
            go_wp2_with fail
            refine (P3.out _).mono ?_
            rintro e w' ⟨rfl, rfl⟩
            rcases HQ3.out with ⟨k1, k2, k3⟩ | ⟨k1, k2, k3⟩
            all_goals
              have hr := HR.out
              rw [if_neg (fun h => h.elim h101 h69)] at hr
              simp only [k1, List.isEmpty_nil, Prod.mk.injEq] at hr
              obtain ⟨rfl, hok⟩ := hr
              have Hok := Lib.hid hok
              have K1 := Lib.hid k1
              clear hok k1
              go_wp2
              go_region
              all_goals
                go_wp2
                exact bodyPost_ret (v := .tuple #[.agg #[.bool a, .string SW, .string SF, .bool false, .bool false, .string ⟨#[]⟩], .bool ok]) (by simp [results, Tryz.results94, go_sem, ← Hok.out, K1.out]) rfl ⟨agg6 rfl HSW.out.symm HSF.out.symm rfl rfl rfl rfl, by repeat (first | with_reducible exact Below.refl _ _ | with_reducible refine Below.setCell ?_ (by simp) _ | with_reducible refine below_drewN ?_ _ | with_reducible refine Below.drew ?_ | with_reducible refine Below.alloc ?_ (by simp) _)⟩
  · rw [if_neg hdot] at hr
    have P1 := Lib.hid (fun w => pre_any s2 46 false w (by simpa using hdot))
    rw [hS2] at P1
    by_cases hWe : W = []
    · rw [if_pos hWe] at hr
      simp only [Prod.mk.injEq] at hr
      obtain ⟨rfl, rfl⟩ := hr
      obtain ⟨e1, e2, e3⟩ := str_nil SW W hSW hWe
      clear hWe hSW hS2 hdot
      go_enter Tryz.func94, Tryz.ntmps94
      go_wp2_with fail
      refine (C1.out _).mono ?_
      rintro e w' ⟨rfl, n1, rfl⟩
      go_wp2_with fail
      refine (C2.out _).mono ?_
      rintro e w' ⟨rfl, n2, rfl⟩
      go_wp2_with fail
      refine (P1.out _).mono ?_
      rintro e w' ⟨rfl, rfl⟩
      go_wp2
      exact bodyPost_ret (v := .tuple #[.agg (partsV M.zeroP), .bool false]) (by simp [results, Tryz.results94, go_sem, partsV, M.zeroP, bytes]) rfl ⟨rfl, by repeat (first | with_reducible exact Below.refl _ _ | with_reducible refine Below.setCell ?_ (by simp) _ | with_reducible refine below_drewN ?_ _ | with_reducible refine Below.drew ?_ | with_reducible refine Below.alloc ?_ (by simp) _)⟩
    · rw [if_neg hWe] at hr
      obtain ⟨e1, e2, e3⟩ := str_ne SW W hSW hWe
      clear hWe hdot
      unfold M.divE at hr
      have P2 := Lib.hid (fun w => pre_any s2 101 (s2.head? == some 101) w rfl)
      have P3 := Lib.hid (fun w => pre_any s2 69 (s2.head? == some 69) w rfl)
      rw [hS2] at P2 P3
      obtain ⟨t, ht⟩ : ∃ x, s2.tail = x := ⟨_, rfl⟩
      obtain ⟨b, s4, hcs4⟩ : ∃ a s, M.csign t = (a, s) := ⟨_, _, rfl⟩
      obtain ⟨G, hG⟩ : ∃ x, M.dg s4 = x := ⟨_, rfl⟩
      obtain ⟨s5, hs5⟩ : ∃ x, M.rs s4 = x := ⟨_, rfl⟩
      have m1 : t.length ≤ s2.length := by rw [← ht]; simp
      have m2 := csign_len t b s4 hcs4
      have hy := ext_from s2 1
      rw [List.drop_one, ht] at hy
      have hsy := bytes_size s2
      rw [hS2] at hy hsy
      rw [← hsy] at hy
      have C4 := Lib.hid (fun w => csign_any t b s4 w (by omega) hcs4)
      have C5 := Lib.hid (fun w => cdig_any s4 G s5 w (by omega) hG hs5)
      rw [← hy] at C4
      rw [ht] at hr
      simp only [hcs4, hG, hs5] at hr
      obtain ⟨S4, hS4⟩ : ∃ S, bytes s4 = S := ⟨_, rfl⟩
      obtain ⟨SG, hSG⟩ : ∃ S, bytes G = S := ⟨_, rfl⟩
      obtain ⟨S5, hS5⟩ : ∃ S, bytes s5 = S := ⟨_, rfl⟩
      rw [hS4] at C4 C5
      rw [hSG, hS5] at C5
      have HSG := Lib.hid hSG
      have hq5 : (s5 = [] ∧ S5.toList.isEmpty = true ∧ S5.toList = []) ∨ (s5 ≠ [] ∧ S5.toList.isEmpty = false ∧ (!S5.toList.isEmpty) = true) := by
        by_cases h : s5 = []
        · have := str_nil S5 s5 hS5 h; exact .inl ⟨h, this.2.1, this.1⟩
        · have := str_ne S5 s5 hS5 h; exact .inr ⟨h, this.1, this.2.1⟩
      have hqG : (G = [] ∧ SG.toList.isEmpty = true ∧ SG.toList = []) ∨ (G ≠ [] ∧ SG.toList.isEmpty = false ∧ (!SG.toList.isEmpty) = true) := by
        by_cases h : G = []
        · have := str_nil SG G hSG h; exact .inl ⟨h, this.2.1, this.1⟩
        · have := str_ne SG G hSG h; exact .inr ⟨h, this.1, this.2.1⟩
      have hq3 : (s2 = [] ∧ S2.toList.isEmpty = true ∧ S2.toList = []) ∨ (s2 ≠ [] ∧ S2.toList.isEmpty = false ∧ (!S2.toList.isEmpty) = true) := by
        by_cases h : s2 = []
        · have := str_nil S2 s2 hS2 h; exact .inl ⟨h, this.2.1, this.1⟩
        · have := str_ne S2 s2 hS2 h; exact .inr ⟨h, this.1, this.2.1⟩
      have HQ5 := Lib.hid hq5
      have HQG := Lib.hid hqG
      have HQ3 := Lib.hid hq3
      have y2 : S2.size ≤ 100000 := by omega
      have Hy1 : Hid (s2 ≠ [] → 1 ≤ S2.size) := Lib.hid (fun h => by have := List.length_pos_iff.2 h; omega)
      have HR := Lib.hid hr
      have HSF : Hid (bytes ([] : List UInt8) = ⟨#[]⟩) := Lib.hid rfl
      clear hr hS4 hSG hS5 hy hsy ht hcs4 hG hs5 hq5 hqG hq3 hS2 hSW
      go_enter Tryz.func94, Tryz.ntmps94
      go_wp2_with fail
      refine (C1.out _).mono ?_
      rintro e w' ⟨rfl, n1, rfl⟩
      go_wp2_with fail
      refine (C2.out _).mono ?_
      rintro e w' ⟨rfl, n2, rfl⟩
      go_wp2_with fail
      refine (P1.out _).mono ?_
      rintro e w' ⟨rfl, rfl⟩

      by_cases h101 : s2.head? = some 101
      · rw [show (s2.head? == some 101) = true by rw [h101]; decide] at P2
        go_wp2_with fail
        refine (P2.out _).mono ?_
        rintro e w' ⟨rfl, rfl⟩
        have y1 := Hy1.out (by intro h; rw [h] at h101; simp at h101)
        go_wp2_with fail
        refine (C4.out _).mono ?_
        rintro e w' ⟨rfl, n4, rfl⟩
        go_wp2_with fail
        refine (C5.out _).mono ?_
        rintro e w' ⟨rfl, n5, rfl⟩
        rcases HQ5.out with ⟨k1, k2, k3⟩ | ⟨k1, k2, k3⟩
        all_goals
          rcases HQG.out with ⟨j1, j2, j3⟩ | ⟨j1, j2, j3⟩
          all_goals
            have hr := HR.out
            rw [if_pos (.inl h101)] at hr
            simp only [k1, j1, List.isEmpty_nil, Bool.not_true, Bool.not_false, Bool.and_false, Bool.and_true, Bool.false_and, Prod.mk.injEq] at hr
            obtain ⟨rfl, hok⟩ := hr
            have Hok := Lib.hid hok
            have K1 := Lib.hid k1
            have J1 := Lib.hid j1
            clear hok k1 j1
            go_wp2
            go_region
            all_goals
              go_wp2
              exact bodyPost_ret (v := .tuple #[.agg #[.bool a, .string SW, .string ⟨#[]⟩, .bool true, .bool b, .string SG], .bool ok]) (by simp [results, Tryz.results94, go_sem, ← Hok.out, K1.out, J1.out]) rfl ⟨agg6 rfl HSW.out.symm HSF.out.symm rfl rfl (by first | exact HSG.out.symm | (rw [← HSG.out, J1.out])) rfl, by repeat (first | with_reducible exact Below.refl _ _ | with_reducible refine Below.setCell ?_ (by simp) _ | with_reducible refine below_drewN ?_ _ | with_reducible refine Below.drew ?_ | with_reducible refine Below.alloc ?_ (by simp) _)⟩
      · rw [show (s2.head? == some 101) = false by simpa using h101] at P2
        by_cases h69 : s2.head? = some 69
        · rw [show (s2.head? == some 69) = true by rw [h69]; decide] at P3
          go_wp2_with fail
          refine (P2.out _).mono ?_
          rintro e w' ⟨rfl, rfl⟩
          go_wp2_with fail
          refine (P3.out _).mono ?_
          rintro e w' ⟨rfl, rfl⟩
          have y1 := Hy1.out (by intro h; rw [h] at h69; simp at h69)
          go_wp2_with fail
          refine (C4.out _).mono ?_
          rintro e w' ⟨rfl, n4, rfl⟩
          go_wp2_with fail
          refine (C5.out _).mono ?_
          rintro e w' ⟨rfl, n5, rfl⟩
          rcases HQ5.out with ⟨k1, k2, k3⟩ | ⟨k1, k2, k3⟩
          all_goals
            rcases HQG.out with ⟨j1, j2, j3⟩ | ⟨j1, j2, j3⟩
            all_goals
              have hr := HR.out
              rw [if_pos (.inr h69)] at hr
              simp only [k1, j1, List.isEmpty_nil, Bool.not_true, Bool.not_false, Bool.and_false, Bool.and_true, Bool.false_and, Prod.mk.injEq] at hr
              obtain ⟨rfl, hok⟩ := hr
              have Hok := Lib.hid hok
              have K1 := Lib.hid k1
              have J1 := Lib.hid j1
              clear hok k1 j1
              go_wp2
              go_region
              all_goals
                go_wp2
                exact bodyPost_ret (v := .tuple #[.agg #[.bool a, .string SW, .string ⟨#[]⟩, .bool true, .bool b, .string SG], .bool ok]) (by simp [results, Tryz.results94, go_sem, ← Hok.out, K1.out, J1.out]) rfl ⟨agg6 rfl HSW.out.symm HSF.out.symm rfl rfl (by first | exact HSG.out.symm | (rw [← HSG.out, J1.out])) rfl, by repeat (first | with_reducible exact Below.refl _ _ | with_reducible refine Below.setCell ?_ (by simp) _ | with_reducible refine below_drewN ?_ _ | with_reducible refine Below.drew ?_ | with_reducible refine Below.alloc ?_ (by simp) _)⟩
        · rw [show (s2.head? == some 69) = false by simpa using h69] at P3
          go_wp2_with fail
          refine (P2.out _).mono ?_
          rintro e w' ⟨rfl, rfl⟩
          go_wp2_with fail
          refine (P3.out _).mono ?_
          rintro e w' ⟨rfl, rfl⟩
          rcases HQ3.out with ⟨k1, k2, k3⟩ | ⟨k1, k2, k3⟩
          all_goals
            have hr := HR.out
            rw [if_neg (fun h => h.elim h101 h69)] at hr
            simp only [k1, List.isEmpty_nil, Prod.mk.injEq] at hr
            obtain ⟨rfl, hok⟩ := hr
            have Hok := Lib.hid hok
            have K1 := Lib.hid k1
            clear hok k1
            go_wp2
            go_region
            all_goals
              go_wp2
              exact bodyPost_ret (v := .tuple #[.agg #[.bool a, .string SW, .string ⟨#[]⟩, .bool false, .bool false, .string ⟨#[]⟩], .bool ok]) (by simp [results, Tryz.results94, go_sem, ← Hok.out, K1.out]) rfl ⟨agg6 rfl HSW.out.symm HSF.out.symm rfl rfl rfl rfl, by repeat (first | with_reducible exact Below.refl _ _ | with_reducible refine Below.setCell ?_ (by simp) _ | with_reducible refine below_drewN ?_ _ | with_reducible refine Below.drew ?_ | with_reducible refine Below.alloc ?_ (by simp) _)⟩
end Go.Proofs.YtlobinjdgcidmaaGreatDoor
