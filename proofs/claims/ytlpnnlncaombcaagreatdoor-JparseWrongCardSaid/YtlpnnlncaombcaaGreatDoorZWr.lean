/- JparseWrong: the walk. -/
import Derived.Test.YtlpnnlncaombcaaGreatDoorZWp
namespace Go.Proofs.YtlpnnlncaombcaaGreatDoor
open Go.RowKit
set_option linter.unusedVariables false
set_option linter.unusedSimpArgs false

set_option maxRecDepth 100000 in
set_option maxHeartbeats 8000000 in
theorem jwrong7_walk (a0 : Int) (w0 : (Lit.int .i64 a0).wf = true) (w : World) (hX : TabX w) :
    Calls Tryz.prog 5 #[.int .i64 a0] w fun e w' => e = .returned (.bool true) ∧ Below w.heap.size w w' := by
  have al := Lib.hid (alive7_any w hX)
  have HX := Lib.hid hX
  by_cases ho : a0 < 0 ∨ 24 ≤ a0
  · rcases ho with ho | ho
    all_goals
      clear hX
      go_enter Tryz.func5, Tryz.ntmps5
      go_wp2_with fail
      refine al.out.mono ?_
      rintro e w1 ⟨rfl, hb⟩
      have hz := hb.size
      go_wp2
      go_ret
      exact ⟨rfl, (hb.alloc hb.size _).alloc (by simp; omega) _⟩
  · obtain ⟨k, rfl⟩ : ∃ k : Nat, a0 = k := ⟨a0.toNat, by omega⟩
    have hk : k < 24 := by omega
    have hs := tw_size k hk
    have hc1 := fun w1 => twcS w1 k hk
    have hc2 := fun w1 => twcA w1 k hk
    have hk0 : decide ((24 : Int) ≤ k) = false := by simp; omega
    have hk1 : (k : Int) < 24 := by omega
    have hk2 : (0 : Int) ≤ k := by omega
    have hk9 : decide ((k : Int) < 0) = false := by simp
    have PA := fun v W hW hB => parse_any v (twT k) 60 W hW hB (by omega)
    have HC1 := Lib.hid hc1
    have HC2 := Lib.hid hc2
    have TW := Lib.hid (tw_ok k hk)
    have PA := Lib.hid PA
    have HS := Lib.hid hs
    clear hX ho w0 hc1 hc2 hs
    go_enter Tryz.func5, Tryz.ntmps5
    go_wp2_with fail
    refine al.out.mono ?_
    rintro e w1 ⟨rfl, hb⟩
    have c1 := HC1.out w1
    have c2 := HC2.out w1
    obtain ⟨W0, hW0⟩ : ∃ W0, (w1.alloc twBlkS).alloc twBlkA = W0 := ⟨_, rfl⟩
    have hz := hb.size
    have hb0 : Below w.heap.size w W0 := by rw [← hW0]; exact (hb.alloc hb.size _).alloc (by simp; omega) _
    have hz0 : w1.heap.size + 1 + 1 ≤ W0.heap.size := by rw [← hW0]; simp
    rw [hW0] at c1 c2
    unfold twBlkS twBlkA at hW0
    have hbs := bw_bs W0 (bytes (twT k)) (by rw [bytes_size]; have := HS.out; omega)
    rw [bytes_list] at hbs
    have hcv := bw_conv W0 (bytes (twT k))
    have hbb := bw_below W0 (bytes (twT k))
    obtain ⟨W2, hW2⟩ : ∃ W2, Lib.bytesWorld W0 5 (bytes (twT k)) = W2 := ⟨_, rfl⟩
    rw [hW2] at hbs hcv hbb
    have hb2 := hb0.trans (hbb.mono hb0.size)
    have P0 := PA.out _ W2 (HX.out.keep hb2) hbs
    have C2 := Lib.hid ((hbb.cell (p := ⟨w1.heap.size + 1, k, none⟩) (by show w1.heap.size + 1 < _; omega)).trans c2)
    have h12 : w1.heap.size + 1 < W2.heap.size := by have := hbb.size; omega
    have HB2 := Lib.hid hb2
    have HW0 := Lib.hid hW0
    obtain ⟨S, hS⟩ : ∃ S, bytes (twT k) = S := ⟨_, rfl⟩
    rw [hS] at c1 hcv P0
    clear hb hbs hbb hb2 hW0 hW2 hb0 hS HC1 HC2
    go_upto_region 4 with fail
    rw [HW0.out]
    rcases TW.out with ⟨H, kids, hp, ha, hk3⟩ | ⟨hp, ha⟩
    · rw [hp] at P0
      unfold ParQ at P0
      dsimp only at P0
      have P1 := Lib.hid P0
      obtain ⟨A, hA⟩ : ∃ A, twA k = A := ⟨_, rfl⟩
      rw [hA] at ha c2 C2
      clear P0 hp TW PA hA
      go_wp2_with fail
      refine P1.out.mono ?_
      rintro e w4 ⟨tv, v, mv, rfl, hd, hv, hb4⟩
      obtain ⟨p4, hp4⟩ : ∃ x, w4.heap.size + 1 = x := ⟨_, rfl⟩
      obtain ⟨k1, k2, k3, k4, bb⟩ := two_laid w4 (vv H tv v mv) (.int .i64 0) (.int .i64 0) p4 hp4
      have t1 := hd.t.one
      have t2 := hv.one
      have t3 := hd.m.one
      have c5 := (bb.cell (p := ⟨w1.heap.size + 1, k, none⟩) (by show w1.heap.size + 1 < _; have := hb4.size; omega)).trans ((hb4.cell (p := ⟨w1.heap.size + 1, k, none⟩) (by show w1.heap.size + 1 < _; omega)).trans C2.out)
      have B9 := Lib.hid ((HB2.out.trans (hb4.mono HB2.out.size)).trans (bb.mono (by have := HB2.out.size; have := hb4.size; omega)))
      obtain ⟨W9, hW9⟩ : ∃ x, (((w4.alloc (.cells zv 27)).alloc (.cells #[.int .i64 0, .int .i64 0] 34)).setRow w4.heap.size (vv H tv v mv)).setRow p4 #[.int .i64 0, .int .i64 0] = x := ⟨_, rfl⟩
      rw [hW9] at k3 k4 B9 c5
      have HW9 := Lib.hid (show (((w4.alloc (.cells #[.int .i64 0, .slice none 0 0, .bool false, .string ⟨#[]⟩, .string ⟨#[]⟩, .slice none 0 0, .int .i64 0, .int .i64 0, .slice none 0 0] 27)).alloc (.cells #[.int .i64 0, .int .i64 0] 34)).setRow w4.heap.size (vv H tv v mv)).setRow p4 #[.int .i64 0, .int .i64 0] = W9 from hW9)
      have VB9 : VB W9 w4.heap.size H tv v mv := k3
      have f0 : W9.cell? ⟨p4, 0, none⟩ = some (.int .i64 0) := k4.cell 0
      have f1 : W9.cell? ⟨p4, 1, none⟩ = some (.int .i64 0) := k4.cell 1
      have g0 : W9.cell? ⟨w4.heap.size, 0, none⟩ = some (.int .i64 H.k) := VB9.cells.1
      obtain ⟨K, hK⟩ : ∃ K, H.k = K := ⟨_, rfl⟩
      rw [hK] at g0 hk3
      have q0 := eqf_0
      have ht : decide (0 < K) = true := by simpa using hk3
      clear hW9 bb hd hv hb4 c1 hcv hK
      go_upto_region 7 with (first | (refine wpl_stV rfl _ _ rfl w4.heap.size zv H tv v mv rfl rfl k1 rfl t1 t2 t3 ?_) | (refine wpl_stK infoF1 rfl _ _ rfl p4 _ #[.int .i64 0, .int .i64 0] rfl rfl k2 rfl rfl (by simp [Value.oneCell']) ?_))
      rw [HW9.out]
      clear k1 k2 
      clear hz hz0 h12 HW9 HW0 HB2 C2 HS HX al
      go_upto_region 8 with fail
      go_wp2
      go_ret
      exact ⟨rfl, B9.out⟩
    · rw [hp] at P0
      unfold ParQ at P0
      dsimp only at P0
      have P1 := Lib.hid P0
      obtain ⟨A, hA⟩ : ∃ A, twA k = A := ⟨_, rfl⟩
      rw [hA] at ha c2 C2 P1
      have ha' : decide (A < 0) = false := by simp; omega
      clear P0 hp TW PA hA
      go_wp2_with fail
      refine P1.out.mono ?_
      rintro e w4 ⟨rfl, hb4⟩
      obtain ⟨p4, hp4⟩ : ∃ x, w4.heap.size + 1 = x := ⟨_, rfl⟩
      obtain ⟨k1, k2, k3, k4, bb⟩ := two_laid w4 zvl.toArray (.int .i64 3) (.int .i64 A) p4 hp4
      have c5 := (bb.cell (p := ⟨w1.heap.size + 1, k, none⟩) (by show w1.heap.size + 1 < _; have := hb4.size; omega)).trans ((hb4.cell (p := ⟨w1.heap.size + 1, k, none⟩) (by show w1.heap.size + 1 < _; omega)).trans C2.out)
      have B9 := Lib.hid ((HB2.out.trans (hb4.mono HB2.out.size)).trans (bb.mono (by have := HB2.out.size; have := hb4.size; omega)))
      obtain ⟨W9, hW9⟩ : ∃ x, (((w4.alloc (.cells zv 27)).alloc (.cells #[.int .i64 0, .int .i64 0] 34)).setRow w4.heap.size zvl.toArray).setRow p4 #[.int .i64 3, .int .i64 A] = x := ⟨_, rfl⟩
      rw [hW9] at k3 k4 B9 c5
      have HW9 := Lib.hid (show (((w4.alloc (.cells #[.int .i64 0, .slice none 0 0, .bool false, .string ⟨#[]⟩, .string ⟨#[]⟩, .slice none 0 0, .int .i64 0, .int .i64 0, .slice none 0 0] 27)).alloc (.cells #[.int .i64 0, .int .i64 0] 34)).setRow w4.heap.size (vv ⟨0, [], false, [], [], 0, 0, []⟩ nilV nilV nilV)).setRow p4 #[.int .i64 3, .int .i64 A] = W9 from hW9)
      have f0 : W9.cell? ⟨p4, 0, none⟩ = some (.int .i64 3) := k4.cell 0
      have f1 : W9.cell? ⟨p4, 1, none⟩ = some (.int .i64 A) := k4.cell 1
      have g0 : W9.cell? ⟨w4.heap.size, 0, none⟩ = some (.int .i64 0) := k3.cell 0
      have q0 := eqf_any 3 A
      clear hW9 bb hb4 c1 hcv ha
      go_upto_region 7 with (first | (refine wpl_stV rfl _ _ rfl w4.heap.size zv ⟨0, [], false, [], [], 0, 0, []⟩ nilV nilV nilV rfl rfl k1 rfl rfl rfl rfl ?_) | (refine wpl_stK infoF1 rfl _ _ rfl p4 _ #[.int .i64 3, .int .i64 A] rfl rfl k2 rfl rfl (by simp [Value.oneCell']) ?_))
      rw [HW9.out]
      clear k1 k2
      go_upto_region 9 with fail
      refine wp_region_noPanic ?_
      clear c2 hk0 hk9 P1 C2 HW9 HW0 HB2 HS HX al h12 hz hz0
      go_quiet (fail)
      refine NoPanic.normal ?_
      go_wp2
      go_ret
      exact ⟨rfl, B9.out.trans ⟨rfl, rfl, rfl, Nat.le_refl _, fun _ _ => rfl⟩⟩
end Go.Proofs.YtlpnnlncaombcaaGreatDoor
