/- The walk of ColourGreat. -/
import Derived.Test.YtajjdndnmokfkaaDoorCoRe
namespace Go.Proofs.YtajjdndnmokfkaaDoor
open Go.RowKit
set_option linter.unusedVariables false
set_option linter.unusedSimpArgs false

def smL : List UInt8 := [48, 49, 50, 51, 52, 53, 54, 55, 56, 57, 97, 98, 99, 100, 101, 102]
def grL : List UInt8 := [48, 49, 50, 51, 52, 53, 54, 55, 56, 57, 65, 66, 67, 68, 69, 70]
theorem sm_hex (a : Nat) (h : a < 16) : M.hexN (smL.getD a 0) = a ∧ M.hexN (grL.getD a 0) = a := by
  have : ∀ a, a < 16 → M.hexN (smL.getD a 0) = a ∧ M.hexN (grL.getD a 0) = a := by decide +kernel
  exact this a h
theorem sm_ext (a : Nat) (h : a < 16) : (ByteArray.mk #[48, 49, 50, 51, 52, 53, 54, 55, 56, 57, 97, 98, 99, 100, 101, 102]).extract a (a + 1) = bytes [smL.getD a 0] := one_of smL a (by simp [smL]; omega)
theorem gr_ext (a : Nat) (h : a < 16) : (ByteArray.mk #[48, 49, 50, 51, 52, 53, 54, 55, 56, 57, 65, 66, 67, 68, 69, 70]).extract a (a + 1) = bytes [grL.getD a 0] := one_of grL a (by simp [grL]; omega)
theorem great3 (x y z : UInt8) (a b c : Nat) (hx : M.hexN x = a) (hy : M.hexN y = b) (hz : M.hexN z = c) (ha : a < 16) (hb : b < 16) (hc : c < 16) : M.numX [x, y, z] = ((17 * (a : Int), 17 * (b : Int), 17 * (c : Int), 255), true) := by
  unfold M.numX
  rw [if_pos (by simp [M.isXB, hx, hy, hz, ha, hb, hc])]
  simp only [List.length_cons, List.length_nil, Nat.zero_add, Nat.reduceAdd, Nat.reduceEqDiff, if_true, if_false]
  simp only [M.valX, if_true, M.hexNum, List.foldl_cons, List.foldl_nil, List.getD_cons_zero, List.getD_cons_succ, hx, hy, hz, Prod.mk.injEq, and_true]
  refine ⟨?_, ?_, ?_⟩ <;> omega
theorem great4 (x y z u : UInt8) (a b c d : Nat) (hx : M.hexN x = a) (hy : M.hexN y = b) (hz : M.hexN z = c) (hu : M.hexN u = d) (ha : a < 16) (hb : b < 16) (hc : c < 16) (hd : d < 16) : M.numX [x, y, z, u] = ((17 * (a : Int), 17 * (b : Int), 17 * (c : Int), 17 * (d : Int)), true) := by
  unfold M.numX
  rw [if_pos (by simp [M.isXB, hx, hy, hz, hu, ha, hb, hc, hd])]
  simp only [List.length_cons, List.length_nil, Nat.zero_add, Nat.reduceAdd, Nat.reduceEqDiff, if_true, if_false]
  simp only [M.valX, if_true, M.hexNum, List.foldl_cons, List.foldl_nil, List.getD_cons_zero, List.getD_cons_succ, hx, hy, hz, hu, Prod.mk.injEq, and_true]
  refine ⟨?_, ?_, ?_, ?_⟩ <;> omega
theorem great6 (x x' y y' z z' : UInt8) (a b c : Nat) (hx : M.hexN x = a) (hx' : M.hexN x' = a) (hy : M.hexN y = b) (hy' : M.hexN y' = b) (hz : M.hexN z = c) (hz' : M.hexN z' = c) (ha : a < 16) (hb : b < 16) (hc : c < 16) : M.numX [x, x', y, y', z, z'] = ((17 * (a : Int), 17 * (b : Int), 17 * (c : Int), 255), true) := by
  unfold M.numX
  rw [if_pos (by simp [M.isXB, hx, hy, hz, hx', hy', hz', ha, hb, hc])]
  simp only [List.length_cons, List.length_nil, Nat.zero_add, Nat.reduceAdd, Nat.reduceEqDiff, if_true, if_false]
  simp [M.valX, M.hexNum, hx, hy, hz, hx', hy', hz']
  refine ⟨?_, ?_, ?_⟩ <;> omega
theorem great8 (x x' y y' z z' u u' : UInt8) (a b c d : Nat) (hx : M.hexN x = a) (hx' : M.hexN x' = a) (hy : M.hexN y = b) (hy' : M.hexN y' = b) (hz : M.hexN z = c) (hz' : M.hexN z' = c) (hu : M.hexN u = d) (hu' : M.hexN u' = d) (ha : a < 16) (hb : b < 16) (hc : c < 16) (hd : d < 16) : M.numX [x, x', y, y', z, z', u, u'] = ((17 * (a : Int), 17 * (b : Int), 17 * (c : Int), 17 * (d : Int)), true) := by
  unfold M.numX
  rw [if_pos (by simp [M.isXB, hx, hy, hz, hx', hy', hz', hu, hu', ha, hb, hc, hd])]
  simp only [List.length_cons, List.length_nil, Nat.zero_add, Nat.reduceAdd, Nat.reduceEqDiff, if_true, if_false]
  simp [M.valX, M.hexNum, hx, hy, hz, hx', hy', hz', hu, hu']
  refine ⟨?_, ?_, ?_, ?_⟩ <;> omega
set_option maxRecDepth 100000 in
set_option maxHeartbeats 8000000 in
theorem cgreat_walk (a0 : Int) (w0 : (Lit.int .i64 a0).wf = true) (a1 : Int) (w1 : (Lit.int .i64 a1).wf = true) (a2 : Int) (w2 : (Lit.int .i64 a2).wf = true) (a3 : Int) (w3 : (Lit.int .i64 a3).wf = true) (fo : Bool) (w : World) :
    Calls Tryd.prog 4 #[.int .i64 a0, .int .i64 a1, .int .i64 a2, .int .i64 a3, .bool fo] w fun e w' => e = .returned (.bool true) ∧ Below w.heap.size w w' := by
  have AL := Lib.hid alive19_any
  by_cases ho : (a0 < 0 ∨ 15 < a0) ∨ (a1 < 0 ∨ 15 < a1) ∨ (a2 < 0 ∨ 15 < a2) ∨ (a3 < 0 ∨ 15 < a3)
  · clear w0 w1 w2 w3
    by_cases h0 : a0 < 0
    · clear ho
      go_enter Tryd.func4, Tryd.ntmps4
      go_wp2_with fail
      refine (AL.out _).mono ?_
      rintro e w1 ⟨rfl, hb1⟩
      go_wp2
      go_ret
      exact ⟨rfl, hb1⟩
    by_cases h1 : 15 < a0
    · clear ho
      go_enter Tryd.func4, Tryd.ntmps4
      go_wp2_with fail
      refine (AL.out _).mono ?_
      rintro e w1 ⟨rfl, hb1⟩
      go_wp2
      go_ret
      exact ⟨rfl, hb1⟩
    by_cases h2 : a1 < 0
    · clear ho
      go_enter Tryd.func4, Tryd.ntmps4
      go_wp2_with fail
      refine (AL.out _).mono ?_
      rintro e w1 ⟨rfl, hb1⟩
      go_wp2
      go_ret
      exact ⟨rfl, hb1⟩
    by_cases h3 : 15 < a1
    · clear ho
      go_enter Tryd.func4, Tryd.ntmps4
      go_wp2_with fail
      refine (AL.out _).mono ?_
      rintro e w1 ⟨rfl, hb1⟩
      go_wp2
      go_ret
      exact ⟨rfl, hb1⟩
    by_cases h4 : a2 < 0
    · clear ho
      go_enter Tryd.func4, Tryd.ntmps4
      go_wp2_with fail
      refine (AL.out _).mono ?_
      rintro e w1 ⟨rfl, hb1⟩
      go_wp2
      go_ret
      exact ⟨rfl, hb1⟩
    by_cases h5 : 15 < a2
    · clear ho
      go_enter Tryd.func4, Tryd.ntmps4
      go_wp2_with fail
      refine (AL.out _).mono ?_
      rintro e w1 ⟨rfl, hb1⟩
      go_wp2
      go_ret
      exact ⟨rfl, hb1⟩
    by_cases h6 : a3 < 0
    · clear ho
      go_enter Tryd.func4, Tryd.ntmps4
      go_wp2_with fail
      refine (AL.out _).mono ?_
      rintro e w1 ⟨rfl, hb1⟩
      go_wp2
      go_ret
      exact ⟨rfl, hb1⟩
    · have h7 : 15 < a3 := by omega
      clear ho
      go_enter Tryd.func4, Tryd.ntmps4
      go_wp2_with fail
      refine (AL.out _).mono ?_
      rintro e w1 ⟨rfl, hb1⟩
      go_wp2
      go_ret
      exact ⟨rfl, hb1⟩
  · clear w0 w1 w2 w3
    obtain ⟨a, rfl⟩ : ∃ k : Nat, a0 = k := ⟨a0.toNat, by omega⟩
    obtain ⟨b, rfl⟩ : ∃ k : Nat, a1 = k := ⟨a1.toNat, by omega⟩
    obtain ⟨c, rfl⟩ : ∃ k : Nat, a2 = k := ⟨a2.toNat, by omega⟩
    obtain ⟨d, rfl⟩ : ∃ k : Nat, a3 = k := ⟨a3.toNat, by omega⟩
    have ha : a < 16 := by omega
    have hb : b < 16 := by omega
    have hc : c < 16 := by omega
    have hd : d < 16 := by omega
    have ia : (a : Int) < 16 := by omega
    have ib : (b : Int) < 16 := by omega
    have ic : (c : Int) < 16 := by omega
    have id : (d : Int) < 16 := by omega
    clear ho
    have sa := sm_ext a ha
    have sb := sm_ext b hb
    have sc := sm_ext c hc
    have sd := sm_ext d hd
    have ga := gr_ext a ha
    have gb := gr_ext b hb
    have gc := gr_ext c hc
    have gd := gr_ext d hd
    obtain ⟨SA, eSA⟩ : ∃ x, bytes [smL.getD a 0] = x := ⟨_, rfl⟩
    have zSA : SA.size = 1 := by rw [← eSA]; rfl
    rw [eSA] at sa
    obtain ⟨GA, eGA⟩ : ∃ x, bytes [grL.getD a 0] = x := ⟨_, rfl⟩
    have zGA : GA.size = 1 := by rw [← eGA]; rfl
    rw [eGA] at ga
    obtain ⟨SB, eSB⟩ : ∃ x, bytes [smL.getD b 0] = x := ⟨_, rfl⟩
    have zSB : SB.size = 1 := by rw [← eSB]; rfl
    rw [eSB] at sb
    obtain ⟨GB, eGB⟩ : ∃ x, bytes [grL.getD b 0] = x := ⟨_, rfl⟩
    have zGB : GB.size = 1 := by rw [← eGB]; rfl
    rw [eGB] at gb
    obtain ⟨SC, eSC⟩ : ∃ x, bytes [smL.getD c 0] = x := ⟨_, rfl⟩
    have zSC : SC.size = 1 := by rw [← eSC]; rfl
    rw [eSC] at sc
    obtain ⟨GC, eGC⟩ : ∃ x, bytes [grL.getD c 0] = x := ⟨_, rfl⟩
    have zGC : GC.size = 1 := by rw [← eGC]; rfl
    rw [eGC] at gc
    obtain ⟨SD, eSD⟩ : ∃ x, bytes [smL.getD d 0] = x := ⟨_, rfl⟩
    have zSD : SD.size = 1 := by rw [← eSD]; rfl
    rw [eSD] at sd
    obtain ⟨GD, eGD⟩ : ∃ x, bytes [grL.getD d 0] = x := ⟨_, rfl⟩
    have zGD : GD.size = 1 := by rw [← eGD]; rfl
    rw [eGD] at gd
    have wa : IntKind.i64.wrap ((a : Int) + 1) = (a : Int) + 1 := by rw [IntKind.wrap_i64]; omega
    have pa : (0 : Int) ≤ (a : Int) + 1 := by omega
    have qa : (a : Int) + 1 ≤ 16 := by omega
    have ua : (a : Int) ≤ (a : Int) + 1 := by omega
    have ta : ((a : Int) + 1).toNat = a + 1 := by omega
    have wb : IntKind.i64.wrap ((b : Int) + 1) = (b : Int) + 1 := by rw [IntKind.wrap_i64]; omega
    have pb : (0 : Int) ≤ (b : Int) + 1 := by omega
    have qb : (b : Int) + 1 ≤ 16 := by omega
    have ub : (b : Int) ≤ (b : Int) + 1 := by omega
    have tb : ((b : Int) + 1).toNat = b + 1 := by omega
    have wc : IntKind.i64.wrap ((c : Int) + 1) = (c : Int) + 1 := by rw [IntKind.wrap_i64]; omega
    have pc : (0 : Int) ≤ (c : Int) + 1 := by omega
    have qc : (c : Int) + 1 ≤ 16 := by omega
    have uc : (c : Int) ≤ (c : Int) + 1 := by omega
    have tc : ((c : Int) + 1).toNat = c + 1 := by omega
    have wd : IntKind.i64.wrap ((d : Int) + 1) = (d : Int) + 1 := by rw [IntKind.wrap_i64]; omega
    have pd : (0 : Int) ≤ (d : Int) + 1 := by omega
    have qd : (d : Int) + 1 ≤ 16 := by omega
    have ud : (d : Int) ≤ (d : Int) + 1 := by omega
    have td : ((d : Int) + 1).toNat = d + 1 := by omega
    have ES := Lib.hid (And.intro eSA (And.intro eSB (And.intro eSC eSD)))
    have EG := Lib.hid (And.intro eGA (And.intro eGB (And.intro eGC eGD)))
    clear eSA eSB eSC eSD eGA eGB eGC eGD
    cases fo with
    | false =>
      go_enter Tryd.func4, Tryd.ntmps4
      go_wp2_with fail
      refine (AL.out _).mono ?_
      rintro e w1 ⟨rfl, hb1⟩
      go_upto_region 6 with (fail)
      refine wp_region_noPanic ?_
      refine wp_region_held_drew (S := fun _ => True) (by kernel_rfl) trivial (fun hS => ?_)
      refine rtk 0 ?_
      refine rtk 1 ?_
      refine rtk 2 ?_
      refine rtk 3 ?_
      refine rtk 4 ?_
      refine rtk 5 ?_
      refine rtk 6 ?_
      refine rtk 7 ?_
      refine rtk 8 ?_
      refine rtk 9 ?_
      refine rtk 10 ?_
      refine rtk 11 ?_
      refine rtk 12 ?_
      refine rtk 13 ?_
      refine rtk 14 ?_
      refine rtk 15 ?_
      refine rtk 16 ?_
      refine rtk 17 ?_
      refine wpAnyH_done (by kernel_rfl) ?_ _
      refine NoPanic.normal ?_
      go_upto_region 7 with (fail)
      refine wp_region_noPanic ?_
      refine wp_region_held_drew (S := fun _ => True) (by kernel_rfl) trivial (fun hS => ?_)
      refine rtk 0 ?_
      refine rtk 1 ?_
      refine rtk 2 ?_
      refine rtk 3 ?_
      refine rtk 4 ?_
      refine rtk 5 ?_
      refine rtk 6 ?_
      refine rtk 7 ?_
      refine rtk 8 ?_
      refine rtk 9 ?_
      refine rtk 10 ?_
      refine rtk 11 ?_
      refine rtk 12 ?_
      refine rtk 13 ?_
      refine rtk 14 ?_
      refine rtk 15 ?_
      refine rtk 16 ?_
      refine rtk 17 ?_
      refine rtk 18 ?_
      refine rtk 19 ?_
      refine rtk 20 ?_
      refine rtk 21 ?_
      refine rtk 22 ?_
      refine rtk 23 ?_
      refine rtk 24 ?_
      refine rtk 25 ?_
      refine rtk 26 ?_
      refine rtk 27 ?_
      refine rtk 28 ?_
      refine rtk 29 ?_
      refine rtk 30 ?_
      refine rtk 31 ?_
      refine rtk 32 ?_
      refine rtk 33 ?_
      refine rtk 34 ?_
      refine rtk 35 ?_
      refine wpAnyH_done (by kernel_rfl) ?_ _
      refine NoPanic.normal ?_
      clear sa sb sc sd ga gb gc gd hS
      have RD1 := Lib.hid (fun c2 c3 c4 c5 c6 c7 c8 c9 c10 c11 c12 w => read_any 4 [smL.getD a 0, grL.getD b 0, smL.getD c 0] c2 c3 c4 c5 c6 c7 c8 c9 c10 c11 c12 (SA ++ GB ++ SC) w (by rw [← ES.out.1, ← EG.out.2.1, ← ES.out.2.2.1, ← bytes_addD, ← bytes_addD]; rfl) (by simp))
      have RD2 := Lib.hid (fun c2 c3 c4 c5 c6 c7 c8 c9 c10 c11 c12 w => read_any 4 [grL.getD a 0, smL.getD a 0, smL.getD b 0, smL.getD b 0, grL.getD c 0, grL.getD c 0] c2 c3 c4 c5 c6 c7 c8 c9 c10 c11 c12 (GA ++ SA ++ SB ++ SB ++ GC ++ GC) w (by rw [← ES.out.1, ← EG.out.1, ← ES.out.2.1, ← EG.out.2.2.1, ← bytes_addD, ← bytes_addD, ← bytes_addD, ← bytes_addD, ← bytes_addD]; rfl) (by simp))
      have e1 : readC 4 [smL.getD a 0, grL.getD b 0, smL.getD c 0] = ((17 * (a : Int), 17 * (b : Int), 17 * (c : Int), 255), true) := great3 _ _ _ a b c (sm_hex a ha).1 (sm_hex b hb).2 (sm_hex c hc).1 ha hb hc
      have e2 : readC 4 [grL.getD a 0, smL.getD a 0, smL.getD b 0, smL.getD b 0, grL.getD c 0, grL.getD c 0] = ((17 * (a : Int), 17 * (b : Int), 17 * (c : Int), 255), true) := great6 _ _ _ _ _ _ a b c (sm_hex a ha).2 (sm_hex a ha).1 (sm_hex b hb).1 (sm_hex b hb).1 (sm_hex c hc).2 (sm_hex c hc).2 ha hb hc
      rw [e1] at RD1
      rw [e2] at RD2
      unfold arrV arrC at RD1 RD2
      simp only at RD1 RD2
      clear e1 e2
      go_upto_region 8 with (fail)
      have hb2 : Below w.heap.size w w1.drew.drew := hb1.drew.drew
      obtain ⟨W2, hW2⟩ : ∃ x, w1.drew.drew = x := ⟨_, rfl⟩
      rw [hW2] at hb2
      rw [hW2]
      clear hW2 hb1
      have C3 := Lib.hid (show (17 * (a : Int), 17 * (b : Int), 17 * (c : Int), (255 : Int)) = (17 * (a : Int), 17 * (b : Int), 17 * (c : Int), (255 : Int)) from rfl)
      have a3 : AB (W2.alloc (.cells #[.int .i64 (17 * (a : Int)), .int .i64 (17 * (b : Int)), .int .i64 (17 * (c : Int)), .int .i64 255] 25)) W2.heap.size (17 * (a : Int), 17 * (b : Int), 17 * (c : Int), 255) := AB.new W2 (17 * (a : Int), 17 * (b : Int), 17 * (c : Int), 255)
      have b3 := hb2.alloc hb2.size (.cells #[.int .i64 (17 * (a : Int)), .int .i64 (17 * (b : Int)), .int .i64 (17 * (c : Int)), .int .i64 255] 25)
      have z3 : W2.heap.size < (W2.alloc (.cells #[.int .i64 (17 * (a : Int)), .int .i64 (17 * (b : Int)), .int .i64 (17 * (c : Int)), .int .i64 255] 25)).heap.size := by simp
      obtain ⟨W3, hW3⟩ : ∃ x, W2.alloc (.cells #[.int .i64 (17 * (a : Int)), .int .i64 (17 * (b : Int)), .int .i64 (17 * (c : Int)), .int .i64 255] 25) = x := ⟨_, rfl⟩
      rw [hW3] at a3 b3 z3
      have HW3 := Lib.hid hW3
      have A3 := Lib.hid a3
      have B3 := Lib.hid b3
      clear hW3 a3 b3 hb2
      go_upto_region 9 with (fail)
      rw [HW3.out]
      go_wp2_with fail
      refine (RD1.out _ _ _ _ _ _ _ _ _ _ _ _).mono ?_
      rintro e w4 ⟨rfl, hb4⟩
      have z4 := hb4.size
      have a4 := A3.out.keep hb4 z3
      have bl5 := (Below.refl w4.heap.size w4).alloc (Nat.le_refl _) (.cells #[.int .i64 (17 * (a : Int)), .int .i64 (17 * (b : Int)), .int .i64 (17 * (c : Int)), .int .i64 255] 25)
      have a5 := a4.keep bl5 a4.lt
      have x5 : AB (w4.alloc (.cells #[.int .i64 (17 * (a : Int)), .int .i64 (17 * (b : Int)), .int .i64 (17 * (c : Int)), .int .i64 255] 25)) w4.heap.size (17 * (a : Int), 17 * (b : Int), 17 * (c : Int), 255) := AB.new w4 (17 * (a : Int), 17 * (b : Int), 17 * (c : Int), 255)
      have b5 := B3.out.trans ((hb4.trans (bl5.mono z4)).mono B3.out.size)
      have z5 : w4.heap.size < (w4.alloc (.cells #[.int .i64 (17 * (a : Int)), .int .i64 (17 * (b : Int)), .int .i64 (17 * (c : Int)), .int .i64 255] 25)).heap.size := by simp
      obtain ⟨W5, hW5⟩ : ∃ x, w4.alloc (.cells #[.int .i64 (17 * (a : Int)), .int .i64 (17 * (b : Int)), .int .i64 (17 * (c : Int)), .int .i64 255] 25) = x := ⟨_, rfl⟩
      rw [hW5] at a5 b5 x5 z5
      have HW5 := Lib.hid hW5
      have A5 := Lib.hid a5
      have X5 := Lib.hid x5
      have B5 := Lib.hid b5
      clear a5 b5 x5 hb4 a4 hW5 bl5
      go_upto_region 14 with (fail)
      rw [HW5.out]
      go_wp2_with fail
      refine (RD2.out _ _ _ _ _ _ _ _ _ _ _ _).mono ?_
      rintro e w6 ⟨rfl, hb6⟩
      have z6 := hb6.size
      have a6 := A5.out.keep hb6 A5.out.lt
      have x6 := X5.out.keep hb6 z5
      have bl7 := (Below.refl w6.heap.size w6).alloc (Nat.le_refl _) (.cells #[.int .i64 (17 * (a : Int)), .int .i64 (17 * (b : Int)), .int .i64 (17 * (c : Int)), .int .i64 255] 25)
      have a7 := a6.keep bl7 a6.lt
      have x7 := x6.keep bl7 x6.lt
      have y7 : AB (w6.alloc (.cells #[.int .i64 (17 * (a : Int)), .int .i64 (17 * (b : Int)), .int .i64 (17 * (c : Int)), .int .i64 255] 25)) w6.heap.size (17 * (a : Int), 17 * (b : Int), 17 * (c : Int), 255) := AB.new w6 (17 * (a : Int), 17 * (b : Int), 17 * (c : Int), 255)
      have b7 := B5.out.trans ((hb6.trans (bl7.mono z6)).mono B5.out.size)
      have g0 := cell_of_row _ _ 0 _ _ _ a7
      have g1 := cell_of_row _ _ 1 _ _ _ a7
      have g2 := cell_of_row _ _ 2 _ _ _ a7
      have g3 := cell_of_row _ _ 3 _ _ _ a7
      have i0 := cell_of_row _ _ 0 _ _ _ x7
      have i1 := cell_of_row _ _ 1 _ _ _ x7
      have i2 := cell_of_row _ _ 2 _ _ _ x7
      have i3 := cell_of_row _ _ 3 _ _ _ x7
      have k0 := cell_of_row _ _ 0 _ _ _ y7
      have k1 := cell_of_row _ _ 1 _ _ _ y7
      have k2 := cell_of_row _ _ 2 _ _ _ y7
      have k3 := cell_of_row _ _ 3 _ _ _ y7
      simp only [arrC] at g0 g1 g2 g3 i0 i1 i2 i3 k0 k1 k2 k3
      obtain ⟨W7, hW7⟩ : ∃ x, w6.alloc (.cells #[.int .i64 (17 * (a : Int)), .int .i64 (17 * (b : Int)), .int .i64 (17 * (c : Int)), .int .i64 255] 25) = x := ⟨_, rfl⟩
      rw [hW7] at g0 g1 g2 g3 i0 i1 i2 i3 k0 k1 k2 k3 b7
      have HW7 := Lib.hid hW7
      have B7 := Lib.hid b7
      clear b7 a7 x7 y7 hb6 a6 x6 hW7 bl7
      go_upto_region 15 with (fail)
      rw [HW7.out]
      go_wp2_with (refine wpl_cmpA (by rfl) _ _ rfl (17 * (a : Int), 17 * (b : Int), 17 * (c : Int), 255) (17 * (a : Int), 17 * (b : Int), 17 * (c : Int), 255) true (by simp) rfl rfl ?_)
      go_wp2
      go_ret
      exact ⟨rfl, B7.out⟩
    | true =>
      go_enter Tryd.func4, Tryd.ntmps4
      go_wp2_with fail
      refine (AL.out _).mono ?_
      rintro e w1 ⟨rfl, hb1⟩
      go_upto_region 6 with (fail)
      refine wp_region_noPanic ?_
      refine wp_region_held_drew (S := fun _ => True) (by kernel_rfl) trivial (fun hS => ?_)
      refine rtk 0 ?_
      refine rtk 1 ?_
      refine rtk 2 ?_
      refine rtk 3 ?_
      refine rtk 4 ?_
      refine rtk 5 ?_
      refine rtk 6 ?_
      refine rtk 7 ?_
      refine rtk 8 ?_
      refine rtk 9 ?_
      refine rtk 10 ?_
      refine rtk 11 ?_
      refine rtk 12 ?_
      refine rtk 13 ?_
      refine rtk 14 ?_
      refine rtk 15 ?_
      refine rtk 16 ?_
      refine rtk 17 ?_
      refine wpAnyH_done (by kernel_rfl) ?_ _
      refine NoPanic.normal ?_
      go_upto_region 7 with (fail)
      refine wp_region_noPanic ?_
      refine wp_region_held_drew (S := fun _ => True) (by kernel_rfl) trivial (fun hS => ?_)
      refine rtk 0 ?_
      refine rtk 1 ?_
      refine rtk 2 ?_
      refine rtk 3 ?_
      refine rtk 4 ?_
      refine rtk 5 ?_
      refine rtk 6 ?_
      refine rtk 7 ?_
      refine rtk 8 ?_
      refine rtk 9 ?_
      refine rtk 10 ?_
      refine rtk 11 ?_
      refine rtk 12 ?_
      refine rtk 13 ?_
      refine rtk 14 ?_
      refine rtk 15 ?_
      refine rtk 16 ?_
      refine rtk 17 ?_
      refine rtk 18 ?_
      refine rtk 19 ?_
      refine rtk 20 ?_
      refine rtk 21 ?_
      refine rtk 22 ?_
      refine rtk 23 ?_
      refine rtk 24 ?_
      refine rtk 25 ?_
      refine rtk 26 ?_
      refine rtk 27 ?_
      refine rtk 28 ?_
      refine rtk 29 ?_
      refine rtk 30 ?_
      refine rtk 31 ?_
      refine rtk 32 ?_
      refine rtk 33 ?_
      refine rtk 34 ?_
      refine rtk 35 ?_
      refine wpAnyH_done (by kernel_rfl) ?_ _
      refine NoPanic.normal ?_
      have RD1 := Lib.hid (fun c2 c3 c4 c5 c6 c7 c8 c9 c10 c11 c12 w => read_any 4 [smL.getD a 0, grL.getD b 0, smL.getD c 0, grL.getD d 0] c2 c3 c4 c5 c6 c7 c8 c9 c10 c11 c12 (SA ++ GB ++ SC ++ GD) w (by rw [← ES.out.1, ← EG.out.2.1, ← ES.out.2.2.1, ← EG.out.2.2.2, ← bytes_addD, ← bytes_addD, ← bytes_addD]; rfl) (by simp))
      have RD2 := Lib.hid (fun c2 c3 c4 c5 c6 c7 c8 c9 c10 c11 c12 w => read_any 4 [grL.getD a 0, smL.getD a 0, smL.getD b 0, smL.getD b 0, grL.getD c 0, grL.getD c 0, smL.getD d 0, grL.getD d 0] c2 c3 c4 c5 c6 c7 c8 c9 c10 c11 c12 (GA ++ SA ++ SB ++ SB ++ GC ++ GC ++ SD ++ GD) w (by rw [← ES.out.1, ← EG.out.1, ← ES.out.2.1, ← EG.out.2.2.1, ← ES.out.2.2.2, ← EG.out.2.2.2, ← bytes_addD, ← bytes_addD, ← bytes_addD, ← bytes_addD, ← bytes_addD, ← bytes_addD, ← bytes_addD]; rfl) (by simp))
      have e1 : readC 4 [smL.getD a 0, grL.getD b 0, smL.getD c 0, grL.getD d 0] = ((17 * (a : Int), 17 * (b : Int), 17 * (c : Int), 17 * (d : Int)), true) := great4 _ _ _ _ a b c d (sm_hex a ha).1 (sm_hex b hb).2 (sm_hex c hc).1 (sm_hex d hd).2 ha hb hc hd
      have e2 : readC 4 [grL.getD a 0, smL.getD a 0, smL.getD b 0, smL.getD b 0, grL.getD c 0, grL.getD c 0, smL.getD d 0, grL.getD d 0] = ((17 * (a : Int), 17 * (b : Int), 17 * (c : Int), 17 * (d : Int)), true) := great8 _ _ _ _ _ _ _ _ a b c d (sm_hex a ha).2 (sm_hex a ha).1 (sm_hex b hb).1 (sm_hex b hb).1 (sm_hex c hc).2 (sm_hex c hc).2 (sm_hex d hd).1 (sm_hex d hd).2 ha hb hc hd
      rw [e1] at RD1
      rw [e2] at RD2
      unfold arrV arrC at RD1 RD2
      simp only at RD1 RD2
      clear e1 e2 hS
      go_upto_region 8 with (fail)
      have hb2 : Below w.heap.size w w1.drew.drew := hb1.drew.drew
      obtain ⟨W2, hW2⟩ : ∃ x, w1.drew.drew = x := ⟨_, rfl⟩
      rw [hW2] at hb2
      rw [hW2]
      have hz2 := hb2.size
      clear hW2 hb1
      have C3 := Lib.hid (show (17 * (a : Int), 17 * (b : Int), 17 * (c : Int), (255 : Int)) = (17 * (a : Int), 17 * (b : Int), 17 * (c : Int), (255 : Int)) from rfl)
      have a3 : AB (W2.alloc (.cells #[.int .i64 (17 * (a : Int)), .int .i64 (17 * (b : Int)), .int .i64 (17 * (c : Int)), .int .i64 255] 25)) W2.heap.size (17 * (a : Int), 17 * (b : Int), 17 * (c : Int), 255) := AB.new W2 (17 * (a : Int), 17 * (b : Int), 17 * (c : Int), 255)
      have b3 := hb2.alloc hb2.size (.cells #[.int .i64 (17 * (a : Int)), .int .i64 (17 * (b : Int)), .int .i64 (17 * (c : Int)), .int .i64 255] 25)
      have z3 : W2.heap.size < (W2.alloc (.cells #[.int .i64 (17 * (a : Int)), .int .i64 (17 * (b : Int)), .int .i64 (17 * (c : Int)), .int .i64 255] 25)).heap.size := by simp
      obtain ⟨W3, hW3⟩ : ∃ x, W2.alloc (.cells #[.int .i64 (17 * (a : Int)), .int .i64 (17 * (b : Int)), .int .i64 (17 * (c : Int)), .int .i64 255] 25) = x := ⟨_, rfl⟩
      rw [hW3] at a3 b3 z3
      have HW3 := Lib.hid hW3
      have A3 := Lib.hid a3
      have B3 := Lib.hid b3
      clear hW3 a3 b3 hb2
      go_upto_region 9 with (fail)
      rw [HW3.out]
      go_upto_region 11 with (fail)
      refine wp_region_noPanic ?_
      refine wp_region_held_drew (S := fun _ => True) (by kernel_rfl) trivial (fun hS => ?_)
      refine rtk 0 ?_
      refine rtk 1 ?_
      refine rtk 2 ?_
      refine rtk 3 ?_
      refine rtk 4 ?_
      refine rtk 5 ?_
      refine rtk 6 ?_
      refine rtk 7 ?_
      refine rtk 8 ?_
      refine rtk 9 ?_
      refine rtk 10 ?_
      refine rtk 11 ?_
      refine rtk 12 ?_
      refine rtk 13 ?_
      refine wpAnyH_done (by kernel_rfl) ?_ _
      refine NoPanic.normal ?_
      clear sa sb sc sd ga gb gc gd hS
      have a3' : AB W3.drew W2.heap.size (17 * (a : Int), 17 * (b : Int), 17 * (c : Int), 255) := A3.out.keep (Below.refl W3.heap.size W3).drew z3
      have b3' := B3.out.drew
      have z3' : W2.heap.size < W3.drew.heap.size := z3
      obtain ⟨W4, hW4⟩ : ∃ x, W3.drew = x := ⟨_, rfl⟩
      rw [hW4] at a3' b3' z3'
      rw [hW4]
      clear hW4
      have ce := cell_of_row _ _ 3 _ _ _ a3'
      have fz := frozen_of_row _ _ 3 _ _ a3'
      simp only [arrC] at ce
      have p3 : AB (W4.setCell ⟨W2.heap.size, 3, none⟩ (.int .i64 (17 * (d : Int)))) W2.heap.size (17 * (a : Int), 17 * (b : Int), 17 * (c : Int), 17 * (d : Int)) := AB.put a3' 3 _ rfl
      have q3 := Below.setCell b3' (show w.heap.size ≤ (⟨W2.heap.size, 3, none⟩ : Addr).block from hz2) (.int .i64 (17 * (d : Int)))
      have r3 : W2.heap.size < (W4.setCell ⟨W2.heap.size, 3, none⟩ (.int .i64 (17 * (d : Int)))).heap.size := by simpa using z3'
      obtain ⟨W5', hW5'⟩ : ∃ x, W4.setCell ⟨W2.heap.size, 3, none⟩ (.int .i64 (17 * (d : Int))) = x := ⟨_, rfl⟩
      rw [hW5'] at p3 q3 r3
      have HW5' := Lib.hid hW5'
      clear A3 B3 a3' b3' z3' hW5' z3
      have A3 := Lib.hid p3
      have B3 := Lib.hid q3
      have z3 := r3
      clear p3 q3 r3
      go_upto_region 13 with (fail)
      rw [HW5'.out]
      clear ce fz
      go_wp2_with fail
      refine (RD1.out _ _ _ _ _ _ _ _ _ _ _ _).mono ?_
      rintro e w4 ⟨rfl, hb4⟩
      have z4 := hb4.size
      have a4 := A3.out.keep hb4 z3
      have bl5 := (Below.refl w4.heap.size w4).alloc (Nat.le_refl _) (.cells #[.int .i64 (17 * (a : Int)), .int .i64 (17 * (b : Int)), .int .i64 (17 * (c : Int)), .int .i64 (17 * (d : Int))] 25)
      have a5 := a4.keep bl5 a4.lt
      have x5 : AB (w4.alloc (.cells #[.int .i64 (17 * (a : Int)), .int .i64 (17 * (b : Int)), .int .i64 (17 * (c : Int)), .int .i64 (17 * (d : Int))] 25)) w4.heap.size (17 * (a : Int), 17 * (b : Int), 17 * (c : Int), (17 * (d : Int))) := AB.new w4 (17 * (a : Int), 17 * (b : Int), 17 * (c : Int), (17 * (d : Int)))
      have b5 := B3.out.trans ((hb4.trans (bl5.mono z4)).mono B3.out.size)
      have z5 : w4.heap.size < (w4.alloc (.cells #[.int .i64 (17 * (a : Int)), .int .i64 (17 * (b : Int)), .int .i64 (17 * (c : Int)), .int .i64 (17 * (d : Int))] 25)).heap.size := by simp
      obtain ⟨W5, hW5⟩ : ∃ x, w4.alloc (.cells #[.int .i64 (17 * (a : Int)), .int .i64 (17 * (b : Int)), .int .i64 (17 * (c : Int)), .int .i64 (17 * (d : Int))] 25) = x := ⟨_, rfl⟩
      rw [hW5] at a5 b5 x5 z5
      have HW5 := Lib.hid hW5
      have A5 := Lib.hid a5
      have X5 := Lib.hid x5
      have B5 := Lib.hid b5
      clear a5 b5 x5 hb4 a4 hW5 bl5
      go_upto_region 14 with (fail)
      rw [HW5.out]
      go_wp2_with fail
      refine (RD2.out _ _ _ _ _ _ _ _ _ _ _ _).mono ?_
      rintro e w6 ⟨rfl, hb6⟩
      have z6 := hb6.size
      have a6 := A5.out.keep hb6 A5.out.lt
      have x6 := X5.out.keep hb6 z5
      have bl7 := (Below.refl w6.heap.size w6).alloc (Nat.le_refl _) (.cells #[.int .i64 (17 * (a : Int)), .int .i64 (17 * (b : Int)), .int .i64 (17 * (c : Int)), .int .i64 (17 * (d : Int))] 25)
      have a7 := a6.keep bl7 a6.lt
      have x7 := x6.keep bl7 x6.lt
      have y7 : AB (w6.alloc (.cells #[.int .i64 (17 * (a : Int)), .int .i64 (17 * (b : Int)), .int .i64 (17 * (c : Int)), .int .i64 (17 * (d : Int))] 25)) w6.heap.size (17 * (a : Int), 17 * (b : Int), 17 * (c : Int), (17 * (d : Int))) := AB.new w6 (17 * (a : Int), 17 * (b : Int), 17 * (c : Int), (17 * (d : Int)))
      have b7 := B5.out.trans ((hb6.trans (bl7.mono z6)).mono B5.out.size)
      have g0 := cell_of_row _ _ 0 _ _ _ a7
      have g1 := cell_of_row _ _ 1 _ _ _ a7
      have g2 := cell_of_row _ _ 2 _ _ _ a7
      have g3 := cell_of_row _ _ 3 _ _ _ a7
      have i0 := cell_of_row _ _ 0 _ _ _ x7
      have i1 := cell_of_row _ _ 1 _ _ _ x7
      have i2 := cell_of_row _ _ 2 _ _ _ x7
      have i3 := cell_of_row _ _ 3 _ _ _ x7
      have k0 := cell_of_row _ _ 0 _ _ _ y7
      have k1 := cell_of_row _ _ 1 _ _ _ y7
      have k2 := cell_of_row _ _ 2 _ _ _ y7
      have k3 := cell_of_row _ _ 3 _ _ _ y7
      simp only [arrC] at g0 g1 g2 g3 i0 i1 i2 i3 k0 k1 k2 k3
      obtain ⟨W7, hW7⟩ : ∃ x, w6.alloc (.cells #[.int .i64 (17 * (a : Int)), .int .i64 (17 * (b : Int)), .int .i64 (17 * (c : Int)), .int .i64 (17 * (d : Int))] 25) = x := ⟨_, rfl⟩
      rw [hW7] at g0 g1 g2 g3 i0 i1 i2 i3 k0 k1 k2 k3 b7
      have HW7 := Lib.hid hW7
      have B7 := Lib.hid b7
      clear b7 a7 x7 y7 hb6 a6 x6 hW7 bl7
      go_upto_region 15 with (fail)
      rw [HW7.out]
      go_wp2_with (refine wpl_cmpA (by rfl) _ _ rfl (17 * (a : Int), 17 * (b : Int), 17 * (c : Int), (17 * (d : Int))) (17 * (a : Int), 17 * (b : Int), 17 * (c : Int), (17 * (d : Int))) true (by simp) rfl rfl ?_)
      go_wp2
      go_ret
      exact ⟨rfl, B7.out⟩
end Go.Proofs.YtajjdndnmokfkaaDoor
