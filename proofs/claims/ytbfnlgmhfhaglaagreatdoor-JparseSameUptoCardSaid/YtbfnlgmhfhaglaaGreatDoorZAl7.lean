/- Chapter 7's alive. -/
import Derived.Test.YtbfnlgmhfhaglaaGreatDoorZParse
import Derived.Test.YtbfnlgmhfhaglaaGreatDoorZSame
namespace Go.Proofs.YtbfnlgmhfhaglaaGreatDoor
open Go.RowKit
set_option linter.unusedVariables false
set_option linter.unusedSimpArgs false

def al7L : List UInt8 := [123, 34, 97, 34, 58, 91, 49, 93, 125]
def al7K : Vo := .cons (textV al7L (7, 1, 4)) .nil (.cons ⟨2, [], false, [], [], 5, 7, []⟩ (.cons (numbV al7L (8, 6, 7)) .nil .nil) .nil)
def al7H : Vh := ⟨1, [], false, [], [], 0, 8, [4]⟩
theorem al7_nil : parseV [] 9 = .error (3, 0) := by
  unfold parseV
  rw [M.split_nil]
  rfl
theorem al7_split : M.splitV al7L = ([(1, 0, 1), (7, 1, 4), (5, 4, 5), (3, 5, 6), (8, 6, 7), (4, 7, 8), (2, 8, 9)], 0, 0) := by rw [← M.splitC_eq]; decide +kernel
theorem al7_one : parseV al7L 9 = .ok (al7H, al7K) := by
  unfold parseV
  rw [al7_split]
  rfl
theorem sameVo_refl (L : Vo) : sameVo L L = true := by
  induction L with
  | nil => rfl
  | cons h k r ih1 ih2 => simp [sameVo, sameHd, ih1, ih2]
theorem sameH_refl (h : Vh) (k : Vo) : sameH h k h k = true := by unfold sameH sameHd; simp [sameVo_refl]
theorem al7_C : 1 + al7H.tx.length + al7H.ms.length + VoC al7K ≤ 2097152 := by decide +kernel
theorem eqf_3 (W : World) : (binOp .eql 34 (.agg #[.int .i64 3, .int .i64 0]) (.agg #[.int .i64 3, .int .i64 0])).run Tryz.prog W = .ok (.bool true) W := by kernel_rfl
theorem eqf_0 (W : World) : (binOp .eql 34 (.agg #[.int .i64 0, .int .i64 0]) (.agg #[.int .i64 0, .int .i64 0])).run Tryz.prog W = .ok (.bool true) W := by kernel_rfl
/-- Two results laid into variables of their own. -/
theorem two_laid (w : World) (cs : Array Value) (x y : Value) (p2 : Nat) (hp : w.heap.size + 1 = p2) :
    BK 27 ((w.alloc (.cells zv 27)).alloc (.cells #[.int .i64 0, .int .i64 0] 34)) w.heap.size zv ∧
    BK 34 (((w.alloc (.cells zv 27)).alloc (.cells #[.int .i64 0, .int .i64 0] 34)).setRow w.heap.size cs) p2 #[.int .i64 0, .int .i64 0] ∧
    BK 27 ((((w.alloc (.cells zv 27)).alloc (.cells #[.int .i64 0, .int .i64 0] 34)).setRow w.heap.size cs).setRow p2 #[x, y]) w.heap.size cs ∧
    BK 34 ((((w.alloc (.cells zv 27)).alloc (.cells #[.int .i64 0, .int .i64 0] 34)).setRow w.heap.size cs).setRow p2 #[x, y]) p2 #[x, y] ∧
    Below w.heap.size w ((((w.alloc (.cells zv 27)).alloc (.cells #[.int .i64 0, .int .i64 0] 34)).setRow w.heap.size cs).setRow p2 #[x, y]) := by
  subst hp
  have k1 := BK.new 27 w zv
  have b1 := (Below.refl w.heap.size w).alloc (Nat.le_refl _) (.cells zv 27)
  have hs : (w.alloc (.cells zv 27)).heap.size = w.heap.size + 1 := by simp
  obtain ⟨W1, hW1⟩ : ∃ x, w.alloc (.cells zv 27) = x := ⟨_, rfl⟩
  rw [hW1] at k1 b1 hs ⊢
  have k2 := BK.new 34 W1 #[.int .i64 0, .int .i64 0]
  have b2 := (Below.refl W1.heap.size W1).alloc (Nat.le_refl _) (.cells #[.int .i64 0, .int .i64 0] 34)
  rw [hs] at k2
  have k3 := k1.keep b2
  have B := b1.trans (b2.mono (by omega))
  have k4 := k2.frame (setRow_other _ w.heap.size (w.heap.size + 1) cs (by omega))
  have k5 := k3.set cs
  have k6 := k5.frame (setRow_other _ (w.heap.size + 1) w.heap.size #[x, y] (by omega))
  exact ⟨k3, k4, k6, k4.set _, below_setRowK (below_setRowK B (Nat.le_refl _) cs) (by omega) _⟩
set_option maxRecDepth 100000 in
set_option maxHeartbeats 8000000 in
theorem alive7_any (w : World) (hX : TabX w) : Calls Tryz.prog 10 #[] w fun e w' => e = .returned (.bool true) ∧ Below w.heap.size w w' := by
  have P1 := parse_any (.slice none 0 0) [] 9 w hX (bs_nil w) (by simp)
  rw [al7_nil] at P1
  unfold ParQ at P1
  dsimp only at P1
  have P1 := Lib.hid P1
  have HX := Lib.hid hX
  clear hX
  go_enter Tryz.func10, Tryz.ntmps10
  go_wp2_with fail
  refine P1.out.mono ?_
  rintro e w1 ⟨rfl, hb1⟩
  obtain ⟨p2, hp2⟩ : ∃ x, w1.heap.size + 1 = x := ⟨_, rfl⟩
  obtain ⟨k1, k2, k3, k4, bb⟩ := two_laid w1 zvl.toArray (.int .i64 3) (.int .i64 0) p2 hp2
  have B1 := hb1.trans (bb.mono hb1.size)
  obtain ⟨W4, hW4⟩ : ∃ x, (((w1.alloc (.cells zv 27)).alloc (.cells #[.int .i64 0, .int .i64 0] 34)).setRow w1.heap.size zvl.toArray).setRow p2 #[.int .i64 3, .int .i64 0] = x := ⟨_, rfl⟩
  rw [hW4] at k3 k4 B1
  have HW4 := Lib.hid (show (((w1.alloc (.cells #[.int .i64 0, .slice none 0 0, .bool false, .string ⟨#[]⟩, .string ⟨#[]⟩, .slice none 0 0, .int .i64 0, .int .i64 0, .slice none 0 0] 27)).alloc (.cells #[.int .i64 0, .int .i64 0] 34)).setRow w1.heap.size (vv ⟨0, [], false, [], [], 0, 0, []⟩ nilV nilV nilV)).setRow p2 #[.int .i64 3, .int .i64 0] = W4 from hW4)
  clear hW4 bb hb1
  go_upto_region 2 with (first | (refine wpl_stV rfl _ _ rfl w1.heap.size zv ⟨0, [], false, [], [], 0, 0, []⟩ nilV nilV nilV rfl rfl k1 rfl rfl rfl rfl ?_) | (refine wpl_stK infoF1 rfl _ _ rfl p2 _ #[.int .i64 3, .int .i64 0] rfl rfl k2 rfl rfl (by simp [Value.oneCell']) ?_))
  rw [HW4.out]
  have b5 := (Below.refl W4.heap.size W4).alloc (Nat.le_refl _) (.cells (bcells al7L).toArray 5 (9, 10))
  have bs5 := bs_newm W4 al7L (9, 10) (by decide)
  obtain ⟨W5, hW5⟩ : ∃ x, W4.alloc (.cells (bcells al7L).toArray 5 (9, 10)) = x := ⟨_, rfl⟩
  obtain ⟨W5', hW5'⟩ : ∃ x, W4.alloc (.cells #[.int .u8 123, .int .u8 34, .int .u8 97, .int .u8 34, .int .u8 58, .int .u8 91, .int .u8 49, .int .u8 93, .int .u8 125] 5) = x := ⟨_, rfl⟩
  have kc : (convert 37 37 (.slice (some ⟨W4.heap.size, 0, none⟩) 9 9)).run Tryz.prog W5' = .ok (.slice (some ⟨W4.heap.size, 0, none⟩) 9 9) W5 := by
    have := Lib.run_convert_bytes_const (P := Tryz.prog) W4 37 5 #[.int .u8 123, .int .u8 34, .int .u8 97, .int .u8 34, .int .u8 58, .int .u8 91, .int .u8 49, .int .u8 93, .int .u8 125] 9 9 Tryz.underlying37 Tryz.underlying5
    rw [hW5'] at this
    rw [this]
    exact congrArg _ hW5
  rw [hW5] at b5 bs5
  have HW5 := Lib.hid hW5'
  have B5 := B1.trans (b5.mono B1.size)
  have P2 := parse_any (.slice (some ⟨W4.heap.size, 0, none⟩) 9 9) al7L 9 W5 (HX.out.keep B5) bs5 (by decide)
  rw [al7_one] at P2
  unfold ParQ at P2
  dsimp only at P2
  have P2 := Lib.hid P2
  have K3 := Lib.hid (k4.keep b5)
  have B5 := Lib.hid B5
  clear hW5 hW5' b5 bs5 k1 k2 k3 k4 B1 hp2
  go_wp2_with (rw [HW5.out])
  refine P2.out.mono ?_
  rintro e w6 ⟨tv, v, mv, rfl, hd, hv, hb6⟩
  obtain ⟨p4, hp4⟩ : ∃ x, w6.heap.size + 1 = x := ⟨_, rfl⟩
  obtain ⟨k1, k2, k3, k4, bb⟩ := two_laid w6 (vv al7H tv v mv) (.int .i64 0) (.int .i64 0) p4 hp4
  have K36 := (K3.out.keep hb6).keep bb
  have B9 := (B5.out.trans (hb6.mono B5.out.size)).trans (bb.mono (by have := B5.out.size; have := hb6.size; omega))
  have t1 := hd.t.one
  have t2 := hv.one
  have t3 := hd.m.one
  have hd9 : HdS w6 al7H tv mv := hd.mono (fun b hb => hb.2)
  have hv9 : VoS w6 v al7K := hv.mono (fun b hb => hb.2)
  have hd9 := hd9.below bb
  have hv9 := hv9.below bb
  obtain ⟨W9, hW9⟩ : ∃ x, (((w6.alloc (.cells zv 27)).alloc (.cells #[.int .i64 0, .int .i64 0] 34)).setRow w6.heap.size (vv al7H tv v mv)).setRow p4 #[.int .i64 0, .int .i64 0] = x := ⟨_, rfl⟩
  rw [hW9] at k3 k4 K36 B9 hd9 hv9
  have HW9 := Lib.hid (show (((w6.alloc (.cells #[.int .i64 0, .slice none 0 0, .bool false, .string ⟨#[]⟩, .string ⟨#[]⟩, .slice none 0 0, .int .i64 0, .int .i64 0, .slice none 0 0] 27)).alloc (.cells #[.int .i64 0, .int .i64 0] 34)).setRow w6.heap.size (vv al7H tv v mv)).setRow p4 #[.int .i64 0, .int .i64 0] = W9 from hW9)
  have SA0 := jsame_any al7H al7K al7H al7K W9 tv v mv tv v mv al7_C al7_C hd9 hv9 hd9 hv9
  rw [sameH_refl] at SA0
  have SA := Lib.hid SA0
  have HB9 := Lib.hid B9
  obtain ⟨va, vc, hvs⟩ := hv9.slice
  have VB9 : VB W9 w6.heap.size al7H tv v mv := k3
  have e0 : W9.cell? ⟨p2, 0, none⟩ = some (.int .i64 3) := K36.cell 0
  have e1 : W9.cell? ⟨p2, 1, none⟩ = some (.int .i64 0) := K36.cell 1
  have f0 : W9.cell? ⟨p4, 0, none⟩ = some (.int .i64 0) := k4.cell 0
  have f1 : W9.cell? ⟨p4, 1, none⟩ = some (.int .i64 0) := k4.cell 1
  have g0 : W9.cell? ⟨w6.heap.size, 0, none⟩ = some (.int .i64 1) := VB9.cells.1
  have g5 : W9.cell? ⟨w6.heap.size, 5, none⟩ = some (.slice va 2 vc) := by rw [VB9.cells.2.2.2.2.2.1, hvs]; rfl
  have q3 := eqf_3
  have q0 := eqf_0
  clear hW9 bb hd hv hb6 hd9 hv9 B9 SA0 hvs
  go_upto_region 3 with (first | (refine wpl_stV rfl _ _ rfl w6.heap.size zv al7H tv v mv rfl rfl k1 rfl t1 t2 t3 ?_) | (refine wpl_stK infoF1 rfl _ _ rfl p4 _ #[.int .i64 0, .int .i64 0] rfl rfl k2 rfl rfl (by simp [Value.oneCell']) ?_))
  rw [HW9.out]
  clear k1 k2
  go_wp2_with (first | (refine wpl_ldVg (by rfl) _ rfl w6.heap.size 0 al7H tv v mv rfl (VB.range VB9) ?_) | fail)
  refine SA.out.mono ?_
  rintro e w10 ⟨rfl, hb10⟩
  go_wp2
  go_ret
  exact ⟨rfl, HB9.out.trans (hb10.mono HB9.out.size)⟩
end Go.Proofs.YtbfnlgmhfhaglaaGreatDoor
