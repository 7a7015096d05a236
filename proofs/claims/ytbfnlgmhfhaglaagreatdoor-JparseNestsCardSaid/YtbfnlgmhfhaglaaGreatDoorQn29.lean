import Derived.Test.YtbfnlgmhfhaglaaGreatDoorQn25
import Derived.Test.YtbfnlgmhfhaglaaGreatDoorQn28
import Derived.Test.YtbfnlgmhfhaglaaGreatDoorQn11
import Derived.StillTailTactics
set_option maxHeartbeats 8000000
set_option maxRecDepth 100000
namespace Go.Proofs.YtbfnlgmhfhaglaaGreatDoor
open Go.RowKit
set_option linter.unusedVariables false
set_option linter.unusedSimpArgs false
def al7L : List UInt8 := [123, 34, 97, 34, 58, 91, 49, 93, 125]
def al7K : Vo := .cons (textV al7L (7, 1, 4)) .nil (.cons ⟨2, [], false, [], [], 5, 7, []⟩ (.cons (numbV al7L (8, 6, 7)) .nil .nil) .nil)
def al7H : Vh := ⟨1, [], false, [], [], 0, 8, [4]⟩
theorem al7_nil : parseV [] 9 = .error (3, 0) := by
 unfold parseV
 rw [M.split_nil]
 rfl
theorem al7_split : M.splitV al7L = ([(1, 0, 1), (7, 1, 4), (5, 4, 5), (3, 5, 6), (8, 6, 7), (4, 7, 8), (2, 8, 9)], 0, 0) := by rw [<- M.splitC_eq]; decide +kernel
theorem al7_one : parseV al7L 9 = .ok (al7H, al7K) := by
 unfold parseV
 rw [al7_split]
 rfl
theorem sameVo_refl (L : Vo) : sameVo L L = true := by
 induction L with
 | nil => rfl
 | cons h k r ih1 ih2 => simp [sameVo, sameHd, ih1, ih2]
theorem sameH_refl (h : Vh) (k : Vo) : sameH h k h k = true := by unfold sameH sameHd; simp [sameVo_refl]
theorem al7_C : 1 + al7H.tx.length + al7H.ms.length + VoC al7K <= 2097152 := by decide +kernel
theorem eqf_3 (W : World) : (binOp .eql 34 (.agg #[.int .i64 3, .int .i64 0]) (.agg #[.int .i64 3, .int .i64 0])).run Tryz.prog W = .ok (.bool true) W := by kernel_rfl
theorem eqf_0 (W : World) : (binOp .eql 34 (.agg #[.int .i64 0, .int .i64 0]) (.agg #[.int .i64 0, .int .i64 0])).run Tryz.prog W = .ok (.bool true) W := by kernel_rfl
theorem two_laid (w : World) (cs : Array Value) (x y : Value) (p2 : Nat) (hp : w.heap.size + 1 = p2) :
  BK 27 ((w.alloc (.cells zv 27)).alloc (.cells #[.int .i64 0, .int .i64 0] 34)) w.heap.size zv /\
  BK 34 (((w.alloc (.cells zv 27)).alloc (.cells #[.int .i64 0, .int .i64 0] 34)).setRow w.heap.size cs) p2 #[.int .i64 0, .int .i64 0] /\
  BK 27 ((((w.alloc (.cells zv 27)).alloc (.cells #[.int .i64 0, .int .i64 0] 34)).setRow w.heap.size cs).setRow p2 #[x, y]) w.heap.size cs /\
  BK 34 ((((w.alloc (.cells zv 27)).alloc (.cells #[.int .i64 0, .int .i64 0] 34)).setRow w.heap.size cs).setRow p2 #[x, y]) p2 #[x, y] /\
  Below w.heap.size w ((((w.alloc (.cells zv 27)).alloc (.cells #[.int .i64 0, .int .i64 0] 34)).setRow w.heap.size cs).setRow p2 #[x, y]) := by
 subst hp
 have k1 := BK.new 27 w zv
 have b1 := (Below.refl w.heap.size w).alloc (Nat.le_refl _) (.cells zv 27)
 have hs : (w.alloc (.cells zv 27)).heap.size = w.heap.size + 1 := by simp
 obtain ⟨W1, hW1⟩ : ∃ x, w.alloc (.cells zv 27) = x := ⟨_, rfl⟩
 rw [hW1] at k1 b1 hs ⊢
 have k2 := BK.new 34 W1 #[.int .i64 0, .int .i64 0]
 have b2 := (Below.refl W1.heap.size W1).alloc (Nat.le_refl _) (.cells #[.int .i64 0, .int .i64 0] 34)
 rw [hs] at k2
 have k3 := k1.keep b2
 have B := b1.trans (b2.mono (by omega))
 have k4 := k2.frame (setRow_other _ w.heap.size (w.heap.size + 1) cs (by omega))
 have k5 := k3.set cs
 have k6 := k5.frame (setRow_other _ (w.heap.size + 1) w.heap.size #[x, y] (by omega))
 exact ⟨k3, k4, k6, k4.set _, below_setRowK (below_setRowK B (Nat.le_refl _) cs) (by omega) _⟩
theorem alive7_any (w : World) (hX : TabX w) : Calls Tryz.prog 10 #[] w fun e w' => e = .returned (.bool true) /\ Below w.heap.size w w' := by
 have P1 := parse_any (.slice none 0 0) [] 9 w hX (bs_nil w) (by simp)
 rw [al7_nil] at P1
 unfold ParQ at P1
 dsimp only at P1
 have P1 := LH P1
 have HX := LH hX
 clear hX
 go_enter Tryz.func10, Tryz.ntmps10
 go_wp2_with fail
 refine P1.out.mono ?_
 rintro e w1 ⟨rfl, hb1⟩
 obtain ⟨p2, hp2⟩ : ∃ x, w1.heap.size + 1 = x := ⟨_, rfl⟩
 obtain ⟨k1, k2, k3, k4, bb⟩ := two_laid w1 zvl.toArray (.int .i64 3) (.int .i64 0) p2 hp2
 have B1 := hb1.trans (bb.mono hb1.size)
 obtain ⟨W4, hW4⟩ : ∃ x, (((w1.alloc (.cells zv 27)).alloc (.cells #[.int .i64 0, .int .i64 0] 34)).setRow w1.heap.size zvl.toArray).setRow p2 #[.int .i64 3, .int .i64 0] = x := ⟨_, rfl⟩
 rw [hW4] at k3 k4 B1
 have HW4 := LH (show (((w1.alloc (.cells #[.int .i64 0, .slice none 0 0, .bool false, .string ⟨#[]⟩, .string ⟨#[]⟩, .slice none 0 0, .int .i64 0, .int .i64 0, .slice none 0 0] 27)).alloc (.cells #[.int .i64 0, .int .i64 0] 34)).setRow w1.heap.size (vv ⟨0, [], false, [], [], 0, 0, []⟩ nilV nilV nilV)).setRow p2 #[.int .i64 3, .int .i64 0] = W4 from hW4)
 clear hW4 bb hb1
 go_upto_region 2 with (first | (refine wpl_stV rfl _ _ rfl w1.heap.size zv ⟨0, [], false, [], [], 0, 0, []⟩ nilV nilV nilV rfl rfl k1 rfl rfl rfl rfl ?_) | (refine wpl_stK infoF1 rfl _ _ rfl p2 _ #[.int .i64 3, .int .i64 0] rfl rfl k2 rfl rfl (by simp [Value.oneCell']) ?_))
 rw [HW4.out]
 have b5 := (Below.refl W4.heap.size W4).alloc (Nat.le_refl _) (.cells (bcells al7L).toArray 5 (9, 10))
 have bs5 := bs_newm W4 al7L (9, 10) (by decide)
 obtain ⟨W5, hW5⟩ : ∃ x, W4.alloc (.cells (bcells al7L).toArray 5 (9, 10)) = x := ⟨_, rfl⟩
 obtain ⟨W5', hW5'⟩ : ∃ x, W4.alloc (.cells #[.int .u8 123, .int .u8 34, .int .u8 97, .int .u8 34, .int .u8 58, .int .u8 91, .int .u8 49, .int .u8 93, .int .u8 125] 5) = x := ⟨_, rfl⟩
 have kc : (convert 37 37 (.slice (some ⟨W4.heap.size, 0, none⟩) 9 9)).run Tryz.prog W5' = .ok (.slice (some ⟨W4.heap.size, 0, none⟩) 9 9) W5 := by
  have := Lib.run_convert_bytes_const (P := Tryz.prog) W4 37 5 #[.int .u8 123, .int .u8 34, .int .u8 97, .int .u8 34, .int .u8 58, .int .u8 91, .int .u8 49, .int .u8 93, .int .u8 125] 9 9 Tryz.underlying37 Tryz.underlying5
  rw [hW5'] at this
  rw [this]
  exact congrArg _ hW5
 rw [hW5] at b5 bs5
 have HW5 := LH hW5'
 have B5 := B1.trans (b5.mono B1.size)
 have P2 := parse_any (.slice (some ⟨W4.heap.size, 0, none⟩) 9 9) al7L 9 W5 (HX.out.keep B5) bs5 (by decide)
 rw [al7_one] at P2
 unfold ParQ at P2
 dsimp only at P2
 have P2 := LH P2
 have K3 := LH (k4.keep b5)
 have B5 := LH B5
 clear hW5 hW5' b5 bs5 k1 k2 k3 k4 B1 hp2
 go_wp2_with (rw [HW5.out])
 refine P2.out.mono ?_
 rintro e w6 ⟨tv, v, mv, rfl, hd, hv, hb6⟩
 obtain ⟨p4, hp4⟩ : ∃ x, w6.heap.size + 1 = x := ⟨_, rfl⟩
 obtain ⟨k1, k2, k3, k4, bb⟩ := two_laid w6 (vv al7H tv v mv) (.int .i64 0) (.int .i64 0) p4 hp4
 have K36 := (K3.out.keep hb6).keep bb
 have B9 := (B5.out.trans (hb6.mono B5.out.size)).trans (bb.mono (by have := B5.out.size; have := hb6.size; omega))
 have t1 := hd.t.one
 have t2 := hv.one
 have t3 := hd.m.one
 have hd9 : HdS w6 al7H tv mv := hd.mono (fun b hb => hb.2)
 have hv9 : VoS w6 v al7K := hv.mono (fun b hb => hb.2)
 have hd9 := hd9.below bb
 have hv9 := hv9.below bb
 obtain ⟨W9, hW9⟩ : ∃ x, (((w6.alloc (.cells zv 27)).alloc (.cells #[.int .i64 0, .int .i64 0] 34)).setRow w6.heap.size (vv al7H tv v mv)).setRow p4 #[.int .i64 0, .int .i64 0] = x := ⟨_, rfl⟩
 rw [hW9] at k3 k4 K36 B9 hd9 hv9
 have HW9 := LH (show (((w6.alloc (.cells #[.int .i64 0, .slice none 0 0, .bool false, .string ⟨#[]⟩, .string ⟨#[]⟩, .slice none 0 0, .int .i64 0, .int .i64 0, .slice none 0 0] 27)).alloc (.cells #[.int .i64 0, .int .i64 0] 34)).setRow w6.heap.size (vv al7H tv v mv)).setRow p4 #[.int .i64 0, .int .i64 0] = W9 from hW9)
 have SA0 := jsame_any al7H al7K al7H al7K W9 tv v mv tv v mv al7_C al7_C hd9 hv9 hd9 hv9
 rw [sameH_refl] at SA0
 have SA := LH SA0
 have HB9 := LH B9
 obtain ⟨va, vc, hvs⟩ := hv9.slice
 have VB9 : VB W9 w6.heap.size al7H tv v mv := k3
 have e0 : W9.cell? ⟨p2, 0, none⟩ = some (.int .i64 3) := K36.cell 0
 have e1 : W9.cell? ⟨p2, 1, none⟩ = some (.int .i64 0) := K36.cell 1
 have f0 : W9.cell? ⟨p4, 0, none⟩ = some (.int .i64 0) := k4.cell 0
 have f1 : W9.cell? ⟨p4, 1, none⟩ = some (.int .i64 0) := k4.cell 1
 have g0 : W9.cell? ⟨w6.heap.size, 0, none⟩ = some (.int .i64 1) := VB9.cells.1
 have g5 : W9.cell? ⟨w6.heap.size, 5, none⟩ = some (.slice va 2 vc) := by rw [VB9.cells.2.2.2.2.2.1, hvs]; rfl
 have q3 := eqf_3
 have q0 := eqf_0
 clear hW9 bb hd hv hb6 hd9 hv9 B9 SA0 hvs
 go_upto_region 3 with (first | (refine wpl_stV rfl _ _ rfl w6.heap.size zv al7H tv v mv rfl rfl k1 rfl t1 t2 t3 ?_) | (refine wpl_stK infoF1 rfl _ _ rfl p4 _ #[.int .i64 0, .int .i64 0] rfl rfl k2 rfl rfl (by simp [Value.oneCell']) ?_))
 rw [HW9.out]
 clear k1 k2
 go_wp2_with (first | (refine wpl_ldVg (by rfl) _ rfl w6.heap.size 0 al7H tv v mv rfl (VB.range VB9) ?_) | fail)
 refine SA.out.mono ?_
 rintro e w10 ⟨rfl, hb10⟩
 go_wp2
 go_ret
 exact ⟨rfl, HB9.out.trans (hb10.mono HB9.out.size)⟩
theorem junits_no (v : Value) (l : List UInt8) (w : World) (hv : Bs w v l) (hl : l.length <= 1048576) (hr : junits l = none) :
  Calls Tryz.prog 69 #[v] w fun e w' => e = .returned (.tuple #[nilV, .bool false]) /\ Below w.heap.size w w' := by
 have hv2 := hv
 obtain ⟨a, cap, rfl, h1, h2, h3⟩ := hv2
 obtain ⟨n, hn⟩ : ∃ n, l.length = n := ⟨_, rfl⟩
 rw [hn] at hv h1 hl ⊢
 unfold junits at hr
 rw [hn] at hr
 by_cases hn2 : n < 2
 ·rw [if_neg (by omega)] at hr
  have n2 : (n : Int) < 2 := by omega
  clear hr h3 hv hn hn2
  go_enter Tryz.func69, Tryz.ntmps69
  go_wp2
  go_ret2
  exact ⟨rfl, Below.refl _ _⟩
 ·obtain ⟨b, off, rfl, hb, hcl⟩ := h3 (by omega)
  have hcg : ∀ j, j < l.length -> w.cell? ⟨b, off + j, none⟩ = some (.int .u8 ((l.getD j 0).toNat : Int)) := fun j hj => by rw [hcl j hj]; simp [hj]
  have hc0 := hcg 0 (by omega)
  rw [Nat.add_zero] at hc0
  have n2 : ¬ (n : Int) < 2 := by omega
  have n3 : 2 <= n := by omega
  obtain ⟨c, hc⟩ : ∃ c, l.getD 0 0 = c := ⟨_, rfl⟩
  rw [hc] at hc0 hr
  obtain ⟨C, hC⟩ : ∃ C : Int, (c.toNat : Int) = C := ⟨_, rfl⟩
  rw [hC] at hc0
  by_cases h34 : c = 34
  ·obtain ⟨T, hT⟩ : ∃ T, jtI l 1 = T := ⟨_, rfl⟩
   have J1 : Calls Tryz.prog 38 #[.slice (some ⟨b, off, none⟩) n cap, .int .i64 0] w fun e w' => e = .returned (.int .i64 T) /\ Below w.heap.size w w' := jtext_any _ l 0 T w hv (by omega) (by omega) hT
   have t1 := eq_n c C hC 34 34 rfl h34
   have t2 := eq_b c C hC 34 34 rfl h34
   rw [hT] at hr
   have HJ := LH J1
   by_cases hTn : T = n
   ·have t3 : (T != (n : Int)) = false := by simp [hTn]
    have t4 : (T == (n : Int)) = true := by simp [hTn]
    obtain ⟨⟨q, vok⟩, hval⟩ : ∃ x, M.validAll l = x := ⟨_, rfl⟩
    have V1 := fun W hb => refvalid_any (.slice (some ⟨b, off, none⟩) n cap) l q vok W hb (by omega) hval
    have Hvs := LH hv
    have HV := LH V1
    rw [hval] at hr
    cases vok with
    | false =>
     rw [if_neg (by simp)] at hr
     clear hr h3 hv hn hn2 hcl hcg hc hC h34 hT J1 V1 hval hTn
     go_enter Tryz.func69, Tryz.ntmps69
     go_wp2_with fail
     refine HJ.out.mono ?_
     rintro e w1 ⟨rfl, hb1⟩
     go_wp2_with fail
     refine (HV.out _ (Hvs.out.keep hb1)).mono ?_
     rintro e w' ⟨rfl, rfl⟩
     go_wp2
     go_ret2
     exact ⟨rfl, hb1⟩
    | true =>
     exfalso
     rw [if_pos ⟨n3, h34, hTn, rfl⟩] at hr
     exact absurd hr (by simp)
   ·have t3 : (T != (n : Int)) = true := by simpa using hTn
    have t4 : (T == (n : Int)) = false := by simpa using hTn
    rw [if_neg (by intro hh; exact hTn hh.2.2.1)] at hr
    clear hr h3 hv hn hn2 hcl hcg hc hC h34 hT J1
    go_enter Tryz.func69, Tryz.ntmps69
    go_wp2_with fail
    refine HJ.out.mono ?_
    rintro e w1 ⟨rfl, hb1⟩
    go_wp2
    go_ret2
    exact ⟨rfl, hb1⟩
  ·have t2 := ne_b c C hC 34 34 rfl h34
   have t1 := ne_n c C hC 34 34 rfl h34
   rw [if_neg (by intro hh; exact h34 hh.2.1)] at hr
   clear hr h3 hv hn hn2 hcl hcg hc hC h34
   go_enter Tryz.func69, Tryz.ntmps69
   go_wp2
   go_ret2
   exact ⟨rfl, Below.refl _ _⟩
theorem units_page (s : List UInt8) : unitsV s = junits s := by
 unfold unitsV junits
 by_cases h2 : 2 <= s.length
 ·by_cases h0 : s.getD 0 0 = 34
  ·match s, h2 with
   | c :: t, h2 =>
    simp only [List.getD_cons_zero] at h0
    subst h0
    have hv : (M.validAll (34 :: t)).2 = (M.validAll t).2 := by rw [M.valid_ascii (34 :: t) (by simp) (show (34 : UInt8).toNat < 128 by decide)]; rfl
    have hj : (jtI (34 :: t) 1 = ((34 :: t).length : Nat)) ↔ M.jtS t = some t.length := by
     unfold jtI
     simp only [List.drop_succ_cons, List.drop_zero, List.length_cons]
     cases M.jtS t with
     | none => simp; omega
     | some m => simp; omega
    by_cases hq : (34 :: t).getD ((34 :: t).length - 1) 0 = 34
    ·rw [if_pos ⟨h2, rfl, hq⟩]
     have ht : t = (((34 :: t).drop 1).take ((34 :: t).length - 2)) ++ [34] := by
      simp only [List.length_cons] at h2
      obtain ⟨n, hn⟩ : ∃ n, t.length = n + 1 := ⟨t.length - 1, by omega⟩
      simp only [List.drop_succ_cons, List.drop_zero, List.length_cons, hn]
      rw [show n + 1 + 1 - 2 = n by omega]
      have hq' : t.getD n 0 = 34 := by simpa [hn, List.getD] using hq
      conv => lhs; rw [<- List.take_append_drop n t]
      congr 1
      rw [List.drop_eq_getElem_cons (by omega), List.drop_eq_nil_of_le (by omega)]
      simp only [List.getD, List.getElem?_eq_getElem (show n < t.length by omega), Option.getD_some] at hq'
      rw [hq']
     obtain ⟨u, hu⟩ : ∃ u, (((34 :: t).drop 1).take ((34 :: t).length - 2)) = u := ⟨_, rfl⟩
     rw [hu] at ht ⊢
     rw [M.uF_iff _ u (by rw [<- hu]; simp; omega), <- ht]
     have hg : (34 :: t).getD 0 0 = 34 := rfl
     by_cases hg1 : M.jtS t = some t.length /\ (M.validAll t).2 = true
     ·rw [if_pos hg1, if_pos ⟨h2, rfl, hj.2 hg1.1, by rw [hv]; exact hg1.2⟩]; rfl
     ·rw [if_neg hg1, if_neg (fun h => hg1 ⟨hj.1 h.2.2.1, by rw [<- hv]; exact h.2.2.2⟩)]
    ·rw [if_neg (fun h => hq h.2.2), if_neg]
     intro h
     apply hq
     have := M.jtS_last t _ (hj.1 h.2.2.1)
     simp only [List.length_cons] at h2
     obtain ⟨n, hn⟩ : ∃ n, t.length = n + 1 := ⟨t.length - 1, by omega⟩
     simp only [List.length_cons, hn, Nat.add_sub_cancel] at this ⊢
     exact this
  ·rw [if_neg (fun h => h0 h.2.1), if_neg (fun h => h0 h.2.1)]
 ·rw [if_neg (fun h => h2 h.1), if_neg (fun h => h2 h.1)]
end Go.Proofs.YtbfnlgmhfhaglaaGreatDoor
