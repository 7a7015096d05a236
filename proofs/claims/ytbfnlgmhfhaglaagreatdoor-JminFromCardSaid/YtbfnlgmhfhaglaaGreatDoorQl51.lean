/- Texts of ours in one: ZMf. -/
import Derived.Test.YtbfnlgmhfhaglaaGreatDoorQl50
import Derived.Test.YtbfnlgmhfhaglaaGreatDoorQl31
import Derived.Deep.QuietTactic
import Derived.BigQuiet
/- The walk of JminFrom. -/
namespace Go.Proofs.YtbfnlgmhfhaglaaGreatDoor
open Go.RowKit
set_option linter.unusedVariables false
set_option linter.unusedSimpArgs false

theorem toks_getJ {w : World} {v : Value} {ts : M.Toks} (h : Ts w v ts) {n : Nat} (hn : ts.length = n) : ∃ a cap, v = .slice a n cap ∧ n ≤ cap ∧ cap ≤ maxLen ∧ ∀ j (hj : j < ts.length), ∃ b off, a = some ⟨b, off, none⟩ ∧ b < w.heap.size ∧
    w.cell? ⟨b, off + j * 3, none⟩ = some (.int .i64 ((ts[j]).1 : Int)) ∧ w.cell? ⟨b, off + j * 3 + 1, none⟩ = some (.int .i64 ((ts[j]).2.1 : Int)) := by
  obtain ⟨a, cap, rfl, h1, h2, h3⟩ := h
  rw [tvs_len] at h1 ⊢
  subst hn
  refine ⟨a, cap, rfl, h1, h2, fun j hj => ?_⟩
  obtain ⟨b, off, rfl, hb, hc⟩ := h3 (by rw [tvs_len]; omega)
  have hk := hc j (by rw [tvs_len]; exact hj)
  refine ⟨b, off, rfl, hb, ?_, ?_⟩
  · have := hk 0 (.int .i64 ((ts[j]).1 : Int)) (by simp [tvs, tv]); rwa [Nat.add_zero] at this
  · have := hk 1 (.int .i64 ((ts[j]).2.1 : Int)) (by simp [tvs, tv]); rwa [← Nat.add_assoc] at this
set_option maxRecDepth 100000 in
set_option maxHeartbeats 8000000 in
theorem jmfrom_walk (a0 : Option Addr) (len0 cap0 : Nat) (l : List UInt8) (w : World) (hl : l.length = len0) (b0 : Bs w (.slice a0 len0 cap0) l) (n0 : ∀ n c, Value.slice a0 len0 cap0 = .slice none n c → c = 0) (hT : TabX w) :
    Calls Tryz.prog 9 #[.slice a0 len0 cap0] w fun e w' => e = .returned (.bool true) ∧ Below w.heap.size w w' := by
  have AL := Lib.hid (alive9_any w hT.tab)
  have HT := Lib.hid hT
  have B0 := Lib.hid b0
  have RP := Lib.hid (fun (W : World) (hW : Below w.heap.size w W) => refjparse_any (.slice a0 len0 cap0) l 60 W (HT.out.keep hW) (B0.out.keep hW))
  obtain ⟨R, hR⟩ : ∃ R, parseV l 60 = R := ⟨_, rfl⟩
  rw [hR] at RP
  have HL := Lib.hid hl
  clear hT b0 n0 hl
  cases R with
  | error x =>
    have hx := parV_err hR
    obtain ⟨xe, xa⟩ := x
    simp only at hx
    have t6 : (xe != 0) = true := by simpa using hx
    unfold ParQ at RP
    dsimp only at RP
    clear hR hx B0
    go_enter Tryz.func9, Tryz.ntmps9
    go_wp2_with fail
    refine AL.out.mono ?_
    rintro e w1 ⟨rfl, hb1⟩
    go_wp2_with fail
    refine (RP.out w1 hb1).mono ?_
    rintro e w2 ⟨rfl, hb2⟩
    obtain ⟨p2, hp2⟩ : ∃ x, w2.heap.size + 1 = x := ⟨_, rfl⟩
    obtain ⟨k1, k2, k3, k4, bb⟩ := two_laid w2 zvl.toArray (.int .i64 xe) (.int .i64 xa) p2 hp2
    have B3 := (hb1.trans (hb2.mono hb1.size)).trans (bb.mono (hb1.trans (hb2.mono hb1.size)).size)
    obtain ⟨W4, hW4⟩ : ∃ x, (((w2.alloc (.cells zv 27)).alloc (.cells #[.int .i64 0, .int .i64 0] 34)).setRow w2.heap.size zvl.toArray).setRow p2 #[.int .i64 xe, .int .i64 xa] = x := ⟨_, rfl⟩
    rw [hW4] at k3 k4 B3
    have HW4 := Lib.hid (show (((w2.alloc (.cells #[.int .i64 0, .slice none 0 0, .bool false, .string ⟨#[]⟩, .string ⟨#[]⟩, .slice none 0 0, .int .i64 0, .int .i64 0, .slice none 0 0] 27)).alloc (.cells #[.int .i64 0, .int .i64 0] 34)).setRow w2.heap.size (vv ⟨0, [], false, [], [], 0, 0, []⟩ nilV nilV nilV)).setRow p2 #[.int .i64 xe, .int .i64 xa] = W4 from hW4)
    clear hW4 bb hb1 hb2
    go_upto_region 3 with (first | (refine wpl_stV rfl _ _ rfl w2.heap.size zv ⟨0, [], false, [], [], 0, 0, []⟩ nilV nilV nilV rfl rfl k1 rfl rfl rfl rfl ?_) | (refine wpl_stK infoF1 rfl _ _ rfl p2 _ #[.int .i64 xe, .int .i64 xa] rfl rfl k2 rfl rfl (by simp [Value.oneCell']) ?_))
    rw [HW4.out]
    have e0 : W4.cell? ⟨p2, 0, none⟩ = some (.int .i64 xe) := k4.cell 0
    by_cases h6 : 600 < len0
    · have t5 : decide ((600 : Int) < (len0 : Int)) = true := by simp; omega
      go_wp2
      go_ret
      exact ⟨rfl, B3⟩
    · have t5 : decide ((600 : Int) < (len0 : Int)) = false := by simp; omega
      go_wp2
      go_ret
      exact ⟨rfl, B3⟩
  | ok q =>
    obtain ⟨h, kids⟩ := q
    unfold ParQ at RP
    dsimp only at RP
    by_cases h6 : 600 < len0
    · have t5 : decide ((600 : Int) < (len0 : Int)) = true := by simp; omega
      clear hR B0
      go_enter Tryz.func9, Tryz.ntmps9
      go_wp2_with fail
      refine AL.out.mono ?_
      rintro e w1 ⟨rfl, hb1⟩
      go_wp2_with fail
      refine (RP.out w1 hb1).mono ?_
      rintro e w2 ⟨tv, v, mv, rfl, hd, hv, hb2⟩
      obtain ⟨p2, hp2⟩ : ∃ x, w2.heap.size + 1 = x := ⟨_, rfl⟩
      obtain ⟨k1, k2, k3, k4, bb⟩ := two_laid w2 (vv h tv v mv) (.int .i64 0) (.int .i64 0) p2 hp2
      have B3 := Lib.hid ((hb1.trans (hb2.mono hb1.size)).trans (bb.mono (hb1.trans (hb2.mono hb1.size)).size))
      have t1 := hd.t.one
      have t2 := hv.one
      have t3 := hd.m.one
      have hdS := (hd.mono (Q := fun b => b < w2.heap.size) (fun b hb => hb.2) : HdS w2 h tv mv).below bb
      have hvS := (hv.mono (Q := fun b => b < w2.heap.size) (fun b hb => hb.2) : VoS w2 v kids).below bb
      obtain ⟨W4, hW4⟩ : ∃ x, (((w2.alloc (.cells zv 27)).alloc (.cells #[.int .i64 0, .int .i64 0] 34)).setRow w2.heap.size (vv h tv v mv)).setRow p2 #[.int .i64 0, .int .i64 0] = x := ⟨_, rfl⟩
      rw [hW4] at k3 k4 B3 hdS hvS
      have HW4 := Lib.hid (show (((w2.alloc (.cells #[.int .i64 0, .slice none 0 0, .bool false, .string ⟨#[]⟩, .string ⟨#[]⟩, .slice none 0 0, .int .i64 0, .int .i64 0, .slice none 0 0] 27)).alloc (.cells #[.int .i64 0, .int .i64 0] 34)).setRow w2.heap.size (vv h tv v mv)).setRow p2 #[.int .i64 0, .int .i64 0] = W4 from hW4)
      have hdS := Lib.hid hdS
      have hvS := Lib.hid hvS
      clear hW4 bb hb1 hb2 hd hv
      go_upto_region 3 with (first | (refine wpl_stV rfl _ _ rfl w2.heap.size zv h tv v mv rfl rfl k1 rfl t1 t2 t3 ?_) | (refine wpl_stK infoF1 rfl _ _ rfl p2 _ #[.int .i64 0, .int .i64 0] rfl rfl k2 rfl rfl (by simp [Value.oneCell']) ?_))
      rw [HW4.out]
      have e0 : W4.cell? ⟨p2, 0, none⟩ = some (.int .i64 0) := k4.cell 0
      have VB4 : VB W4 w2.heap.size h tv v mv := k3
      go_wp2
      go_ret
      exact ⟨rfl, B3.out⟩
    · have t5 : decide ((600 : Int) < (len0 : Int)) = false := by simp; omega
      obtain ⟨ts, hs, hp, -⟩ := parV_ok hR
      have hl6 : l.length ≤ 600 := by have := HL.out; omega
      have hz := par_sz hl6 hs hp
      have JP := Lib.hid (fun (W : World) (tv v mv : Value) (hW : Tabs W) (a : HdS W h tv mv) (b : VoS W v kids) => jpieces_any h kids tv v mv W hW (by omega) hz.2 a b)
      rw [par_pcs hp] at JP
      have LX := Lib.hid (fun (W : World) (hW : Below w.heap.size w W) => refjlex_all (.slice a0 len0 cap0) l (ts, 0, 0) W (B0.out.keep hW) hs)
      unfold SpP fv at LX
      simp only at LX
      have LK := lex_kinds l ts (by omega) hs
      have GS : Hid (∀ i (hi : i < ts.length) (W : World) (v : Value), Bs W v (pieceB l ts[i]) → Calls Tryz.prog 21 #[v] W fun e w' => ∃ v', e = .returned (.tuple #[v', .agg #[.int .i64 0, .int .i64 0]]) ∧ OwnT W.heap.size w' v' [((ts[i]).1, 0, (pieceB l ts[i]).length)] ∧ Below W.heap.size W w') := Lib.hid (fun i hi W v hv => by
        obtain ⟨⟨k1, k2⟩, k3, k4, k5⟩ := LK _ (List.getElem_mem hi)
        have pl := pieceB_len l ts[i] k3 k4 k5 hl6
        have := refjlex_all v (pieceB l ts[i]) _ W hv (good_split _ _ (piece_good l ts[i] k1 k2) (by omega))
        exact this)
      have PL : Hid (∀ i (hi : i < ts.length), (pieceB l ts[i]).length ≤ 600) := Lib.hid (fun i hi => by
        obtain ⟨⟨k1, k2⟩, k3, k4, k5⟩ := LK _ (List.getElem_mem hi)
        have := pieceB_len l ts[i] k3 k4 k5 hl6
        omega)
      have hcv := fun (W : World) (s : ByteArray) => bw_conv W s
      have HCV := Lib.hid hcv
      clear hR hs hp hz LK hl6 hcv
      go_enter Tryz.func9, Tryz.ntmps9
      go_wp2_with fail
      refine AL.out.mono ?_
      rintro e w1 ⟨rfl, hb1⟩
      go_wp2_with fail
      refine (RP.out w1 hb1).mono ?_
      rintro e w2 ⟨tv, v, mv, rfl, hd, hv, hb2⟩
      obtain ⟨p2, hp2⟩ : ∃ x, w2.heap.size + 1 = x := ⟨_, rfl⟩
      obtain ⟨k1, k2, k3, k4, bb⟩ := two_laid w2 (vv h tv v mv) (.int .i64 0) (.int .i64 0) p2 hp2
      have B3 := Lib.hid ((hb1.trans (hb2.mono hb1.size)).trans (bb.mono (hb1.trans (hb2.mono hb1.size)).size))
      have t1 := hd.t.one
      have t2 := hv.one
      have t3 := hd.m.one
      have hdS := (hd.mono (Q := fun b => b < w2.heap.size) (fun b hb => hb.2) : HdS w2 h tv mv).below bb
      have hvS := (hv.mono (Q := fun b => b < w2.heap.size) (fun b hb => hb.2) : VoS w2 v kids).below bb
      obtain ⟨W4, hW4⟩ : ∃ x, (((w2.alloc (.cells zv 27)).alloc (.cells #[.int .i64 0, .int .i64 0] 34)).setRow w2.heap.size (vv h tv v mv)).setRow p2 #[.int .i64 0, .int .i64 0] = x := ⟨_, rfl⟩
      rw [hW4] at k3 k4 B3 hdS hvS
      have HW4 := Lib.hid (show (((w2.alloc (.cells #[.int .i64 0, .slice none 0 0, .bool false, .string ⟨#[]⟩, .string ⟨#[]⟩, .slice none 0 0, .int .i64 0, .int .i64 0, .slice none 0 0] 27)).alloc (.cells #[.int .i64 0, .int .i64 0] 34)).setRow w2.heap.size (vv h tv v mv)).setRow p2 #[.int .i64 0, .int .i64 0] = W4 from hW4)
      have hdS := Lib.hid hdS
      have hvS := Lib.hid hvS
      clear hW4 bb hb1 hb2 hd hv
      go_upto_region 3 with (first | (refine wpl_stV rfl _ _ rfl w2.heap.size zv h tv v mv rfl rfl k1 rfl t1 t2 t3 ?_) | (refine wpl_stK infoF1 rfl _ _ rfl p2 _ #[.int .i64 0, .int .i64 0] rfl rfl k2 rfl rfl (by simp [Value.oneCell']) ?_))
      rw [HW4.out]
      have e0 : W4.cell? ⟨p2, 0, none⟩ = some (.int .i64 0) := k4.cell 0
      have VB4 : VB W4 w2.heap.size h tv v mv := k3
      have VB4 := Lib.hid VB4
      have LX4 := Lib.hid (LX.out W4 B3.out)
      go_wp2_with fail
      refine LX4.out.mono ?_
      rintro e w5 ⟨tl, rfl, ot, hb5⟩
      have al := (Below.refl w5.heap.size w5).alloc (Nat.le_refl _) (.cells #[.int .i64 0, .int .i64 0] 34)
      have BB := hb5.trans (al.mono hb5.size)
      have ts6 : Ts _ tl ts := Vs.keep (OwnV.vs ot) al
      have vb6 := VB4.out.keep BB
      have hd6 := hdS.out.below BB
      have hv6 := hvS.out.below BB
      have B6 := B3.out.trans (BB.mono B3.out.size)
      obtain ⟨W6, hW6⟩ : ∃ x, w5.alloc (.cells #[.int .i64 0, .int .i64 0] 34) = x := ⟨_, rfl⟩
      rw [hW6] at ts6 vb6 hd6 hv6 B6
      have HW6 := Lib.hid hW6
      have TS6 := Lib.hid ts6
      have B6 := Lib.hid B6
      have JP6 := Lib.hid (JP.out W6 tv v mv (HT.out.keep B6.out).tab hd6 hv6)
      have VB6 := Lib.hid vb6
      clear hW6 ts6 al BB ot hb5 vb6 hd6 hv6
      obtain ⟨ta, tc, etl, -⟩ := toks_getJ TS6.out rfl
      subst etl
      go_upto_region 6 with fail
      rw [HW6.out]
      go_wp2_with (first | (refine wpl_ldV rfl _ rfl w2.heap.size 0 h tv v mv rfl (VB.range VB6.out) ?_) | fail)
      refine JP6.out.mono ?_
      rintro e w7 ⟨u, rfl, hu, hb7⟩
      have B7 := Lib.hid (B6.out.trans (hb7.mono B6.out.size))
      obtain ⟨n, hn⟩ : ∃ n, ts.length = n := ⟨_, rfl⟩
      obtain ⟨pa, pc, rfl, p1, p2', p3⟩ := pcs_getJ (OwnV.vs hu) (show (ts.map (pcT l)).length = n by rw [List.length_map]; exact hn)
      obtain ⟨ta', tc', eq7, t1', t2', t3'⟩ := toks_getJ (show Ts w7 _ ts from Vs.keep TS6.out hb7) hn
      rw [hn] at eq7
      simp only [Value.slice.injEq] at eq7
      obtain ⟨rfl, -, rfl⟩ := eq7
      have P3 := Lib.hid p3
      have T3 := Lib.hid t3'
      have HN := Lib.hid hn
      rw [hn]
      unfold maxLen at p2' t2'
      have t8 : ((n : Int) != n) = false := by simp
      clear p3 t3' hn hu hb7 JP6 VB6
      go_wp2
      go_loopw [9] (fun iv wr => ∃ i : Nat, iv = .int .i64 (i : Int) ∧ i ≤ n ∧ Below w7.heap.size w7 wr) (fun iv _ => n - (intOf iv).toNat)
      case atStart => exact ⟨0, rfl, by omega, Below.refl _ _⟩
      case round =>
        obtain ⟨i, rfl, hi, hb⟩ := hrel
        have HB := Lib.hid hb
        clear hb
        by_cases hlt : i < n
        · have hil : i < ts.length := by rw [HN.out]; exact hlt
          obtain ⟨b, off, rfl, hbk, c0, c1⟩ := P3.out i (by rw [List.length_map]; exact hil)
          obtain ⟨tb, toff, rfl, htb, d0, d1⟩ := T3.out i hil
          have G := GS.out i hil
          have pl := PL.out i hil
          rw [List.getElem_map] at c0 c1
          obtain ⟨t, ht⟩ : ∃ t, ts[i] = t := ⟨_, rfl⟩
          rw [ht] at c0 c1 d0 d1 G pl
          have c0 : w7.cell? ⟨b, off + i * 2, none⟩ = some (.string (bytes (pieceB l t))) := c0
          have c1 : w7.cell? ⟨b, off + i * 2 + 1, none⟩ = some (.int .i64 (t.2.1 : Int)) := c1
          obtain ⟨T, hT⟩ : ∃ T, pieceB l t = T := ⟨_, rfl⟩
          rw [hT] at c0 G pl
          obtain ⟨K, hK⟩ : ∃ K : Int, (t.1 : Int) = K := ⟨_, rfl⟩
          obtain ⟨F, hF⟩ : ∃ F : Int, (t.2.1 : Int) = F := ⟨_, rfl⟩
          rw [hF] at c1 d1
          rw [hK] at d0
          obtain ⟨S, hS⟩ : ∃ S, bytes T = S := ⟨_, rfl⟩
          rw [hS] at c0
          have q0 := (HB.out.cell (p := ⟨b, off + i * 2, none⟩) hbk).trans c0
          have cv := HCV.out wr S
          have hss : S.size ≤ 4294967296 := by rw [← hS, bytes_size]; omega
          have hsd : S.data.toList = T := by rw [← hS]; simp [bytes]
          have hbs := bw_bs wr S hss
          rw [hsd] at hbs
          have bwb := bw_below wr S
          obtain ⟨cc, hcc⟩ : ∃ x, grownCap wr S.size 0 5 = x := ⟨_, rfl⟩
          rw [hcc] at cv hbs
          obtain ⟨WX, hWX⟩ : ∃ x, Lib.bytesWorld wr 5 S = x := ⟨_, rfl⟩
          rw [hWX] at cv hbs bwb
          have G2 := Lib.hid (G WX _ hbs)
          have i0 : (0 : Int) ≤ i := by omega
          have i1 : (i : Int) < n := by omega
          have HC1 := Lib.hid c1
          have HD0 := Lib.hid d0
          have HD1 := Lib.hid d1
          have HBX := Lib.hid (HB.out.trans (bwb.mono HB.out.size))
          have HKK := Lib.hid hK
          clear c0 c1 d0 d1 G pl ht hT hF hS hbs bwb hcc hWX hil
          go_wp2_with fail
          refine G2.out.mono ?_
          rintro e w8 ⟨tm, rfl, om, hb8⟩
          have al := (Below.refl w8.heap.size w8).alloc (Nat.le_refl _) (.cells #[.int .i64 0, .int .i64 0] 34)
          have tm8 := toks_getJ (show Ts _ tm _ from Vs.keep (OwnV.vs om) al) (n := 1) rfl
          have B8 := (HBX.out.trans (hb8.mono HBX.out.size)).trans (al.mono (HBX.out.trans (hb8.mono HBX.out.size)).size)
          obtain ⟨W9, hW9⟩ : ∃ x, w8.alloc (.cells #[.int .i64 0, .int .i64 0] 34) = x := ⟨_, rfl⟩
          rw [hW9] at tm8 B8
          have HW9 := Lib.hid hW9
          obtain ⟨ma, mc, rfl, m1, m2, m3⟩ := tm8
          obtain ⟨mb, moff, rfl, hmb, e0, e1⟩ := m3 0 (by simp)
          have e0 : W9.cell? ⟨mb, moff, none⟩ = some (.int .i64 K) := by rw [← HKK.out]; simpa using e0
          have q1 := (B8.cell (p := ⟨b, off + i * 2 + 1, none⟩) hbk).trans HC1.out
          have q2 := (B8.cell (p := ⟨tb, toff + i * 3, none⟩) htb).trans HD0.out
          have q3 := (B8.cell (p := ⟨tb, toff + i * 3 + 1, none⟩) htb).trans HD1.out
          have t5 : (F != F) = false := by simp
          have t6 : (K != K) = false := by simp
          have HB8 := Lib.hid B8
          unfold maxLen at m2
          clear hW9 al om hb8 m3 e1 B8 q0 cv
          go_upto_region 13 with fail
          rw [HW9.out]
          go_quiet (fail)
          go_wp2
          go_roundw
          case rel => exact ⟨i + 1, by go_num, by omega, HB8.out.trans (show Below w7.heap.size W9 (W9.drewN nq) from ⟨rfl, rfl, rfl, Nat.le_refl _, fun _ _ => rfl⟩)⟩
          case measure => simp [intOf]; omega
        · obtain rfl : i = n := by omega
          have t9 : decide ((i : Int) < i) = false := by simp
          clear hlt
          go_wp2
          go_ret
          exact ⟨rfl, B7.out.trans (HB.out.mono B7.out.size)⟩
end Go.Proofs.YtbfnlgmhfhaglaaGreatDoor
