import Derived.Test.YtbfnlgmhfhaglaaGreatDoorQb41
import Derived.Test.YtbfnlgmhfhaglaaGreatDoorQb33
import Derived.Deep.QuietTactic
import Derived.BigQuiet
import Derived.Test.YtbfnlgmhfhaglaaGreatDoorQb42
import Derived.Test.YtbfnlgmhfhaglaaGreatDoorQb44
set_option maxHeartbeats 16000000
set_option maxRecDepth 100000
namespace Go.Proofs.YtbfnlgmhfhaglaaGreatDoor
open Go.RowKit
set_option linter.unusedVariables false
set_option linter.unusedSimpArgs false
theorem toks_ends {w : World} {v : Value} {ts : M.Toks} (h : Ts w v ts) {n : Nat} (hn : ts.length = n) : ∃ a cap, v = .slice a n cap /\ n <= cap /\ cap <= maxLen /\ ∀ j (hj : j < ts.length), ∃ b off, a = some ⟨b, off, none⟩ /\ b < w.heap.size /\
  w.cell? ⟨b, off + j * 3 + 1, none⟩ = some (.int .i64 ((ts[j]).2.1 : Int)) /\ w.cell? ⟨b, off + j * 3 + 2, none⟩ = some (.int .i64 ((ts[j]).2.2 : Int)) := by
 obtain ⟨a, cap, rfl, h1, h2, h3⟩ := h
 rw [tvs_len] at h1 ⊢
 subst hn
 refine ⟨a, cap, rfl, h1, h2, fun j hj => ?_⟩
 obtain ⟨b, off, rfl, hb, hc⟩ := h3 (by rw [tvs_len]; omega)
 have hk := hc j (by rw [tvs_len]; exact hj)
 refine ⟨b, off, rfl, hb, ?_, ?_⟩
 ·have := hk 1 (.int .i64 ((ts[j]).2.1 : Int)) (by simp [tvs, tv]); rwa [<- Nat.add_assoc] at this
 ·have := hk 2 (.int .i64 ((ts[j]).2.2 : Int)) (by simp [tvs, tv]); rwa [<- Nat.add_assoc] at this
def sumT (ts : M.Toks) (i : Nat) : Int := ((ts.take i).map fun t => ((t.2.2 : Int) - (t.2.1 : Int))).sum
theorem sumT_step (ts : M.Toks) (i : Nat) (h : i < ts.length) : sumT ts (i + 1) = sumT ts i + ((ts[i]).2.2 : Int) - ((ts[i]).2.1 : Int) := by
 unfold sumT
 rw [List.take_succ_eq_append_getElem h, List.map_append, List.sum_append]
 simp
 omega
theorem sumT_all (l : List UInt8) (ts : M.Toks) (hk : ∀ t ∈ ts, t.2.1 < t.2.2 /\ t.2.2 <= l.length) : sumT ts ts.length = (((ts.map fun t => t.2.2 - t.2.1).sum : Nat) : Int) := by
 unfold sumT
 rw [List.take_length]
 induction ts with
 | nil => rfl
 | cons t r ih =>
  have h := hk t (by simp)
  have e := ih (fun x hx => hk x (by simp [hx]))
  rw [List.map_cons, List.sum_cons, List.map_cons, List.sum_cons, e]
  omega
theorem sumT_le (l : List UInt8) (ts : M.Toks) (hk : ∀ t ∈ ts, t.2.1 < t.2.2 /\ t.2.2 <= l.length) : ∀ i, i <= ts.length -> (i : Int) <= sumT ts i /\ sumT ts i <= i * l.length := by
 intro i
 induction i with
 | zero => intro _; simp [sumT]
 | succ i ih =>
  intro hi
  obtain ⟨a, b⟩ := ih (by omega)
  have h := hk _ (List.getElem_mem (show i < ts.length by omega))
  rw [sumT_step ts i (by omega)]
  refine ⟨by omega, ?_⟩
  have : ((i + 1 : Nat) : Int) * (l.length : Int) = i * l.length + l.length := by rw [Int.natCast_add, Int.add_mul]; simp
  rw [this]; omega
theorem jmback_walk (ha : Vh) (ka : Vo) (ta va ma : Value) (w : World) (a1 : HdS w ha ta ma) (a2 : VoS w va ka) (u0 : 1 + ha.tx.length + ha.ms.length + VoC ka <= 1048576) (hT : TabX w) :
  Calls Tryz.prog 7 #[.agg (vv ha ta va ma)] w fun e w' => e = .returned (.bool true) /\ Below w.heap.size w w' := by
 have HT := LH hT
 have AL := LH (fun (W : World) (hW : Below w.heap.size w W) => alive9_any W (HT.out.keep hW).tab)
 have A1 := LH (fun (W : World) (hW : Below w.heap.size w W) => a1.below hW)
 have A2 := LH (fun (W : World) (hW : Below w.heap.size w W) => a2.below hW)
 have FA := LH (fun (W : World) (hW : Below w.heap.size w W) => fewv_any ha ka ta va ma W (by omega) (A1.out W hW) (A2.out W hW))
 have s1 := a1.t.one
 have s2 := a2.one
 have s3 := a1.m.one
 have c1 := (Below.refl w.heap.size w).alloc (Nat.le_refl _) (.cells (vv ha ta va ma) 27)
 have x1 := VB.new w ha ta va ma
 obtain ⟨W1, hW1⟩ : ∃ x, w.alloc (.cells (vv ha ta va ma) 27) = x := ⟨_, rfl⟩
 rw [hW1] at c1 x1
 have C1 := LH c1
 have VA := LH x1
 have HW1 := LH (show w.alloc (.cells #[.int .i64 ha.k, ta, .bool ha.ng, .string (bytes ha.dg), .string (bytes ha.ex), va, .int .i64 ha.fr, .int .i64 ha.tt, ma] 27) = W1 from hW1)
 have EA := LH (show vv ha ta va ma = #[.int .i64 ha.k, ta, .bool ha.ng, .string (bytes ha.dg), .string (bytes ha.ex), va, .int .i64 ha.fr, .int .i64 ha.tt, ma] from rfl)
 rw [EA.out]
 clear hW1 c1 x1 a1 a2 hT
 go_enter Tryz.func7, Tryz.ntmps7
 go_upto_region 1 with fail
 rw [HW1.out]
 clear HW1 EA
 go_wp2_with fail
 refine (AL.out W1 C1.out).mono ?_
 rintro e w3 ⟨rfl, hb3⟩
 have C3 := LH (C1.out.trans (hb3.mono C1.out.size))
 have VA3 := LH (VA.out.keep hb3)
 have F1 := LH (FA.out w3 C3.out)
 clear hb3 VA AL FA C1
 cases q1 : decide (sizeH ha ka 0 <= 300) with
 | false =>
  rw [q1] at F1
  go_wp2_with (refine wpl_ldVg rfl _ rfl w.heap.size 0 ha ta va ma rfl (VB.range VA3.out) ?_)
  refine F1.out.mono ?_
  rintro e w4 ⟨rfl, hb4⟩
  go_wp2
  go_ret
  exact ⟨rfl, C3.out.trans (hb4.mono C3.out.size)⟩
 | true =>
 rw [q1] at F1
 go_wp2_with (refine wpl_ldVg rfl _ rfl w.heap.size 0 ha ta va ma rfl (VB.range VA3.out) ?_)
 refine F1.out.mono ?_
 rintro e w4 ⟨rfl, hb4⟩
 have C4 := LH (C3.out.trans (hb4.mono C3.out.size))
 have VA4 := LH (VA3.out.keep hb4)
 obtain ⟨f1, f2⟩ := fewH (of_decide_eq_true q1)
 have f1' : 1 + ha.tx.length + ha.ms.length + VoC ka <= 300 := by simpa [VoC] using f1
 have RA := LH (rrtop_any ha ka ta va ma w4 (by omega) (VoL.mono (by decide) _ f2) (A1.out w4 C4.out) (A2.out w4 C4.out))
 clear hb4 VA3 F1 C3
 cases q2 : rightH ha ka 60 with
 | false =>
  rw [q2] at RA
  go_wp2_with (refine wpl_ldVg rfl _ rfl w.heap.size 0 ha ta va ma rfl (VB.range VA4.out) ?_)
  refine RA.out.mono ?_
  rintro e w5 ⟨rfl, hb5⟩
  go_wp2
  go_ret
  exact ⟨rfl, C4.out.trans (hb5.mono C4.out.size)⟩
 | true =>
 rw [q2] at RA
 go_wp2_with (refine wpl_ldVg rfl _ rfl w.heap.size 0 ha ta va ma rfl (VB.range VA4.out) ?_)
 refine RA.out.mono ?_
 rintro e w5 ⟨rfl, hb5⟩
 have C5 := LH (C4.out.trans (hb5.mono C4.out.size))
 have VA5 := LH (VA4.out.keep hb5)
 have JP := LH (jpieces_any ha ka ta va ma w5 (HT.out.keep C5.out).tab (by omega) (VoL.mono (by decide) _ f2) (A1.out w5 C5.out) (A2.out w5 C5.out))
 have hj : jpc ha ka = pcsV ha ka := by unfold jpc; rw [if_pos q2]
 rw [hj] at JP
 have hsh := back_short ha ka f2
 have BW := back_walk ha ka q2
 obtain ⟨P, hP⟩ : ∃ P, pcsV ha ka = P := ⟨_, rfl⟩
 rw [hP] at JP hsh BW
 clear hb5 VA4 RA C4 hj hP
 go_wp2_with (first | (refine wpl_ldV rfl _ rfl w.heap.size 0 ha ta va ma rfl (VB.range VA5.out) ?_) | fail)
 refine JP.out.mono ?_
 rintro e w6 ⟨u, rfl, hu, hb6⟩
 have C6 := LH (C5.out.trans (hb6.mono C5.out.size))
 have VA6 := LH (VA5.out.keep hb6)
 have JO := LH (joined_any P u w6 (OwnV.vs hu) (by omega))
 clear hu hb6 JP VA5 C5
 go_wp2_with fail
 refine JO.out.mono ?_
 rintro e w7 ⟨rfl, hb7⟩
 have C7 := LH (C6.out.trans (hb7.mono C6.out.size))
 have VA7 := LH (VA6.out.keep hb7)
 obtain ⟨T, hT⟩ : ∃ T, jtx P = T := ⟨_, rfl⟩
 rw [hT] at hsh BW ⊢
 obtain ⟨S, hS⟩ : ∃ S, bytes T = S := ⟨_, rfl⟩
 have hsz := bytes_size T
 rw [hS] at hsz ⊢
 have cv := bw_conv w7 S
 have hbs := bw_bs w7 S (by omega)
 have hTl : S.data.toList = T := by rw [<- hS]; simp [bytes]
 rw [hTl] at hbs
 have bwb := bw_below w7 S
 obtain ⟨cc, hcc⟩ : ∃ x, grownCap w7 S.size 0 5 = x := ⟨_, rfl⟩
 rw [hcc] at cv hbs
 obtain ⟨N, hN⟩ : ∃ x, S.size = x := ⟨_, rfl⟩
 rw [hN] at cv hbs hsz
 obtain ⟨W8, hW8⟩ : ∃ x, Lib.bytesWorld w7 5 S = x := ⟨_, rfl⟩
 rw [hW8] at cv hbs bwb
 obtain ⟨p8, hp8⟩ : ∃ x, w7.heap.size = x := ⟨_, rfl⟩
 rw [hp8] at cv hbs
 have C8 := LH (C7.out.trans (bwb.mono C7.out.size))
 have VA8 := LH (VA7.out.keep bwb)
 have HBS := LH hbs
 have HTN := LH (hsz.symm)
 clear hsz hb7 JO VA6 C6 hS hTl hbs bwb hcc hN hW8 hp8 VA7 C7 hT
 by_cases h20 : 20000 < N
 ·have t5 : decide ((20000 : Int) < (N : Int)) = true := by simp; omega
  go_wp2
  go_ret
  exact ⟨rfl, C8.out⟩
 have t5 : decide ((20000 : Int) < (N : Int)) = false := by simp; omega
 obtain ⟨ts, h, kids, b1, b2, b3, b4, b5⟩ := BW (by rw [HTN.out]; omega)
 have LK := lex_kinds T ts (by rw [HTN.out]; omega) b1
 have LX := LH (fun (W : World) (hW : Below W8.heap.size W8 W) => refjlex_all (.slice (some ⟨p8, 0, none⟩) N cc) T (ts, 0, 0) W (HBS.out.keep hW) b1)
 unfold SpP fv at LX
 simp only at LX
 have RP := LH (refjparse_any (.slice (some ⟨p8, 0, none⟩) N cc) T 60 W8 (HT.out.keep C8.out) HBS.out)
 rw [b3] at RP
 unfold ParQ at RP
 dsimp only at RP
 have SV := LH (fun (W : World) (tv v mv : Value) (a : HdS W h tv mv) (b : VoS W v kids) (hW : Below w.heap.size w W) => b4 ▸ sv_any h kids ha ka W tv v mv ta va ma (by omega) (by omega) a b (A1.out W hW) (A2.out W hW))
 have hk : ∀ t ∈ ts, t.2.1 < t.2.2 /\ t.2.2 <= T.length := fun t ht => ⟨(LK t ht).2.2.1, (LK t ht).2.2.2⟩
 have SA := sumT_all T ts hk
 rw [b2, HTN.out] at SA
 have SA := LH SA
 have b5 := LH b5
 have SL := LH (sumT_le T ts hk)
 have SK := LH hk
 clear b1 b2 b3 b4 LK BW hsh hk u0 f1 f1' f2 q1 q2 s1 s2 s3
 go_wp2_with fail
 refine RP.out.mono ?_
 rintro e w2 ⟨tv, v, mv, rfl, hd, hv, hb2⟩
 obtain ⟨p2, hp2⟩ : ∃ x, w2.heap.size + 1 = x := ⟨_, rfl⟩
 obtain ⟨k1, k2, k3, k4, bb⟩ := two_laid w2 (vv h tv v mv) (.int .i64 0) (.int .i64 0) p2 hp2
 have B3 := LH ((C8.out.trans (hb2.mono C8.out.size)).trans (bb.mono (C8.out.trans (hb2.mono C8.out.size)).size))
 have t1 := hd.t.one
 have t2 := hv.one
 have t3 := hd.m.one
 have hdS := (hd.mono (Q := fun b => b < w2.heap.size) (fun b hb => hb.2) : HdS w2 h tv mv).below bb
 have hvS := (hv.mono (Q := fun b => b < w2.heap.size) (fun b hb => hb.2) : VoS w2 v kids).below bb
 have b84 := hb2.trans (bb.mono hb2.size)
 obtain ⟨W4, hW4⟩ : ∃ x, (((w2.alloc (.cells zv 27)).alloc (.cells #[.int .i64 0, .int .i64 0] 34)).setRow w2.heap.size (vv h tv v mv)).setRow p2 #[.int .i64 0, .int .i64 0] = x := ⟨_, rfl⟩
 rw [hW4] at k3 k4 B3 hdS hvS b84
 have HW4 := LH (show (((w2.alloc (.cells #[.int .i64 0, .slice none 0 0, .bool false, .string ⟨#[]⟩, .string ⟨#[]⟩, .slice none 0 0, .int .i64 0, .int .i64 0, .slice none 0 0] 27)).alloc (.cells #[.int .i64 0, .int .i64 0] 34)).setRow w2.heap.size (vv h tv v mv)).setRow p2 #[.int .i64 0, .int .i64 0] = W4 from hW4)
 have hdS := LH hdS
 have hvS := LH hvS
 clear hW4 hd hv
 go_upto_region 8 with (first | (refine wpl_stV rfl _ _ rfl w2.heap.size zv h tv v mv rfl rfl k1 rfl t1 t2 t3 ?_) | (refine wpl_stK infoF1 rfl _ _ rfl p2 _ #[.int .i64 0, .int .i64 0] rfl rfl k2 rfl rfl (by simp [Value.oneCell']) ?_))
 rw [HW4.out]
 have e0 : W4.cell? ⟨p2, 0, none⟩ = some (.int .i64 0) := k4.cell 0
 have VB4 : VB W4 w2.heap.size h tv v mv := k3
 have VB4 := LH VB4
 have LX4 := LH (LX.out W4 b84)
 have VA4 := LH (VA8.out.keep b84)
 have K4 := LH k4
 clear LX RP hb2 bb k1 k2 VA8 HBS b84 k4
 go_wp2_with fail
 refine LX4.out.mono ?_
 rintro e w5 ⟨tl, rfl, ot, hb5⟩
 have al := (Below.refl w5.heap.size w5).alloc (Nat.le_refl _) (.cells #[.int .i64 0, .int .i64 0] 34)
 have BB := hb5.trans (al.mono hb5.size)
 have ts6 : Ts _ tl ts := Vs.keep (OwnV.vs ot) al
 have vb6 := VB4.out.keep BB
 have va6 := VA4.out.keep BB
 have k6 := BK.keep K4.out BB
 have hd6 := hdS.out.below BB
 have hv6 := hvS.out.below BB
 have B6 := B3.out.trans (BB.mono B3.out.size)
 obtain ⟨W6, hW6⟩ : ∃ x, w5.alloc (.cells #[.int .i64 0, .int .i64 0] 34) = x := ⟨_, rfl⟩
 rw [hW6] at ts6 vb6 va6 k6 hd6 hv6 B6
 have HW6 := LH hW6
 have VB6 := LH vb6
 have VA6 := LH va6
 have K6 := LH k6
 have HD6 := LH hd6
 have HV6 := LH hv6
 have B6 := LH B6
 clear hW6 al BB ot hb5 vb6 va6 k6 hd6 hv6 LX4 VB4 VA4 K4
 obtain ⟨n, hn⟩ : ∃ n, ts.length = n := ⟨_, rfl⟩
 obtain ⟨ka0, kc0, rfl, t1', t2', t3'⟩ := toks_ends ts6 hn
 have T3 := LH t3'
 have HN := LH hn
 have HSA : Hid (sumT ts n = (N : Int)) := LH (by rw [<- hn]; exact SA.out)
 have HSL : Hid (∀ i, i <= n -> (i : Int) <= sumT ts i /\ sumT ts i <= (i : Int) * 20000) := LH (fun i hi => by
  have := SL.out i (by omega)
  have hT := HTN.out
  have : (i : Int) * (T.length : Int) <= (i : Int) * 20000 := Int.mul_le_mul_of_nonneg_left (by omega) (by omega)
  omega)
 unfold maxLen at t2'
 have HM : Hid (n <= 20000) := LH (by have := (HSL.out n (Nat.le_refl _)).1; rw [HSA.out] at this; omega)
 clear t3' hn ts6 SA SL
 go_upto_region 9 with fail
 rw [HW6.out]
 go_wp2
 go_loopw [9, 10] (fun nv iv wr => ∃ i : Nat, nv = .int .i64 (sumT ts i) /\ iv = .int .i64 (i : Int) /\ i <= n /\ Below W6.heap.size W6 wr) (fun nv iv _ => n - (intOf iv).toNat)
 case atStart => exact ⟨0, by simp [sumT], rfl, by omega, Below.refl _ _⟩
 case round =>
  obtain ⟨i, rfl, rfl, hi, hb⟩ := hrel
  have HB := LH hb
  clear hb
  by_cases hlt : i < n
  ·have hil : i < ts.length := by rw [HN.out]; exact hlt
   obtain ⟨b, off, rfl, hbk, d1, d2⟩ := T3.out i hil
   have hst := sumT_step ts i hil
   obtain ⟨t, ht⟩ : ∃ t, ts[i] = t := ⟨_, rfl⟩
   rw [ht] at d1 d2 hst
   have hs0 := HSL.out i (by omega)
   have hs1 := HSL.out (i + 1) (by omega)
   obtain ⟨F, hF⟩ : ∃ F : Int, (t.2.1 : Int) = F := ⟨_, rfl⟩
   obtain ⟨G, hG⟩ : ∃ G : Int, (t.2.2 : Int) = G := ⟨_, rfl⟩
   have hF0 : 0 <= F := by omega
   have hG0 : 0 <= G /\ G <= 20000 := by
    have := (SK.out _ (List.getElem_mem hil)).2
    have hT := HTN.out
    rw [ht] at this
    omega
   rw [hF] at d1 hst
   rw [hG] at d2 hst
   obtain ⟨Y, hY⟩ : ∃ Y : Int, sumT ts i = Y := ⟨_, rfl⟩
   obtain ⟨Z, hZ⟩ : ∃ Z : Int, sumT ts (i + 1) = Z := ⟨_, rfl⟩
   rw [hY] at hst hs0
   rw [hZ] at hst hs1
   have q1 := (HB.out.cell (p := ⟨b, off + i * 3 + 1, none⟩) hbk).trans d1
   have q2 := (HB.out.cell (p := ⟨b, off + i * 3 + 2, none⟩) hbk).trans d2
   have i0 : (0 : Int) <= i := by omega
   have i1 : (i : Int) < n := by omega
   have hm := HM.out
   have w1 : IntKind.i64.wrap (Y + G) = Y + G := by rw [IntKind.wrap_i64]; omega
   have w2' : IntKind.i64.wrap (Y + G - F) = Y + G - F := by rw [IntKind.wrap_i64]; omega
   have HZ := LH hZ
   have HST := LH hst
   have t6 : decide ((i : Int) < n) = true := by simp; omega
   clear ht hF hG d1 d2 hil hZ hst hs1 hm
   rw [hY]
   go_upto_region 13 with fail
   go_quiet (fail)
   go_wp2
   go_roundw
   case rel => exact ⟨i + 1, by rw [HZ.out, HST.out], by go_num, by omega, HB.out.trans (show Below W6.heap.size wr (wr.drewN nq) from ⟨rfl, rfl, rfl, Nat.le_refl _, fun _ _ => rfl⟩)⟩
   case measure => simp [intOf]; omega
  ·obtain rfl : i = n := by omega
   have t9 : decide ((i : Int) < i) = false := by simp
   rw [HSA.out]
   have VB7 := LH (VB6.out.keep HB.out)
   have VA7 := LH (VA6.out.keep HB.out)
   have k7 := BK.keep K6.out HB.out
   have C7 := LH (B6.out.trans (HB.out.mono B6.out.size))
   have SV7 := LH (SV.out wr tv v mv (HD6.out.below HB.out) (HV6.out.below HB.out) C7.out)
   have e0 : wr.cell? ⟨p2, 0, none⟩ = some (.int .i64 0) := k7.cell 0
   clear hlt VB6 VA6 K6 B6 HD6 HV6 SV k7
   go_wp2_with (first | (refine wpl_ldVg rfl _ rfl w2.heap.size 0 h tv v mv rfl (VB.range VB7.out) ?_) | (refine wpl_ldVg rfl _ rfl w.heap.size 0 ha ta va ma rfl (VB.range VA7.out) ?_) | (refine wpl_ldVg rfl _ rfl w.heap.size 0 ha _ va ma rfl (VB.range VA7.out) ?_))
   refine SV7.out.mono ?_
   rintro e w9 ⟨rfl, hb9⟩
   go_wp2
   go_ret
   exact ⟨rfl, C7.out.trans (hb9.mono C7.out.size)⟩
end Go.Proofs.YtbfnlgmhfhaglaaGreatDoor
