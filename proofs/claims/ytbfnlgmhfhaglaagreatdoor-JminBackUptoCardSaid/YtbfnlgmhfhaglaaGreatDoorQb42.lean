import Derived.Test.YtbfnlgmhfhaglaaGreatDoorQb15
import Derived.Test.YtbfnlgmhfhaglaaGreatDoorQb23
import Derived.Test.YtbfnlgmhfhaglaaGreatDoorQb14
import Derived.Test.YtbfnlgmhfhaglaaGreatDoorQb18
import Derived.Test.YtbfnlgmhfhaglaaGreatDoorQb21
set_option maxHeartbeats 8000000
set_option maxRecDepth 100000
namespace Go.Proofs.YtbfnlgmhfhaglaaGreatDoor
open Go.RowKit
set_option linter.unusedVariables false
set_option linter.unusedSimpArgs false
def SVV (h : Vh) (kids : Vo) : Prop :=
 ∀ (h' : Vh) (kids' : Vo) (w : World) (tv v mv tv' v' mv' : Value), 1 + h.tx.length + h.ms.length + VoC kids <= 2097152 -> 1 + h'.tx.length + h'.ms.length + VoC kids' <= 2097152 -> HdS w h tv mv -> VoS w v kids -> HdS w h' tv' mv' -> VoS w v' kids' ->
  Calls Tryz.prog 13 #[.agg (vv h tv v mv), .agg (vv h' tv' v' mv')] w fun e w' => e = .returned (.bool (sameH h kids h' kids')) /\ Below w.heap.size w w'
theorem sv_one (h : Vh) (kids : Vo) (SV0 : ∀ j h1 k1, kids.at? j = some (h1, k1) -> SVV h1 k1) : SVV h kids := by
 intro h' kids' w tv v mv tv' v' mv' hC hC' ht hv ht' hv'
 have HR := LH (fun j h1 k1 h2 k2 (hj : kids.at? j = some (h1, k1)) (hj' : kids'.at? j = some (h2, k2)) W tv v mv tv' v' mv' a b c d => SV0 j h1 k1 hj h2 k2 W tv v mv tv' v' mv' (by have := voC_at kids j h1 k1 hj; omega) (by have := voC_at kids' j h2 k2 hj'; omega) a b c d)
 have SI := LH (fun W (hW : Below w.heap.size w W) => same_any tv tv' h.tx h'.tx (decide (h.tx = h'.tx)) W ((ht.t.is (fun _ h => h)).keep hW) ((ht'.t.is (fun _ h => h)).keep hW) (by omega) (by omega) rfl)
 have hnB : kids.len <= 2097152 := by have := voC_len kids; omega
 have hVS := LH hv
 have hVS' := LH hv'
 have HST := LH (sameVo_true kids kids')
 have HSF := LH (sameVo_false kids kids')
 have AT := LH (fun i (hi : i < kids.len) => Vo.at_some kids i hi)
 have AT' := LH (fun i (hi : i < kids'.len) => Vo.at_some kids' i hi)
 have EN := LH (fun W => neqnum_any h.ng h'.ng h.dg h.ex h'.dg h'.ex W)
 have b1 := (Below.refl w.heap.size w).alloc (Nat.le_refl _) (.cells (vv h tv v mv) 27)
 have x1 := VB.new w h tv v mv
 obtain ⟨W1, hW1⟩ : ∃ W, w.alloc (.cells (vv h tv v mv) 27) = W := ⟨_, rfl⟩
 have z1 : W1.heap.size = w.heap.size + 1 := by rw [<- hW1, World.size_alloc]
 rw [hW1] at b1 x1
 have b2 := (Below.refl W1.heap.size W1).alloc (Nat.le_refl _) (.cells (vv h' tv' v' mv') 27)
 have x2 := VB.new W1 h' tv' v' mv'
 obtain ⟨W2, hW2⟩ : ∃ W, W1.alloc (.cells (vv h' tv' v' mv') 27) = W := ⟨_, rfl⟩
 rw [hW2] at b2 x2
 have X1 := LH (x1.keep b2)
 rw [z1] at x2
 have X2 := LH x2
 have B2 := LH (b1.trans (b2.mono b1.size))
 have HW1 := LH hW1
 have HW2 := LH hW2
 obtain ⟨a, c, hvs⟩ := hv.slice
 obtain ⟨ta, tc, hts⟩ := ht.t.slice
 obtain ⟨ma, mc, hms⟩ := ht.m.slice
 obtain ⟨a', c', hvs'⟩ := hv'.slice
 obtain ⟨ta', tc', hts'⟩ := ht'.t.slice
 obtain ⟨ma', mc', hms'⟩ := ht'.m.slice
 clear hW1 hW2 b1 b2 x1 x2 z1 hC hC' ht hv ht' hv' SV0
 subst hvs hts hms hvs' hts' hms'
 obtain ⟨g0, g1, g2, g3, g4, g5, g6, g7, g8⟩ := X1.out.cells
 obtain ⟨f0, f1, f2, f3, f4, f5, f6, f7, f8⟩ := X2.out.cells
 obtain ⟨n, hn⟩ : ∃ n, kids.len = n := ⟨_, rfl⟩
 obtain ⟨n', hn'⟩ : ∃ n, kids'.len = n := ⟨_, rfl⟩
 have HN := LH hn
 have HN' := LH hn'
 obtain ⟨sv, hsv⟩ : ∃ b, sameVo kids kids' = b := ⟨_, rfl⟩
 have HSV := LH hsv
 have HA : Hid (sameH h kids h' kids' = (decide (h.k = h'.k) && decide (h.tx = h'.tx) && decide (h.ng = h'.ng /\ h.dg = h'.dg /\ h.ex = h'.ex) && decide (n = n') && sv)) := LH (by unfold sameH sameHd; rw [hn, hn', hsv])
 obtain ⟨ans, hans⟩ : ∃ b, sameH h kids h' kids' = b := ⟨_, rfl⟩
 rw [hans] at HA ⊢
 unfold vv vvl at HW1 HW2 ⊢
 rw [hn] at HW1 g5 AT X1 hnB ⊢
 rw [hn'] at HW2 f5 AT' X2 ⊢
 rw [hn, hn'] at HST
 obtain ⟨K, hK⟩ : ∃ x, h.k = x := ⟨_, rfl⟩
 obtain ⟨K', hK'⟩ : ∃ x, h'.k = x := ⟨_, rfl⟩
 rw [hK] at HA g0 HW1 ⊢
 rw [hK'] at HA f0 HW2 ⊢
 have HKH := LH hK
 have HKH' := LH hK'
 clear hn hn' hsv hans hK hK'
 go_enter Tryz.func13, Tryz.ntmps13
 go_upto_region 1 with fail
 rw [HW1.out, HW2.out]
 by_cases k0 : K = K'
 case neg =>
  have q1 : (K != K') = true := by simpa using k0
  have hf : ans = false := by rw [HA.out]; simp [k0]
  subst hf
  clear HA
  as_aux_lemma =>
   go_wp2_with fail
   go_ret
   exact ⟨rfl, B2.out⟩
 subst k0
 have q1 : (K != K) = false := by simp
 have SI2 := LH (SI.out W2 B2.out)
 by_cases t0 : h.tx = h'.tx
 case neg =>
  rw [decide_eq_false t0] at SI2
  have hf : ans = false := by rw [HA.out]; simp [t0]
  subst hf
  clear HA t0
  as_aux_lemma =>
   go_wp2_with fail
   refine SI2.out.mono ?_
   rintro e w3 ⟨rfl, hb3⟩
   have d3 := B2.out.trans (hb3.mono B2.out.size)
   clear hb3
   go_wp2
   go_ret
   exact ⟨rfl, d3⟩
 rw [decide_eq_true t0] at SI2
 have T0 := LH t0
 clear t0
 go_wp2_with fail
 refine SI2.out.mono ?_
 rintro e w3 ⟨rfl, hb3⟩
 have X13 := LH (X1.out.keep hb3)
 have X23 := LH (X2.out.keep hb3)
 have B3 := LH (B2.out.trans (hb3.mono B2.out.size))
 clear hb3 g0 g1 g2 g3 g4 g5 g6 g7 g8 f0 f1 f2 f3 f4 f5 f6 f7 f8 SI SI2 X1 X2 B2
 obtain ⟨-, -, g2, g3, g4, g5, -, -, -⟩ := X13.out.cells
 obtain ⟨-, -, f2, f3, f4, f5, -, -, -⟩ := X23.out.cells
 by_cases e0 : h.ng = h'.ng /\ h.dg = h'.dg /\ h.ex = h'.ex
 case neg =>
  have q : ∀ W, (binOp .neq 24 (.agg #[.bool h.ng, .string (bytes h.dg), .string (bytes h.ex)]) (.agg #[.bool h'.ng, .string (bytes h'.dg), .string (bytes h'.ex)])).run Tryz.prog W = .ok (.bool true) W := fun W => by rw [EN.out W, decide_eq_false e0]; rfl
  have hf : ans = false := by rw [HA.out, decide_eq_false e0]; simp
  subst hf
  clear HA e0
  as_aux_lemma =>
   go_wp2_with fail
   go_ret
   exact ⟨rfl, B3.out⟩
 have q : ∀ W, (binOp .neq 24 (.agg #[.bool h.ng, .string (bytes h.dg), .string (bytes h.ex)]) (.agg #[.bool h'.ng, .string (bytes h'.dg), .string (bytes h'.ex)])).run Tryz.prog W = .ok (.bool false) W := fun W => by rw [EN.out W, decide_eq_true e0]; rfl
 have E0 := LH e0
 clear e0
 by_cases n0 : n = n'
 case neg =>
  have q2 : ((n : Int) != (n' : Int)) = true := by simp; omega
  have hf : ans = false := by rw [HA.out, decide_eq_false n0]; simp
  subst hf
  clear HA E0
  as_aux_lemma =>
   go_wp2_with fail
   go_ret
   exact ⟨rfl, B3.out⟩
 subst n0
 have q2 : ((n : Int) != (n : Int)) = false := by simp
 have hA2 : ans = sv := by rw [HA.out, decide_eq_true E0.out, decide_eq_true T0.out]; simp
 subst hA2
 clear HA E0 T0
 go_wp2_with fail
 go_loopw [5] (fun iv wr => ∃ i : Nat, iv = .int .i64 (i : Int) /\ i <= n /\ (∀ j h1 k1 h2 k2, j < i -> kids.at? j = some (h1, k1) -> kids'.at? j = some (h2, k2) -> sameH h1 k1 h2 k2 = true) /\ Below w3.heap.size w3 wr) (fun iv _ => n - (intOf iv).toNat)
 case atStart => exact ⟨0, rfl, by omega, fun j _ _ _ _ h => by omega, Below.refl _ _⟩
 case round =>
  obtain ⟨i, rfl, hi, hok, hb⟩ := hrel
  have X14 := LH (X13.out.keep hb)
  have X24 := LH (X23.out.keep hb)
  have B4 := LH (B3.out.trans (hb.mono B3.out.size))
  have BR := LH hb
  have HOK := LH hok
  clear hb hok g2 g3 g4 g5 f2 f3 f4 f5 q q1 q2
  obtain ⟨-, -, -, -, -, g5, -, -, -⟩ := X14.out.cells
  obtain ⟨-, -, -, -, -, f5, -, -, -⟩ := X24.out.cells
  by_cases hlt : i < n
  ·obtain ⟨h1, k1, hat⟩ := AT.out i hlt
   obtain ⟨h2, k2, hat'⟩ := AT'.out i hlt
   obtain ⟨ax, cx, e', -, -, -, hq⟩ := hVS.out
   rw [HN.out] at e' hq
   simp only [Value.slice.injEq] at e'
   obtain ⟨rfl, -, rfl⟩ := e'
   obtain ⟨b, off, rfl, hbk, hfo⟩ := hq (by omega)
   obtain ⟨ay, cy, e', -, -, -, hq'⟩ := hVS'.out
   rw [HN'.out] at e' hq'
   simp only [Value.slice.injEq] at e'
   obtain ⟨rfl, -, rfl⟩ := e'
   obtain ⟨b', off', rfl, hbk', hfo'⟩ := hq' (by omega)
   obtain ⟨tv1, mv1, u1, hd1, hr1, hu1⟩ := voAt_get kids b off i h1 k1 hfo hat
   obtain ⟨tv2, mv2, u2, hd2, hr2, hu2⟩ := voAt_get kids' b' off' i h2 k2 hfo' hat'
   have R1 := LH (HR.out i h1 k1 h2 k2 hat hat' wr.drew tv1 u1 mv1 tv2 u2 mv2 (hd1.below (B4.out.trans ((Below.refl _ _).drew.mono B4.out.size))) (hu1.below (B4.out.trans ((Below.refl _ _).drew.mono B4.out.size))) (hd2.below (B4.out.trans ((Below.refl _ _).drew.mono B4.out.size))) (hu2.below (B4.out.trans ((Below.refl _ _).drew.mono B4.out.size))))
   have HAT := LH hat
   have HAT' := LH hat'
   have j0 : (0 : Int) <= i := by omega
   have j1 : (i : Int) < n := by omega
   have SVf := LH (fun (V : World) (hV : Below wr.heap.size wr V) => (show V.cell? ⟨w.heap.size, 5, none⟩ = some (.slice (some ⟨b, off, none⟩) n c) /\ V.cell? ⟨w.heap.size + 1, 5, none⟩ = some (.slice (some ⟨b', off', none⟩) n c') /\ V.rangeAt b (off + i * 9) (vvl h1 tv1 u1 mv1) /\ V.rangeAt b' (off' + i * 9) (vvl h2 tv2 u2 mv2) from
    ⟨(X14.out.keep hV).cells.2.2.2.2.2.1, (X24.out.keep hV).cells.2.2.2.2.2.1, range_same hr1 ((B4.out.trans (hV.mono B4.out.size)).block b hbk), range_same hr2 ((B4.out.trans (hV.mono B4.out.size)).block b' hbk')⟩))
   clear hat hat' hfo hfo' hd1 hd2 hu1 hu2 hr1 hr2 hq hq' hbk hbk'
   go_upto_region 6 with fail
   refine wp_region_noPanic ?_
   refine wp_region_held_drew (S := fun V => V.cell? ⟨w.heap.size, 5, none⟩ = some (.slice (some ⟨b, off, none⟩) n c) /\ V.cell? ⟨w.heap.size + 1, 5, none⟩ = some (.slice (some ⟨b', off', none⟩) n c') /\ V.rangeAt b (off + i * 9) (vvl h1 tv1 u1 mv1) /\ V.rangeAt b' (off' + i * 9) (vvl h2 tv2 u2 mv2)) (by kernel_rfl) (SVf.out _ (Below.refl _ _).drew) (fun hS => ?_)
   have BW := LH ((Below.refl wr.heap.size wr).drew)
   obtain ⟨W4, hW4⟩ : ∃ x, wr.drew = x := ⟨_, rfl⟩
   rw [hW4] at R1 hS BW ⊢
   clear hW4
   refine rtk 0 ?_
   refine rtk 1 ?_
   refine rtk 2 ?_
   refine rtk 3 ?_
   refine rtk (v := .agg (vv h1 tv1 u1 mv1)) 4 (hy := yieldsIf_load_mid (by rfl) 27 _ rfl b (off + i * 9) rfl (vvl h1 tv1 u1 mv1) _ (fun w hS => hS.2.2.1) Tryz.underlying27 rfl infoVal) ?_
   refine rtk 5 ?_
   refine rtk 6 ?_
   refine rtk 7 ?_
   refine rtk 8 ?_
   refine rtk (v := .agg (vv h2 tv2 u2 mv2)) 9 (hy := yieldsIf_load_mid (by rfl) 27 _ rfl b' (off' + i * 9) rfl (vvl h2 tv2 u2 mv2) _ (fun w hS => hS.2.2.2) Tryz.underlying27 rfl infoVal) ?_
   refine wpAnyH_ready (rs := [10]) (by kernel_rfl) (by simp) ?_
   refine AllReadyH.cons rfl (fun K hK => ?_) AllReadyH.nil
   go_simp
   obtain ⟨sb, hsb⟩ : ∃ x, sameH h1 k1 h2 k2 = x := ⟨_, rfl⟩
   rw [hsb] at R1
   refine R1.out.mono ?_
   rintro e w4 ⟨rfl, hb4⟩
   have D4 := BW.out.trans (hb4.mono BW.out.size)
   refine hK.out _ _ (SVf.out _ D4) (fun hS => ?_)
   clear hK K hb4
   refine rtk 11 ?_
   refine wpAnyH_done (by kernel_rfl) ?_ _
   refine NoPanic.normal ?_
   have BR4 := LH (BR.out.trans (D4.mono BR.out.size))
   have B44 := LH (B4.out.trans (D4.mono B4.out.size))
   clear hS SVf D4 R1
   cases sb with
   | true =>
    have HSB := LH hsb
    clear hsb
    as_aux_lemma =>
     go_wp2
     go_roundw
     case rel =>
      refine ⟨i + 1, by go_num, by omega, fun j h1' k1' h2' k2' hj e e' => ?_, BR4.out⟩
      rcases Nat.lt_succ_iff_lt_or_eq.1 hj with hj | rfl
      ·exact HOK.out j _ _ _ _ hj e e'
      ·rw [HAT.out] at e
       rw [HAT'.out] at e'
       simp only [Option.some.injEq, Prod.mk.injEq] at e e'
       obtain ⟨rfl, rfl⟩ := e
       obtain ⟨rfl, rfl⟩ := e'
       exact HSB.out
     case measure => simp [intOf]; omega
   | false =>
    have hf := (HSF.out i h1 k1 h2 k2 HAT.out HAT'.out hsb).symm.trans HSV.out
    subst hf
    clear hsb
    as_aux_lemma =>
     go_wp2
     go_ret
     exact ⟨rfl, B44.out⟩
  ·obtain rfl : i = n := by omega
   have t8 : ¬ (i : Int) < i := by omega
   have hf : sameVo kids kids' = true := HST.out (by trivial) (fun j h1 k1 h2 k2 e e' => HOK.out j h1 k1 h2 k2 (by have := vo_at_lt kids j e; have := HN.out; omega) e e')
   have hf2 := hf.symm.trans HSV.out
   subst hf2
   clear hlt hf
   as_aux_lemma =>
    go_wp2
    go_ret
    exact ⟨rfl, B4.out⟩
theorem sv_list (L : Vo) : ∀ j h kids, L.at? j = some (h, kids) -> SVV h kids := by
 induction L with
 | nil => intro j h kids e; simp [Vo.at?] at e
 | cons h0 kids0 rest ih1 ih2 =>
  intro j h kids e
  cases j with
  | zero =>
   simp only [Vo.at?, Option.some.injEq, Prod.mk.injEq] at e
   obtain ⟨rfl, rfl⟩ := e
   exact sv_one h0 kids0 ih1
  | succ j => exact ih2 j h kids e
theorem sv_any (h : Vh) (kids : Vo) : SVV h kids := sv_one h kids (sv_list kids)
end Go.Proofs.YtbfnlgmhfhaglaaGreatDoor
