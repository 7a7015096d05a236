import Derived.Test.YtbfnlgmhfhaglaaGreatDoorQb15
import Derived.Laws.StructEq
import Derived.ChangeKeysEq
import Derived.Test.YtbfnlgmhfhaglaaGreatDoorQb13
set_option maxHeartbeats 8000000
set_option maxRecDepth 100000
namespace Go.Proofs.YtbfnlgmhfhaglaaGreatDoor
open Go.RowKit
set_option linter.unusedVariables false
set_option linter.unusedSimpArgs false
theorem eqnum_zero (ng : Bool) (D E : List UInt8) (w : World) : (binOp .eql 24 (.agg #[.bool ng, .string (bytes D), .string (bytes E)]) (.agg #[.bool false, .string ⟨#[]⟩, .string ⟨#[]⟩])).run Tryz.prog w = .ok (.bool (!ng && D.isEmpty && E.isEmpty)) w := by
 rw [run_eql_struct, run_equalIn_agg w _ _ _ _ (by simp [Program.fieldsOf, Tryz.underlying24]) Tryz.stoodInHeld24]
 have e0 : ∀ l : List UInt8, (bytes l).toList = l := fun l => toList_bytes l
 have e1 : (⟨#[]⟩ : ByteArray).toList = [] := toList_bytes []
 cases ng <;> cases D <;> cases E <;> simp [Program.fieldsOf, Tryz.underlying24, Op.eqFields, part, go_sem, e0, e1]
theorem right_neg (h : Vh) (ta : Option Addr) (tn tc : Nat) (a : Option Addr) (n c : Nat) (ma : Option Addr) (mn mc : Nat) (d : Nat) (w : World) (hf : h.fr < 0) :
  Calls Tryz.prog 53 #[.agg (vv h (.slice ta tn tc) (.slice a n c) (.slice ma mn mc)), .int .i64 (d : Int)] w fun e w' => e = .returned (.bool false) /\ Below w.heap.size w w' := by
 have b0 : Hid (∀ o, Below w.heap.size w (w.alloc o)) := LH fun o => (Below.refl _ _).alloc (Nat.le_refl _) o
 unfold vv vvl
 go_enter Tryz.func53, Tryz.ntmps53
 go_wp2
 go_ret
 exact ⟨rfl, b0.out _⟩
theorem right_rest (h : Vh) (kids : Vo) (ta : Option Addr) (tc : Nat) (a : Option Addr) (n c : Nat) (ma : Option Addr) (mc : Nat) (d : Nat) (hd : d <= 1000) (lb : Bool) (w : World) (hf : 0 <= h.fr) (hn : kids.len = n)
  (ht : HdS w h (.slice ta h.tx.length tc) (.slice ma h.ms.length mc)) (hv : VoS w (.slice a n c) kids) (hC : 1 + h.tx.length + h.ms.length + n <= 2097152) (hD : h.dg.length <= 100000 /\ h.ex.length <= 100000)
  (RL0 : ∀ W, 0 < d -> Below w.heap.size w W -> Calls Tryz.prog 72 #[.agg (vv h (.slice ta h.tx.length tc) (.slice a n c) (.slice ma h.ms.length mc)), .int .i64 ((d : Int) - 1)] W fun e w' => e = .returned (.bool lb) /\ Below W.heap.size W w') :
  Calls Tryz.prog 53 #[.agg (vv h (.slice ta h.tx.length tc) (.slice a n c) (.slice ma h.ms.length mc)), .int .i64 (d : Int)] w fun e w' => e = .returned (.bool (headB h n d lb)) /\ Below w.heap.size w w' := by
 have b0 := LH ((Below.refl w.heap.size w).alloc (Nat.le_refl _) (.cells (vv h (.slice ta h.tx.length tc) (.slice a n c) (.slice ma h.ms.length mc)) 27))
 have x0 := LH (VB.new w h (.slice ta h.tx.length tc) (.slice a n c) (.slice ma h.ms.length mc))
 obtain ⟨W1, hW1⟩ : ∃ W, w.alloc (.cells (vv h (.slice ta h.tx.length tc) (.slice a n c) (.slice ma h.ms.length mc)) 27) = W := ⟨_, rfl⟩
 rw [hW1] at b0 x0
 have RU := LH (fun W (hW : Below w.heap.size w W) => jright_any _ h.tx (M.rightU h.tx) W ((ht.t.is (fun _ h => h)).keep hW) (by omega) rfl)
 have RN := LH (fun W => rightn_any h.ng h.dg h.ex (M.rightN h.dg h.ex) W hD.1 hD.2 rfl)
 have EN := LH (fun W => eqnum_zero h.ng h.dg h.ex W)
 have HB := LH (show headB h n d lb = (decide (0 <= h.fr) && (if h.k = 1 \/ h.k = 2 then decide (h.tx.length = 0) && nnum h && decide (0 < d) && lb
  else if h.k = 3 then nnum h && nlist h n && M.rightU h.tx
  else if h.k = 4 then decide (h.tx.length = 0) && nlist h n && M.rightN h.dg h.ex
  else if h.k = 5 \/ h.k = 6 \/ h.k = 7 then decide (h.tx.length = 0) && nnum h && nlist h n else false)) from rfl)
 rw [show decide (0 <= h.fr) = true by simpa using hf] at HB
 have RL := LH RL0
 have NLE := LH (show nlist h n = (decide (n = 0) && decide (h.ms.length = 0) && decide (h.tt = 0)) from rfl)
 have NNE := LH (show (!h.ng && h.dg.isEmpty && h.ex.isEmpty) = nnum h from rfl)
 obtain ⟨nl, hnl⟩ : ∃ b, nlist h n = b := ⟨_, rfl⟩
 obtain ⟨nn, hnn⟩ : ∃ b, nnum h = b := ⟨_, rfl⟩
 obtain ⟨ru, hru⟩ : ∃ b, M.rightU h.tx = b := ⟨_, rfl⟩
 obtain ⟨rn, hrn⟩ : ∃ b, M.rightN h.dg h.ex = b := ⟨_, rfl⟩
 obtain ⟨ans, hans⟩ : ∃ b, headB h n d lb = b := ⟨_, rfl⟩
 rw [hans, hnl, hnn, hru, hrn] at HB
 rw [hru] at RU
 rw [hrn] at RN
 rw [hnl] at NLE
 have EN2 := LH (fun W => (EN.out W).trans (by rw [NNE.out, hnn]))
 rw [hans]
 obtain ⟨g0, g1, g2, g3, g4, g5, g6, g7, g8⟩ := x0.out.cells
 obtain ⟨tn, htn⟩ : ∃ n, h.tx.length = n := ⟨_, rfl⟩
 obtain ⟨mn, hmn⟩ : ∃ n, h.ms.length = n := ⟨_, rfl⟩
 rw [htn] at HB x0 RL RU g1 hW1 hC ⊢
 rw [hmn] at NLE x0 RL g8 hW1 hC ⊢
 obtain ⟨K, hK⟩ : ∃ x, h.k = x := ⟨_, rfl⟩
 obtain ⟨FR, hFR⟩ : ∃ x, h.fr = x := ⟨_, rfl⟩
 obtain ⟨TO, hTO⟩ : ∃ x, h.tt = x := ⟨_, rfl⟩
 rw [hK] at HB g0
 rw [hFR] at g6 hf
 rw [hTO] at g7 NLE
 have EXP : Hid (vv h (.slice ta tn tc) (.slice a n c) (.slice ma mn mc) = #[.int .i64 K, .slice ta tn tc, .bool h.ng, .string (bytes h.dg), .string (bytes h.ex), .slice a n c, .int .i64 FR, .int .i64 TO, .slice ma mn mc]) := LH (by rw [<- hK, <- hFR, <- hTO]; rfl)
 have HW1 := LH hW1
 have EK := LH hK
 have ET := LH hTO
 rw [EXP.out] at HW1 ⊢
 have f0 : ¬ FR < 0 := by omega
 clear hnl hnn hru hrn hans htn hmn hK hFR hTO hW1 hD hn ht hv EN NNE RL0 hf
 go_enter Tryz.func53, Tryz.ntmps53
 go_upto_region 1 with fail
 rw [HW1.out]
 go_upto_region 3 with fail
 have q := EN2.out
 obtain ⟨D, hD⟩ : ∃ x, bytes h.dg = x := ⟨_, rfl⟩
 obtain ⟨E, hE⟩ : ∃ x, bytes h.ex = x := ⟨_, rfl⟩
 rw [hD] at g3 q
 rw [hE] at g4 q
 go_quiet (fail)
 obtain ⟨W3, hW3⟩ : ∃ x, W1.drewN nq = x := ⟨_, rfl⟩
 have b13 : Below W1.heap.size W1 W3 := by rw [<- hW3]; exact below_drewN (Below.refl _ _) nq
 rw [hW3]
 have b3 := LH (b0.out.trans (b13.mono b0.out.size))
 have x3 := LH (x0.out.keep b13)
 clear hW3 b13 q g0 g1 g2 g3 g4 g5 g6 g7 g8
 obtain ⟨g0, g1, g2, g3, g4, g5, g6, g7, g8⟩ := x3.out.cells
 rw [EK.out] at g0
 rw [ET.out] at g7
 rw [hD] at g3
 rw [hE] at g4
 have HD := LH hD
 have HE := LH hE
 obtain ⟨nt, hnt⟩ : ∃ b, ((tn : Int) == 0) = b := ⟨_, rfl⟩
 have hnt2 : decide (tn = 0) = nt := by rw [<- hnt]; by_cases h0 : tn = 0 <;> simp [h0]
 rw [hnt2] at HB
 rw [hnt]
 clear hnt hnt2 hD hE
 go_upto_region 4 with fail
 go_cut [7] (fun q wx => q = .bool nl /\ W3 = wx)
 case first =>
  have NL2 := NLE.out
  clear NLE HB
  by_cases n0 : n = 0
  ·subst n0
   by_cases m0 : mn = 0
   ·subst m0
    by_cases t0 : TO = 0
    ·subst t0
     have hq : nl = true := by rw [NL2]; simp
     subst hq
     clear NL2
     go_wp2
     go_meet
     case rel => exact ⟨rfl, rfl⟩
    ·have hq : nl = false := by rw [NL2]; simp [t0]
     have t1 : (TO == 0) = false := by simpa using t0
     subst hq
     clear NL2
     go_wp2
     go_meet
     case rel => exact ⟨rfl, rfl⟩
   ·have hq : nl = false := by rw [NL2]; simp [m0]
    have t1 : ((mn : Int) == 0) = false := by simp; omega
    subst hq
    clear NL2
    go_wp2
    go_meet
    case rel => exact ⟨rfl, rfl⟩
  ·have hq : nl = false := by rw [NL2]; simp [n0]
   have t1 : ((n : Int) == 0) = false := by simp; omega
   subst hq
   clear NL2
   go_wp2
   go_meet
   case rel => exact ⟨rfl, rfl⟩
 case rest =>
 obtain ⟨rfl, rfl⟩ := hcut
 by_cases k12 : K = 1 \/ K = 2
 ·have hq : ans = (nt && nn && decide (0 < d) && lb) := by rw [HB.out, if_pos k12, Bool.true_and]
  clear HB NLE
  by_cases hs : nt = true /\ nn = true /\ 0 < d
  ·obtain ⟨rfl, rfl, hd0⟩ := hs
   have hq2 : ans = lb := by rw [hq]; simp [hd0]
   subst hq2
   have d0 : (0 : Int) < d := by omega
   have RL1 := LH (RL.out W3 hd0 b3.out)
   clear hq
   rcases k12 with rfl | rfl
   all_goals (
    go_wp2_with (first | (refine wpl_ldVg (by rfl) _ rfl w.heap.size 0 h _ _ _ rfl x3.out.range ?_) | fail)
    refine (RL1.out).mono ?_
    rintro e w4 ⟨rfl, hb4⟩
    have d4 := b3.out.trans (hb4.mono b3.out.size)
    clear hb4
    go_wp2
    go_ret
    exact ⟨rfl, d4⟩)
  ·have hq2 : ans = false := by
    rw [hq]
    cases nt
    ·rfl
    ·cases nn
     ·rfl
     ·have hd0 : ¬ 0 < d := fun h => hs ⟨rfl, rfl, h⟩
      simp [hd0]
   subst hq2
   clear hq RL
   cases nt
   ·rcases k12 with rfl | rfl
    all_goals (
     go_wp2
     go_ret
     exact ⟨rfl, b3.out⟩)
   ·cases nn
    ·rcases k12 with rfl | rfl
     all_goals (
      go_wp2
      go_ret
      exact ⟨rfl, b3.out⟩)
    ·have d0 : ¬ (0 : Int) < d := fun h => hs ⟨rfl, rfl, by omega⟩
     rcases k12 with rfl | rfl
     all_goals (
      go_wp2
      go_ret
      exact ⟨rfl, b3.out⟩)
 rw [if_neg k12, Bool.true_and] at HB
 clear RL NLE
 by_cases k3 : K = 3
 ·subst k3
  rw [if_pos rfl] at HB
  clear RN
  have hq := HB.out
  clear HB
  cases nn
  ·rw [Bool.false_and, Bool.false_and] at hq
   subst hq
   go_wp2
   go_ret
   exact ⟨rfl, b3.out⟩
  ·cases nl
   ·rw [Bool.and_false, Bool.false_and] at hq
    subst hq
    go_wp2
    go_ret
    exact ⟨rfl, b3.out⟩
   ·rw [Bool.true_and, Bool.true_and] at hq
    subst hq
    go_wp2_with fail
    refine (RU.out _ b3.out).mono ?_
    rintro e w4 ⟨rfl, rfl⟩
    go_wp2
    go_ret
    exact ⟨rfl, b3.out⟩
 rw [if_neg k3] at HB
 by_cases k4 : K = 4
 ·subst k4
  rw [if_pos rfl] at HB
  clear RU
  have hq := HB.out
  clear HB
  cases nt
  ·rw [Bool.false_and, Bool.false_and] at hq
   subst hq
   go_wp2
   go_ret
   exact ⟨rfl, b3.out⟩
  ·cases nl
   ·rw [Bool.and_false, Bool.false_and] at hq
    subst hq
    go_wp2
    go_ret
    exact ⟨rfl, b3.out⟩
   ·rw [Bool.true_and, Bool.true_and] at hq
    subst hq
    have RN1 := LH (RN.out W3)
    unfold numV at RN1
    simp only at RN1
    rw [HD.out, HE.out] at RN1
    go_wp2_with fail
    refine (RN1.out).mono ?_
    rintro e w4 ⟨rfl, hb4⟩
    have d4 := b3.out.trans (hb4.mono b3.out.size)
    clear hb4
    go_wp2
    go_ret
    exact ⟨rfl, d4⟩
 rw [if_neg k4] at HB
 clear RU RN
 have q1 : (K == 1) = false := by simp; omega
 have q2 : (K == 2) = false := by simp; omega
 have q3 : (K == 3) = false := by simpa using k3
 have q4 : (K == 4) = false := by simpa using k4
 have hq := HB.out
 clear HB
 by_cases k567 : K = 5 \/ K = 6 \/ K = 7
 ·rw [if_pos k567] at hq
  cases nt
  ·rw [Bool.false_and, Bool.false_and] at hq
   subst hq
   rcases k567 with rfl | rfl | rfl
   all_goals (
    go_wp2
    go_ret
    exact ⟨rfl, b3.out⟩)
  ·cases nn
   ·rw [Bool.and_false, Bool.false_and] at hq
    subst hq
    rcases k567 with rfl | rfl | rfl
    all_goals (
     go_wp2
     go_ret
     exact ⟨rfl, b3.out⟩)
   ·rw [Bool.true_and, Bool.true_and] at hq
    subst hq
    rcases k567 with rfl | rfl | rfl
    all_goals (
     go_wp2
     go_ret
     exact ⟨rfl, b3.out⟩)
 ·rw [if_neg k567] at hq
  subst hq
  have q5 : (K == 5) = false := by simp; omega
  have q6 : (K == 6) = false := by simp; omega
  have q7 : (K == 7) = false := by simp; omega
  clear k12 k3 k4 k567
  go_wp2
  go_ret
  exact ⟨rfl, b3.out⟩
theorem rv_one (h : Vh) (kids : Vo) (RV0 : ∀ j h' kids', kids.at? j = some (h', kids') -> RV h' kids') : RV h kids := by
 intro d w tv v mv hd hC hL ht hv
 have hvS := hv
 have htS := ht
 obtain ⟨a, c, hvs⟩ := hv.slice
 obtain ⟨ta, tc, hts⟩ := ht.t.slice
 obtain ⟨ma, mc, hms⟩ := ht.m.slice
 subst hvs hts hms
 unfold rightH
 by_cases hf : h.fr < 0
 ·rw [show headB h kids.len d (marksB h kids.len && keysB h kids && rightVo kids (d - 1)) = false by unfold headB; rw [show decide (0 <= h.fr) = false by simp; omega]; rfl]
  exact right_neg h ta _ tc a _ c ma _ mc d w hf
 ·refine right_rest h kids ta tc a kids.len c ma mc d hd _ w (by omega) rfl ht hv (by have := voC_len kids; omega) hL.1 fun W hd0 hW => ?_
  rw [show ((d : Int) - 1) = ((d - 1 : Nat) : Int) by omega]
  exact rightlist_any h kids RV0 (d - 1) (by omega) hC hL.2.1 _ _ _ W (ht.below hW) (hv.below hW)
theorem rv_list (L : Vo) : ∀ j h kids, L.at? j = some (h, kids) -> RV h kids := by
 induction L with
 | nil => intro j h kids e; simp [Vo.at?] at e
 | cons h0 kids0 rest ih1 ih2 =>
  intro j h kids e
  cases j with
  | zero =>
   simp only [Vo.at?, Option.some.injEq, Prod.mk.injEq] at e
   obtain ⟨rfl, rfl⟩ := e
   exact rv_one h0 kids0 ih1
  | succ j => exact ih2 j h kids e
theorem rv_any (h : Vh) (kids : Vo) : RV h kids := rv_one h kids (rv_list kids)
theorem unsc_any (d r : List UInt8) (x : Int) (w : World) (hl : d.length <= 100000) (hd : d ≠ []) (x1 : -1000000 <= x) (x2 : x <= 1000000) (hr : M.unsc d x = r) :
  Calls Tryz.prog 130 #[.string (bytes d), .int .i64 x] w fun e w' => e = .returned (.string (bytes r)) /\ Below w.heap.size w w' := by
 have hsz := bytes_size d
 have hpos := List.length_pos_iff.2 hd
 obtain ⟨L, hL⟩ : ∃ L, d.length = L := ⟨_, rfl⟩
 rw [hL] at hsz hl hpos
 unfold M.unsc at hr
 rw [hL] at hr
 by_cases c1 : 0 <= x /\ x <= 20
 ·rw [if_pos c1] at hr
  obtain ⟨n, rfl⟩ : ∃ n : Nat, x = n := ⟨x.toNat, by omega⟩
  rw [show ((n : Nat) : Int).toNat = n by omega] at hr
  have hn : n <= 20 := by omega
  have P := LH (fun w => repeat_any n w (by omega))
  have a1 := cat_run d (List.replicate n 48) r hr (by omega) (by simp; omega)
  obtain ⟨SD, hSD⟩ : ∃ S, bytes d = S := ⟨_, rfl⟩
  obtain ⟨SZ, hSZ⟩ : ∃ S, bytes (List.replicate n 48) = S := ⟨_, rfl⟩
  obtain ⟨SR, hSR⟩ : ∃ S, bytes r = S := ⟨_, rfl⟩
  rw [hSD, hSZ, hSR] at a1
  rw [hSZ] at P
  rw [hSD] at hsz
  rw [hSD, hSR]
  have q : (n : Int) <= 20 := by omega
  have z : SD.size <= 100000 := by omega
  clear hSD hSZ hSR hr c1 hL hd hsz hpos
  go_enter Tryz.func130, Tryz.ntmps130
  go_wp2_with fail
  refine (P.out _).mono ?_
  rintro e w1 ⟨rfl, hb1⟩
  go_wp2
  go_ret
  exact ⟨rfl, hb1⟩
 ·rw [if_neg c1] at hr
  by_cases c2 : x < 0 /\ 0 < (L : Int) + x
  ·rw [if_pos c2] at hr
   obtain ⟨k, hk⟩ : ∃ k : Nat, ((L : Int) + x).toNat = k := ⟨_, rfl⟩
   rw [hk] at hr
   have e1 := ext_to d k
   have e2 := ext_from d k
   have a1 := cat_run (d.take k) [46] _ rfl (by simp; omega) (by simp)
   have a2 := cat_run (d.take k ++ [46]) (d.drop k) r (by rw [<- hr]; simp) (by simp; omega) (by simp; omega)
   rw [<- e1] at a1
   rw [<- e2] at a2
   rw [show bytes [46] = (⟨#[46]⟩ : ByteArray) from rfl] at a1
   obtain ⟨SD, hSD⟩ : ∃ S, bytes d = S := ⟨_, rfl⟩
   obtain ⟨SQ, hSQ⟩ : ∃ S, bytes (d.take k ++ [46]) = S := ⟨_, rfl⟩
   obtain ⟨SR, hSR⟩ : ∃ S, bytes r = S := ⟨_, rfl⟩
   rw [hSD, hSQ] at a1
   rw [hSD, hSQ, hSR, hL] at a2
   rw [hSD] at hsz
   rw [hSD, hSR]
   rw [<- hk, <- hsz] at a1 a2
   have z : SD.size <= 100000 := by omega
   have q1 : x < 0 := c2.1
   have q2 : 0 < (SD.size : Int) + x := by omega
   clear hSD hSQ hSR hr c1 c2 hL hd e1 e2 hk hsz hpos hl
   go_enter Tryz.func130, Tryz.ntmps130
   have q3 : (0 : Int) <= (SD.size : Int) + x := by omega
   have q4 : (SD.size : Int) + x <= SD.size := by omega
   go_wp2
   go_quiet (fail)
   go_wp2
   go_ret
   exact ⟨rfl, by first | exact Below.refl _ _ | exact below_drewN (Below.refl _ _) _⟩
  ·rw [if_neg c2] at hr
   by_cases c3 : (L : Int) + x <= 0 /\ -20 <= (L : Int) + x
   ·rw [if_pos c3] at hr
    obtain ⟨n, hn⟩ : ∃ n : Nat, (n : Int) = -((L : Int) + x) := ⟨(-((L : Int) + x)).toNat, by omega⟩
    rw [show (-((L : Int) + x)).toNat = n by omega] at hr
    have hn2 : n <= 20 := by omega
    have P := LH (fun w => repeat_any n w (by omega))
    have a1 := cat_run [48, 46] (List.replicate n 48) _ rfl (by simp) (by simp; omega)
    have a2 := cat_run ([48, 46] ++ List.replicate n 48) d r (by rw [<- hr]; simp) (by simp; omega) (by omega)
    rw [show bytes [48, 46] = (⟨#[48, 46]⟩ : ByteArray) from rfl] at a1
    obtain ⟨SD, hSD⟩ : ∃ S, bytes d = S := ⟨_, rfl⟩
    obtain ⟨SQ, hSQ⟩ : ∃ S, bytes ([48, 46] ++ List.replicate n 48) = S := ⟨_, rfl⟩
    obtain ⟨SZ, hSZ⟩ : ∃ S, bytes (List.replicate n 48) = S := ⟨_, rfl⟩
    obtain ⟨SR, hSR⟩ : ∃ S, bytes r = S := ⟨_, rfl⟩
    rw [hSZ, hSQ] at a1
    rw [hSQ, hSD, hSR] at a2
    rw [hSZ, hn, <- hsz, hSD] at P
    rw [hSD] at hsz
    rw [hSD, hSR]
    have z : SD.size <= 100000 := by omega
    have q1 : x < 0 := by omega
    have q2 : (SD.size : Int) + x <= 0 := by omega
    have q3 : -20 <= (SD.size : Int) + x := by omega
    clear hSD hSQ hSZ hSR hr c1 c2 c3 hL hd hn hn2 hsz hpos hl
    go_enter Tryz.func130, Tryz.ntmps130
    go_wp2_with fail
    refine (P.out _).mono ?_
    rintro e w1 ⟨rfl, hb1⟩
    go_wp2
    go_ret
    exact ⟨rfl, hb1⟩
   ·rw [if_neg c3] at hr
    subst hr
    obtain ⟨SD, hSD⟩ : ∃ S, bytes d = S := ⟨_, rfl⟩
    rw [hSD] at hsz
    rw [hSD]
    have z : SD.size <= 100000 := by omega
    have q : (20 < x) \/ (x < 0 /\ (SD.size : Int) + x < -20) := by omega
    clear hSD c1 c2 c3 hL hd hsz hl
    rcases q with q | ⟨q1, q2⟩
    ·have q3 : 0 < (SD.size : Int) + x := by omega
     go_enter Tryz.func130, Tryz.ntmps130
     go_wp2
     go_ret
     exact ⟨rfl, Below.refl _ _⟩
    ·go_enter Tryz.func130, Tryz.ntmps130
     go_wp2
     go_ret
     exact ⟨rfl, Below.refl _ _⟩
end Go.Proofs.YtbfnlgmhfhaglaaGreatDoor
