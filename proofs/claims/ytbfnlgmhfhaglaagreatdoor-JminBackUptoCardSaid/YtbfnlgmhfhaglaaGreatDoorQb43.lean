import Derived.Test.YtbfnlgmhfhaglaaGreatDoorQb16
import Derived.Test.YtbfnlgmhfhaglaaGreatDoorQb14
import Derived.Test.YtbfnlgmhfhaglaaGreatDoorQb33
set_option maxHeartbeats 8000000
set_option maxRecDepth 100000
namespace Go.Proofs.YtbfnlgmhfhaglaaGreatDoor
open Go.RowKit
set_option linter.unusedVariables false
set_option linter.unusedSimpArgs false
theorem neqnum_zero (ng : Bool) (D E : List UInt8) (w : World) : (binOp .neq 24 (.agg #[.bool ng, .string (bytes D), .string (bytes E)]) (.agg #[.bool false, .string ⟨#[]⟩, .string ⟨#[]⟩])).run Tryz.prog w = .ok (.bool (!(!ng && D.isEmpty && E.isEmpty))) w := by
 rw [run_neq_struct, run_equalIn_agg w _ _ _ _ (by simp [Program.fieldsOf, Tryz.underlying24]) Tryz.stoodInHeld24]
 have e0 : ∀ l : List UInt8, (bytes l).toList = l := fun l => toList_bytes l
 have e1 : (⟨#[]⟩ : ByteArray).toList = [] := toList_bytes []
 cases ng <;> cases D <;> cases E <;> simp [Program.fieldsOf, Tryz.underlying24, Op.eqFields, part, go_sem, e0, e1]
theorem evK_iff (L : Vo) : ∀ e : Bool, evK e L = true ↔ ∀ j h kids, L.at? j = some (h, kids) -> (if e = true then j % 2 = 0 else j % 2 = 1) -> h.k = 3 := by
 induction L with
 | nil => intro e; simp [evK, Vo.at?]
 | cons h0 kids0 rest _ ih =>
  intro e
  simp only [evK, Bool.and_eq_true, Bool.or_eq_true, Bool.not_eq_true', decide_eq_true_eq, ih]
  constructor
  ·rintro ⟨h1, h2⟩ j h kids hj hc
   cases j with
   | zero =>
    simp only [Vo.at?, Option.some.injEq, Prod.mk.injEq] at hj
    obtain ⟨rfl, rfl⟩ := hj
    rcases h1 with h1 | h1
    ·subst h1; simp at hc
    ·exact h1
   | succ j =>
    refine h2 j h kids hj ?_
    cases e
    ·simp at hc ⊢; omega
    ·simp at hc ⊢; omega
  ·intro H
   refine ⟨?_, fun j h kids hj hc => H (j + 1) h kids hj ?_⟩
   ·cases e
    ·exact .inl rfl
    ·exact .inr (H 0 h0 kids0 rfl (by simp))
   ·cases e
    ·simp at hc ⊢; omega
    ·simp at hc ⊢; omega
def RRV (h : Vh) (kids : Vo) : Prop :=
 ∀ (d : Nat) (w : World) (tv v mv : Value), d <= 1000 -> 1 + h.tx.length + h.ms.length + VoC kids <= 2097152 -> VoL 100000 (.cons h kids .nil) -> HdS w h tv mv -> VoS w v kids ->
  Calls Tryz.prog 33 #[.agg (vv h tv v mv), .int .i64 (d : Int)] w fun e w' => e = .returned (.bool (rightH h kids d)) /\ Below w.heap.size w w'
def earlyB (h : Vh) (n : Nat) : Bool := decide (h.fr < 0) || (decide (h.k ≠ 3) && decide (h.tx.length ≠ 0)) || (decide (h.k ≠ 4) && !nnum h) || (decide (¬ (h.k = 1 \/ h.k = 2)) && !nlist h n)
theorem rr_one (h : Vh) (kids : Vo) (RR0 : ∀ j h' kids', kids.at? j = some (h', kids') -> RRV h' kids') : RRV h kids := by
 intro d w tv v mv hd hC hL ht hv
 have b0 := LH ((Below.refl w.heap.size w).alloc (Nat.le_refl _) (.cells (vv h tv v mv) 27))
 have x0 := LH (VB.new w h tv v mv)
 have hVS := LH hv
 have hTS := LH ht
 have HR := LH (fun j h' kids' (hj : kids.at? j = some (h', kids')) (hd0 : 0 < d) W tv v mv ht hv => RR0 j h' kids' hj (d - 1) W tv v mv (by omega) (by have := voC_at kids j h' kids' hj; omega) (by obtain ⟨q1, q2⟩ := voL_at kids hL.2.1 j h' kids' hj; exact ⟨q1, q2, trivial⟩) ht hv)
 have hnC : kids.len <= 2097152 := by have := voC_len kids; omega
 have hmC : h.ms.length <= 2097152 := by omega
 have htC : h.tx.length <= 2097152 := by omega
 have RU := LH (fun W (hW : Below w.heap.size w W) => runits_any _ h.tx (M.rightU h.tx) W ((ht.t.is (fun _ h => h)).keep hW) (by omega) rfl)
 have RN := LH (fun W => refrightn_any h.ng h.dg h.ex (M.rightN h.dg h.ex) W (by have := hL.1.1; omega) (by have := hL.1.2; omega) rfl)
 have EN := LH (fun W => neqnum_zero h.ng h.dg h.ex W)
 obtain ⟨a, c, hvs⟩ := hv.slice
 obtain ⟨ta, tc, hts⟩ := ht.t.slice
 obtain ⟨ma', mc', hms', -, -, -, hmq⟩ := ht.m
 subst hvs hts hms'
 obtain ⟨W1, hW1⟩ : ∃ W, w.alloc (.cells (vv h (.slice ta h.tx.length tc) (.slice a kids.len c) (.slice ma' h.ms.length mc')) 27) = W := ⟨_, rfl⟩
 rw [hW1] at b0 x0
 have HW1 := LH hW1
 have HB := LH (show headB h kids.len d (marksB h kids.len && keysB h kids && rightVo kids (d - 1)) = (decide (0 <= h.fr) && (if h.k = 1 \/ h.k = 2 then decide (h.tx.length = 0) && nnum h && decide (0 < d) && (marksB h kids.len && keysB h kids && rightVo kids (d - 1))
  else if h.k = 3 then nnum h && nlist h kids.len && M.rightU h.tx
  else if h.k = 4 then decide (h.tx.length = 0) && nlist h kids.len && M.rightN h.dg h.ex
  else if h.k = 5 \/ h.k = 6 \/ h.k = 7 then decide (h.tx.length = 0) && nnum h && nlist h kids.len else false)) from rfl)
 have EB := LH (show earlyB h kids.len = (decide (h.fr < 0) || (decide (h.k ≠ 3) && decide (h.tx.length ≠ 0)) || (decide (h.k ≠ 4) && !nnum h) || (decide (¬ (h.k = 1 \/ h.k = 2)) && !nlist h kids.len)) from rfl)
 have NLE := LH (show nlist h kids.len = (decide (kids.len = 0) && decide (h.ms.length = 0) && decide (h.tt = 0)) from rfl)
 have MBE := LH (show marksB h kids.len = (decide (0 <= h.tt) && decide (h.ms.length = kids.len - 1) && h.ms.all (fun z => decide (0 <= z))) from rfl)
 have KBE := LH (show keysB h kids = (decide (h.k ≠ 1) || (evK true kids && decide (kids.len % 2 = 0))) from rfl)
 have EVI := LH (evK_iff kids true)
 have RVT := LH (rightVo_true (d - 1) kids)
 have RVF := LH (rightVo_false (d - 1) kids)
 obtain ⟨nn, hnn⟩ : ∃ b, nnum h = b := ⟨_, rfl⟩
 have EN2 := LH (fun W => (EN.out W).trans (by rw [show (!h.ng && h.dg.isEmpty && h.ex.isEmpty) = nnum h from rfl, hnn]))
 have HNN := LH hnn
 obtain ⟨nl, hnl⟩ : ∃ b, nlist h kids.len = b := ⟨_, rfl⟩
 have HNL := LH hnl
 obtain ⟨eb, heb⟩ : ∃ b, earlyB h kids.len = b := ⟨_, rfl⟩
 unfold rightH
 obtain ⟨ans, hans⟩ : ∃ b, headB h kids.len d (marksB h kids.len && keysB h kids && rightVo kids (d - 1)) = b := ⟨_, rfl⟩
 rw [hans, hnn, hnl] at HB
 rw [heb, hnn, hnl] at EB
 rw [hnl] at NLE
 rw [hans]
 obtain ⟨n, hn⟩ : ∃ n, kids.len = n := ⟨_, rfl⟩
 obtain ⟨mn, hmn⟩ : ∃ n, h.ms.length = n := ⟨_, rfl⟩
 obtain ⟨tn, htn⟩ : ∃ n, h.tx.length = n := ⟨_, rfl⟩
 have HN := LH hn
 have HM := LH hmn
 have HMQ := LH hmq
 have AT := LH (fun i (hi : i < n) => Vo.at_some kids i (by rw [hn]; exact hi))
 rw [hn] at NLE MBE KBE HB x0 HW1 hVS hnC ⊢
 rw [hmn] at NLE MBE x0 HW1 hmC ⊢
 rw [htn] at EB HB x0 HW1 htC ⊢
 rw [htn] at RU
 obtain ⟨g0, g1, g2, g3, g4, g5, g6, g7, g8⟩ := x0.out.cells
 obtain ⟨K, hK⟩ : ∃ x, h.k = x := ⟨_, rfl⟩
 obtain ⟨FR, hFR⟩ : ∃ x, h.fr = x := ⟨_, rfl⟩
 obtain ⟨TO, hTO⟩ : ∃ x, h.tt = x := ⟨_, rfl⟩
 rw [hK] at HB EB KBE g0
 rw [hFR] at HB EB g6
 rw [hTO] at NLE MBE g7
 have HKH := LH hK
 have EXP : Hid (vv h (.slice ta tn tc) (.slice a n c) (.slice ma' mn mc') = #[.int .i64 K, .slice ta tn tc, .bool h.ng, .string (bytes h.dg), .string (bytes h.ex), .slice a n c, .int .i64 FR, .int .i64 TO, .slice ma' mn mc']) := LH (by rw [<- hK, <- hFR, <- hTO]; rfl)
 have HW2 := LH HW1.out
 rw [EXP.out] at HW2 ⊢
 obtain ⟨D, hD⟩ : ∃ x, bytes h.dg = x := ⟨_, rfl⟩
 obtain ⟨E, hE⟩ : ∃ x, bytes h.ex = x := ⟨_, rfl⟩
 rw [hD] at g3 EN2 HW2 ⊢
 rw [hE] at g4 EN2 HW2 ⊢
 have HD := LH hD
 have HE := LH hE
 clear hnn hnl heb hans hn hmn htn hmq hW1 hK hFR hTO hD hE hv ht hC hL RR0 EN HW1
 obtain ⟨km, hkm⟩ : ∃ b, decide (K = 1 \/ K = 2) = b := ⟨_, rfl⟩
 have HKM := LH hkm
 clear hkm
 go_enter Tryz.func33, Tryz.ntmps33
 go_upto_region 1 with fail
 rw [HW2.out]
 go_cut [5] (fun q wx => q = .bool km /\ W1 = wx)
 case first =>
  have hkm := HKM.out
  by_cases k1 : K = 1
  ·subst k1
   have hq : km = true := by rw [<- hkm]; simp
   subst hq
   clear hkm
   go_wp2
   go_meet
   case rel => exact ⟨rfl, rfl⟩
  ·have t1 : (K == 1) = false := by simpa using k1
   by_cases k2 : K = 2
   ·subst k2
    have hq : km = true := by rw [<- hkm]; simp
    subst hq
    clear hkm
    go_wp2
    go_meet
    case rel => exact ⟨rfl, rfl⟩
   ·have t2 : (K == 2) = false := by simpa using k2
    have hq : km = false := by rw [<- hkm]; simp [k1, k2]
    subst hq
    clear hkm
    go_wp2
    go_meet
    case rel => exact ⟨rfl, rfl⟩
 case rest =>
 obtain ⟨rfl, rfl⟩ := hcut
 have eq12 : True := trivial
 go_upto_region 2 with fail
 go_cut [63] (fun q wx => q = .bool eb /\ W1 = wx)
 case first =>
  clear HB MBE KBE RVT RVF EVI AT HMQ HR RU RN hVS hTS
  by_cases f0 : FR < 0
  ·have hq : eb = true := by rw [EB.out]; simp [f0]
   subst hq
   clear EB
   go_wp2
   go_meet
   case rel => exact ⟨rfl, rfl⟩
  have f1 : decide (FR < 0) = false := by simp; omega
  by_cases k3 : K = 3
  ·subst k3
   have hq0 : km = false := by rw [<- HKM.out]; simp
   subst hq0
   cases hnb : nn with
   | false =>
    have q : ∀ W, (binOp .neq 24 (.agg #[.bool h.ng, .string D, .string E]) (.agg #[.bool false, .string ⟨#[]⟩, .string ⟨#[]⟩])).run Tryz.prog W = .ok (.bool true) W := fun W => by rw [EN2.out W, hnb]; rfl
    subst hnb
    have hq : eb = true := by rw [EB.out]; simp
    subst hq
    clear EB
    go_wp2
    go_meet
    case rel => exact ⟨rfl, rfl⟩
   | true =>
    have q : ∀ W, (binOp .neq 24 (.agg #[.bool h.ng, .string D, .string E]) (.agg #[.bool false, .string ⟨#[]⟩, .string ⟨#[]⟩])).run Tryz.prog W = .ok (.bool false) W := fun W => by rw [EN2.out W, hnb]; rfl
    subst hnb
    by_cases n0 : n = 0
    case neg =>
     have t5 : decide ((0 : Int) < n) = true := by simp; omega
     have t6 : (0 : Int) < n := by omega
     have hl : nl = false := by rw [NLE.out]; simp [n0]
     subst hl
     have hq : eb = true := by rw [EB.out]; simp [f1, f0]
     subst hq
     clear EB
     go_wp2
     go_meet
     case rel => exact ⟨rfl, rfl⟩
    subst n0
    by_cases m0 : mn = 0
    case neg =>
     have t6 : (0 : Int) < mn := by omega
     have hl : nl = false := by rw [NLE.out]; simp [m0]
     subst hl
     have hq : eb = true := by rw [EB.out]; simp [f1, f0]
     subst hq
     clear EB
     go_wp2
     go_meet
     case rel => exact ⟨rfl, rfl⟩
    subst m0
    by_cases t0 : TO = 0
    case neg =>
     have t6 : (TO == 0) = false := by simpa using t0
     have t7 : (TO != 0) = true := by simpa using t0
     have hl : nl = false := by rw [NLE.out]; simp [t0]
     subst hl
     have hq : eb = true := by rw [EB.out]; simp [f1, f0]
     subst hq
     clear EB
     go_wp2
     go_meet
     case rel => exact ⟨rfl, rfl⟩
    subst t0
    have hl : nl = true := by rw [NLE.out]; simp
    subst hl
    have hq : eb = false := by rw [EB.out]; simp [f1, f0]
    subst hq
    clear EB
    go_wp2
    go_meet
    case rel => exact ⟨rfl, rfl⟩
  have k3b : (K == 3) = false := by simpa using k3
  have k3c : (K != 3) = true := by simpa using k3
  by_cases t0 : tn = 0
  case neg =>
   have t6 : (0 : Int) < tn := by omega
   have hq : eb = true := by rw [EB.out]; simp [k3, t0]
   subst hq
   clear EB
   go_wp2
   go_meet
   case rel => exact ⟨rfl, rfl⟩
  subst t0
  by_cases k4 : K = 4
  ·subst k4
   have hq0 : km = false := by rw [<- HKM.out]; simp
   subst hq0
   by_cases n0 : n = 0
   case neg =>
    have t5 : decide ((0 : Int) < n) = true := by simp; omega
    have t6 : (0 : Int) < n := by omega
    have hl : nl = false := by rw [NLE.out]; simp [n0]
    subst hl
    have hq : eb = true := by rw [EB.out]; simp [f1, f0]
    subst hq
    clear EB
    go_wp2
    go_meet
    case rel => exact ⟨rfl, rfl⟩
   subst n0
   by_cases m0 : mn = 0
   case neg =>
    have t6 : (0 : Int) < mn := by omega
    have hl : nl = false := by rw [NLE.out]; simp [m0]
    subst hl
    have hq : eb = true := by rw [EB.out]; simp [f1, f0]
    subst hq
    clear EB
    go_wp2
    go_meet
    case rel => exact ⟨rfl, rfl⟩
   subst m0
   by_cases t0 : TO = 0
   case neg =>
    have t6 : (TO == 0) = false := by simpa using t0
    have t7 : (TO != 0) = true := by simpa using t0
    have hl : nl = false := by rw [NLE.out]; simp [t0]
    subst hl
    have hq : eb = true := by rw [EB.out]; simp [f1, f0]
    subst hq
    clear EB
    go_wp2
    go_meet
    case rel => exact ⟨rfl, rfl⟩
   subst t0
   have hl : nl = true := by rw [NLE.out]; simp
   subst hl
   have hq : eb = false := by rw [EB.out]; simp [f1, f0]
   subst hq
   clear EB
   go_wp2
   go_meet
   case rel => exact ⟨rfl, rfl⟩
  have k4b : (K == 4) = false := by simpa using k4
  have k4c : (K != 4) = true := by simpa using k4
  cases hnb : nn with
  | false =>
   have q : ∀ W, (binOp .neq 24 (.agg #[.bool h.ng, .string D, .string E]) (.agg #[.bool false, .string ⟨#[]⟩, .string ⟨#[]⟩])).run Tryz.prog W = .ok (.bool true) W := fun W => by rw [EN2.out W, hnb]; rfl
   subst hnb
   have hq : eb = true := by rw [EB.out]; simp [k4]
   subst hq
   clear EB
   go_wp2
   go_meet
   case rel => exact ⟨rfl, rfl⟩
  | true =>
   have q : ∀ W, (binOp .neq 24 (.agg #[.bool h.ng, .string D, .string E]) (.agg #[.bool false, .string ⟨#[]⟩, .string ⟨#[]⟩])).run Tryz.prog W = .ok (.bool false) W := fun W => by rw [EN2.out W, hnb]; rfl
   subst hnb
   by_cases k12 : K = 1 \/ K = 2
   ·have hq0 : km = true := by rw [<- HKM.out]; simpa using k12
    subst hq0
    have hq : eb = false := by rw [EB.out]; simp [f0, k12]
    subst hq
    clear EB k3 k4 f0 k12
    go_wp2
    go_meet
    case rel => exact ⟨rfl, rfl⟩
   ·have hq0 : km = false := by rw [<- HKM.out]; simpa using k12
    subst hq0
    by_cases n0 : n = 0
    case neg =>
     have t5 : decide ((0 : Int) < n) = true := by simp; omega
     have t6 : (0 : Int) < n := by omega
     have hl : nl = false := by rw [NLE.out]; simp [n0]
     subst hl
     have hq : eb = true := by rw [EB.out]; simp [f1, f0, k12]
     subst hq
     clear EB
     go_wp2
     go_meet
     case rel => exact ⟨rfl, rfl⟩
    subst n0
    by_cases m0 : mn = 0
    case neg =>
     have t6 : (0 : Int) < mn := by omega
     have hl : nl = false := by rw [NLE.out]; simp [m0]
     subst hl
     have hq : eb = true := by rw [EB.out]; simp [f1, f0, k12]
     subst hq
     clear EB
     go_wp2
     go_meet
     case rel => exact ⟨rfl, rfl⟩
    subst m0
    by_cases t0 : TO = 0
    case neg =>
     have t6 : (TO == 0) = false := by simpa using t0
     have t7 : (TO != 0) = true := by simpa using t0
     have hl : nl = false := by rw [NLE.out]; simp [t0]
     subst hl
     have hq : eb = true := by rw [EB.out]; simp [f1, f0, k12]
     subst hq
     clear EB
     go_wp2
     go_meet
     case rel => exact ⟨rfl, rfl⟩
    subst t0
    have hl : nl = true := by rw [NLE.out]; simp
    subst hl
    have hq : eb = false := by rw [EB.out]; simp [f1, f0, k12]
    subst hq
    clear EB
    go_wp2
    go_meet
    case rel => exact ⟨rfl, rfl⟩
 case rest =>
 obtain ⟨rfl, rfl⟩ := hcut
 cases eb with
 | true =>
  have hf : ans = false := by
   rw [HB.out]
   have he := EB.out.symm
   simp only [Bool.or_eq_true, Bool.and_eq_true, decide_eq_true_eq, Bool.not_eq_true'] at he
   rcases he with ((h1 | ⟨h1, h2⟩) | ⟨h1, h2⟩) | ⟨h1, h2⟩
   ·rw [show decide (0 <= FR) = false by simp; omega]; rfl
   ·simp [h1, h2]
   ·simp [h1, h2]
   ·simp [h1, h2]
  subst hf
  clear HB EB
  go_wp2
  go_ret
  exact ⟨rfl, b0.out⟩
 | false =>
 have he := EB.out.symm
 simp only [Bool.or_eq_false_iff, Bool.and_eq_false_iff, decide_eq_false_iff_not, Bool.not_eq_false'] at he
 obtain ⟨⟨⟨h1, h2⟩, h3⟩, h4⟩ := he
 have hfr : decide (0 <= FR) = true := by simp; omega
 have HB2 := HB.out
 rw [hfr, Bool.true_and] at HB2
 clear HB EB hfr
 go_upto_region 4 with fail
 by_cases k12 : K = 1 \/ K = 2
 ·rw [if_pos k12] at HB2
  have e2 : decide (tn = 0) = true := by rcases h2 with h2 | h2 <;> simp at h2 ⊢ <;> omega
  have e3 : nn = true := by
   rcases h3 with h3 | h3
   ·simp at h3; omega
   ·exact h3
  rw [e2, e3, Bool.true_and, Bool.true_and] at HB2
  have HA := LH HB2
  have HKK := HKH
  clear HB2 h1 h2 h3 h4 e2 e3 RU RN NLE
  rcases k12 with rfl | rfl
  ·as_aux_lemma =>
    have KE := KBE.out
    rw [show decide ((1 : Int) ≠ 1) = false by simp, Bool.false_or] at KE
    rcases Nat.mod_two_eq_zero_or_one n with hm2 | hm2
    case inr =>
     have hf : ans = false := by rw [HA.out, KE, show decide (n % 2 = 0) = false by simp [hm2]]; simp
     have j3 : (n : Int).tmod 2 = 1 := by rw [Int.tmod_eq_emod_of_nonneg (by omega)]; omega
     subst hf
     clear hm2 KE
     go_wp2
     go_ret
     exact ⟨rfl, b0.out⟩
    have j3 : (n : Int).tmod 2 = 0 := by rw [Int.tmod_eq_emod_of_nonneg (by omega)]; omega
    have KE2 := LH (KE.trans (show (evK true kids && decide (n % 2 = 0)) = evK true kids by rw [show decide (n % 2 = 0) = true by simp [hm2], Bool.and_true]))
    clear KE hm2
    go_upto_if 97 with fail
    go_cut [7] (fun q wx => q = .int .i64 ((n - 1 : Nat) : Int) /\ W1 = wx)
    case first =>
     rcases Nat.eq_zero_or_pos n with n0 | n0
     ·subst n0
      go_wp2
      go_meet
      case rel => exact ⟨rfl, rfl⟩
     ·have n1 : ((n : Int) == 0) = false := by simp; omega
      have n2 : ((n - 1 : Nat) : Int) = (n : Int) - 1 := by omega
      have HN2 := LH n2
      clear n2
      go_wp2
      go_meet
      case rel => exact ⟨by rw [HN2.out], rfl⟩
    case rest =>
    obtain ⟨rfl, rfl⟩ := hcut
    obtain ⟨q, hq⟩ : ∃ q, n - 1 = q := ⟨_, rfl⟩
    rw [hq]
    rw [hq] at MBE
    have HQ := LH hq
    clear hq
    by_cases hd0 : 0 < d
    case neg =>
     have hf : ans = false := by rw [HA.out, show decide (0 < d) = false by simpa using hd0]; simp
     have t1 : (d : Int) <= 0 := by omega
     subst hf
     go_wp2
     go_ret
     exact ⟨rfl, b0.out⟩
    have t1 : ¬ (d : Int) <= 0 := by omega
    by_cases hto : TO < 0
    ·have hf : ans = false := by rw [HA.out, MBE.out, show decide (0 <= TO) = false by simp; omega]; simp
     subst hf
     go_wp2
     go_ret
     exact ⟨rfl, b0.out⟩
    by_cases hmq : mn = q
    case neg =>
     have hf : ans = false := by rw [HA.out, MBE.out, show decide (mn = q) = false by simpa using hmq]; simp
     have t2 : ((mn : Int) == (q : Int)) = false := by simp; omega
     have t3 : ((mn : Int) != (q : Int)) = true := by simp; omega
     subst hf
     clear hmq
     go_wp2
     go_ret
     exact ⟨rfl, b0.out⟩
    subst hmq
    have MB2 := LH (MBE.out.trans (show (decide (0 <= TO) && decide (mn = mn) && h.ms.all (fun z => decide (0 <= z))) = h.ms.all (fun z => decide (0 <= z)) by rw [show decide (0 <= TO) = true by simp; omega, show decide (mn = mn) = true by simp]; rfl))
    have HA2 := LH (HA.out.trans (show (decide (0 < d) && (marksB h n && keysB h kids && rightVo kids (d - 1))) = (marksB h n && keysB h kids && rightVo kids (d - 1)) by rw [show decide (0 < d) = true by simpa using hd0, Bool.true_and]))
    clear HA MBE
    go_upto_region 25 with fail
    go_loop [8] (fun iv => ∃ j : Nat, iv = .int .i64 (j : Int) /\ j <= mn /\ ∀ i (hi : i < h.ms.length), i < j -> 0 <= h.ms[i]) (fun iv => mn - (intOf iv).toNat)
    case atStart => exact ⟨0, rfl, by omega, fun i _ h => by omega⟩
    case round =>
     obtain ⟨j, rfl, hj, hok⟩ := hrel
     have HOK := LH hok
     clear hok
     by_cases hlt : j < mn
     ·obtain ⟨b, off, rfl, hbk, hcc⟩ := HMQ.out (by rw [HM.out]; omega)
      have hjl : j < h.ms.length := by rw [HM.out]; exact hlt
      have c0 := (b0.out.cell (p := ⟨b, off + j, none⟩) hbk).trans (hcc j hjl)
      have HB1 := LH (all_badB h.ms j hjl)
      have HOK2 := LH (fun (hz : 0 <= h.ms[j]) i (hi : i < h.ms.length) (hij : i < j + 1) => (by
       rcases Nat.lt_succ_iff_lt_or_eq.1 hij with h' | rfl
       ·exact HOK.out i hi h'
       ·exact hz : 0 <= h.ms[i]))
      obtain ⟨z, hz⟩ : ∃ z, h.ms[j] = z := ⟨_, rfl⟩
      rw [hz] at c0 HB1 HOK2
      have j0 : (0 : Int) <= j := by omega
      have j1 : (j : Int) < mn := by omega
      clear hz hcc hjl
      by_cases hz0 : z < 0
      ·have hf : ans = false := by rw [HA2.out, MB2.out, HB1.out hz0]; rfl
       subst hf
       go_wp2
       go_ret
       exact ⟨rfl, b0.out⟩
      ·have H3 := LH (HOK2.out (by omega))
       clear HOK2
       go_wp2
       go_round
       case rel => exact ⟨j + 1, by go_num, by omega, H3.out⟩
       case measure => simp [intOf]; omega
     ·obtain rfl : j = mn := by omega
      have hal : h.ms.all (fun z => decide (0 <= z)) = true := (all_takeB h.ms).2 fun i hi => HOK.out i hi (by have := HM.out; omega)
      have HA3 := LH (HA2.out.trans (show (marksB h n && keysB h kids && rightVo kids (d - 1)) = (keysB h kids && rightVo kids (d - 1)) by rw [MB2.out, hal]; rfl))
      have FALL : Hid (rightVo kids (d - 1) = false -> ans = false) := LH (fun e => by rw [HA3.out, e, Bool.and_false])
      have hdc : ((d - 1 : Nat) : Int) = (d : Int) - 1 := by omega
      clear hal HA2 MB2 HOK
      have t9 : ¬ (j : Int) < j := by omega
      go_upto_region 30 with fail
      go_loopw [9] (fun iv wr => ∃ i : Nat, iv = .int .i64 (i : Int) /\ i <= n /\ (∀ j h' kids', j < i -> kids.at? j = some (h', kids') -> rightH h' kids' (d - 1) = true) /\ (∀ j h' kids', j < i -> j % 2 = 0 -> kids.at? j = some (h', kids') -> h'.k = 3) /\ Below W1.heap.size W1 wr) (fun iv _ => n - (intOf iv).toNat)
      case atStart => exact ⟨0, rfl, by omega, fun j _ _ h => by omega, fun j _ _ h => by omega, Below.refl _ _⟩
      case round =>
       obtain ⟨i, rfl, hi, ok1, ok2, hb⟩ := hrel
       have BR := LH hb
       have B1 := LH (b0.out.trans (hb.mono b0.out.size))
       have OK1 := LH ok1
       have OK2 := LH ok2
       obtain ⟨g0, g1, g2, g3, g4, g5, g6, g7, g8⟩ := (x0.out.keep hb).cells
       rw [HKK.out] at g0
       clear hb ok1 ok2 g1 g2 g3 g4 g6 g7 g8
       by_cases hlt : i < n
       ·obtain ⟨h', kids', hat⟩ := AT.out i hlt
        obtain ⟨a', c', e', -, -, -, hq⟩ := hVS.out
        rw [HN.out] at e' hq
        simp only [Value.slice.injEq] at e'
        obtain ⟨rfl, -, rfl⟩ := e'
        obtain ⟨b, off, rfl, hbk, hfo⟩ := hq (by omega)
        obtain ⟨tv', mv', u, hd', hr, hu⟩ := voAt_get kids b off i h' kids' hfo hat
        have hrr := LH (range_same hr (B1.out.block b hbk))
        have c0 := hrr.out 0 _ rfl
        rw [Nat.add_zero] at c0
        have hdt := LH hd'
        have hut := LH hu
        have HAT := LH hat
        have j0 : (0 : Int) <= i := by omega
        have j1 : (i : Int) < n := by omega
        clear hat hfo hr hd' hu hq
        rcases Nat.mod_two_eq_zero_or_one i with hm | hm
        ·have m3 : (i : Int).tmod 2 = 0 := by rw [Int.tmod_eq_emod_of_nonneg (by omega)]; omega
         have HMi := LH hm
         clear hm
         by_cases hk3 : h'.k = 3
         ·have HK3 := LH hk3
          rw [hk3] at c0
          clear hk3
          have R1 := LH (HR.out i h' kids' HAT.out hd0 wr tv' u mv' (hdt.out.below B1.out) (hut.out.below B1.out))
          unfold vv vvl at R1
          rw [HK3.out] at R1
          have c1 := hrr.out 1 _ rfl
          have c2 := hrr.out 2 _ rfl
          have c3 := hrr.out 3 _ rfl
          have c4 := hrr.out 4 _ rfl
          have c5 := hrr.out 5 _ rfl
          have c6 := hrr.out 6 _ rfl
          have c7 := hrr.out 7 _ rfl
          have c8 := hrr.out 8 _ rfl
          rw [hdc] at R1
          cases hrb : rightH h' kids' (d - 1) with
          | true =>
           rw [hrb] at R1
           have HRB := LH hrb
           clear hrb
           go_wp2_with fail
           refine R1.out.mono ?_
           rintro e w4 ⟨rfl, hb4⟩
           have d4 := BR.out.trans (hb4.mono BR.out.size)
           clear hb4
           go_wp2
           go_roundw
           case rel =>
            refine ⟨i + 1, by go_num, by omega, fun j h'' k'' hj e => ?_, fun j h'' k'' hj hj2 e => ?_, d4⟩
            ·rcases Nat.lt_succ_iff_lt_or_eq.1 hj with hj | rfl
             ·exact OK1.out j h'' k'' hj e
             ·rw [HAT.out] at e
              simp only [Option.some.injEq, Prod.mk.injEq] at e
              obtain ⟨rfl, rfl⟩ := e
              exact HRB.out
            ·rcases Nat.lt_succ_iff_lt_or_eq.1 hj with hj | rfl
             ·exact OK2.out j h'' k'' hj hj2 e
             ·rw [HAT.out] at e
              simp only [Option.some.injEq, Prod.mk.injEq] at e
              obtain ⟨rfl, rfl⟩ := e
              exact HK3.out
           case measure => simp [intOf]; omega
          | false =>
           rw [hrb] at R1
           have hf := FALL.out (RVF.out i h' kids' HAT.out hrb)
           subst hf
           clear hrb
           go_wp2_with fail
           refine R1.out.mono ?_
           rintro e w4 ⟨rfl, hb4⟩
           have d4 := B1.out.trans (hb4.mono B1.out.size)
           clear hb4
           go_wp2
           go_ret
           exact ⟨rfl, d4⟩
         ·have hf : ans = false := by
           have : evK true kids = false := by
            cases hb : evK true kids with
            | false => rfl
            | true => exact absurd (EVI.out.1 hb i h' kids' HAT.out (by simpa using HMi.out)) hk3
           rw [HA3.out, KE2.out, this]; rfl
          obtain ⟨K', hK'⟩ : ∃ x, h'.k = x := ⟨_, rfl⟩
          rw [hK'] at c0 hk3
          have t3 : (K' == 3) = false := by simpa using hk3
          have t4 : (K' != 3) = true := by simpa using hk3
          subst hf
          clear hK' hk3
          go_wp2
          go_ret
          exact ⟨rfl, B1.out⟩
        ·have m3 : (i : Int).tmod 2 = 1 := by rw [Int.tmod_eq_emod_of_nonneg (by omega)]; omega
         have HMi := LH hm
         clear hm
         have R1 := LH (HR.out i h' kids' HAT.out hd0 wr tv' u mv' (hdt.out.below B1.out) (hut.out.below B1.out))
         unfold vv vvl at R1
         have c1 := hrr.out 1 _ rfl
         have c2 := hrr.out 2 _ rfl
         have c3 := hrr.out 3 _ rfl
         have c4 := hrr.out 4 _ rfl
         have c5 := hrr.out 5 _ rfl
         have c6 := hrr.out 6 _ rfl
         have c7 := hrr.out 7 _ rfl
         have c8 := hrr.out 8 _ rfl
         rw [hdc] at R1
         cases hrb : rightH h' kids' (d - 1) with
         | true =>
          rw [hrb] at R1
          have HRB := LH hrb
          clear hrb
          go_wp2_with fail
          refine R1.out.mono ?_
          rintro e w4 ⟨rfl, hb4⟩
          have d4 := BR.out.trans (hb4.mono BR.out.size)
          clear hb4
          go_wp2
          go_roundw
          case rel =>
           refine ⟨i + 1, by go_num, by omega, fun j h'' k'' hj e => ?_, fun j h'' k'' hj hj2 e => ?_, d4⟩
           ·rcases Nat.lt_succ_iff_lt_or_eq.1 hj with hj | rfl
            ·exact OK1.out j h'' k'' hj e
            ·rw [HAT.out] at e
             simp only [Option.some.injEq, Prod.mk.injEq] at e
             obtain ⟨rfl, rfl⟩ := e
             exact HRB.out
           ·rcases Nat.lt_succ_iff_lt_or_eq.1 hj with hj | rfl
            ·exact OK2.out j h'' k'' hj hj2 e
            ·rw [HAT.out] at e
             simp only [Option.some.injEq, Prod.mk.injEq] at e
             obtain ⟨rfl, rfl⟩ := e
             have := HMi.out; omega
          case measure => simp [intOf]; omega
         | false =>
          rw [hrb] at R1
          have hf := FALL.out (RVF.out i h' kids' HAT.out hrb)
          subst hf
          clear hrb
          go_wp2_with fail
          refine R1.out.mono ?_
          rintro e w4 ⟨rfl, hb4⟩
          have d4 := B1.out.trans (hb4.mono B1.out.size)
          clear hb4
          go_wp2
          go_ret
          exact ⟨rfl, d4⟩
       ·obtain rfl : i = n := by omega
        have hrv : rightVo kids (d - 1) = true := RVT.out fun j h' kids' e => OK1.out j h' kids' (by have := vo_at_lt kids j e; have := HN.out; omega) e
        have hky : keysB h kids = true := by
         rw [KE2.out]
         exact EVI.out.2 fun j h' kids' e hc => OK2.out j h' kids' (by have := vo_at_lt kids j e; have := HN.out; omega) (by simpa using hc) e
        have hf : ans = true := by rw [HA3.out, hrv, hky]; rfl
        subst hf
        have t8 : ¬ (i : Int) < i := by omega
        clear hrv hky
        go_wp2
        go_ret
        exact ⟨rfl, B1.out⟩
  ·as_aux_lemma =>
    have KE2 := LH (KBE.out.trans (show (decide ((2 : Int) ≠ 1) || (evK true kids && decide (n % 2 = 0))) = true by simp))
    go_upto_if 97 with fail
    go_cut [7] (fun q wx => q = .int .i64 ((n - 1 : Nat) : Int) /\ W1 = wx)
    case first =>
     rcases Nat.eq_zero_or_pos n with n0 | n0
     ·subst n0
      go_wp2
      go_meet
      case rel => exact ⟨rfl, rfl⟩
     ·have n1 : ((n : Int) == 0) = false := by simp; omega
      have n2 : ((n - 1 : Nat) : Int) = (n : Int) - 1 := by omega
      have HN2 := LH n2
      clear n2
      go_wp2
      go_meet
      case rel => exact ⟨by rw [HN2.out], rfl⟩
    case rest =>
    obtain ⟨rfl, rfl⟩ := hcut
    obtain ⟨q, hq⟩ : ∃ q, n - 1 = q := ⟨_, rfl⟩
    rw [hq]
    rw [hq] at MBE
    have HQ := LH hq
    clear hq
    by_cases hd0 : 0 < d
    case neg =>
     have hf : ans = false := by rw [HA.out, show decide (0 < d) = false by simpa using hd0]; simp
     have t1 : (d : Int) <= 0 := by omega
     subst hf
     go_wp2
     go_ret
     exact ⟨rfl, b0.out⟩
    have t1 : ¬ (d : Int) <= 0 := by omega
    by_cases hto : TO < 0
    ·have hf : ans = false := by rw [HA.out, MBE.out, show decide (0 <= TO) = false by simp; omega]; simp
     subst hf
     go_wp2
     go_ret
     exact ⟨rfl, b0.out⟩
    by_cases hmq : mn = q
    case neg =>
     have hf : ans = false := by rw [HA.out, MBE.out, show decide (mn = q) = false by simpa using hmq]; simp
     have t2 : ((mn : Int) == (q : Int)) = false := by simp; omega
     have t3 : ((mn : Int) != (q : Int)) = true := by simp; omega
     subst hf
     clear hmq
     go_wp2
     go_ret
     exact ⟨rfl, b0.out⟩
    subst hmq
    have MB2 := LH (MBE.out.trans (show (decide (0 <= TO) && decide (mn = mn) && h.ms.all (fun z => decide (0 <= z))) = h.ms.all (fun z => decide (0 <= z)) by rw [show decide (0 <= TO) = true by simp; omega, show decide (mn = mn) = true by simp]; rfl))
    have HA2 := LH (HA.out.trans (show (decide (0 < d) && (marksB h n && keysB h kids && rightVo kids (d - 1))) = (marksB h n && keysB h kids && rightVo kids (d - 1)) by rw [show decide (0 < d) = true by simpa using hd0, Bool.true_and]))
    clear HA MBE
    go_upto_region 25 with fail
    go_loop [8] (fun iv => ∃ j : Nat, iv = .int .i64 (j : Int) /\ j <= mn /\ ∀ i (hi : i < h.ms.length), i < j -> 0 <= h.ms[i]) (fun iv => mn - (intOf iv).toNat)
    case atStart => exact ⟨0, rfl, by omega, fun i _ h => by omega⟩
    case round =>
     obtain ⟨j, rfl, hj, hok⟩ := hrel
     have HOK := LH hok
     clear hok
     by_cases hlt : j < mn
     ·obtain ⟨b, off, rfl, hbk, hcc⟩ := HMQ.out (by rw [HM.out]; omega)
      have hjl : j < h.ms.length := by rw [HM.out]; exact hlt
      have c0 := (b0.out.cell (p := ⟨b, off + j, none⟩) hbk).trans (hcc j hjl)
      have HB1 := LH (all_badB h.ms j hjl)
      have HOK2 := LH (fun (hz : 0 <= h.ms[j]) i (hi : i < h.ms.length) (hij : i < j + 1) => (by
       rcases Nat.lt_succ_iff_lt_or_eq.1 hij with h' | rfl
       ·exact HOK.out i hi h'
       ·exact hz : 0 <= h.ms[i]))
      obtain ⟨z, hz⟩ : ∃ z, h.ms[j] = z := ⟨_, rfl⟩
      rw [hz] at c0 HB1 HOK2
      have j0 : (0 : Int) <= j := by omega
      have j1 : (j : Int) < mn := by omega
      clear hz hcc hjl
      by_cases hz0 : z < 0
      ·have hf : ans = false := by rw [HA2.out, MB2.out, HB1.out hz0]; rfl
       subst hf
       go_wp2
       go_ret
       exact ⟨rfl, b0.out⟩
      ·have H3 := LH (HOK2.out (by omega))
       clear HOK2
       go_wp2
       go_round
       case rel => exact ⟨j + 1, by go_num, by omega, H3.out⟩
       case measure => simp [intOf]; omega
     ·obtain rfl : j = mn := by omega
      have hal : h.ms.all (fun z => decide (0 <= z)) = true := (all_takeB h.ms).2 fun i hi => HOK.out i hi (by have := HM.out; omega)
      have HA3 := LH (HA2.out.trans (show (marksB h n && keysB h kids && rightVo kids (d - 1)) = (keysB h kids && rightVo kids (d - 1)) by rw [MB2.out, hal]; rfl))
      have FALL : Hid (rightVo kids (d - 1) = false -> ans = false) := LH (fun e => by rw [HA3.out, e, Bool.and_false])
      have hdc : ((d - 1 : Nat) : Int) = (d : Int) - 1 := by omega
      clear hal HA2 MB2 HOK
      have t9 : ¬ (j : Int) < j := by omega
      go_upto_region 30 with fail
      go_loopw [9] (fun iv wr => ∃ i : Nat, iv = .int .i64 (i : Int) /\ i <= n /\ (∀ j h' kids', j < i -> kids.at? j = some (h', kids') -> rightH h' kids' (d - 1) = true) /\ (∀ j h' kids', j < i -> j % 2 = 0 -> kids.at? j = some (h', kids') -> True) /\ Below W1.heap.size W1 wr) (fun iv _ => n - (intOf iv).toNat)
      case atStart => exact ⟨0, rfl, by omega, fun j _ _ h => by omega, fun j _ _ h => by omega, Below.refl _ _⟩
      case round =>
       obtain ⟨i, rfl, hi, ok1, ok2, hb⟩ := hrel
       have BR := LH hb
       have B1 := LH (b0.out.trans (hb.mono b0.out.size))
       have OK1 := LH ok1
       have OK2 := LH ok2
       obtain ⟨g0, g1, g2, g3, g4, g5, g6, g7, g8⟩ := (x0.out.keep hb).cells
       rw [HKK.out] at g0
       clear hb ok1 ok2 g1 g2 g3 g4 g6 g7 g8
       by_cases hlt : i < n
       ·obtain ⟨h', kids', hat⟩ := AT.out i hlt
        obtain ⟨a', c', e', -, -, -, hq⟩ := hVS.out
        rw [HN.out] at e' hq
        simp only [Value.slice.injEq] at e'
        obtain ⟨rfl, -, rfl⟩ := e'
        obtain ⟨b, off, rfl, hbk, hfo⟩ := hq (by omega)
        obtain ⟨tv', mv', u, hd', hr, hu⟩ := voAt_get kids b off i h' kids' hfo hat
        have hrr := LH (range_same hr (B1.out.block b hbk))
        have c0 := hrr.out 0 _ rfl
        rw [Nat.add_zero] at c0
        have hdt := LH hd'
        have hut := LH hu
        have HAT := LH hat
        have j0 : (0 : Int) <= i := by omega
        have j1 : (i : Int) < n := by omega
        clear hat hfo hr hd' hu hq
        have R1 := LH (HR.out i h' kids' HAT.out hd0 wr tv' u mv' (hdt.out.below B1.out) (hut.out.below B1.out))
        unfold vv vvl at R1
        have c1 := hrr.out 1 _ rfl
        have c2 := hrr.out 2 _ rfl
        have c3 := hrr.out 3 _ rfl
        have c4 := hrr.out 4 _ rfl
        have c5 := hrr.out 5 _ rfl
        have c6 := hrr.out 6 _ rfl
        have c7 := hrr.out 7 _ rfl
        have c8 := hrr.out 8 _ rfl
        rw [hdc] at R1
        cases hrb : rightH h' kids' (d - 1) with
        | true =>
         rw [hrb] at R1
         have HRB := LH hrb
         clear hrb
         go_wp2_with fail
         refine R1.out.mono ?_
         rintro e w4 ⟨rfl, hb4⟩
         have d4 := BR.out.trans (hb4.mono BR.out.size)
         clear hb4
         go_wp2
         go_roundw
         case rel =>
          refine ⟨i + 1, by go_num, by omega, fun j h'' k'' hj e => ?_, fun j h'' k'' hj hj2 e => ?_, d4⟩
          ·rcases Nat.lt_succ_iff_lt_or_eq.1 hj with hj | rfl
           ·exact OK1.out j h'' k'' hj e
           ·rw [HAT.out] at e
            simp only [Option.some.injEq, Prod.mk.injEq] at e
            obtain ⟨rfl, rfl⟩ := e
            exact HRB.out
          ·rcases Nat.lt_succ_iff_lt_or_eq.1 hj with hj | rfl
           ·exact OK2.out j h'' k'' hj hj2 e
           ·rw [HAT.out] at e
            simp only [Option.some.injEq, Prod.mk.injEq] at e
            obtain ⟨rfl, rfl⟩ := e
            trivial
         case measure => simp [intOf]; omega
        | false =>
         rw [hrb] at R1
         have hf := FALL.out (RVF.out i h' kids' HAT.out hrb)
         subst hf
         clear hrb
         go_wp2_with fail
         refine R1.out.mono ?_
         rintro e w4 ⟨rfl, hb4⟩
         have d4 := B1.out.trans (hb4.mono B1.out.size)
         clear hb4
         go_wp2
         go_ret
         exact ⟨rfl, d4⟩
       ·obtain rfl : i = n := by omega
        have hrv : rightVo kids (d - 1) = true := RVT.out fun j h' kids' e => OK1.out j h' kids' (by have := vo_at_lt kids j e; have := HN.out; omega) e
        have hky : keysB h kids = true := by
         exact KE2.out
        have hf : ans = true := by rw [HA3.out, hrv, hky]; rfl
        subst hf
        have t8 : ¬ (i : Int) < i := by omega
        clear hrv hky
        go_wp2
        go_ret
        exact ⟨rfl, B1.out⟩
 rw [if_neg k12] at HB2
 have q1 : (K == 1) = false := by simp; omega
 have q2 : (K == 2) = false := by simp; omega
 have e4 : nl = true := by
  rcases h4 with h4 | h4
  ·simp at h4; omega
  ·exact h4
 subst e4
 by_cases k3 : K = 3
 ·subst k3
  rw [if_pos rfl] at HB2
  have e3 : nn = true := by
   rcases h3 with h3 | h3
   ·simp at h3
   ·exact h3
  rw [e3, Bool.true_and, Bool.true_and] at HB2
  have RU1 := LH (RU.out W1 b0.out)
  obtain ⟨ru, hru⟩ : ∃ b, M.rightU h.tx = b := ⟨_, rfl⟩
  rw [hru] at RU1 HB2
  subst HB2
  clear e3 h1 h2 h3 h4 hru
  go_wp2_with fail
  refine RU1.out.mono ?_
  rintro e w4 ⟨rfl, rfl⟩
  go_wp2
  go_ret
  exact ⟨rfl, b0.out⟩
 rw [if_neg k3] at HB2
 have q3 : (K == 3) = false := by simpa using k3
 have e2 : decide (tn = 0) = true := by
  rcases h2 with h2 | h2
  ·exact absurd (by simpa using h2) k3
  ·simpa using h2
 rw [e2] at HB2
 by_cases k4 : K = 4
 ·subst k4
  rw [if_pos rfl, Bool.true_and, Bool.true_and] at HB2
  have RN1 := LH (RN.out W1)
  unfold numV at RN1
  simp only at RN1
  rw [HD.out, HE.out] at RN1
  obtain ⟨rn, hrn⟩ : ∃ b, M.rightN h.dg h.ex = b := ⟨_, rfl⟩
  rw [hrn] at RN1 HB2
  subst HB2
  have bA := LH (b0.out.alloc b0.out.size (.cells #[.bool h.ng, .string D, .string E] 24))
  clear e2 h1 h2 h3 h4 hrn k3 k12
  go_wp2_with fail
  refine RN1.out.mono ?_
  rintro e w4 ⟨rfl, rfl⟩
  go_wp2
  go_ret
  exact ⟨rfl, bA.out⟩
 rw [if_neg k4] at HB2
 have q4 : (K == 4) = false := by simpa using k4
 have e3 : nn = true := by
  rcases h3 with h3 | h3
  ·exact absurd (by simpa using h3) k4
  ·exact h3
 subst e3
 clear h1 h2 h3 h4 e2
 by_cases k567 : K = 5 \/ K = 6 \/ K = 7
 ·rw [if_pos k567] at HB2
  have hf : ans = true := HB2
  subst hf
  clear HB2 k12 k3 k4 q1 q2 q3 q4
  rcases k567 with rfl | rfl | rfl
  all_goals (
   go_wp2
   go_ret
   exact ⟨rfl, b0.out⟩)
 ·rw [if_neg k567] at HB2
  subst HB2
  have q5 : (K == 5) = false := by simp; omega
  have q6 : (K == 6) = false := by simp; omega
  have q7 : (K == 7) = false := by simp; omega
  clear k12 k3 k4 k567
  go_wp2
  go_ret
  exact ⟨rfl, b0.out⟩
theorem rr_list (L : Vo) : ∀ j h kids, L.at? j = some (h, kids) -> RRV h kids := by
 induction L with
 | nil => intro j h kids e; simp [Vo.at?] at e
 | cons h0 kids0 rest ih1 ih2 =>
  intro j h kids e
  cases j with
  | zero =>
   simp only [Vo.at?, Option.some.injEq, Prod.mk.injEq] at e
   obtain ⟨rfl, rfl⟩ := e
   exact rr_one h0 kids0 ih1
  | succ j => exact ih2 j h kids e
theorem rr_any (h : Vh) (kids : Vo) : RRV h kids := rr_one h kids (rr_list kids)
end Go.Proofs.YtbfnlgmhfhaglaaGreatDoor
