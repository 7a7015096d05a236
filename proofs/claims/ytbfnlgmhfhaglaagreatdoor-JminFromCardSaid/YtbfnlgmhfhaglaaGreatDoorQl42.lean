/- Texts of ours in one: ARight3 NShort. -/
import Derived.Test.YtbfnlgmhfhaglaaGreatDoorQl41
import Derived.Laws.StructEq
import Derived.ChangeKeysEq
import Derived.Test.YtbfnlgmhfhaglaaGreatDoorQl30
/- Values of any shape: jmin.right, jmin.Right. -/
namespace Go.Proofs.YtbfnlgmhfhaglaaGreatDoor
open Go.RowKit
set_option linter.unusedVariables false
set_option linter.unusedSimpArgs false

theorem eqnum_zero (ng : Bool) (D E : List UInt8) (w : World) : (binOp .eql 24 (.agg #[.bool ng, .string (bytes D), .string (bytes E)]) (.agg #[.bool false, .string ⟨#[]⟩, .string ⟨#[]⟩])).run Tryz.prog w = .ok (.bool (!ng && D.isEmpty && E.isEmpty)) w := by
  rw [run_eql_struct, run_equalIn_agg w _ _ _ _ (by simp [Program.fieldsOf, Tryz.underlying24]) Tryz.stoodInHeld24]
  have e0 : ∀ l : List UInt8, (bytes l).toList = l := fun l => toList_bytes l
  have e1 : (⟨#[]⟩ : ByteArray).toList = [] := toList_bytes []
  cases ng <;> cases D <;> cases E <;> simp [Program.fieldsOf, Tryz.underlying24, Op.eqFields, part, go_sem, e0, e1]
set_option maxRecDepth 100000 in
set_option maxHeartbeats 4000000 in
theorem right_neg (h : Vh) (ta : Option Addr) (tn tc : Nat) (a : Option Addr) (n c : Nat) (ma : Option Addr) (mn mc : Nat) (d : Nat) (w : World) (hf : h.fr < 0) :
    Calls Tryz.prog 53 #[.agg (vv h (.slice ta tn tc) (.slice a n c) (.slice ma mn mc)), .int .i64 (d : Int)] w fun e w' => e = .returned (.bool false) ∧ Below w.heap.size w w' := by
  have b0 : Hid (∀ o, Below w.heap.size w (w.alloc o)) := Lib.hid fun o => (Below.refl _ _).alloc (Nat.le_refl _) o
  unfold vv vvl
  go_enter Tryz.func53, Tryz.ntmps53
  go_wp2
  go_ret
  exact ⟨rfl, b0.out _⟩
set_option maxRecDepth 100000 in
set_option maxHeartbeats 8000000 in
theorem right_rest (h : Vh) (kids : Vo) (ta : Option Addr) (tc : Nat) (a : Option Addr) (n c : Nat) (ma : Option Addr) (mc : Nat) (d : Nat) (hd : d ≤ 1000) (lb : Bool) (w : World) (hf : 0 ≤ h.fr) (hn : kids.len = n)
    (ht : HdS w h (.slice ta h.tx.length tc) (.slice ma h.ms.length mc)) (hv : VoS w (.slice a n c) kids) (hC : 1 + h.tx.length + h.ms.length + n ≤ 2097152) (hD : h.dg.length ≤ 100000 ∧ h.ex.length ≤ 100000)
    (RL0 : ∀ W, 0 < d → Below w.heap.size w W → Calls Tryz.prog 72 #[.agg (vv h (.slice ta h.tx.length tc) (.slice a n c) (.slice ma h.ms.length mc)), .int .i64 ((d : Int) - 1)] W fun e w' => e = .returned (.bool lb) ∧ Below W.heap.size W w') :
    Calls Tryz.prog 53 #[.agg (vv h (.slice ta h.tx.length tc) (.slice a n c) (.slice ma h.ms.length mc)), .int .i64 (d : Int)] w fun e w' => e = .returned (.bool (headB h n d lb)) ∧ Below w.heap.size w w' := by
  have b0 := Lib.hid ((Below.refl w.heap.size w).alloc (Nat.le_refl _) (.cells (vv h (.slice ta h.tx.length tc) (.slice a n c) (.slice ma h.ms.length mc)) 27))
  have x0 := Lib.hid (VB.new w h (.slice ta h.tx.length tc) (.slice a n c) (.slice ma h.ms.length mc))
  obtain ⟨W1, hW1⟩ : ∃ W, w.alloc (.cells (vv h (.slice ta h.tx.length tc) (.slice a n c) (.slice ma h.ms.length mc)) 27) = W := ⟨_, rfl⟩
  rw [hW1] at b0 x0
  have RU := Lib.hid (fun W (hW : Below w.heap.size w W) => jright_any _ h.tx (M.rightU h.tx) W ((ht.t.is (fun _ h => h)).keep hW) (by omega) rfl)
  have RN := Lib.hid (fun W => rightn_any h.ng h.dg h.ex (M.rightN h.dg h.ex) W hD.1 hD.2 rfl)
  have EN := Lib.hid (fun W => eqnum_zero h.ng h.dg h.ex W)
  have HB := Lib.hid (show headB h n d lb = (decide (0 ≤ h.fr) && (if h.k = 1 ∨ h.k = 2 then decide (h.tx.length = 0) && nnum h && decide (0 < d) && lb
    else if h.k = 3 then nnum h && nlist h n && M.rightU h.tx
    else if h.k = 4 then decide (h.tx.length = 0) && nlist h n && M.rightN h.dg h.ex
    else if h.k = 5 ∨ h.k = 6 ∨ h.k = 7 then decide (h.tx.length = 0) && nnum h && nlist h n else false)) from rfl)
  rw [show decide (0 ≤ h.fr) = true by simpa using hf] at HB
  have RL := Lib.hid RL0
  have NLE := Lib.hid (show nlist h n = (decide (n = 0) && decide (h.ms.length = 0) && decide (h.tt = 0)) from rfl)
  have NNE := Lib.hid (show (!h.ng && h.dg.isEmpty && h.ex.isEmpty) = nnum h from rfl)
  obtain ⟨nl, hnl⟩ : ∃ b, nlist h n = b := ⟨_, rfl⟩
  obtain ⟨nn, hnn⟩ : ∃ b, nnum h = b := ⟨_, rfl⟩
  obtain ⟨ru, hru⟩ : ∃ b, M.rightU h.tx = b := ⟨_, rfl⟩
  obtain ⟨rn, hrn⟩ : ∃ b, M.rightN h.dg h.ex = b := ⟨_, rfl⟩
  obtain ⟨ans, hans⟩ : ∃ b, headB h n d lb = b := ⟨_, rfl⟩
  rw [hans, hnl, hnn, hru, hrn] at HB
  rw [hru] at RU
  rw [hrn] at RN
  rw [hnl] at NLE
  have EN2 := Lib.hid (fun W => (EN.out W).trans (by rw [NNE.out, hnn]))
  rw [hans]
  obtain ⟨g0, g1, g2, g3, g4, g5, g6, g7, g8⟩ := x0.out.cells
  obtain ⟨tn, htn⟩ : ∃ n, h.tx.length = n := ⟨_, rfl⟩
  obtain ⟨mn, hmn⟩ : ∃ n, h.ms.length = n := ⟨_, rfl⟩
  rw [htn] at HB x0 RL RU g1 hW1 hC ⊢
  rw [hmn] at NLE x0 RL g8 hW1 hC ⊢
  obtain ⟨K, hK⟩ : ∃ x, h.k = x := ⟨_, rfl⟩
  obtain ⟨FR, hFR⟩ : ∃ x, h.fr = x := ⟨_, rfl⟩
  obtain ⟨TO, hTO⟩ : ∃ x, h.tt = x := ⟨_, rfl⟩
  rw [hK] at HB g0
  rw [hFR] at g6 hf
  rw [hTO] at g7 NLE
  have EXP : Hid (vv h (.slice ta tn tc) (.slice a n c) (.slice ma mn mc) = #[.int .i64 K, .slice ta tn tc, .bool h.ng, .string (bytes h.dg), .string (bytes h.ex), .slice a n c, .int .i64 FR, .int .i64 TO, .slice ma mn mc]) := Lib.hid (by rw [← hK, ← hFR, ← hTO]; rfl)
  have HW1 := Lib.hid hW1
  have EK := Lib.hid hK
  have ET := Lib.hid hTO
  rw [EXP.out] at HW1 ⊢
  have f0 : ¬ FR < 0 := by omega
  clear hnl hnn hru hrn hans htn hmn hK hFR hTO hW1 hD hn ht hv EN NNE RL0 hf
  go_enter Tryz.func53, Tryz.ntmps53
  go_upto_region 1 with fail
  rw [HW1.out]
  go_upto_region 3 with fail
  have q := EN2.out
  obtain ⟨D, hD⟩ : ∃ x, bytes h.dg = x := ⟨_, rfl⟩
  obtain ⟨E, hE⟩ : ∃ x, bytes h.ex = x := ⟨_, rfl⟩
  rw [hD] at g3 q
  rw [hE] at g4 q
  go_quiet (fail)
  obtain ⟨W3, hW3⟩ : ∃ x, W1.drewN nq = x := ⟨_, rfl⟩
  have b13 : Below W1.heap.size W1 W3 := by rw [← hW3]; exact below_drewN (Below.refl _ _) nq
  rw [hW3]
  have b3 := Lib.hid (b0.out.trans (b13.mono b0.out.size))
  have x3 := Lib.hid (x0.out.keep b13)
  clear hW3 b13 q g0 g1 g2 g3 g4 g5 g6 g7 g8
  obtain ⟨g0, g1, g2, g3, g4, g5, g6, g7, g8⟩ := x3.out.cells
  rw [EK.out] at g0
  rw [ET.out] at g7
  rw [hD] at g3
  rw [hE] at g4
  have HD := Lib.hid hD
  have HE := Lib.hid hE
  obtain ⟨nt, hnt⟩ : ∃ b, ((tn : Int) == 0) = b := ⟨_, rfl⟩
  have hnt2 : decide (tn = 0) = nt := by rw [← hnt]; by_cases h0 : tn = 0 <;> simp [h0]
  rw [hnt2] at HB
  rw [hnt]
  clear hnt hnt2 hD hE
  go_upto_region 4 with fail
  go_cut [7] (fun q wx => q = .bool nl ∧ W3 = wx)
  case first =>
    have NL2 := NLE.out
    clear NLE HB
    by_cases n0 : n = 0
    · subst n0
      by_cases m0 : mn = 0
      · subst m0
        by_cases t0 : TO = 0
        · subst t0
          have hq : nl = true := by rw [NL2]; simp
          subst hq
          clear NL2
          go_wp2
          go_meet
          case rel => exact ⟨rfl, rfl⟩
        · have hq : nl = false := by rw [NL2]; simp [t0]
          have t1 : (TO == 0) = false := by simpa using t0
          subst hq
          clear NL2
          go_wp2
          go_meet
          case rel => exact ⟨rfl, rfl⟩
      · have hq : nl = false := by rw [NL2]; simp [m0]
        have t1 : ((mn : Int) == 0) = false := by simp; omega
        subst hq
        clear NL2
        go_wp2
        go_meet
        case rel => exact ⟨rfl, rfl⟩
    · have hq : nl = false := by rw [NL2]; simp [n0]
      have t1 : ((n : Int) == 0) = false := by simp; omega
      subst hq
      clear NL2
      go_wp2
      go_meet
      case rel => exact ⟨rfl, rfl⟩
  case rest =>
  obtain ⟨rfl, rfl⟩ := hcut
  by_cases k12 : K = 1 ∨ K = 2
  · have hq : ans = (nt && nn && decide (0 < d) && lb) := by rw [HB.out, if_pos k12, Bool.true_and]
    clear HB NLE
    by_cases hs : nt = true ∧ nn = true ∧ 0 < d
    · obtain ⟨rfl, rfl, hd0⟩ := hs
      have hq2 : ans = lb := by rw [hq]; simp [hd0]
      subst hq2
      have d0 : (0 : Int) < d := by omega
      have RL1 := Lib.hid (RL.out W3 hd0 b3.out)
      clear hq
      rcases k12 with rfl | rfl
      all_goals (
        go_wp2_with (first | (refine wpl_ldVg (by rfl) _ rfl w.heap.size 0 h _ _ _ rfl x3.out.range ?_) | fail)
        refine (RL1.out).mono ?_
        rintro e w4 ⟨rfl, hb4⟩
        have d4 := b3.out.trans (hb4.mono b3.out.size)
        clear hb4
        go_wp2
        go_ret
        exact ⟨rfl, d4⟩)
    · have hq2 : ans = false := by
        rw [hq]
        cases nt
        · rfl
        · cases nn
          · rfl
          · have hd0 : ¬ 0 < d := fun h => hs ⟨rfl, rfl, h⟩
            simp [hd0]
      subst hq2
      clear hq RL
      cases nt
      · rcases k12 with rfl | rfl
        all_goals (
          go_wp2
          go_ret
          exact ⟨rfl, b3.out⟩)
      · cases nn
        · rcases k12 with rfl | rfl
          all_goals (
            go_wp2
            go_ret
            exact ⟨rfl, b3.out⟩)
        · have d0 : ¬ (0 : Int) < d := fun h => hs ⟨rfl, rfl, by omega⟩
          rcases k12 with rfl | rfl
          all_goals (
            go_wp2
            go_ret
            exact ⟨rfl, b3.out⟩)
  rw [if_neg k12, Bool.true_and] at HB
  clear RL NLE
  by_cases k3 : K = 3
  · subst k3
    rw [if_pos rfl] at HB
    clear RN
    have hq := HB.out
    clear HB
    cases nn
    · rw [Bool.false_and, Bool.false_and] at hq
      subst hq
      go_wp2
      go_ret
      exact ⟨rfl, b3.out⟩
    · cases nl
      · rw [Bool.and_false, Bool.false_and] at hq
        subst hq
        go_wp2
        go_ret
        exact ⟨rfl, b3.out⟩
      · rw [Bool.true_and, Bool.true_and] at hq
        subst hq
        go_wp2_with fail
        refine (RU.out _ b3.out).mono ?_
        rintro e w4 ⟨rfl, rfl⟩
        go_wp2
        go_ret
        exact ⟨rfl, b3.out⟩
  rw [if_neg k3] at HB
  by_cases k4 : K = 4
  · subst k4
    rw [if_pos rfl] at HB
    clear RU
    have hq := HB.out
    clear HB
    cases nt
    · rw [Bool.false_and, Bool.false_and] at hq
      subst hq
      go_wp2
      go_ret
      exact ⟨rfl, b3.out⟩
    · cases nl
      · rw [Bool.and_false, Bool.false_and] at hq
        subst hq
        go_wp2
        go_ret
        exact ⟨rfl, b3.out⟩
      · rw [Bool.true_and, Bool.true_and] at hq
        subst hq
        have RN1 := Lib.hid (RN.out W3)
        unfold numV at RN1
        simp only at RN1
        rw [HD.out, HE.out] at RN1
        go_wp2_with fail
        refine (RN1.out).mono ?_
        rintro e w4 ⟨rfl, hb4⟩
        have d4 := b3.out.trans (hb4.mono b3.out.size)
        clear hb4
        go_wp2
        go_ret
        exact ⟨rfl, d4⟩
  rw [if_neg k4] at HB
  clear RU RN
  have q1 : (K == 1) = false := by simp; omega
  have q2 : (K == 2) = false := by simp; omega
  have q3 : (K == 3) = false := by simpa using k3
  have q4 : (K == 4) = false := by simpa using k4
  have hq := HB.out
  clear HB
  by_cases k567 : K = 5 ∨ K = 6 ∨ K = 7
  · rw [if_pos k567] at hq
    cases nt
    · rw [Bool.false_and, Bool.false_and] at hq
      subst hq
      rcases k567 with rfl | rfl | rfl
      all_goals (
        go_wp2
        go_ret
        exact ⟨rfl, b3.out⟩)
    · cases nn
      · rw [Bool.and_false, Bool.false_and] at hq
        subst hq
        rcases k567 with rfl | rfl | rfl
        all_goals (
          go_wp2
          go_ret
          exact ⟨rfl, b3.out⟩)
      · rw [Bool.true_and, Bool.true_and] at hq
        subst hq
        rcases k567 with rfl | rfl | rfl
        all_goals (
          go_wp2
          go_ret
          exact ⟨rfl, b3.out⟩)
  · rw [if_neg k567] at hq
    subst hq
    have q5 : (K == 5) = false := by simp; omega
    have q6 : (K == 6) = false := by simp; omega
    have q7 : (K == 7) = false := by simp; omega
    clear k12 k3 k4 k567
    go_wp2
    go_ret
    exact ⟨rfl, b3.out⟩
theorem rv_one (h : Vh) (kids : Vo) (RV0 : ∀ j h' kids', kids.at? j = some (h', kids') → RV h' kids') : RV h kids := by
  intro d w tv v mv hd hC hL ht hv
  have hvS := hv
  have htS := ht
  obtain ⟨a, c, hvs⟩ := hv.slice
  obtain ⟨ta, tc, hts⟩ := ht.t.slice
  obtain ⟨ma, mc, hms⟩ := ht.m.slice
  subst hvs hts hms
  unfold rightH
  by_cases hf : h.fr < 0
  · rw [show headB h kids.len d (marksB h kids.len && keysB h kids && rightVo kids (d - 1)) = false by unfold headB; rw [show decide (0 ≤ h.fr) = false by simp; omega]; rfl]
    exact right_neg h ta _ tc a _ c ma _ mc d w hf
  · refine right_rest h kids ta tc a kids.len c ma mc d hd _ w (by omega) rfl ht hv (by have := voC_len kids; omega) hL.1 fun W hd0 hW => ?_
    rw [show ((d : Int) - 1) = ((d - 1 : Nat) : Int) by omega]
    exact rightlist_any h kids RV0 (d - 1) (by omega) hC hL.2.1 _ _ _ W (ht.below hW) (hv.below hW)
theorem rv_list (L : Vo) : ∀ j h kids, L.at? j = some (h, kids) → RV h kids := by
  induction L with
  | nil => intro j h kids e; simp [Vo.at?] at e
  | cons h0 kids0 rest ih1 ih2 =>
    intro j h kids e
    cases j with
    | zero =>
      simp only [Vo.at?, Option.some.injEq, Prod.mk.injEq] at e
      obtain ⟨rfl, rfl⟩ := e
      exact rv_one h0 kids0 ih1
    | succ j => exact ih2 j h kids e
theorem rv_any (h : Vh) (kids : Vo) : RV h kids := rv_one h kids (rv_list kids)
end Go.Proofs.YtbfnlgmhfhaglaaGreatDoor
/- Numbers: the shortest spelling; the law's own 'alive'. -/
namespace Go.Proofs.YtbfnlgmhfhaglaaGreatDoor
open Go.RowKit
set_option linter.unusedVariables false
set_option linter.unusedSimpArgs false

theorem short_step (l : List (List UInt8)) (k : Nat) (hk : k < l.length) : M.shortN (l.take (k + 1)) = if k = 0 then l[k] else M.less2 (M.shortN (l.take k)) l[k] := by
  rw [List.take_succ_eq_append_getElem hk]
  cases l with
  | nil => simp at hk
  | cons a t =>
    cases k with
    | zero => rfl
    | succ k =>
      rw [if_neg (by omega)]
      simp only [List.take_succ_cons, List.cons_append, M.shortN, List.foldl_append, List.foldl_cons, List.foldl_nil]
theorem ss_get {w : World} {v : Value} {l : List (List UInt8)} (h : Ss w v l) : ∃ a cap, v = .slice a l.length cap ∧ (0 < l.length → ∃ b off, a = some ⟨b, off, none⟩ ∧ b < w.heap.size ∧ ∀ j (h : j < l.length), w.cell? ⟨b, off + j, none⟩ = some (.string (bytes l[j]))) := by
  obtain ⟨a, cap, hv, h1, h2, h3⟩ := h
  rw [srow_len] at hv
  refine ⟨a, cap, hv, fun h0 => ?_⟩
  obtain ⟨b, off, ha, hb, hc⟩ := h3 (by rw [srow_len]; exact h0)
  refine ⟨b, off, ha, hb, fun j hj => ?_⟩
  have := hc j (by rw [srow_len]; exact hj) 0 (.string (bytes l[j])) (by simp [srow])
  rwa [Nat.mul_one, Nat.add_zero] at this
set_option maxRecDepth 100000 in
set_option maxHeartbeats 4000000 in
theorem short_any (ng : Bool) (D E R : List UInt8) (w : World) (hT : Tabs w) (h1 : D.length ≤ 700) (h2 : E.length ≤ 700) (hR : M.shortN (M.plainN ng D E) = R) :
    Calls Tryz.prog 79 #[.agg (numV (ng, D, E))] w fun e w' => e = .returned (.string (bytes R)) ∧ Below w.heap.size w w' := by
  obtain ⟨l, hl⟩ : ∃ l, M.plainN ng D E = l := ⟨_, rfl⟩
  have hlen : l.length ≤ 3 := by
    rw [← hl]; unfold M.plainN M.plain1 M.plain3
    split
    · split
      · simp
      · simp only [List.length_append]
        split <;> split <;> simp
    · simp
  rw [hl] at hR
  have P1 := Lib.hid (fun (W : World) (hW : Below w.heap.size w W) => plain_any ng D E l W (hT.keep hW) h1 h2 hl)
  have hsz : ∀ j (h : j < l.length), (bytes l[j]).size = l[j].length := fun j h => bytes_size _
  unfold numV at P1 ⊢
  simp only at P1 ⊢
  have HR := Lib.hid hR
  have B0 : Hid (Below w.heap.size w (w.alloc (.cells #[.bool ng, .string (bytes D), .string (bytes E)] 24))) := Lib.hid ((Below.refl _ _).alloc (Nat.le_refl _) _)
  obtain ⟨SD, hSD⟩ : ∃ S, bytes D = S := ⟨_, rfl⟩
  obtain ⟨SE, hSE⟩ : ∃ S, bytes E = S := ⟨_, rfl⟩
  rw [hSD, hSE] at P1 B0 ⊢
  clear hl hR hSD hSE hsz hT
  go_enter Tryz.func79, Tryz.ntmps79
  go_wp2_with fail
  refine (P1.out _ B0.out).mono ?_
  rintro e w1 ⟨v, rfl, hs, hb1⟩
  obtain ⟨a, cap, rfl, hc⟩ := ss_get hs
  have hb2 := B0.out.trans (hb1.mono B0.out.size)
  have HC := Lib.hid hc
  have HB2 := Lib.hid hb2
  obtain ⟨n, hn⟩ : ∃ n, l.length = n := ⟨_, rfl⟩
  have HN := Lib.hid hn
  rw [hn] at hlen ⊢
  clear hs hb1 hc hb2 hn
  go_wp2
  go_loop [3, 9] (fun sv iv => ∃ k : Nat, iv = .int .i64 (k : Int) ∧ k ≤ n ∧ sv = .string (bytes (M.shortN (l.take k)))) (fun _ iv => n - (intOf iv).toNat)
  case atStart => exact ⟨0, rfl, by omega, rfl⟩
  case round =>
    obtain ⟨k, rfl, hk, rfl⟩ := hrel
    by_cases hlt : k < n
    · have hkl : k < l.length := by rw [HN.out]; exact hlt
      obtain ⟨b, off, rfl, hb, hcell⟩ := HC.out (by omega)
      have hc1 := hcell k hkl
      have hst := short_step l k hkl
      obtain ⟨s, hs⟩ : ∃ s, l[k] = s := ⟨_, rfl⟩
      obtain ⟨t, ht⟩ : ∃ s, M.shortN (l.take k) = s := ⟨_, rfl⟩
      rw [hs] at hc1 hst
      rw [ht] at hst ⊢
      have z1 := bytes_size s
      have z2 := bytes_size t
      obtain ⟨S, hS⟩ : ∃ S, bytes s = S := ⟨_, rfl⟩
      obtain ⟨T, hT⟩ : ∃ S, bytes t = S := ⟨_, rfl⟩
      rw [hS] at hc1 z1
      rw [hT] at z2 ⊢
      have hst2 : bytes (M.shortN (l.take (k + 1))) = if k = 0 then S else if S.size < T.size then S else T := by
        rw [hst]; unfold M.less2
        split
        · exact hS
        · rw [z1, z2]; split
          · exact hS
          · exact hT
      have HST := Lib.hid hst2
      clear hcell hst hs ht hS hT hst2 z1 z2 hb
      have hway : (k = 0) ∨ (0 < k ∧ S.size < T.size) ∨ (0 < k ∧ T.size ≤ S.size) := by omega
      rcases hway with rfl | ⟨q1, q2⟩ | ⟨q1, q2⟩
      · rw [Nat.add_zero] at hc1
        go_wp2
        go_round
        case rel => exact ⟨0 + 1, by go_num, by omega, by rw [HST.out, if_pos rfl]⟩
        case measure => simp [intOf] <;> omega
      · have q3 : ((k : Int) == 0) = false := by rw [beq_eq_false_iff_ne]; omega
        go_wp2
        go_round
        case rel => exact ⟨k + 1, by go_num, by omega, by rw [HST.out, if_neg (by omega), if_pos (by omega)]⟩
        case measure => simp [intOf] <;> omega
      · have q3 : ((k : Int) == 0) = false := by rw [beq_eq_false_iff_ne]; omega
        go_wp2
        go_round
        case rel => exact ⟨k + 1, by go_num, by omega, by rw [HST.out, if_neg (by omega), if_neg (by omega)]⟩
        case measure => simp [intOf] <;> omega
    · obtain rfl : k = n := by omega
      clear hlt
      have hfin : M.shortN (l.take k) = R := by rw [← HN.out, List.take_length]; exact HR.out
      rw [hfin]
      clear hfin
      go_wp2
      go_ret
      exact ⟨rfl, HB2.out⟩
end Go.Proofs.YtbfnlgmhfhaglaaGreatDoor
