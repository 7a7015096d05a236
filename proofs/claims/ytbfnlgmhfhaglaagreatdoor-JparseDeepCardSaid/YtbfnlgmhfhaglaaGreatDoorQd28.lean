/- Texts of ours in one: ZDw. -/
import Derived.Test.YtbfnlgmhfhaglaaGreatDoorQd25
import Derived.Test.YtbfnlgmhfhaglaaGreatDoorQd27
import Derived.Test.YtbfnlgmhfhaglaaGreatDoorQd02
import Derived.Deep.DeepCutAuto
/- The walk of JparseDeep. -/
namespace Go.Proofs.YtbfnlgmhfhaglaaGreatDoor
open Go.RowKit
set_option linter.unusedVariables false
set_option linter.unusedSimpArgs false

theorem deqf_any (a b : Int) (W : World) : (binOp .eql 34 (.agg #[.int .i64 a, .int .i64 b]) (.agg #[.int .i64 a, .int .i64 b])).run Tryz.prog W = .ok (.bool true) W := by
  simp [go_sem]
theorem dbytes_app (k l : List UInt8) : bytes k ++ bytes l = bytes (k ++ l) := by
  apply ByteArray.ext
  simp [bytes]
theorem voAt_last {P : Nat → Prop} {w : World} {h : Vh} {k : Vo} (L : Vo) : ∀ b off, VoAt P w (L.snoc h k) b off → ∃ tv mv v, HdP P w h tv mv ∧ VoP P w v k ∧ w.rangeAt b (off + L.len * 9) (vvl h tv v mv) := by
  induction L with
  | nil =>
    rintro b off ⟨⟨tv, mv, a, cap, hd, hr, h1, h2, h3, h4⟩, -⟩
    exact ⟨tv, mv, _, hd, ⟨a, cap, rfl, h1, h2, h3, h4⟩, by simpa [Vo.len] using hr⟩
  | cons a b r _ ih =>
    rintro bb off ⟨-, h5⟩
    obtain ⟨tv, mv, v, x, y, z⟩ := ih bb (off + 9) h5
    refine ⟨tv, mv, v, x, y, ?_⟩
    rw [show off + (Vo.cons a b r).len * 9 = off + 9 + r.len * 9 by simp only [Vo.len]; omega]
    exact z
theorem snoc_ne (L : Vo) (h : Vh) (k : Vo) : (L.snoc h k).len = L.len + 1 := snoc_len L h k
def DpI (w : World) (b p : Nat) (S N : Nat) (kv : Value) (wr : World) : Prop :=
  ∃ (j : Nat) (h : Vh) (kids : Vo) (tv v mv : Value), kv = .int .i64 (j : Int) ∧ j ≤ N ∧ DeepV (N - j) h kids ∧ VB wr b h tv v mv ∧ HdP (fun x => x ≠ b ∧ x ≠ p ∧ x < S) wr h tv mv ∧ VoP (fun x => x ≠ b ∧ x ≠ p ∧ x < S) wr v kids ∧ BK 34 wr p #[.int .i64 0, .int .i64 0] ∧ Below w.heap.size w wr
set_option maxRecDepth 100000 in
set_option maxHeartbeats 8000000 in
theorem jpdeep_true (N : Nat) (x1 : Int) (w : World) (hN : N ≤ 70) (hD : 0 ≤ x1 ∧ x1 ≤ 70) (hT : TabX w) :
    Calls Tryz.prog 4 #[.int .i64 (N : Int), .int .i64 x1, .bool true] w fun e w' => e = .returned (.bool true) ∧ Below w.heap.size w w' := by
  have AL := Lib.hid (alive7_any w hT)
  have HT := Lib.hid hT
  obtain ⟨hD1, hD2⟩ := hD
  have q1 : decide ((N : Int) < 0) = false := by simp
  have q2 : decide ((70 : Int) < N) = false := by simp; omega
  have q3 : decide (x1 < 0) = false := by simp; omega
  have q4 : decide ((70 : Int) < x1) = false := by simp; omega
  clear hT
  go_enter Tryz.func4, Tryz.ntmps4
  go_wp2_with fail
  refine AL.out.mono ?_
  rintro e w1 ⟨rfl, hb1⟩
  have C1 := Lib.hid hb1
  clear hb1
  go_wp2
  go_loopw [10, 11] (fun sv iv wr => ∃ i : Nat, sv = .string (bytes (repD (opD true) i)) ∧ iv = .int .i64 (i : Int) ∧ i ≤ N ∧ Below w.heap.size w wr) (fun _ iv _ => N - (intOf iv).toNat)
  case atStart => exact ⟨0, rfl, rfl, by omega, C1.out⟩
  case round =>
    obtain ⟨i, rfl, rfl, hi, hb⟩ := hrel
    have HB := Lib.hid hb
    clear hb
    by_cases hlt : i < N
    · have e1 : bytes (repD (opD true) i) ++ ByteArray.mk #[123, 34, 97, 34, 58] = bytes (repD (opD true) (i + 1)) := dbytes_app (repD (opD true) i) (opD true)
      have z1 := bytes_size (repD (opD true) i)
      rw [repD_len] at z1
      obtain ⟨A, hA⟩ : ∃ x, bytes (repD (opD true) i) = x := ⟨_, rfl⟩
      obtain ⟨Z, hZ⟩ : ∃ x, bytes (repD (opD true) (i + 1)) = x := ⟨_, rfl⟩
      rw [hA] at z1 e1 ⊢
      rw [hZ] at e1
      have a1 : ∀ W, (Op.stringOp .add A (ByteArray.mk #[123, 34, 97, 34, 58])).run Tryz.prog W = .ok (.string Z) W := fun W => by
        rw [← e1]
        exact run_string_add_sum (P := Tryz.prog) (w := W) _ _ (by rw [z1, show (ByteArray.mk #[123, 34, 97, 34, 58]).size = 5 from rfl]; simp [opD]; omega)
      have HZ := Lib.hid hZ
      have i0 : (0 : Int) ≤ i := by omega
      have i1 : (i : Int) < N := by omega
      clear hA hZ z1 e1
      go_wp2
      go_roundw
      case rel => exact ⟨i + 1, by rw [HZ.out], by go_num, by omega, HB.out⟩
      case measure => simp [intOf]; omega
    · obtain rfl : i = N := by omega
      have t1 : decide ((i : Int) < i) = false := by simp
      have e1 : bytes (repD (opD true) i) ++ ByteArray.mk #[49] = bytes (repD (opD true) i ++ [49]) := dbytes_app (repD (opD true) i) [49]
      have z1 := bytes_size (repD (opD true) i)
      rw [repD_len] at z1
      obtain ⟨A, hA⟩ : ∃ x, bytes (repD (opD true) i) = x := ⟨_, rfl⟩
      obtain ⟨Z, hZ⟩ : ∃ x, bytes (repD (opD true) i ++ [49]) = x := ⟨_, rfl⟩
      rw [hA] at z1 e1 ⊢
      rw [hZ] at e1
      have a1 : ∀ W, (Op.stringOp .add A (ByteArray.mk #[49])).run Tryz.prog W = .ok (.string Z) W := fun W => by
        rw [← e1]
        exact run_string_add_sum (P := Tryz.prog) (w := W) _ _ (by rw [z1, show (ByteArray.mk #[49]).size = 1 from rfl]; simp [opD]; omega)
      have HZ := Lib.hid hZ
      clear hA hZ z1 e1 hlt
      go_wp2
      go_loopw [10, 12] (fun sv iv wr => ∃ j : Nat, sv = .string (bytes ((repD (opD true) i ++ [49]) ++ repD (clD true) j)) ∧ iv = .int .i64 (j : Int) ∧ j ≤ i ∧ Below w.heap.size w wr) (fun _ iv _ => i - (intOf iv).toNat)
      case atStart => exact ⟨0, by rw [← HZ.out]; simp [repD], rfl, by omega, HB.out⟩
      case round =>
        obtain ⟨j, rfl, rfl, hj, hb⟩ := hrel
        have HB := Lib.hid hb
        clear hb a1
        by_cases hlt : j < i
        · have e1 : bytes ((repD (opD true) i ++ [49]) ++ repD (clD true) j) ++ ByteArray.mk #[125] = bytes ((repD (opD true) i ++ [49]) ++ repD (clD true) (j + 1)) := by
            have := dbytes_app ((repD (opD true) i ++ [49]) ++ repD (clD true) j) (clD true)
            rw [List.append_assoc (repD (opD true) i ++ [49])] at this
            exact this
          have z1 := bytes_size ((repD (opD true) i ++ [49]) ++ repD (clD true) j)
          rw [List.length_append, List.length_append, repD_len, repD_len] at z1
          obtain ⟨A, hA⟩ : ∃ x, bytes ((repD (opD true) i ++ [49]) ++ repD (clD true) j) = x := ⟨_, rfl⟩
          obtain ⟨Z2, hZ⟩ : ∃ x, bytes ((repD (opD true) i ++ [49]) ++ repD (clD true) (j + 1)) = x := ⟨_, rfl⟩
          rw [hA] at z1 e1 ⊢
          rw [hZ] at e1
          have a1 : ∀ W, (Op.stringOp .add A (ByteArray.mk #[125])).run Tryz.prog W = .ok (.string Z2) W := fun W => by
            rw [← e1]
            exact run_string_add_sum (P := Tryz.prog) (w := W) _ _ (by rw [z1, show (ByteArray.mk #[125]).size = 1 from rfl]; simp [opD, clD]; omega)
          have HZ2 := Lib.hid hZ
          have i0 : (0 : Int) ≤ j := by omega
          have i1 : (j : Int) < i := by omega
          clear hA hZ z1 e1 HZ
          go_wp2
          go_roundw
          case rel => exact ⟨j + 1, by rw [HZ2.out], by go_num, by omega, HB.out⟩
          case measure => simp [intOf]; omega
        · obtain rfl : j = i := by omega
          have t1 : decide ((j : Int) < j) = false := by simp
          have eS : (repD (opD true) j ++ [49]) ++ repD (clD true) j = nsD true j := rfl
          rw [eS]
          have DP := deep_parse true j x1 hN
          have dD : ((dpN x1 : Nat) : Int) = if 60 < x1 then 60 else x1 := by unfold dpN; split <;> omega
          have dD2 : dpN x1 ≤ 60 := by unfold dpN; omega
          have nl := nsD_len true j
          have nl2 : (nsD true j).length ≤ 500 := by rw [nl]; simp [opD]; omega
          obtain ⟨M, hM⟩ : ∃ M, dpN x1 = M := ⟨_, rfl⟩
          rw [hM] at dD dD2 DP
          have szS := bytes_size (nsD true j)
          have hbl := bytes_list (nsD true j)
          obtain ⟨S, hS⟩ : ∃ x, bytes (nsD true j) = x := ⟨_, rfl⟩
          rw [hS] at szS hbl ⊢
          clear HZ hlt nl eS hS hM
          go_upto_if 58 with fail
          go_cut [13] (fun q wx => q = .int .i64 (M : Int) ∧ Below w.heap.size w wx)
          case first =>
            by_cases c : 60 < x1
            · rw [if_pos c] at dD
              have t2 : decide ((60 : Int) < x1) = true := by simpa using c
              go_wp2
              go_meet
              case rel => exact ⟨by rw [dD], HB.out⟩
            · rw [if_neg c] at dD
              have t2 : decide ((60 : Int) < x1) = false := by simpa using c
              go_wp2
              go_meet
              case rel => exact ⟨by rw [dD], HB.out⟩
          case rest =>
          obtain ⟨rfl, hb⟩ := hcut
          have HB2 := Lib.hid hb
          have cv := bw_conv wc S
          have hbs := bw_bs wc S (by omega)
          rw [hbl] at hbs
          have bwb := bw_below wc S
          obtain ⟨cc, hcc⟩ : ∃ x, grownCap wc S.size 0 5 = x := ⟨_, rfl⟩
          rw [hcc] at cv hbs
          obtain ⟨WX, hWX⟩ : ∃ x, Lib.bytesWorld wc 5 S = x := ⟨_, rfl⟩
          rw [hWX] at cv hbs bwb
          have bX := hb.trans (bwb.mono hb.size)
          have PA := parse_any _ (nsD true j) x1 WX (HT.out.keep bX) hbs (by omega)
          have BX := Lib.hid bX
          clear hb hbs bwb hcc hWX bX szS hbl nl2 HB dD
          by_cases hle : j ≤ M
          · obtain ⟨h, kids, e1, e2⟩ := DP.1 hle
            rw [e1] at PA
            unfold ParQ at PA
            dsimp only at PA
            have PA := Lib.hid PA
            have t2 : decide ((j : Int) ≤ M) = true := by simp; omega
            clear DP e1
            go_wp2_with fail
            refine PA.out.mono ?_
            rintro e w2 ⟨tv, v, mv, rfl, hd, hv, hb2⟩
            obtain ⟨p2, hp2⟩ : ∃ x, w2.heap.size + 1 = x := ⟨_, rfl⟩
            obtain ⟨k1, k2, k3, k4, bb⟩ := two_laid w2 (vv h tv v mv) (.int .i64 0) (.int .i64 0) p2 hp2
            have C2 := BX.out.trans (hb2.mono BX.out.size)
            have B3 := Lib.hid (C2.trans (bb.mono C2.size))
            have wz := C2.size
            have t3 := hd.t.one
            have t4 := hv.one
            have t5 := hd.m.one
            have ke : ∀ x, Nw WX.heap.size w2 x → ((((w2.alloc (.cells zv 27)).alloc (.cells #[.int .i64 0, .int .i64 0] 34)).setRow w2.heap.size (vv h tv v mv)).setRow p2 #[.int .i64 0, .int .i64 0]).heap[x]? = w2.heap[x]? := fun x hx => bb.block x hx.2
            have hdS := (hd.keep ke).mono (Q := fun x => x ≠ w2.heap.size ∧ x ≠ p2 ∧ x < w2.heap.size) (fun x hx => ⟨by have := hx.2; omega, by have := hx.2; omega, hx.2⟩)
            have hvS := (hv.keep ke).mono (Q := fun x => x ≠ w2.heap.size ∧ x ≠ p2 ∧ x < w2.heap.size) (fun x hx => ⟨by have := hx.2; omega, by have := hx.2; omega, hx.2⟩)
            obtain ⟨W4, hW4⟩ : ∃ x, (((w2.alloc (.cells zv 27)).alloc (.cells #[.int .i64 0, .int .i64 0] 34)).setRow w2.heap.size (vv h tv v mv)).setRow p2 #[.int .i64 0, .int .i64 0] = x := ⟨_, rfl⟩
            rw [hW4] at k3 k4 B3 hdS hvS
            have HW4 := Lib.hid (show (((w2.alloc (.cells #[.int .i64 0, .slice none 0 0, .bool false, .string ⟨#[]⟩, .string ⟨#[]⟩, .slice none 0 0, .int .i64 0, .int .i64 0, .slice none 0 0] 27)).alloc (.cells #[.int .i64 0, .int .i64 0] 34)).setRow w2.heap.size (vv h tv v mv)).setRow p2 #[.int .i64 0, .int .i64 0] = W4 from hW4)
            have INV : Hid (DpI w w2.heap.size p2 w2.heap.size j (.int .i64 0) W4) := Lib.hid ⟨0, h, kids, tv, v, mv, rfl, Nat.zero_le _, by rw [Nat.sub_zero]; exact e2, k3, hdS, hvS, k4, B3.out⟩
            clear hW4 bb hb2 hd hv C2 hdS hvS k3 k4 e2 ke
            go_upto_region 23 with (first | (refine wpl_stV rfl _ _ rfl w2.heap.size zv h tv v mv rfl rfl k1 rfl t3 t4 t5 ?_) | (refine wpl_stK infoF1 rfl _ _ rfl p2 _ #[.int .i64 0, .int .i64 0] rfl rfl k2 rfl rfl (by simp [Value.oneCell']) ?_))
            rw [HW4.out]
            have HP2 := Lib.hid hp2
            obtain ⟨bx, hbx⟩ : ∃ x, w2.heap.size = x := ⟨_, rfl⟩
            rw [hbx] at INV wz hp2 ⊢
            have hpne : bx ≠ p2 := by omega
            clear k1 k2 t3 t4 t5 HW4 hp2 HP2 hbx cv
            go_wp2
            go_loopw [16] (fun kv wr => DpI w bx p2 bx j kv wr) (fun kv _ => j - (intOf kv).toNat)
            case atStart => exact INV.out
            case round =>
              obtain ⟨k, h, kids, tv, v, mv, rfl, hk, hdp, vb, hd, hv, bf, hb⟩ := hrel
              have HB3 := Lib.hid hb
              have VBc := Lib.hid vb
              have BF := Lib.hid bf
              have hlt := vb.lt
              by_cases hkl : k < j
              · obtain ⟨m, hm⟩ : ∃ m, j - k = m + 1 := ⟨j - k - 1, by omega⟩
                rw [hm] at hdp
                have hk1 : k + 1 ≤ j := by omega
                have hm1 : j - (k + 1) = m := by omega
                have hpb : p2 ≠ bx := fun e => hpne e.symm
                obtain ⟨L, h2, kids2, rfl, hd2⟩ := hdp
                obtain ⟨a, cap, rfl, i1, i2, i3, i4⟩ := hv
                rw [snoc_ne] at i1 i4
                obtain ⟨ib, ioff, rfl, hib, hat⟩ := i4 (by omega)
                obtain ⟨tv2, mv2, v2, hdi, hvi, hri⟩ := voAt_last L ib ioff hat
                obtain ⟨c0, c1, c2, c3, c4, c5, c6, c7, c8⟩ := vb.cells
                rw [snoc_ne] at c5
                obtain ⟨q, hq⟩ : ∃ q, L.len = q := ⟨_, rfl⟩
                rw [hq] at hri i1 c5
                obtain ⟨n, hn⟩ : ∃ n, q + 1 = n := ⟨_, rfl⟩
                rw [hn] at c5 i1
                have hsub : IntKind.i64.wrap ((n : Int) - 1) = (q : Int) := by unfold maxLen at i2; rw [IntKind.wrap_i64]; omega
                have n0 : (0 : Int) < n := by omega
                have n1 : (q : Int) < n := by omega
                have n2 : (0 : Int) ≤ q := by omega
                have k1 : (k : Int) < 100 := by omega
                have k2 : (0 : Int) ≤ k := by omega
                have s1 := hdi.t.one
                have s2 := hvi.one
                have s3 := hdi.m.one
                have ke : ∀ x, (x ≠ bx ∧ x ≠ p2 ∧ x < bx) → (wr.setRow bx (vv h2 tv2 v2 mv2)).heap[x]? = wr.heap[x]? := fun x hx => setRow_other _ _ _ _ hx.1
                have wle : w.heap.size ≤ bx := wz
                have INV2 : Hid (DpI w bx p2 bx j (.int .i64 ((k + 1 : Nat) : Int)) (wr.setRow bx (vv h2 tv2 v2 mv2))) := Lib.hid ⟨k + 1, h2, kids2, tv2, v2, mv2, rfl, hk1, by rw [hm1]; exact hd2, BK.set VBc.out _, hdi.keep ke, hvi.keep ke, bf.frame (setRow_other _ _ _ _ hpb), below_setRowK hb wle _⟩
                have RI := Lib.hid hri
                obtain ⟨WN, hWN⟩ : ∃ x, wr.setRow bx (vv h2 tv2 v2 mv2) = x := ⟨_, rfl⟩
                rw [hWN] at INV2
                have HWN := Lib.hid hWN
                obtain ⟨hc, ehc⟩ : ∃ x, vv h tv (.slice (some ⟨ib, ioff, none⟩) n cap) mv = x := ⟨_, rfl⟩
                have VBd : Hid (BK 27 wr bx hc) := Lib.hid (by rw [← ehc]; have := VBc.out; unfold VB at this; rw [snoc_ne, hq, hn] at this; exact this)
                have szc : hc.size = 9 := by rw [← ehc]; rfl
                clear hdi hvi hri hat i4 hd hd2 vb bf hb hib ke hWN c0 c1 c2 c3 c4 c6 c7 c8 VBc ehc INV
                go_wp2_with (first | (refine wpl_ldV rfl _ rfl ib (ioff + q * 9) h2 tv2 v2 mv2 rfl RI.out ?_) | (refine wpl_stV rfl _ _ rfl bx hc h2 tv2 v2 mv2 rfl rfl VBd.out szc s1 s2 s3 ?_))
                rw [HWN.out]
                go_wp2
                go_roundw
                case rel => exact INV2.out
                case measure => simp [intOf]; omega
              · obtain rfl : k = j := by omega
                rw [Nat.sub_self] at hdp
                obtain ⟨hk4, rfl⟩ := hdp
                obtain ⟨a, cap, rfl, -⟩ := hv
                obtain ⟨c0, c1, c2, c3, c4, c5, c6, c7, c8⟩ := vb.cells
                rw [hk4] at c0
                have ef := deqf_any 0 0
                have t6 : ((k : Int) == k) = true := by simp
                clear hd vb hkl INV c1 c2 c3 c4 c6 c7 c8
                go_wp2_with (first | (refine wpl_ldK Tryz.underlying34 rfl infoF1 rfl _ rfl p2 [.int .i64 0, .int .i64 0] rfl BF.out rfl ?_) | fail)
                go_wp2
                go_ret
                exact ⟨rfl, HB3.out⟩
          · have e1 := DP.2 (by omega)
            rw [e1] at PA
            unfold ParQ at PA
            dsimp only at PA
            rw [show ((M * (opD true).length : Nat) : Int) = (M : Int) * 5 by simp [opD]] at PA
            have PA := Lib.hid PA
            have t2 : decide ((j : Int) ≤ M) = false := by simp; omega
            have wm : IntKind.i64.wrap ((M : Int) * 5) = (M : Int) * 5 := by rw [IntKind.wrap_i64]; omega
            clear DP e1
            go_wp2_with fail
            refine PA.out.mono ?_
            rintro e w2 ⟨rfl, hb2⟩
            obtain ⟨p2, hp2⟩ : ∃ x, w2.heap.size + 1 = x := ⟨_, rfl⟩
            obtain ⟨AT, hAT⟩ : ∃ x : Int, (M : Int) * 5 = x := ⟨_, rfl⟩
            (try rw [hAT] at wm)
            obtain ⟨k1, k2, k3, k4, bb⟩ := two_laid w2 zvl.toArray (.int .i64 4) (.int .i64 AT) p2 hp2
            have C2 := BX.out.trans (hb2.mono BX.out.size)
            have B3 := Lib.hid (C2.trans (bb.mono C2.size))
            obtain ⟨W4, hW4⟩ : ∃ x, (((w2.alloc (.cells zv 27)).alloc (.cells #[.int .i64 0, .int .i64 0] 34)).setRow w2.heap.size zvl.toArray).setRow p2 #[.int .i64 4, .int .i64 AT] = x := ⟨_, rfl⟩
            rw [hW4] at k3 k4 B3
            have HW4 := Lib.hid (show (((w2.alloc (.cells #[.int .i64 0, .slice none 0 0, .bool false, .string ⟨#[]⟩, .string ⟨#[]⟩, .slice none 0 0, .int .i64 0, .int .i64 0, .slice none 0 0] 27)).alloc (.cells #[.int .i64 0, .int .i64 0] 34)).setRow w2.heap.size (vv ⟨0, [], false, [], [], 0, 0, []⟩ nilV nilV nilV)).setRow p2 #[.int .i64 4, .int .i64 AT] = W4 from hW4)
            have K4 := Lib.hid k4
            have ef := deqf_any 4 AT
            rw [hAT]
            clear hW4 bb hb2 C2 k4 k3
            go_upto_region 23 with (first | (refine wpl_stV rfl _ _ rfl w2.heap.size zv ⟨0, [], false, [], [], 0, 0, []⟩ nilV nilV nilV rfl rfl k1 rfl rfl rfl rfl ?_) | (refine wpl_stK infoF1 rfl _ _ rfl p2 _ #[.int .i64 4, .int .i64 AT] rfl rfl k2 rfl rfl (by simp [Value.oneCell']) ?_))
            rw [HW4.out]
            go_wp2_with (first | (refine wpl_ldK Tryz.underlying34 rfl infoF1 rfl _ rfl p2 [.int .i64 4, .int .i64 AT] rfl K4.out rfl ?_) | fail)
            go_wp2
            go_ret
            exact ⟨rfl, B3.out⟩
set_option maxRecDepth 100000 in
set_option maxHeartbeats 8000000 in
theorem jpdeep_false (N : Nat) (x1 : Int) (w : World) (hN : N ≤ 70) (hD : 0 ≤ x1 ∧ x1 ≤ 70) (hT : TabX w) :
    Calls Tryz.prog 4 #[.int .i64 (N : Int), .int .i64 x1, .bool false] w fun e w' => e = .returned (.bool true) ∧ Below w.heap.size w w' := by
  have AL := Lib.hid (alive7_any w hT)
  have HT := Lib.hid hT
  obtain ⟨hD1, hD2⟩ := hD
  have q1 : decide ((N : Int) < 0) = false := by simp
  have q2 : decide ((70 : Int) < N) = false := by simp; omega
  have q3 : decide (x1 < 0) = false := by simp; omega
  have q4 : decide ((70 : Int) < x1) = false := by simp; omega
  clear hT
  go_enter Tryz.func4, Tryz.ntmps4
  go_wp2_with fail
  refine AL.out.mono ?_
  rintro e w1 ⟨rfl, hb1⟩
  have C1 := Lib.hid hb1
  clear hb1
  go_wp2
  go_loopw [10, 11] (fun sv iv wr => ∃ i : Nat, sv = .string (bytes (repD (opD false) i)) ∧ iv = .int .i64 (i : Int) ∧ i ≤ N ∧ Below w.heap.size w wr) (fun _ iv _ => N - (intOf iv).toNat)
  case atStart => exact ⟨0, rfl, rfl, by omega, C1.out⟩
  case round =>
    obtain ⟨i, rfl, rfl, hi, hb⟩ := hrel
    have HB := Lib.hid hb
    clear hb
    by_cases hlt : i < N
    · have e1 : bytes (repD (opD false) i) ++ ByteArray.mk #[91] = bytes (repD (opD false) (i + 1)) := dbytes_app (repD (opD false) i) (opD false)
      have z1 := bytes_size (repD (opD false) i)
      rw [repD_len] at z1
      obtain ⟨A, hA⟩ : ∃ x, bytes (repD (opD false) i) = x := ⟨_, rfl⟩
      obtain ⟨Z, hZ⟩ : ∃ x, bytes (repD (opD false) (i + 1)) = x := ⟨_, rfl⟩
      rw [hA] at z1 e1 ⊢
      rw [hZ] at e1
      have a1 : ∀ W, (Op.stringOp .add A (ByteArray.mk #[91])).run Tryz.prog W = .ok (.string Z) W := fun W => by
        rw [← e1]
        exact run_string_add_sum (P := Tryz.prog) (w := W) _ _ (by rw [z1, show (ByteArray.mk #[91]).size = 1 from rfl]; simp [opD]; omega)
      have HZ := Lib.hid hZ
      have i0 : (0 : Int) ≤ i := by omega
      have i1 : (i : Int) < N := by omega
      clear hA hZ z1 e1
      go_wp2
      go_roundw
      case rel => exact ⟨i + 1, by rw [HZ.out], by go_num, by omega, HB.out⟩
      case measure => simp [intOf]; omega
    · obtain rfl : i = N := by omega
      have t1 : decide ((i : Int) < i) = false := by simp
      have e1 : bytes (repD (opD false) i) ++ ByteArray.mk #[49] = bytes (repD (opD false) i ++ [49]) := dbytes_app (repD (opD false) i) [49]
      have z1 := bytes_size (repD (opD false) i)
      rw [repD_len] at z1
      obtain ⟨A, hA⟩ : ∃ x, bytes (repD (opD false) i) = x := ⟨_, rfl⟩
      obtain ⟨Z, hZ⟩ : ∃ x, bytes (repD (opD false) i ++ [49]) = x := ⟨_, rfl⟩
      rw [hA] at z1 e1 ⊢
      rw [hZ] at e1
      have a1 : ∀ W, (Op.stringOp .add A (ByteArray.mk #[49])).run Tryz.prog W = .ok (.string Z) W := fun W => by
        rw [← e1]
        exact run_string_add_sum (P := Tryz.prog) (w := W) _ _ (by rw [z1, show (ByteArray.mk #[49]).size = 1 from rfl]; simp [opD]; omega)
      have HZ := Lib.hid hZ
      clear hA hZ z1 e1 hlt
      go_wp2
      go_loopw [10, 12] (fun sv iv wr => ∃ j : Nat, sv = .string (bytes ((repD (opD false) i ++ [49]) ++ repD (clD false) j)) ∧ iv = .int .i64 (j : Int) ∧ j ≤ i ∧ Below w.heap.size w wr) (fun _ iv _ => i - (intOf iv).toNat)
      case atStart => exact ⟨0, by rw [← HZ.out]; simp [repD], rfl, by omega, HB.out⟩
      case round =>
        obtain ⟨j, rfl, rfl, hj, hb⟩ := hrel
        have HB := Lib.hid hb
        clear hb a1
        by_cases hlt : j < i
        · have e1 : bytes ((repD (opD false) i ++ [49]) ++ repD (clD false) j) ++ ByteArray.mk #[93] = bytes ((repD (opD false) i ++ [49]) ++ repD (clD false) (j + 1)) := by
            have := dbytes_app ((repD (opD false) i ++ [49]) ++ repD (clD false) j) (clD false)
            rw [List.append_assoc (repD (opD false) i ++ [49])] at this
            exact this
          have z1 := bytes_size ((repD (opD false) i ++ [49]) ++ repD (clD false) j)
          rw [List.length_append, List.length_append, repD_len, repD_len] at z1
          obtain ⟨A, hA⟩ : ∃ x, bytes ((repD (opD false) i ++ [49]) ++ repD (clD false) j) = x := ⟨_, rfl⟩
          obtain ⟨Z2, hZ⟩ : ∃ x, bytes ((repD (opD false) i ++ [49]) ++ repD (clD false) (j + 1)) = x := ⟨_, rfl⟩
          rw [hA] at z1 e1 ⊢
          rw [hZ] at e1
          have a1 : ∀ W, (Op.stringOp .add A (ByteArray.mk #[93])).run Tryz.prog W = .ok (.string Z2) W := fun W => by
            rw [← e1]
            exact run_string_add_sum (P := Tryz.prog) (w := W) _ _ (by rw [z1, show (ByteArray.mk #[93]).size = 1 from rfl]; simp [opD, clD]; omega)
          have HZ2 := Lib.hid hZ
          have i0 : (0 : Int) ≤ j := by omega
          have i1 : (j : Int) < i := by omega
          clear hA hZ z1 e1 HZ
          go_wp2
          go_roundw
          case rel => exact ⟨j + 1, by rw [HZ2.out], by go_num, by omega, HB.out⟩
          case measure => simp [intOf]; omega
        · obtain rfl : j = i := by omega
          have t1 : decide ((j : Int) < j) = false := by simp
          have eS : (repD (opD false) j ++ [49]) ++ repD (clD false) j = nsD false j := rfl
          rw [eS]
          have DP := deep_parse false j x1 hN
          have dD : ((dpN x1 : Nat) : Int) = if 60 < x1 then 60 else x1 := by unfold dpN; split <;> omega
          have dD2 : dpN x1 ≤ 60 := by unfold dpN; omega
          have nl := nsD_len false j
          have nl2 : (nsD false j).length ≤ 500 := by rw [nl]; simp [opD]; omega
          obtain ⟨M, hM⟩ : ∃ M, dpN x1 = M := ⟨_, rfl⟩
          rw [hM] at dD dD2 DP
          have szS := bytes_size (nsD false j)
          have hbl := bytes_list (nsD false j)
          obtain ⟨S, hS⟩ : ∃ x, bytes (nsD false j) = x := ⟨_, rfl⟩
          rw [hS] at szS hbl ⊢
          clear HZ hlt nl eS hS hM
          go_upto_if 58 with fail
          go_cut [13] (fun q wx => q = .int .i64 (M : Int) ∧ Below w.heap.size w wx)
          case first =>
            by_cases c : 60 < x1
            · rw [if_pos c] at dD
              have t2 : decide ((60 : Int) < x1) = true := by simpa using c
              go_wp2
              go_meet
              case rel => exact ⟨by rw [dD], HB.out⟩
            · rw [if_neg c] at dD
              have t2 : decide ((60 : Int) < x1) = false := by simpa using c
              go_wp2
              go_meet
              case rel => exact ⟨by rw [dD], HB.out⟩
          case rest =>
          obtain ⟨rfl, hb⟩ := hcut
          have HB2 := Lib.hid hb
          have cv := bw_conv wc S
          have hbs := bw_bs wc S (by omega)
          rw [hbl] at hbs
          have bwb := bw_below wc S
          obtain ⟨cc, hcc⟩ : ∃ x, grownCap wc S.size 0 5 = x := ⟨_, rfl⟩
          rw [hcc] at cv hbs
          obtain ⟨WX, hWX⟩ : ∃ x, Lib.bytesWorld wc 5 S = x := ⟨_, rfl⟩
          rw [hWX] at cv hbs bwb
          have bX := hb.trans (bwb.mono hb.size)
          have PA := parse_any _ (nsD false j) x1 WX (HT.out.keep bX) hbs (by omega)
          have BX := Lib.hid bX
          clear hb hbs bwb hcc hWX bX szS hbl nl2 HB dD
          by_cases hle : j ≤ M
          · obtain ⟨h, kids, e1, e2⟩ := DP.1 hle
            rw [e1] at PA
            unfold ParQ at PA
            dsimp only at PA
            have PA := Lib.hid PA
            have t2 : decide ((j : Int) ≤ M) = true := by simp; omega
            clear DP e1
            go_wp2_with fail
            refine PA.out.mono ?_
            rintro e w2 ⟨tv, v, mv, rfl, hd, hv, hb2⟩
            obtain ⟨p2, hp2⟩ : ∃ x, w2.heap.size + 1 = x := ⟨_, rfl⟩
            obtain ⟨k1, k2, k3, k4, bb⟩ := two_laid w2 (vv h tv v mv) (.int .i64 0) (.int .i64 0) p2 hp2
            have C2 := BX.out.trans (hb2.mono BX.out.size)
            have B3 := Lib.hid (C2.trans (bb.mono C2.size))
            have wz := C2.size
            have t3 := hd.t.one
            have t4 := hv.one
            have t5 := hd.m.one
            have ke : ∀ x, Nw WX.heap.size w2 x → ((((w2.alloc (.cells zv 27)).alloc (.cells #[.int .i64 0, .int .i64 0] 34)).setRow w2.heap.size (vv h tv v mv)).setRow p2 #[.int .i64 0, .int .i64 0]).heap[x]? = w2.heap[x]? := fun x hx => bb.block x hx.2
            have hdS := (hd.keep ke).mono (Q := fun x => x ≠ w2.heap.size ∧ x ≠ p2 ∧ x < w2.heap.size) (fun x hx => ⟨by have := hx.2; omega, by have := hx.2; omega, hx.2⟩)
            have hvS := (hv.keep ke).mono (Q := fun x => x ≠ w2.heap.size ∧ x ≠ p2 ∧ x < w2.heap.size) (fun x hx => ⟨by have := hx.2; omega, by have := hx.2; omega, hx.2⟩)
            obtain ⟨W4, hW4⟩ : ∃ x, (((w2.alloc (.cells zv 27)).alloc (.cells #[.int .i64 0, .int .i64 0] 34)).setRow w2.heap.size (vv h tv v mv)).setRow p2 #[.int .i64 0, .int .i64 0] = x := ⟨_, rfl⟩
            rw [hW4] at k3 k4 B3 hdS hvS
            have HW4 := Lib.hid (show (((w2.alloc (.cells #[.int .i64 0, .slice none 0 0, .bool false, .string ⟨#[]⟩, .string ⟨#[]⟩, .slice none 0 0, .int .i64 0, .int .i64 0, .slice none 0 0] 27)).alloc (.cells #[.int .i64 0, .int .i64 0] 34)).setRow w2.heap.size (vv h tv v mv)).setRow p2 #[.int .i64 0, .int .i64 0] = W4 from hW4)
            have INV : Hid (DpI w w2.heap.size p2 w2.heap.size j (.int .i64 0) W4) := Lib.hid ⟨0, h, kids, tv, v, mv, rfl, Nat.zero_le _, by rw [Nat.sub_zero]; exact e2, k3, hdS, hvS, k4, B3.out⟩
            clear hW4 bb hb2 hd hv C2 hdS hvS k3 k4 e2 ke
            go_upto_region 23 with (first | (refine wpl_stV rfl _ _ rfl w2.heap.size zv h tv v mv rfl rfl k1 rfl t3 t4 t5 ?_) | (refine wpl_stK infoF1 rfl _ _ rfl p2 _ #[.int .i64 0, .int .i64 0] rfl rfl k2 rfl rfl (by simp [Value.oneCell']) ?_))
            rw [HW4.out]
            have HP2 := Lib.hid hp2
            obtain ⟨bx, hbx⟩ : ∃ x, w2.heap.size = x := ⟨_, rfl⟩
            rw [hbx] at INV wz hp2 ⊢
            have hpne : bx ≠ p2 := by omega
            clear k1 k2 t3 t4 t5 HW4 hp2 HP2 hbx cv
            go_wp2
            go_loopw [16] (fun kv wr => DpI w bx p2 bx j kv wr) (fun kv _ => j - (intOf kv).toNat)
            case atStart => exact INV.out
            case round =>
              obtain ⟨k, h, kids, tv, v, mv, rfl, hk, hdp, vb, hd, hv, bf, hb⟩ := hrel
              have HB3 := Lib.hid hb
              have VBc := Lib.hid vb
              have BF := Lib.hid bf
              have hlt := vb.lt
              by_cases hkl : k < j
              · obtain ⟨m, hm⟩ : ∃ m, j - k = m + 1 := ⟨j - k - 1, by omega⟩
                rw [hm] at hdp
                have hk1 : k + 1 ≤ j := by omega
                have hm1 : j - (k + 1) = m := by omega
                have hpb : p2 ≠ bx := fun e => hpne e.symm
                obtain ⟨L, h2, kids2, rfl, hd2⟩ := hdp
                obtain ⟨a, cap, rfl, i1, i2, i3, i4⟩ := hv
                rw [snoc_ne] at i1 i4
                obtain ⟨ib, ioff, rfl, hib, hat⟩ := i4 (by omega)
                obtain ⟨tv2, mv2, v2, hdi, hvi, hri⟩ := voAt_last L ib ioff hat
                obtain ⟨c0, c1, c2, c3, c4, c5, c6, c7, c8⟩ := vb.cells
                rw [snoc_ne] at c5
                obtain ⟨q, hq⟩ : ∃ q, L.len = q := ⟨_, rfl⟩
                rw [hq] at hri i1 c5
                obtain ⟨n, hn⟩ : ∃ n, q + 1 = n := ⟨_, rfl⟩
                rw [hn] at c5 i1
                have hsub : IntKind.i64.wrap ((n : Int) - 1) = (q : Int) := by unfold maxLen at i2; rw [IntKind.wrap_i64]; omega
                have n0 : (0 : Int) < n := by omega
                have n1 : (q : Int) < n := by omega
                have n2 : (0 : Int) ≤ q := by omega
                have k1 : (k : Int) < 100 := by omega
                have k2 : (0 : Int) ≤ k := by omega
                have s1 := hdi.t.one
                have s2 := hvi.one
                have s3 := hdi.m.one
                have ke : ∀ x, (x ≠ bx ∧ x ≠ p2 ∧ x < bx) → (wr.setRow bx (vv h2 tv2 v2 mv2)).heap[x]? = wr.heap[x]? := fun x hx => setRow_other _ _ _ _ hx.1
                have wle : w.heap.size ≤ bx := wz
                have INV2 : Hid (DpI w bx p2 bx j (.int .i64 ((k + 1 : Nat) : Int)) (wr.setRow bx (vv h2 tv2 v2 mv2))) := Lib.hid ⟨k + 1, h2, kids2, tv2, v2, mv2, rfl, hk1, by rw [hm1]; exact hd2, BK.set VBc.out _, hdi.keep ke, hvi.keep ke, bf.frame (setRow_other _ _ _ _ hpb), below_setRowK hb wle _⟩
                have RI := Lib.hid hri
                obtain ⟨WN, hWN⟩ : ∃ x, wr.setRow bx (vv h2 tv2 v2 mv2) = x := ⟨_, rfl⟩
                rw [hWN] at INV2
                have HWN := Lib.hid hWN
                obtain ⟨hc, ehc⟩ : ∃ x, vv h tv (.slice (some ⟨ib, ioff, none⟩) n cap) mv = x := ⟨_, rfl⟩
                have VBd : Hid (BK 27 wr bx hc) := Lib.hid (by rw [← ehc]; have := VBc.out; unfold VB at this; rw [snoc_ne, hq, hn] at this; exact this)
                have szc : hc.size = 9 := by rw [← ehc]; rfl
                clear hdi hvi hri hat i4 hd hd2 vb bf hb hib ke hWN c0 c1 c2 c3 c4 c6 c7 c8 VBc ehc INV
                go_wp2_with (first | (refine wpl_ldV rfl _ rfl ib (ioff + q * 9) h2 tv2 v2 mv2 rfl RI.out ?_) | (refine wpl_stV rfl _ _ rfl bx hc h2 tv2 v2 mv2 rfl rfl VBd.out szc s1 s2 s3 ?_))
                rw [HWN.out]
                go_wp2
                go_roundw
                case rel => exact INV2.out
                case measure => simp [intOf]; omega
              · obtain rfl : k = j := by omega
                rw [Nat.sub_self] at hdp
                obtain ⟨hk4, rfl⟩ := hdp
                obtain ⟨a, cap, rfl, -⟩ := hv
                obtain ⟨c0, c1, c2, c3, c4, c5, c6, c7, c8⟩ := vb.cells
                rw [hk4] at c0
                have ef := deqf_any 0 0
                have t6 : ((k : Int) == k) = true := by simp
                clear hd vb hkl INV c1 c2 c3 c4 c6 c7 c8
                go_wp2_with (first | (refine wpl_ldK Tryz.underlying34 rfl infoF1 rfl _ rfl p2 [.int .i64 0, .int .i64 0] rfl BF.out rfl ?_) | fail)
                go_wp2
                go_ret
                exact ⟨rfl, HB3.out⟩
          · have e1 := DP.2 (by omega)
            rw [e1] at PA
            unfold ParQ at PA
            dsimp only at PA
            rw [show ((M * (opD false).length : Nat) : Int) = (M : Int) * 1 by simp [opD]] at PA
            have PA := Lib.hid PA
            have t2 : decide ((j : Int) ≤ M) = false := by simp; omega
            have wm : IntKind.i64.wrap ((M : Int) * 1) = (M : Int) * 1 := by rw [IntKind.wrap_i64]; omega
            clear DP e1
            go_wp2_with fail
            refine PA.out.mono ?_
            rintro e w2 ⟨rfl, hb2⟩
            obtain ⟨p2, hp2⟩ : ∃ x, w2.heap.size + 1 = x := ⟨_, rfl⟩
            obtain ⟨AT, hAT⟩ : ∃ x : Int, (M : Int) * 1 = x := ⟨_, rfl⟩
            (try rw [hAT] at wm)
            obtain ⟨k1, k2, k3, k4, bb⟩ := two_laid w2 zvl.toArray (.int .i64 4) (.int .i64 AT) p2 hp2
            have C2 := BX.out.trans (hb2.mono BX.out.size)
            have B3 := Lib.hid (C2.trans (bb.mono C2.size))
            obtain ⟨W4, hW4⟩ : ∃ x, (((w2.alloc (.cells zv 27)).alloc (.cells #[.int .i64 0, .int .i64 0] 34)).setRow w2.heap.size zvl.toArray).setRow p2 #[.int .i64 4, .int .i64 AT] = x := ⟨_, rfl⟩
            rw [hW4] at k3 k4 B3
            have HW4 := Lib.hid (show (((w2.alloc (.cells #[.int .i64 0, .slice none 0 0, .bool false, .string ⟨#[]⟩, .string ⟨#[]⟩, .slice none 0 0, .int .i64 0, .int .i64 0, .slice none 0 0] 27)).alloc (.cells #[.int .i64 0, .int .i64 0] 34)).setRow w2.heap.size (vv ⟨0, [], false, [], [], 0, 0, []⟩ nilV nilV nilV)).setRow p2 #[.int .i64 4, .int .i64 AT] = W4 from hW4)
            have K4 := Lib.hid k4
            have ef := deqf_any 4 AT
            rw [hAT]
            clear hW4 bb hb2 C2 k4 k3
            go_upto_region 23 with (first | (refine wpl_stV rfl _ _ rfl w2.heap.size zv ⟨0, [], false, [], [], 0, 0, []⟩ nilV nilV nilV rfl rfl k1 rfl rfl rfl rfl ?_) | (refine wpl_stK infoF1 rfl _ _ rfl p2 _ #[.int .i64 4, .int .i64 AT] rfl rfl k2 rfl rfl (by simp [Value.oneCell']) ?_))
            rw [HW4.out]
            go_wp2_with (first | (refine wpl_ldK Tryz.underlying34 rfl infoF1 rfl _ rfl p2 [.int .i64 4, .int .i64 AT] rfl K4.out rfl ?_) | fail)
            go_wp2
            go_ret
            exact ⟨rfl, B3.out⟩
set_option maxRecDepth 100000 in
set_option maxHeartbeats 4000000 in
theorem jpdeep_walk (x0 x1 : Int) (x2 : Bool) (w : World) {P0 P1 : Prop} (m0 : P0) (m1 : P1) (hT : TabX w) :
    Calls Tryz.prog 4 #[.int .i64 x0, .int .i64 x1, .bool x2] w fun e w' => e = .returned (.bool true) ∧ Below w.heap.size w w' := by
  by_cases hc : 0 ≤ x0 ∧ x0 ≤ 70 ∧ 0 ≤ x1 ∧ x1 ≤ 70
  · obtain ⟨N, rfl⟩ : ∃ N : Nat, x0 = N := ⟨x0.toNat, by omega⟩
    cases x2 with
    | true => exact jpdeep_true N x1 w (by omega) hc.2.2 hT
    | false => exact jpdeep_false N x1 w (by omega) hc.2.2 hT
  · have AL := Lib.hid (alive7_any w hT)
    have hh : x0 < 0 ∨ (¬ x0 < 0 ∧ 70 < x0) ∨ (¬ x0 < 0 ∧ ¬ 70 < x0 ∧ x1 < 0) ∨ (¬ x0 < 0 ∧ ¬ 70 < x0 ∧ ¬ x1 < 0 ∧ 70 < x1) := by omega
    clear hc hT
    rcases hh with h1 | ⟨h1, h2⟩ | ⟨h1, h2, h3⟩ | ⟨h1, h2, h3, h4⟩
    all_goals (
      go_enter Tryz.func4, Tryz.ntmps4
      go_wp2_with fail
      refine AL.out.mono ?_
      rintro e w1 ⟨rfl, hb⟩
      go_wp2
      go_ret
      exact ⟨rfl, hb⟩)
end Go.Proofs.YtbfnlgmhfhaglaaGreatDoor
