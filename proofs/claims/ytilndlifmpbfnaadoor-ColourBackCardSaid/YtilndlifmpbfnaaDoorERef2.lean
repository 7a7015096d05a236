/- The reference of names: escaped, Take, numbered. -/
import Derived.Test.YtilndlifmpbfnaaDoorERef
import Derived.Test.YtilndlifmpbfnaaDoorENTake
import Derived.Laws.Concat
import Derived.Outline
namespace Go.Proofs.YtilndlifmpbfnaaDoor
open Go.RowKit
set_option linter.unusedVariables false
set_option linter.unusedSimpArgs false

theorem encZs_le4 (l : List Int) : (M.encZs l).length ≤ 4 * l.length := (M.encZs_len l).2
set_option maxRecDepth 100000 in
set_option maxHeartbeats 4000000 in
theorem rescaped_any (v : Value) (c : List Int) (i : Nat) (r : Int) (k : Nat) (w : World) (hv : Lc w v c) (hl : c.length ≤ 4294967290) (hi : i < c.length) (h : M.escV (c.drop (i + 1)) = (r, k)) :
    Calls Tryd.prog 33 #[v, .int .i64 (i : Int)] w fun e w' => e = .returned (.tuple #[.int .i64 r, .int .i64 ((i + 1 + k : Nat) : Int)]) ∧ w = w' := by
  have AT := Lib.hid (fun j => rat_any v c j _ w hv (by omega) rfl)
  obtain ⟨a, cap, rfl, h1, h2, h3⟩ := hv
  obtain ⟨n, hn⟩ : ∃ n, c.length = n := ⟨_, rfl⟩
  unfold maxLen at h2
  rw [hn] at h1 h3 hl hi AT ⊢
  obtain ⟨m, hm⟩ : ∃ m, i + 1 = m := ⟨_, rfl⟩
  rw [hm] at h ⊢
  have hm' : (i : Int) + 1 = m := by omega
  have hm7 : (i : Int) + 7 = (m : Int) + 6 := by omega
  have hm2 : (i : Int) + 2 = (m : Int) + 1 := by omega
  clear h3
  have A0 := AT.out m
  by_cases hend : m = n
  · rw [List.drop_eq_nil_of_le (by omega)] at h
    simp only [M.escV, Prod.mk.injEq] at h
    obtain ⟨rfl, rfl⟩ := h
    have Hm := Lib.hid hm
    have HA := Lib.hid A0
    have t0 : (n : Int) ≤ m := by omega
    clear hn hm hend A0
    go_enter Tryd.func33, Tryd.ntmps33
    go_wp2_with fail
    refine (HA.out).mono ?_
    rintro e w' ⟨rfl, rfl⟩
    go_wp2
    go_ret2
    exact ⟨etup_ii rfl (by omega), rfl⟩
  have hmn : m < n := by omega
  have i2 : (m : Int) < n := by omega
  have i0 : (0 : Int) ≤ m := by omega
  have tg : decide ((n : Int) ≤ m) = false := by simp; omega
  have hdc : c.drop m = c.getD m (-1) :: c.drop (m + 1) := by rw [getD_lt c m (by omega)]; exact List.drop_eq_getElem_cons (by omega)
  by_cases hx : M.isX (c.getD m (-1)) = true
  · rw [hdc] at h
    simp only [M.escV, hx, if_true, Prod.mk.injEq] at h
    rw [← hdc] at h
    obtain ⟨hr, hk⟩ := h
    obtain ⟨D, hD⟩ : ∃ D, M.hexRun 6 (c.drop m) = D := ⟨_, rfl⟩
    have hg := M.hexRun_get 6 (c.drop m)
    have he := M.hexRun_end 6 (c.drop m)
    have hle := M.hexRun_len 6 (c.drop m)
    have hsm := M.hexVal_small 6 (c.drop m)
    have hst := M.hexVal_step D
    rw [hD] at hg he hle hr hk
    simp only [getD_drop, hD] at hg he hk hsm
    rw [List.length_drop, hn] at he hle
    obtain ⟨d, hd⟩ : ∃ d, D.length = d := ⟨_, rfl⟩
    rw [hd] at he hle hk
    have hxr := M.xv_range _ hx
    have X1 := Lib.hid (rhex_any (c.getD m (-1)) _ w (hexO_x _ hx))
    obtain ⟨x0, hx0⟩ : ∃ x, M.xv (c.getD m (-1)) = x := ⟨_, rfl⟩
    rw [hx0] at X1 hxr
    obtain ⟨hx00, hx01⟩ := hxr
    have Hr := Lib.hid hr
    have Hk := Lib.hid hk
    have Hn := Lib.hid hn
    have Hm := Lib.hid hm
    have Hd := Lib.hid hd
    have HG := Lib.hid hg
    have HE := Lib.hid he
    have HS := Lib.hid hsm
    have HT := Lib.hid hst
    have hm0 : M.hexVal (D.take 0) = 0 := by simp [M.hexVal]
    have Hm0 := Lib.hid hm0
    obtain ⟨y, hy⟩ : ∃ y, c.getD m (-1) = y := ⟨_, rfl⟩
    rw [hy] at A0 X1
    have HA := Lib.hid A0
    clear hr hk hn hm hd hg he hsm hst hdc hx hD hend hy hm0 hx0 A0
    have hd6 := hle.1
    have hdn := hle.2
    clear hle
    go_enter Tryd.func33, Tryd.ntmps33
    go_wp2_with fail
    refine (HA.out).mono ?_
    rintro e w' ⟨rfl, rfl⟩
    go_wp2_with fail
    refine (X1.out).mono ?_
    rintro e w' ⟨rfl, rfl⟩
    go_wp2
    go_loop [7, 8] (fun rv ev => ∃ j : Nat, ev = .int .i64 ((m : Int) + j) ∧ j ≤ d ∧ rv = .int .i64 (M.hexVal (D.take j))) (fun _ ev => m + d - (intOf ev).toNat)
    case atStart => exact ⟨0, by simp, by omega, by rw [Hm0.out]⟩
    case round =>
      obtain ⟨j, rfl, hj, rfl⟩ := hrel
      obtain ⟨V, hV⟩ : ∃ V, M.hexVal (D.take j) = V := ⟨_, rfl⟩
      have hVr := HS.out j (by decide)
      rw [hV] at hVr ⊢
      obtain ⟨hV0, hV1⟩ := hVr
      obtain ⟨q, hq⟩ : ∃ q, m + j = q := ⟨_, rfl⟩
      have hq' : (m : Int) + j = q := by omega
      rw [hq']
      have A1 := AT.out q
      by_cases hlt : j < d
      · obtain ⟨g1, g2⟩ := HG.out j (by rw [Hd.out]; exact hlt)
        have ht := HT.out j (by rw [Hd.out]; exact hlt)
        rw [← g1, hV, hq] at ht
        rw [hq] at g2
        have hxr := M.xv_range _ g2
        obtain ⟨x, hx⟩ : ∃ x, M.xv (c.getD q (-1)) = x := ⟨_, rfl⟩
        have X2 := Lib.hid (rhex_any (c.getD q (-1)) _ w (hexO_x _ g2))
        rw [hx] at ht hxr X2
        obtain ⟨hx0, hx1⟩ := hxr
        obtain ⟨y2, hy⟩ : ∃ y, c.getD q (-1) = y := ⟨_, rfl⟩
        rw [hy] at A1 X2
        have HA1 := Lib.hid A1
        have Ht := Lib.hid ht
        have Hq := Lib.hid hq
        have j1 : (0 : Int) ≤ q := by omega
        have j3 : (q : Int) < (m : Int) + 6 := by omega
        clear g1 g2 ht hx hy hq hV hq' A1
        go_wp2_with fail
        refine (HA1.out).mono ?_
        rintro e w' ⟨rfl, rfl⟩
        go_wp2_with fail
        refine (X2.out).mono ?_
        rintro e w' ⟨rfl, rfl⟩
        go_wp2_with fail
        refine (HA1.out).mono ?_
        rintro e w' ⟨rfl, rfl⟩
        go_wp2_with fail
        refine (X2.out).mono ?_
        rintro e w' ⟨rfl, rfl⟩
        go_wp2
        go_round
        case rel => exact ⟨j + 1, by have := Hq.out; go_num, by omega, by rw [Ht.out]⟩
        case measure => have := Hq.out; simp [intOf]; omega
      · obtain rfl : j = d := by omega
        have hvd : V = M.hexVal D := by rw [← hV, List.take_of_length_le (by rw [Hd.out]; exact Nat.le_refl _)]
        have hr2 : M.okX V = r := by rw [hvd]; exact Hr.out
        have hk2 := Hk.out
        have he2 := HE.out
        rw [hq] at hk2 he2
        have Hq := Lib.hid hq
        have HR := Lib.hid hr2
        have HK := Lib.hid hk2
        have j1 : (0 : Int) ≤ q := by omega
        have hnx : n ≤ q → M.isX (c.getD q (-1)) = false := fun hh => by simp [List.getD, List.getElem?_eq_none (show c.length ≤ q by rw [Hn.out]; exact hh), M.isX, M.nDg]
        have hqq := Hq.out
        have j4 : (q : Int) ≤ 4294967290 := by omega
        have hx2 : ((m : Int) + 6 ≤ q) ∨ ((q : Int) < (m : Int) + 6 ∧ M.isX (c.getD q (-1)) = false) := by
          by_cases h6 : (q : Int) < (m : Int) + 6
          · right
            refine ⟨h6, ?_⟩
            rcases he2 with h | h | ⟨h, h2⟩
            · omega
            · exact hnx (by omega)
            · exact h2
          · left; omega
        obtain ⟨bl, hbl⟩ : ∃ bl, M.isBl (c.getD q (-1)) = bl := ⟨_, rfl⟩
        have X2 := Lib.hid (risbl_any (c.getD q (-1)) bl w hbl)
        have HB := Lib.hid hbl
        obtain ⟨y2, hy⟩ : ∃ y, c.getD q (-1) = y := ⟨_, rfl⟩
        rw [hy] at X2 hx2 A1
        have HA1 := Lib.hid A1
        clear hV hvd hr2 hk2 hlt hq' hq hnx he2 hqq hbl hy A1
        rcases hx2 with h6 | ⟨h6, hx2⟩
        · have t3 : decide ((q : Int) < (m : Int) + 6) = false := by simp; omega
          cases bl
          all_goals
            go_wp2_with fail
            refine (HA1.out).mono ?_
            rintro e w' ⟨rfl, rfl⟩
            go_wp2_with fail
            refine (X2.out).mono ?_
            rintro e w' ⟨rfl, rfl⟩
            go_wp2
            all_goals
              go_ret2
              refine ⟨etup_ii ?_ ?_, rfl⟩
              · rw [← HR.out]; unfold M.okX; (try simp only [beq_iff_eq] at *); split <;> omega
              · have hk3 := HK.out; have hqq := Hq.out; rw [HB.out] at hk3; simp at hk3; omega
        · have t3 : decide ((q : Int) < (m : Int) + 6) = true := by simp; omega
          have X4 := Lib.hid (rhex_any y2 _ w (hexO_n _ hx2))
          clear hx2
          cases bl
          all_goals
            go_wp2_with fail
            refine (HA1.out).mono ?_
            rintro e w' ⟨rfl, rfl⟩
            go_wp2_with fail
            refine (X4.out).mono ?_
            rintro e w' ⟨rfl, rfl⟩
            go_wp2_with fail
            refine (HA1.out).mono ?_
            rintro e w' ⟨rfl, rfl⟩
            go_wp2_with fail
            refine (X2.out).mono ?_
            rintro e w' ⟨rfl, rfl⟩
            go_wp2
            all_goals
              go_ret2
              refine ⟨etup_ii ?_ ?_, rfl⟩
              · rw [← HR.out]; unfold M.okX; (try simp only [beq_iff_eq] at *); split <;> omega
              · have hk3 := HK.out; have hqq := Hq.out; rw [HB.out] at hk3; simp at hk3; omega
  · have hx' : M.isX (c.getD m (-1)) = false := by simpa using hx
    rw [hdc] at h
    simp only [M.escV, hx', Bool.false_eq_true, if_false, Prod.mk.injEq] at h
    obtain ⟨hr, rfl⟩ := h
    have X1 := Lib.hid (rhex_any (c.getD m (-1)) _ w (hexO_n _ hx'))
    rw [hr] at A0 X1
    have HA := Lib.hid A0
    have Hn := Lib.hid hn
    have Hm := Lib.hid hm
    clear hn hm hend hx hx' hdc hr A0
    go_enter Tryd.func33, Tryd.ntmps33
    go_wp2_with fail
    refine (HA.out).mono ?_
    rintro e w' ⟨rfl, rfl⟩
    go_wp2_with fail
    refine (X1.out).mono ?_
    rintro e w' ⟨rfl, rfl⟩
    go_wp2
    go_ret2
    exact ⟨etup_ii rfl (by omega), rfl⟩
set_option maxRecDepth 100000 in
set_option maxHeartbeats 4000000 in
theorem rtake_any (v : Value) (c : List Int) (at' : Int) (T : List Int) (K : Nat) (w : World) (hv : Lc w v c) (hl : c.length ≤ 100000) (h1 : (M.takeN (c.drop (clampN at' c.length))).1 = T) (h2 : clampN at' c.length + (M.takeN (c.drop (clampN at' c.length))).2 = K) :
    Calls Tryd.prog 24 #[v, .int .i64 at'] w (TkP w T K) := by
  obtain ⟨n, hn⟩ : ∃ n, c.length = n := ⟨_, rfl⟩
  have hi0 := clamp_le at' n
  rw [hn] at h1 h2
  have hcap : (if at' < 0 then 0 else if (n : Int) < at' then (n : Int) else at') = (clampN at' n : Int) := by
    unfold clampN
    by_cases h0 : at' < 0
    · rw [if_pos h0, show min at' (n : Int) = at' from Int.min_eq_left (by omega), Int.max_eq_left (by omega)]; rfl
    · rw [if_neg h0]
      by_cases hh : (n : Int) < at'
      · rw [if_pos hh, show min at' (n : Int) = n from Int.min_eq_right (by omega), Int.max_eq_right (by omega)]; simp
      · rw [if_neg hh, show min at' (n : Int) = at' from Int.min_eq_left (by omega), Int.max_eq_right (by omega)]; omega
  obtain ⟨i0, hi00⟩ : ∃ i0, clampN at' n = i0 := ⟨_, rfl⟩
  rw [hi00] at h1 h2 hi0 hcap
  have CP := Lib.hid (rcap_any at' 0 n w _ hcap)
  have hv2 := hv
  obtain ⟨a, cap, rfl, g1, g2, g3⟩ := hv2
  unfold maxLen at g2
  rw [hn] at g1 g3 hl ⊢
  have Hv := Lib.hid hv
  have Hn := Lib.hid hn
  have H1 := Lib.hid h1
  have H2 := Lib.hid h2
  have H3 := Lib.hid g3
  have hNO : n ≤ 100000 := hl
  clear hv hn h1 h2 g3 hcap hi00
  go_enter Tryd.func24, Tryd.ntmps24
  go_wp2_with fail
  refine (CP.out).mono ?_
  rintro e w' ⟨rfl, rfl⟩
  go_wp2
  go_loopw [1, 6, 7, 8] (fun av nv _ _ wr => ∃ (i : Nat) (pre : List Int), av = .int .i64 i ∧ i ≤ n ∧ pre ++ (M.takeN (c.drop i)).1 = T ∧ i + (M.takeN (c.drop i)).2 = K ∧ pre.length ≤ i ∧ OwnB w.heap.size wr nv (M.encZs pre) ∧ Below w.heap.size w wr) (fun av _ _ _ _ => n - (intOf av).toNat)
  case atStart => exact ⟨i0, [], rfl, hi0, H1.out, H2.out, by simp, World.ownsRow_nil _ _ _ _, Below.refl _ _⟩
  case round =>
    obtain ⟨i, pre, rfl, hi, hp1, hp2, hpl, ho, hb⟩ := hrel
    have hsz := hb.size
    have hel := encZs_le4 pre
    by_cases hlt : i < n
    · obtain ⟨p, off, rfl, hp, hc⟩ := H3.out (by omega)
      have c0 := hc i hlt
      have cr := hb.cell (p := ⟨p, off + i * 2, none⟩) hp
      rw [c0] at cr
      have i1 : (0 : Int) ≤ i := by omega
      have i2 : (i : Int) < n := by omega
      have Lv := Hv.out.keep hb
      cases hin : M.nIn (c.getD i (-1)) with
      | true =>
        have X1 := Lib.hid (rnin_any _ true wr hin)
        have hte := M.takeN_at_in c i (by rw [Hn.out]; exact hlt) hin
        rw [hte] at hp1 hp2
        obtain ⟨r, hr⟩ : ∃ y, c.getD i (-1) = y := ⟨_, rfl⟩
        rw [hr] at hp1 cr X1
        simp only at hp1 hp2
        have hp1' : (pre ++ [r]) ++ (M.takeN (c.drop (i + 1))).1 = T := by rw [← hp1]; simp
        have hp2' : (i + 1) + (M.takeN (c.drop (i + 1))).2 = K := by omega
        have PT := Lib.hid (refput_any w.heap.size u6 (M.encZs pre) (M.encZs (pre ++ [r])) r wr ho (by omega) hsz (by rw [M.encZs_append, M.encZs_cons, M.encZs_nil, List.append_nil]))
        have P1 := Lib.hid hp1'
        have P2 := Lib.hid hp2'
        clear hc c0 Lv hr hte hp1 hp2 hp1' hp2' hin ho hel
        go_wp2_with fail
        refine (X1.out).mono ?_
        rintro e w' ⟨rfl, rfl⟩
        go_wp2_with fail
        refine (PT.out).mono ?_
        rintro e w2 ⟨v2, rfl, ho2, hb2⟩
        have hb3 := hb.trans hb2
        clear hb hb2
        go_wp2
        go_roundw
        case rel => exact ⟨i + 1, pre ++ [r], by go_num, by omega, P1.out, P2.out, by simp; omega, ho2, hb3⟩
        case measure => simp [intOf]; omega
      | false =>
        have X1 := Lib.hid (rnin_any _ false wr hin)
        cases he : M.esB (c.drop i) with
        | true =>
          have E1 := Lib.hid (rescape_any _ c i true wr Lv (by rw [Hn.out]; omega) (by omega) he)
          obtain ⟨r, k, hr⟩ : ∃ r k, M.escV (c.drop (i + 1)) = (r, k) := ⟨_, _, rfl⟩
          have E2 := Lib.hid (rescaped_any _ c i r k wr Lv (by rw [Hn.out]; omega) (by rw [Hn.out]; exact hlt) hr)
          have hte := M.takeN_at_esc c i (by rw [Hn.out]; exact hlt) he
          have hle := M.escV_le_at c i (by rw [Hn.out]; exact hlt)
          rw [hr] at hte hle
          simp only at hte hle
          rw [hte] at hp1 hp2
          rw [Hn.out] at hle
          simp only at hp1 hp2
          have hp1' : (pre ++ [r]) ++ (M.takeN (c.drop (i + 1 + k))).1 = T := by rw [← hp1]; simp
          have hp2' : (i + 1 + k) + (M.takeN (c.drop (i + 1 + k))).2 = K := by omega
          have PT := Lib.hid (refput_any w.heap.size u6 (M.encZs pre) (M.encZs (pre ++ [r])) r wr ho (by omega) hsz (by rw [M.encZs_append, M.encZs_cons, M.encZs_nil, List.append_nil]))
          have P1 := Lib.hid hp1'
          have P2 := Lib.hid hp2'
          rw [Hn.out] at E1 E2
          obtain ⟨j, hj⟩ : ∃ j, i + 1 + k = j := ⟨_, rfl⟩
          rw [hj] at hle P1 P2 E2
          have hj2 : i + 1 ≤ j := by omega
          obtain ⟨y, hy⟩ : ∃ y, c.getD i (-1) = y := ⟨_, rfl⟩
          rw [hy] at cr X1
          clear hc c0 Lv he hr hte hp1 hp2 hp1' hp2' hj hy hin ho hel
          go_wp2_with fail
          refine (X1.out).mono ?_
          rintro e w' ⟨rfl, rfl⟩
          go_wp2_with fail
          refine (E1.out).mono ?_
          rintro e w' ⟨rfl, rfl⟩
          go_wp2_with fail
          refine (E2.out).mono ?_
          rintro e w' ⟨rfl, rfl⟩
          go_wp2_with fail
          refine (PT.out).mono ?_
          rintro e w2 ⟨v2, rfl, ho2, hb2⟩
          have hb3 := hb.trans hb2
          clear hb hb2
          go_wp2
          go_roundw
          case rel => exact ⟨j, pre ++ [r], by go_num, by omega, P1.out, P2.out, by simp; omega, ho2, hb3⟩
          case measure => simp [intOf]; omega
        | false =>
          have E1 := Lib.hid (rescape_any _ c i false wr Lv (by rw [Hn.out]; omega) (by omega) he)
          rw [Hn.out] at E1
          have hte := M.takeN_at_out c i (by rw [Hn.out]; exact hlt) he hin
          rw [hte] at hp1 hp2
          obtain ⟨y, hy⟩ : ∃ y, c.getD i (-1) = y := ⟨_, rfl⟩
          rw [hy] at cr X1
          simp only [List.append_nil, Nat.add_zero] at hp1 hp2
          subst hp1
          subst hp2
          have hcv := conv_own ho
          have HF : Hid (TkP w pre i (.returned (.tuple #[.string (bytes (M.encZs pre)), .int .i64 (i : Int)])) wr) := Lib.hid ⟨rfl, hb⟩
          clear hc c0 Lv he hte hin hy ho hel hb
          go_wp2_with fail
          refine (X1.out).mono ?_
          rintro e w' ⟨rfl, rfl⟩
          go_wp2_with fail
          refine (E1.out).mono ?_
          rintro e w' ⟨rfl, rfl⟩
          go_wp2
          go_ret2
          exact HF.out
    · obtain rfl : i = n := by omega
      have hte := M.takeN_at_end c i (by rw [Hn.out]; exact Nat.le_refl _)
      rw [hte] at hp1 hp2
      simp only [List.append_nil, Nat.add_zero] at hp1 hp2
      subst hp1
      subst hp2
      have hcv := conv_own ho
      have HF : Hid (TkP w pre i (.returned (.tuple #[.string (bytes (M.encZs pre)), .int .i64 (i : Int)])) wr) := Lib.hid ⟨rfl, hb⟩
      clear hte ho hlt hel hb
      go_wp2
      go_ret2
      exact HF.out
end Go.Proofs.YtilndlifmpbfnaaDoor
