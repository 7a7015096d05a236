/- The walk of CnameTells. -/
import Derived.Test.YtkaojigdogeliaaDoorERef5
import Derived.Deep.QuietTactic
import Derived.BigQuiet
import Derived.Outline
namespace Go.Proofs.YtkaojigdogeliaaDoor
open Go.RowKit
set_option linter.unusedVariables false
set_option linter.unusedSimpArgs false

theorem below_drewN9 {B : Nat} {a w : World} (h : Below B a w) (n : Nat) : Below B a (w.drewN n) := ⟨h.os, h.tape, h.output, h.size, h.block⟩
/-- Are all of them code points? -/
def allP (c : List Int) : Bool := c.all fun r => decide (0 ≤ r) && decide (r ≤ 1114111)
theorem allP_false (c : List Int) (i : Nat) (h : i < c.length) (h2 : c.getD i (-1) < 0 ∨ 1114111 < c.getD i (-1)) : allP c = false := by
  rw [getD_lt c i h] at h2
  simp only [allP, List.all_eq_false]
  refine ⟨c[i], List.getElem_mem h, ?_⟩
  simp; omega
theorem allP_true (c : List Int) (h : ∀ i, i < c.length → 0 ≤ c.getD i (-1) ∧ c.getD i (-1) ≤ 1114111) : allP c = true := by
  simp only [allP, List.all_eq_true]
  intro r hr
  obtain ⟨i, hi, rfl⟩ := List.getElem_of_mem hr
  have := h i hi
  rw [getD_lt c i hi] at this
  simp [this]
set_option maxRecDepth 100000 in
set_option maxHeartbeats 2000000 in
theorem lpoints_any (v : Value) (c : List Int) (b : Bool) (w : World) (hv : Lc w v c) (hl : c.length ≤ 4294967290) (h : allP c = b) :
    Calls Tryd.prog 9 #[v] w fun e w' => e = .returned (.bool b) ∧ w = w' := by
  obtain ⟨a, cap, rfl, h1, h2, h3⟩ := hv
  obtain ⟨n, hn⟩ : ∃ n, c.length = n := ⟨_, rfl⟩
  unfold maxLen at h2
  rw [hn] at h1 h3 hl ⊢
  have H3 := Lib.hid h3
  have Hn := Lib.hid hn
  have H := Lib.hid h
  clear h3 hn h
  go_enter Tryd.func9, Tryd.ntmps9
  go_wp2
  go_loop [3] (fun iv => ∃ i : Nat, iv = .int .i64 i ∧ i ≤ n ∧ (∀ j, j < i → 0 ≤ c.getD j (-1) ∧ c.getD j (-1) ≤ 1114111)) (fun iv => n - (intOf iv).toNat)
  case atStart => exact ⟨0, rfl, by omega, fun j hj => by omega⟩
  case round =>
    obtain ⟨i, rfl, hi, hall⟩ := hrel
    by_cases hlt : i < n
    · obtain ⟨p, off, rfl, hp, hc⟩ := H3.out (by omega)
      have c0 := hc i hlt
      have hf := allP_false c i (by rw [Hn.out]; exact hlt)
      have Hall := Lib.hid hall
      have i1 : (0 : Int) ≤ i := by omega
      have i2 : (i : Int) < n := by omega
      obtain ⟨r, hr⟩ : ∃ r, c.getD i (-1) = r := ⟨_, rfl⟩
      rw [hr] at c0 hf
      have Hr := Lib.hid hr
      have hway : r < 0 ∨ (0 ≤ r ∧ 1114111 < r) ∨ (0 ≤ r ∧ r ≤ 1114111) := by omega
      rcases hway with q1 | ⟨q0, q1⟩ | ⟨q0, q1⟩
      · have hbf : b = false := by rw [← H.out]; exact hf (.inl q1)
        subst hbf
        clear hc hall hf hr
        go_wp2
        go_ret
        exact ⟨rfl, rfl⟩
      · have hbf : b = false := by rw [← H.out]; exact hf (.inr q1)
        subst hbf
        clear hc hall hf hr
        go_wp2
        go_ret
        exact ⟨rfl, rfl⟩
      · have HA2 : Hid (∀ j, j < i + 1 → 0 ≤ c.getD j (-1) ∧ c.getD j (-1) ≤ 1114111) := Lib.hid (fun j hj => by
          by_cases hji : j < i
          · exact Hall.out j hji
          · obtain rfl : j = i := by omega
            rw [Hr.out]; exact ⟨q0, q1⟩)
        clear hc hall hf hr
        go_wp2
        go_round
        case rel => exact ⟨i + 1, by go_num, by omega, HA2.out⟩
        case measure => simp [intOf]; omega
    · obtain rfl : i = n := by omega
      have hbt : b = true := by rw [← H.out]; exact allP_true c (fun j hj => hall j (by rw [Hn.out] at hj; exact hj))
      subst hbt
      clear hall hlt
      go_wp2
      go_ret
      exact ⟨rfl, rfl⟩
set_option maxRecDepth 100000 in
set_option maxHeartbeats 4000000 in
theorem etells_walk (a0 : Option Addr) (len0 cap0 : Nat) (x1 x2 : Int) (s0 : ByteArray) (rs : List (Int × Int)) (w : World) (hr : rs.length = len0) (b1 : Rs w (.slice a0 len0 cap0) rs) (n1 : NNv (.slice a0 len0 cap0)) {P1 P2 P3 : Prop} (m1 : P1) (m2 : P2) (m3 : P3) (hT : TabsE w) :
    Calls Tryd.prog 3 #[.slice a0 len0 cap0, .int .i64 x1, .int .i64 x2, .string s0] w fun e w' => e = .returned (.bool true) ∧ Below w.heap.size w w' := by
  have hs : bytes s0.data.toList = s0 := by apply ByteArray.ext; simp [bytes]
  obtain ⟨l, hl⟩ : ∃ l, s0.data.toList = l := ⟨_, rfl⟩
  rw [hl] at hs
  subst hs
  have hsz := bytes_size l
  have al := Lib.hid (alive_any w hT)
  have HT := Lib.hid hT
  have B1 := Lib.hid b1
  have N1 := Lib.hid n1
  have Hr := Lib.hid hr
  have hlc := b1.lc
  have hcl : (cps rs).length = len0 := by rw [cps_len]; exact hr
  by_cases hb0 : 300 < len0
  · have h0' : (300 : Int) < len0 := by omega
    obtain ⟨S, hS⟩ : ∃ S, bytes l = S := ⟨_, rfl⟩
    rw [hS]
    clear b1 n1 hT hr m1 m2 m3 hl hsz hS hlc hcl
    go_enter Tryd.func3, Tryd.ntmps3
    go_wp2_with fail
    refine al.out.mono ?_
    rintro e w1 ⟨rfl, hb⟩
    go_wp2
    go_ret
    exact ⟨rfl, hb⟩
  have q1 : decide ((300 : Int) < len0) = false := by simp; omega
  have q1' : ¬ (300 : Int) < len0 := by omega
  by_cases hb2 : 200 < l.length
  · obtain ⟨S, hS⟩ : ∃ S, bytes l = S := ⟨_, rfl⟩
    rw [hS] at hsz ⊢
    have h0' : (200 : Int) < S.size := by omega
    have q2 : decide ((200 : Int) < S.size) = true := by simpa using h0'
    clear b1 n1 hT hr m1 m2 m3 hl hsz hS hlc hcl hb2
    go_enter Tryd.func3, Tryd.ntmps3
    go_wp2_with fail
    refine al.out.mono ?_
    rintro e w1 ⟨rfl, hb⟩
    go_wp2
    go_ret
    exact ⟨rfl, hb⟩
  obtain ⟨c, hc⟩ : ∃ c, cps rs = c := ⟨_, rfl⟩
  rw [hc] at hlc hcl
  have HL := Lib.hid hlc
  cases hp : allP c with
  | false =>
    have PP := Lib.hid (fun W hW => lpoints_any (.slice a0 len0 cap0) c false W hW (by omega) hp)
    obtain ⟨S, hS⟩ : ∃ S, bytes l = S := ⟨_, rfl⟩
    rw [hS] at hsz ⊢
    have h0' : ¬ (200 : Int) < S.size := by omega
    have q2 : decide ((200 : Int) < S.size) = false := by simpa using h0'
    clear b1 n1 hT hr m1 m2 m3 hl hsz hS hlc hcl hb2 hp hc
    go_enter Tryd.func3, Tryd.ntmps3
    go_wp2_with fail
    refine al.out.mono ?_
    rintro e w1 ⟨rfl, hb⟩
    have L1 := Lib.hid (HL.out.keep hb)
    go_wp2_with fail
    refine (PP.out _ L1.out).mono ?_
    rintro e w' ⟨rfl, rfl⟩
    go_wp2
    go_ret
    exact ⟨rfl, hb⟩
  | true =>
    have PP := Lib.hid (fun W hW => lpoints_any (.slice a0 len0 cap0) c true W hW (by omega) hp)
    obtain ⟨T, hTT⟩ : ∃ T, (M.takeN (c.drop (clampN x1 c.length))).1 = T := ⟨_, rfl⟩
    obtain ⟨K, hKK⟩ : ∃ K, clampN x1 c.length + (M.takeN (c.drop (clampN x1 c.length))).2 = K := ⟨_, rfl⟩
    have K1 := Lib.hid (fun v W hW => ntake_core v c x1 T K W hW (by omega) hTT hKK)
    have K2 := Lib.hid (fun v W hW => rtake_any v c x1 T K W hW (by omega) hTT hKK)
    have S1 := Lib.hid (fun W => nst_any x2 _ W rfl)
    have S2 := Lib.hid (fun W => rnst_any x2 _ W rfl)
    have I1 := Lib.hid (fun W => nin_any x2 _ W rfl)
    have I2 := Lib.hid (fun W => rnin_any x2 _ W rfl)
    have G1 := Lib.hid (fun v W hW => nbegins_any v c x1 _ W hW (by omega) rfl)
    have G2 := Lib.hid (fun v W hW => rbegins_any v c x1 _ W hW (by omega) rfl)
    have P1 := Lib.hid (fun W hW => spell_any l _ W hW (by omega) rfl)
    have P2 := Lib.hid (fun W => rspellf_any l _ W (by omega) rfl)
    have R1 := Lib.hid (fun W hW => sprest_any l _ W hW (by omega) rfl)
    have R2 := Lib.hid (fun W => rspellrest_any l _ W (by omega) rfl)
    have Q1 := Lib.hid (fun W hW => ctextq_any l _ W hW (by omega) rfl)
    have Q2 := Lib.hid (fun W => rqtext_any l _ W (by omega) rfl)
    unfold TkP at K1 K2
    unfold StP at P1 P2 R1 R2 Q1 Q2
    obtain ⟨bs, hbs⟩ : ∃ b, M.nSt x2 = b := ⟨_, rfl⟩
    obtain ⟨bi, hbi⟩ : ∃ b, M.nIn x2 = b := ⟨_, rfl⟩
    obtain ⟨bg, hbg⟩ : ∃ b, (if x1 < 0 then false else M.begN (c.drop x1.toNat)) = b := ⟨_, rfl⟩
    rw [hbs] at S1 S2
    rw [hbi] at I1 I2
    rw [hbg] at G1 G2
    obtain ⟨TS, hTS⟩ : ∃ b, bytes (M.encZs T) = b := ⟨_, rfl⟩
    obtain ⟨U1, hU1⟩ : ∃ b, bytes (M.encZs (M.spF (M.pn l 0))) = b := ⟨_, rfl⟩
    obtain ⟨U2, hU2⟩ : ∃ b, bytes (M.encZs (M.spR (M.pn l 0))) = b := ⟨_, rfl⟩
    obtain ⟨U3, hU3⟩ : ∃ b, bytes (M.qText (M.pn l 0)) = b := ⟨_, rfl⟩
    rw [hTS] at K1 K2
    rw [hU1] at P1 P2
    rw [hU2] at R1 R2
    rw [hU3] at Q1 Q2
    obtain ⟨S, hS⟩ : ∃ S, bytes l = S := ⟨_, rfl⟩
    rw [hS] at hsz P1 P2 R1 R2 Q1 Q2 ⊢
    have h0' : ¬ (200 : Int) < S.size := by omega
    have q2 : decide ((200 : Int) < S.size) = false := by simpa using h0'
    have e1 : (bs == bs) = true := by simp
    have e2 : (bi == bi) = true := by simp
    have e3 : (bg == bg) = true := by simp
    have e4 : (TS.toList == TS.toList) = true := by simp
    have e5 : (U1.toList == U1.toList) = true := by simp
    have e6 : (U2.toList == U2.toList) = true := by simp
    have e7 : (U3.toList == U3.toList) = true := by simp
    have HC := Lib.hid hc
    clear b1 n1 hT hr m1 m2 m3 hl hsz hS hlc hcl hb2 hp hc hTT hKK hbs hbi hbg hTS hU1 hU2 hU3
    go_enter Tryd.func3, Tryd.ntmps3
    go_wp2_with fail
    refine al.out.mono ?_
    rintro e w1 ⟨rfl, hb⟩
    have D1 := Lib.hid hb
    have L1 := Lib.hid (HL.out.keep hb)
    have hbz := hb.size
    go_wp2_with fail
    refine (PP.out _ L1.out).mono ?_
    rintro e w' ⟨rfl, rfl⟩
    go_wp2_with (at_builtin; refine wpl_appendV rfl _ _ rfl Tryd.underlying22 infoR rfl (by decide) w.heap.size (.slice none 0 0) (.slice a0 len0 cap0) [] (rvs rs) (rvs rs) rfl (ownV_nil _ _ _ _) rfl (B1.out.keep hb) N1.out (rvs_two _) (rvs_one _) (by rw [rvs_len, Hr.out]; simp; omega) (by decide) hbz rfl ?_)
    intro v3 w3 ho3 hb3
    have D3 := Lib.hid (hb.trans hb3)
    have l3 : Rs w3 v3 rs := ho3.vs
    have l4 := l3.lc
    rw [HC.out] at l4
    have L3 := Lib.hid l4
    clear hb hb3 ho3 l3 l4 hbz
    go_wp2_with fail
    refine (K1.out _ _ L3.out).mono ?_
    rintro e w4 ⟨rfl, hb4⟩
    have D4 := Lib.hid (D3.out.trans (hb4.mono D3.out.size))
    have L4 := Lib.hid (HL.out.keep D4.out)
    clear hb4
    go_wp2_with fail
    refine (K2.out _ _ L4.out).mono ?_
    rintro e w5 ⟨rfl, hb5⟩
    have D5 := Lib.hid (D4.out.trans (hb5.mono D4.out.size))
    have L5 := Lib.hid (HL.out.keep D5.out)
    clear hb5
    go_wp2_with fail
    refine (S1.out _).mono ?_
    rintro e w' ⟨rfl, rfl⟩
    go_wp2_with fail
    refine (S2.out _).mono ?_
    rintro e w' ⟨rfl, rfl⟩
    go_wp2_with fail
    refine (I1.out _).mono ?_
    rintro e w' ⟨rfl, rfl⟩
    go_wp2_with fail
    refine (I2.out _).mono ?_
    rintro e w' ⟨rfl, rfl⟩
    go_wp2_with fail
    refine (G1.out _ _ L5.out).mono ?_
    rintro e w' ⟨rfl, rfl⟩
    go_wp2_with fail
    refine (G2.out _ _ L5.out).mono ?_
    rintro e w' ⟨rfl, rfl⟩
    have HT5 := Lib.hid (HT.out.keep D5.out)
    go_wp2_with fail
    refine (P1.out _ HT5.out).mono ?_
    rintro e w6 ⟨rfl, hb6⟩
    have D6 := Lib.hid (D5.out.trans (hb6.mono D5.out.size))
    clear hb6
    go_wp2_with fail
    refine (P2.out _).mono ?_
    rintro e w7 ⟨rfl, hb7⟩
    have D7 := Lib.hid (D6.out.trans (hb7.mono D6.out.size))
    have HT7 := Lib.hid (HT.out.keep D7.out)
    clear hb7
    go_wp2_with fail
    refine (R1.out _ HT7.out).mono ?_
    rintro e w8 ⟨rfl, hb8⟩
    have D8 := Lib.hid (D7.out.trans (hb8.mono D7.out.size))
    clear hb8
    go_wp2_with fail
    refine (R2.out _).mono ?_
    rintro e w9 ⟨rfl, hb9⟩
    have D9 := Lib.hid (D8.out.trans (hb9.mono D8.out.size))
    have HT9 := Lib.hid (HT.out.keep D9.out)
    clear hb9
    go_wp2_with fail
    refine (Q1.out _ HT9.out).mono ?_
    rintro e w10 ⟨rfl, hb10⟩
    have D10 := Lib.hid (D9.out.trans (hb10.mono D9.out.size))
    clear hb10
    go_wp2_with fail
    refine (Q2.out _).mono ?_
    rintro e w11 ⟨rfl, hb11⟩
    have D11 := Lib.hid (D10.out.trans (hb11.mono D10.out.size))
    clear hb11
    go_wp2
    go_ret
    exact ⟨by first | rfl | (simp; done), D11.out⟩
end Go.Proofs.YtkaojigdogeliaaDoor
