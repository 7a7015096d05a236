/- Which name the program takes, from any place on. -/
import Derived.Test.YtpecaalpbeoolaaGreatDoorEName
namespace Go.Proofs.YtpecaalpbeoolaaGreatDoor
open Go.RowKit
set_option linter.unusedVariables false
set_option linter.unusedSimpArgs false

/-- Code points with no places. -/
def nil0 (l : List Int) : List (Int × Int) := l.map fun r => (r, 0)
theorem encR_nil0 (l : List Int) : M.encR (nil0 l) = M.encZs l := by simp [M.encR, M.encZs, nil0, List.flatMap_map]
theorem nil0_len (l : List Int) : (nil0 l).length = l.length := by simp [nil0]
def TkP (w : World) (T : List Int) (K : Nat) (e : Ending) (w' : World) : Prop := e = .returned (.tuple #[.string (bytes (M.encZs T)), .int .i64 (K : Int)]) ∧ Below w.heap.size w w'
/-- A place, within the list. -/
def clampN (a : Int) (n : Nat) : Nat := (max 0 (min a n)).toNat
theorem clamp_le (a : Int) (n : Nat) : clampN a n ≤ n := by unfold clampN; omega
set_option maxRecDepth 100000 in
set_option maxHeartbeats 4000000 in
theorem ntake_core (v : Value) (c : List Int) (at' : Int) (T : List Int) (K : Nat) (w : World) (hv : Lc w v c) (hl : c.length ≤ 100000) (h1 : (M.takeN (c.drop (clampN at' c.length))).1 = T) (h2 : clampN at' c.length + (M.takeN (c.drop (clampN at' c.length))).2 = K) :
    Calls Tryz.prog 44 #[v, .int .i64 at'] w (TkP w T K) := by
  obtain ⟨n, hn⟩ : ∃ n, c.length = n := ⟨_, rfl⟩
  have hi0 := clamp_le at' n
  have hcl : (clampN at' n : Int) = max 0 (min at' n) := by unfold clampN; omega
  rw [hn] at h1 h2
  obtain ⟨i0, hi00⟩ : ∃ i0, clampN at' n = i0 := ⟨_, rfl⟩
  rw [hi00] at h1 h2 hi0 hcl
  have hv2 := hv
  obtain ⟨a, cap, rfl, g1, g2, g3⟩ := hv2
  unfold maxLen at g2
  rw [hn] at g1 g3 hl ⊢
  have Hv := Lib.hid hv
  have Hn := Lib.hid hn
  have H1 := Lib.hid h1
  have H2 := Lib.hid h2
  have H3 := Lib.hid g3
  have hcm : max 0 (min at' (n : Int)) = (i0 : Int) := hcl.symm
  have hNO : n ≤ 100000 := hl
  clear hv hn h1 h2 g3 hcl hi00
  go_enter Tryz.func44, Tryz.ntmps44
  go_wp2
  go_loopw [1, 6, 7, 8] (fun av nv _ _ wr => ∃ (i : Nat) (pre : List Int), av = .int .i64 i ∧ i ≤ n ∧ pre ++ (M.takeN (c.drop i)).1 = T ∧ i + (M.takeN (c.drop i)).2 = K ∧ pre.length ≤ i ∧ OwnR w.heap.size wr nv (nil0 pre) ∧ Below w.heap.size w wr) (fun av _ _ _ _ => n - (intOf av).toNat)
  case atStart => exact ⟨i0, [], rfl, hi0, H1.out, H2.out, by simp, ownV_nil _ _ _ _, Below.refl _ _⟩
  case round =>
    obtain ⟨i, pre, rfl, hi, hp1, hp2, hpl, ho, hb⟩ := hrel
    have hsz := hb.size
    by_cases hlt : i < n
    · obtain ⟨p, off, rfl, hp, hc⟩ := H3.out (by omega)
      have c0 := hc i hlt
      have cr := hb.cell (p := ⟨p, off + i * 2, none⟩) hp
      rw [c0] at cr
      have i1 : (0 : Int) ≤ i := by omega
      have i2 : (i : Int) < n := by omega
      have Lv := Hv.out.keep hb
      cases he : M.esB (c.drop i) with
      | true =>
        have E1 := Lib.hid (ebegins_any _ c i true wr Lv (by rw [Hn.out]; omega) (by rw [if_neg (by omega)]; simpa using he))
        obtain ⟨r, k, hr⟩ : ∃ r k, M.escV (c.drop (i + 1)) = (r, k) := ⟨_, _, rfl⟩
        have E2 := Lib.hid (etake_any _ c i r k wr Lv (by rw [Hn.out]; omega) (by rw [Hn.out]; exact hlt) hr)
        have hte := M.takeN_at_esc c i (by rw [Hn.out]; exact hlt) he
        have hle := M.escV_le_at c i (by rw [Hn.out]; exact hlt)
        rw [hr] at hte hle
        simp only at hte hle
        rw [hte] at hp1 hp2
        rw [Hn.out] at hle
        simp only at hp1 hp2
        have hp1' : (pre ++ [r]) ++ (M.takeN (c.drop (i + 1 + k))).1 = T := by rw [← hp1]; simp
        have hp2' : (i + 1 + k) + (M.takeN (c.drop (i + 1 + k))).2 = K := by omega
        have P1 := Lib.hid hp1'
        have P2 := Lib.hid hp2'
        rw [Hn.out] at E1 E2
        obtain ⟨j, hj⟩ : ∃ j, i + 1 + k = j := ⟨_, rfl⟩
        rw [hj] at hle P1 P2 E2
        have hj2 : i + 1 ≤ j := by omega
        obtain ⟨y, hy⟩ : ∃ y, c.getD i (-1) = y := ⟨_, rfl⟩
        rw [hy] at cr
        clear hc c0 Lv he hr hte hp1 hp2 hp1' hp2' hj hy
        go_wp2_with fail
        refine (E1.out).mono ?_
        rintro e w' ⟨rfl, rfl⟩
        go_wp2_with fail
        refine (E2.out).mono ?_
        rintro e w' ⟨rfl, rfl⟩
        go_wp2_with (at_builtin; refine wpl_rune rfl _ _ rfl w.heap.size _ (.slice (some ⟨wr.heap.size, 0, none⟩) 1 1) (nil0 pre) (nil0 (pre ++ [r])) r 0 rfl (OwnR.keep ho ((Below.refl _ _).alloc (Nat.le_refl _) _)) rfl (one_rune wr r 0) (nnv_some _ _ _) (by rw [nil0_len]; omega) (by simp; omega) (by simp [nil0]) ?_)
        intro v3 w3 ho3 hb4
        have hb5 := (hb.alloc hsz _).trans hb4
        clear hb hb4 ho
        go_wp2
        go_roundw
        case rel => exact ⟨j, pre ++ [r], by go_num, by omega, P1.out, P2.out, by simp; omega, ho3, hb5⟩
        case measure => simp [intOf]; omega
      | false =>
        have E1 := Lib.hid (ebegins_any _ c i false wr Lv (by rw [Hn.out]; omega) (by rw [if_neg (by omega)]; simpa using he))
        rw [Hn.out] at E1
        cases hin : M.nIn (c.getD i (-1)) with
        | true =>
          have X1 := Lib.hid (nin_any _ true wr hin)
          have hte := M.takeN_at_in c i (by rw [Hn.out]; exact hlt) hin
          rw [hte] at hp1 hp2
          obtain ⟨r, hr⟩ : ∃ y, c.getD i (-1) = y := ⟨_, rfl⟩
          rw [hr] at hp1 cr X1
          simp only at hp1 hp2
          have hp1' : (pre ++ [r]) ++ (M.takeN (c.drop (i + 1))).1 = T := by rw [← hp1]; simp
          have hp2' : (i + 1) + (M.takeN (c.drop (i + 1))).2 = K := by omega
          have P1 := Lib.hid hp1'
          have P2 := Lib.hid hp2'
          clear hc c0 Lv he hr hte hp1 hp2 hp1' hp2' hin
          go_wp2_with fail
          refine (E1.out).mono ?_
          rintro e w' ⟨rfl, rfl⟩
          go_wp2_with fail
          refine (X1.out).mono ?_
          rintro e w' ⟨rfl, rfl⟩
          go_wp2_with (at_builtin; refine wpl_rune rfl _ _ rfl w.heap.size _ (.slice (some ⟨wr.heap.size, 0, none⟩) 1 1) (nil0 pre) (nil0 (pre ++ [r])) r 0 rfl (OwnR.keep ho ((Below.refl _ _).alloc (Nat.le_refl _) _)) rfl (one_rune wr r 0) (nnv_some _ _ _) (by rw [nil0_len]; omega) (by simp; omega) (by simp [nil0]) ?_)
          intro v3 w3 ho3 hb4
          have hb5 := (hb.alloc hsz _).trans hb4
          clear hb hb4 ho
          go_wp2
          go_roundw
          case rel => exact ⟨i + 1, pre ++ [r], by go_num, by omega, P1.out, P2.out, by simp; omega, ho3, hb5⟩
          case measure => simp [intOf]; omega
        | false =>
          have X1 := Lib.hid (nin_any _ false wr hin)
          have hte := M.takeN_at_out c i (by rw [Hn.out]; exact hlt) he hin
          rw [hte] at hp1 hp2
          obtain ⟨y, hy⟩ : ∃ y, c.getD i (-1) = y := ⟨_, rfl⟩
          rw [hy] at cr X1
          simp only [List.append_nil, Nat.add_zero] at hp1 hp2
          subst hp1
          subst hp2
          have T1 := Lib.hid (ctext_any u6 (nil0 pre) (M.encZs pre) wr ho.vs (by rw [nil0_len]; omega) (encR_nil0 pre))
          clear hc c0 Lv he hte hin hy ho
          go_wp2_with fail
          refine (E1.out).mono ?_
          rintro e w' ⟨rfl, rfl⟩
          go_wp2_with fail
          refine (X1.out).mono ?_
          rintro e w' ⟨rfl, rfl⟩
          go_wp2_with fail
          ((with_reducible refine (T1.out).mono ?_))
          rintro e w2 ⟨rfl, hb2⟩
          have hb3 := hb.trans (hb2.mono hsz)
          clear hb hb2
          go_wp2
          go_ret2
          exact ⟨rfl, hb3⟩
    · obtain rfl : i = n := by omega
      have hte := M.takeN_at_end c i (by rw [Hn.out]; exact Nat.le_refl _)
      rw [hte] at hp1 hp2
      simp only [List.append_nil, Nat.add_zero] at hp1 hp2
      subst hp1
      subst hp2
      have T1 := Lib.hid (ctext_any u6 (nil0 pre) (M.encZs pre) wr ho.vs (by rw [nil0_len]; omega) (encR_nil0 pre))
      clear hte ho hlt
      go_wp2_with fail
      ((with_reducible refine (T1.out).mono ?_))
      rintro e w2 ⟨rfl, hb2⟩
      have hb3 := hb.trans (hb2.mono hsz)
      clear hb hb2
      go_wp2
      go_ret2
      exact ⟨rfl, hb3⟩
end Go.Proofs.YtpecaalpbeoolaaGreatDoor
