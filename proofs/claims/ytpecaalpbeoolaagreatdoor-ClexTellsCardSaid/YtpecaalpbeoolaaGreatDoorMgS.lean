/- Several texts of ours in one: FPts ERef ERef2 FEsc0 FRef3 FQtd FMath7 FMath8. -/
import Derived.Test.YtpecaalpbeoolaaGreatDoorMgB
import Derived.Test.YtpecaalpbeoolaaGreatDoorEEsc2
import Derived.Outline
import Derived.Test.YtpecaalpbeoolaaGreatDoorEName
import Derived.Test.YtpecaalpbeoolaaGreatDoorENTake
import Derived.Laws.Concat
import Derived.Laws.BitsLemmas
import Derived.Test.YtpecaalpbeoolaaGreatDoorMgU
import Derived.Test.YtpecaalpbeoolaaGreatDoorMgC
/- The code points of a text, as the reference finds them (the first part of XEPts). -/
namespace Go.Proofs.YtpecaalpbeoolaaGreatDoor
open Go.RowKit
set_option linter.unusedVariables false
set_option linter.unusedSimpArgs false

theorem bytes_toList (l : List UInt8) : (bytes l).data.toList = l := by simp [bytes]
theorem is_one1 (w : World) (r : Int) : Is (w.alloc (.cells #[.int .i64 r] 3)) (.slice (some ⟨w.heap.size, 0, none⟩) 1 1) [r] := is_new w [r] (by simp)
/-- Numbers are returned. -/
def IsP (w : World) (ps : List Int) (e : Ending) (w' : World) : Prop := ∃ v, e = .returned v ∧ Is w' v ps ∧ Below w.heap.size w w'
set_option maxRecDepth 100000 in
set_option maxHeartbeats 2000000 in
theorem points_any (l : List UInt8) (ps : List Int) (w : World) (hl : l.length ≤ 1100000) (hp : M.pn l 0 = ps) :
    Calls Tryz.prog 17 #[.string (bytes l)] w (IsP w ps) := by
  have hsz0 : (bytes l).size = l.length := bytes_size l
  obtain ⟨n, hn⟩ : ∃ n, l.length = n := ⟨_, rfl⟩
  have hcv := bw_conv w (bytes l)
  have hbs := bw_bs w (bytes l) (by rw [hsz0]; omega)
  have hbb := bw_below w (bytes l)
  rw [bytes_toList] at hbs
  rw [hsz0] at hcv hbs
  rw [hn] at hcv hbs hl
  obtain ⟨W1, hW1⟩ : ∃ W1, Lib.bytesWorld w 5 (bytes l) = W1 := ⟨_, rfl⟩
  rw [hW1] at hcv hbs hbb
  obtain ⟨cap, hcap⟩ : ∃ W1, grownCap w n 0 5 = W1 := ⟨_, rfl⟩
  rw [hcap] at hcv hbs
  have Hn := Lib.hid hn
  have Hbs := Lib.hid hbs
  have Hbb := Lib.hid hbb
  have Hp := Lib.hid hp
  obtain ⟨S, hS⟩ : ∃ S, bytes l = S := ⟨_, rfl⟩
  rw [hS] at hcv ⊢
  have hz := hbb.size
  clear hn hbs hbb hp hW1 hcap hsz0 hS
  go_enter Tryz.func17, Tryz.ntmps17
  go_wp2
  go_loopw [3, 5] (fun ov iv wr => ∃ (i : Nat) (pre : List Int), iv = .int .i64 i ∧ i ≤ n ∧ pre ++ M.pn l i = ps ∧ pre.length ≤ i ∧ OwnI W1.heap.size wr ov pre ∧ Below W1.heap.size W1 wr) (fun _ iv _ => n - (intOf iv).toNat)
  case atStart => exact ⟨0, [], rfl, by omega, Hp.out, by simp, World.ownsRow_nil _ _ _ _, Below.refl _ _⟩
  case round =>
    obtain ⟨i, pre, rfl, hi, hpre, hpl, ho, hb⟩ := hrel
    have hsz := hb.size
    by_cases hlt : i < n
    · have hil : i < l.length := by rw [Hn.out]; exact hlt
      obtain ⟨ok, hnx⟩ := M.next_dec l i hil
      have N1 := refnext_any _ l i _ wr (Hbs.out.keep hb) (by rw [Hn.out]; omega) hnx
      unfold tri at N1
      dsimp only at N1
      have hw := M.dec_width (l.drop i)
      have hle := M.dec_le (l.drop i) (by simp; omega)
      rw [List.length_drop, Hn.out] at hle
      rw [M.pn_in l i hil] at hpre
      unfold M.ptv at hpre
      obtain ⟨D, hD⟩ : ∃ D, (M.dec (l.drop i)).1 = D := ⟨_, rfl⟩
      obtain ⟨K, hK⟩ : ∃ D, (M.dec (l.drop i)).2 = D := ⟨_, rfl⟩
      rw [hD, hK] at N1 hpre
      rw [hK] at hw hle
      obtain ⟨R, hR⟩ : ∃ R : Int, (if D = 0 then 65533 else (D : Int)) = R := ⟨_, rfl⟩
      rw [hR] at hpre
      have hpre2 : (pre ++ [R]) ++ M.pn l (i + K) = ps := by rw [← hpre]; simp
      have Hpre := Lib.hid hpre2
      have HN := Lib.hid N1
      have hw1 := hw.1
      have hba := hb.alloc hsz (.cells #[.int .i64 R] 3)
      have hoa : OwnI W1.heap.size (wr.alloc (.cells #[.int .i64 R] 3)) u3 pre := World.ownsRow.alloc ho _
      have hbaz := hba.size
      have OI := Lib.hid (is_one1 wr R)
      clear N1 hpre hpre2 hD hK hnx hw hil hb ho
      by_cases h0 : D = 0
      · subst h0
        rw [if_pos rfl] at hR
        subst hR
        go_wp2_with fail
        refine (HN.out).mono ?_
        rintro e w' ⟨rfl, rfl⟩
        go_wp2_with (at_builtin; refine wpl_appendI rfl _ _ rfl W1.heap.size u3 (.slice (some ⟨wr.heap.size, 0, none⟩) 1 1) pre [65533] (pre ++ [65533]) rfl hoa rfl OI.out (nn_some _ _ _) (by simp; omega) hbaz rfl ?_)
        intro v6 w6 ho6 hb6
        have hb7 := hba.trans hb6
        clear hba hb6 hoa
        go_wp2
        go_roundw
        case rel => exact ⟨i + K, pre ++ [65533], by go_num, by omega, Hpre.out, by simp; omega, ho6, hb7⟩
        case measure => simp [intOf]; omega
      · rw [if_neg h0] at hR
        have t0 : (R == 0) = false := by rw [beq_eq_false_iff_ne]; omega
        rw [hR] at HN
        clear h0 hR
        go_wp2_with fail
        refine (HN.out).mono ?_
        rintro e w' ⟨rfl, rfl⟩
        go_wp2_with (at_builtin; refine wpl_appendI rfl _ _ rfl W1.heap.size u3 (.slice (some ⟨wr.heap.size, 0, none⟩) 1 1) pre [R] (pre ++ [R]) rfl hoa rfl OI.out (nn_some _ _ _) (by simp; omega) hbaz rfl ?_)
        intro v6 w6 ho6 hb6
        have hb7 := hba.trans hb6
        clear hba hb6 hoa
        go_wp2
        go_roundw
        case rel => exact ⟨i + K, pre ++ [R], by go_num, by omega, Hpre.out, by simp; omega, ho6, hb7⟩
        case measure => simp [intOf]; omega
    · rw [M.pn_out l i (by rw [Hn.out]; omega), List.append_nil] at hpre
      have hge : (n : Int) ≤ i := by omega
      have HF : Hid (IsP w ps (.returned u3) wr) := Lib.hid ⟨_, rfl, by rw [← hpre]; exact ho.is, Hbb.out.trans (hb.mono hz)⟩
      clear hpre ho hb
      go_wp2
      go_ret
      exact HF.out
end Go.Proofs.YtpecaalpbeoolaaGreatDoor

/- The reference of names: in, at, hex, escape, Begins, Cap. -/
namespace Go.Proofs.YtpecaalpbeoolaaGreatDoor
open Go.RowKit
set_option linter.unusedVariables false
set_option linter.unusedSimpArgs false

set_option maxRecDepth 100000 in
set_option maxHeartbeats 1000000 in
theorem rnin_any (r : Int) (b : Bool) (w : World) (h : M.nIn r = b) : Calls Tryz.prog 50 #[.int .i64 r] w fun e w' => e = .returned (.bool b) ∧ w = w' := by
  cases hs : M.nSt r with
  | true =>
    have X1 := Lib.hid (rnst_any r true w hs)
    have hb : b = true := by rw [← h]; simp [M.nIn, hs]
    subst hb
    clear h hs
    go_enter Tryz.func50, Tryz.ntmps50
    go_wp2_with fail
    refine (X1.out).mono ?_
    rintro e w' ⟨rfl, rfl⟩
    go_wp2
    go_ret
    exact ⟨rfl, rfl⟩
  | false =>
    have X1 := Lib.hid (rnst_any r false w hs)
    cases hd : M.nDg r with
    | true =>
      have X2 := Lib.hid (rndg_any r true w hd)
      have hb : b = true := by rw [← h]; simp [M.nIn, hd]
      subst hb
      clear h hs hd
      go_enter Tryz.func50, Tryz.ntmps50
      go_wp2_with fail
      refine (X1.out).mono ?_
      rintro e w' ⟨rfl, rfl⟩
      go_wp2_with fail
      refine (X2.out).mono ?_
      rintro e w' ⟨rfl, rfl⟩
      go_wp2
      go_ret
      exact ⟨rfl, rfl⟩
    | false =>
      have X2 := Lib.hid (rndg_any r false w hd)
      have hb : b = (r == 45) := by rw [← h]; simp [M.nIn, hs, hd]; by_cases h45 : r = 45 <;> simp [h45]
      subst hb
      clear h hs hd
      go_enter Tryz.func50, Tryz.ntmps50
      go_wp2_with fail
      refine (X1.out).mono ?_
      rintro e w' ⟨rfl, rfl⟩
      go_wp2_with fail
      refine (X2.out).mono ?_
      rintro e w' ⟨rfl, rfl⟩
      go_wp2
      go_ret
      exact ⟨rfl, rfl⟩
set_option maxRecDepth 100000 in
set_option maxHeartbeats 1000000 in
theorem rat_any (v : Value) (c : List Int) (i : Nat) (x : Int) (w : World) (hv : Lc w v c) (hl : c.length ≤ 4294967296) (h : c.getD i (-1) = x) :
    Calls Tryz.prog 48 #[v, .int .i64 (i : Int)] w fun e w' => e = .returned (.int .i64 x) ∧ w = w' := by
  obtain ⟨a, cap, rfl, h1, h2, h3⟩ := hv
  by_cases hin : i < c.length
  · obtain ⟨p, off, rfl, hp, hc⟩ := h3 (by omega)
    have c0 := hc i hin
    rw [h] at c0
    obtain ⟨n, hn⟩ : ∃ n, c.length = n := ⟨_, rfl⟩
    unfold maxLen at h2
    rw [hn] at h1 hl hin ⊢
    have i1 : (0 : Int) ≤ i := by omega
    have i2 : (i : Int) < n := by omega
    clear h3 hn hc h
    go_enter Tryz.func48, Tryz.ntmps48
    go_wp2
    go_ret
    exact ⟨rfl, rfl⟩
  · obtain rfl : -1 = x := by rw [← h]; simp [List.getD, List.getElem?_eq_none (Nat.le_of_not_lt hin)]
    obtain ⟨n, hn⟩ : ∃ n, c.length = n := ⟨_, rfl⟩
    unfold maxLen at h2
    rw [hn] at h1 hl hin ⊢
    have i2 : (n : Int) ≤ i := by omega
    clear h3 hn h
    go_enter Tryz.func48, Tryz.ntmps48
    go_wp2
    go_ret
    exact ⟨rfl, rfl⟩
/-- A digit of base 16, or below 0. -/
def hexO (r : Int) : Int := if M.isX r then M.xv r else -1
theorem hexO_x (r : Int) (h : M.isX r = true) : hexO r = M.xv r := by unfold hexO; rw [if_pos h]
theorem hexO_n (r : Int) (h : M.isX r = false) : hexO r = -1 := by unfold hexO; rw [if_neg (by simp [h])]
set_option maxRecDepth 100000 in
set_option maxHeartbeats 1000000 in
theorem rhex_any (r x : Int) (w : World) (h : hexO r = x) : Calls Tryz.prog 25 #[.int .i64 r] w fun e w' => e = .returned (.int .i64 x) ∧ w = w' := by
  have hs : (r ≤ 47 ∧ x = -1) ∨ (48 ≤ r ∧ r ≤ 57 ∧ x = r - 48) ∨ (58 ≤ r ∧ r ≤ 64 ∧ x = -1) ∨ (65 ≤ r ∧ r ≤ 70 ∧ x = r - 55) ∨ (71 ≤ r ∧ r ≤ 96 ∧ x = -1) ∨ (97 ≤ r ∧ r ≤ 102 ∧ x = r - 87) ∨ (103 ≤ r ∧ x = -1) := by
    unfold hexO M.xv at h
    by_cases hx : M.isX r = true
    · rw [if_pos hx] at h
      rw [M.isX_iff] at hx
      repeat' split at h
      all_goals omega
    · rw [if_neg hx] at h
      have := (M.isX_not r).1 (by simpa using hx)
      omega
  clear h
  rcases hs with ⟨h1, rfl⟩ | ⟨h1, h2, hx⟩ | ⟨h1, h2, rfl⟩ | ⟨h1, h2, hx⟩ | ⟨h1, h2, rfl⟩ | ⟨h1, h2, hx⟩ | ⟨h1, rfl⟩
  · have D := Lib.hid (rndg_any r false w (by rw [M.nDg_not]; omega))
    go_enter Tryz.func25, Tryz.ntmps25
    go_wp2_with fail
    refine (D.out).mono ?_
    rintro e w' ⟨rfl, rfl⟩
    go_wp2
    go_ret
    exact ⟨rfl, rfl⟩
  · have D := Lib.hid (rndg_any r true w (by rw [M.nDg_iff]; omega))
    have Hx := Lib.hid hx
    clear hx
    go_enter Tryz.func25, Tryz.ntmps25
    go_wp2_with fail
    refine (D.out).mono ?_
    rintro e w' ⟨rfl, rfl⟩
    go_wp2
    go_ret
    exact ⟨eret_i (by have := Hx.out; omega), rfl⟩
  · have D := Lib.hid (rndg_any r false w (by rw [M.nDg_not]; omega))
    go_enter Tryz.func25, Tryz.ntmps25
    go_wp2_with fail
    refine (D.out).mono ?_
    rintro e w' ⟨rfl, rfl⟩
    go_wp2
    go_ret
    exact ⟨rfl, rfl⟩
  · have D := Lib.hid (rndg_any r false w (by rw [M.nDg_not]; omega))
    have Hx := Lib.hid hx
    clear hx
    go_enter Tryz.func25, Tryz.ntmps25
    go_wp2_with fail
    refine (D.out).mono ?_
    rintro e w' ⟨rfl, rfl⟩
    go_wp2
    go_ret
    exact ⟨eret_i (by have := Hx.out; omega), rfl⟩
  · have D := Lib.hid (rndg_any r false w (by rw [M.nDg_not]; omega))
    go_enter Tryz.func25, Tryz.ntmps25
    go_wp2_with fail
    refine (D.out).mono ?_
    rintro e w' ⟨rfl, rfl⟩
    go_wp2
    go_ret
    exact ⟨rfl, rfl⟩
  · have D := Lib.hid (rndg_any r false w (by rw [M.nDg_not]; omega))
    have Hx := Lib.hid hx
    clear hx
    go_enter Tryz.func25, Tryz.ntmps25
    go_wp2_with fail
    refine (D.out).mono ?_
    rintro e w' ⟨rfl, rfl⟩
    go_wp2
    go_ret
    exact ⟨eret_i (by have := Hx.out; omega), rfl⟩
  · have D := Lib.hid (rndg_any r false w (by rw [M.nDg_not]; omega))
    go_enter Tryz.func25, Tryz.ntmps25
    go_wp2_with fail
    refine (D.out).mono ?_
    rintro e w' ⟨rfl, rfl⟩
    go_wp2
    go_ret
    exact ⟨rfl, rfl⟩
theorem esB_two (c : List Int) (i : Nat) : M.esB (c.drop i) = (decide (c.getD i (-1) = 92) && decide (c.getD (i + 1) (-1) ≠ 10)) := by
  rw [esB_at]
  by_cases h : i < c.length
  · simp [h]
  · have : c.getD i (-1) = -1 := by simp [List.getD, List.getElem?_eq_none (Nat.le_of_not_lt h)]
    rw [this]; simp [h]
set_option maxRecDepth 100000 in
set_option maxHeartbeats 1000000 in
theorem rescape_any (v : Value) (c : List Int) (i : Nat) (b : Bool) (w : World) (hv : Lc w v c) (hl : c.length ≤ 4294967296) (hi : i ≤ 4294967296) (h : M.esB (c.drop i) = b) :
    Calls Tryz.prog 51 #[v, .int .i64 (i : Int)] w fun e w' => e = .returned (.bool b) ∧ w = w' := by
  rw [esB_two] at h
  have A0 := rat_any v c i _ w hv hl rfl
  have A1 := rat_any v c (i + 1) _ w hv hl rfl
  rw [show ((i + 1 : Nat) : Int) = (i : Int) + 1 by omega] at A1
  obtain ⟨x, hx⟩ : ∃ x, c.getD i (-1) = x := ⟨_, rfl⟩
  obtain ⟨y, hy⟩ : ∃ x, c.getD (i + 1) (-1) = x := ⟨_, rfl⟩
  rw [hx] at A0 h
  rw [hy] at A1 h
  have H0 := Lib.hid A0
  have H1 := Lib.hid A1
  have i0 : (0 : Int) ≤ i := by omega
  have i1 : (i : Int) ≤ 4294967296 := by omega
  clear A0 A1 hx hy hv hl hi
  by_cases h92 : x = 92
  · subst h92
    have hb : b = (y != 10) := by rw [← h]; by_cases h10 : y = 10 <;> simp [h10]
    subst hb
    clear h
    go_enter Tryz.func51, Tryz.ntmps51
    go_wp2_with fail
    refine (H0.out).mono ?_
    rintro e w' ⟨rfl, rfl⟩
    go_wp2_with fail
    refine (H1.out).mono ?_
    rintro e w' ⟨rfl, rfl⟩
    go_wp2
    go_ret
    exact ⟨rfl, rfl⟩
  · have t : (x == 92) = false := by rw [beq_eq_false_iff_ne]; exact h92
    have hb : b = false := by rw [← h]; simp [h92]
    subst hb
    clear h h92
    go_enter Tryz.func51, Tryz.ntmps51
    go_wp2_with fail
    refine (H0.out).mono ?_
    rintro e w' ⟨rfl, rfl⟩
    go_wp2
    go_ret
    exact ⟨rfl, rfl⟩
set_option maxRecDepth 100000 in
set_option maxHeartbeats 1000000 in
theorem rcap_any (x lo hi : Int) (w : World) (y : Int) (h : (if x < lo then lo else if hi < x then hi else x) = y) :
    Calls Tryz.prog 81 #[.int .i64 x, .int .i64 lo, .int .i64 hi] w fun e w' => e = .returned (.int .i64 y) ∧ w = w' := by
  by_cases h1 : x < lo
  · rw [if_pos h1] at h
    subst h
    go_enter Tryz.func81, Tryz.ntmps81
    go_wp2
    go_ret
    exact ⟨rfl, rfl⟩
  · rw [if_neg h1] at h
    have t1 : lo ≤ x := by omega
    by_cases h2 : hi < x
    · rw [if_pos h2] at h
      subst h
      go_enter Tryz.func81, Tryz.ntmps81
      go_wp2
      go_ret
      exact ⟨rfl, rfl⟩
    · rw [if_neg h2] at h
      have t2 : x ≤ hi := by omega
      subst h
      go_enter Tryz.func81, Tryz.ntmps81
      go_wp2
      go_ret
      exact ⟨rfl, rfl⟩
set_option maxRecDepth 100000 in
set_option maxHeartbeats 1000000 in
theorem rbegins_any (v : Value) (c : List Int) (at' : Int) (b : Bool) (w : World) (hv : Lc w v c) (hl : c.length ≤ 4294967290) (h : (if at' < 0 then false else M.begN (c.drop at'.toNat)) = b) :
    Calls Tryz.prog 53 #[v, .int .i64 at'] w fun e w' => e = .returned (.bool b) ∧ w = w' := by
  have hv2 := hv
  obtain ⟨a, cap, rfl, h1, h2, h3⟩ := hv
  by_cases hneg : at' < 0
  · rw [if_pos hneg] at h
    subst h
    clear h3 hv2
    go_enter Tryz.func53, Tryz.ntmps53
    go_wp2
    go_ret
    exact ⟨by first | rfl | (simp; done) | (simp; omega), rfl⟩
  rw [if_neg hneg] at h
  obtain ⟨i, rfl⟩ : ∃ i : Nat, at' = (i : Int) := ⟨at'.toNat, by omega⟩
  simp only [Int.toNat_natCast] at h
  by_cases hin : i < c.length
  · rw [List.drop_eq_getElem_cons hin, ← getD_lt c i hin (-1)] at h
    simp only [M.begN] at h
    rw [getD_drop, Nat.add_zero] at h
    rw [show M.esB (c.getD i (-1) :: c.drop (i + 1)) = M.esB (c.drop i) by rw [List.drop_eq_getElem_cons hin, getD_lt c i hin]] at h
    have E0 := rescape_any _ c i _ w hv2 (by omega) (by omega) rfl
    have E1 := rescape_any _ c (i + 1) _ w hv2 (by omega) (by omega) rfl
    have A1 := rat_any _ c (i + 1) _ w hv2 (by omega) rfl
    rw [show ((i + 1 : Nat) : Int) = (i : Int) + 1 by omega] at A1 E1
    obtain ⟨p, off, rfl, hp, hc⟩ := h3 (by omega)
    have c0 := hc i hin
    obtain ⟨n, hn⟩ : ∃ n, c.length = n := ⟨_, rfl⟩
    unfold maxLen at h2
    rw [hn] at h1 hl A1 E0 E1 hin ⊢
    have i1 : (0 : Int) ≤ i := by omega
    have i2 : (i : Int) < n := by omega
    obtain ⟨x, hx⟩ : ∃ x, c.getD i (-1) = x := ⟨_, rfl⟩
    obtain ⟨y, hy⟩ : ∃ x, c.getD (i + 1) (-1) = x := ⟨_, rfl⟩
    obtain ⟨e0, he0⟩ : ∃ x, M.esB (c.drop i) = x := ⟨_, rfl⟩
    obtain ⟨e1, he1⟩ : ∃ x, M.esB (c.drop (i + 1)) = x := ⟨_, rfl⟩
    rw [hx] at c0 h
    rw [hy] at A1 h
    rw [he0] at E0 h
    rw [he1] at E1 h
    have SX := Lib.hid (rnst_any x _ w rfl)
    have SY := Lib.hid (rnst_any y _ w rfl)
    obtain ⟨sx, hsx⟩ : ∃ s, M.nSt x = s := ⟨_, rfl⟩
    obtain ⟨sy, hsy⟩ : ∃ s, M.nSt y = s := ⟨_, rfl⟩
    rw [hsx] at SX h
    rw [hsy] at SY h
    have HA := Lib.hid A1
    have H0 := Lib.hid E0
    have H1 := Lib.hid E1
    clear A1 E0 E1 hc hn hx hy he0 he1 hsx hsy hv2 hneg h3
    by_cases h45 : x = 45
    · subst h45
      rw [if_pos rfl] at h
      cases sy with
      | true =>
        simp at h
        subst h
        go_enter Tryz.func53, Tryz.ntmps53
        go_wp2_with fail
        refine (HA.out).mono ?_
        rintro e w' ⟨rfl, rfl⟩
        go_wp2_with fail
        refine (SY.out).mono ?_
        rintro e w' ⟨rfl, rfl⟩
        go_wp2
        go_ret
        exact ⟨rfl, rfl⟩
      | false =>
        by_cases y45 : y = 45
        · subst y45
          simp at h
          subst h
          go_enter Tryz.func53, Tryz.ntmps53
          go_wp2_with fail
          refine (HA.out).mono ?_
          rintro e w' ⟨rfl, rfl⟩
          go_wp2_with fail
          refine (SY.out).mono ?_
          rintro e w' ⟨rfl, rfl⟩
          go_wp2
          go_ret
          exact ⟨rfl, rfl⟩
        · simp [y45] at h
          subst h
          have t : (y == 45) = false := by rw [beq_eq_false_iff_ne]; exact y45
          clear y45
          go_enter Tryz.func53, Tryz.ntmps53
          go_wp2_with fail
          refine (HA.out).mono ?_
          rintro e w' ⟨rfl, rfl⟩
          go_wp2_with fail
          refine (SY.out).mono ?_
          rintro e w' ⟨rfl, rfl⟩
          go_wp2_with fail
          refine (H1.out).mono ?_
          rintro e w' ⟨rfl, rfl⟩
          go_wp2
          go_ret
          exact ⟨rfl, rfl⟩
    · rw [if_neg h45] at h
      have t : (x == 45) = false := by rw [beq_eq_false_iff_ne]; exact h45
      clear h45
      cases sx with
      | true =>
        simp at h
        subst h
        go_enter Tryz.func53, Tryz.ntmps53
        go_wp2_with fail
        refine (SX.out).mono ?_
        rintro e w' ⟨rfl, rfl⟩
        go_wp2
        go_ret
        exact ⟨rfl, rfl⟩
      | false =>
        rw [Bool.false_or] at h
        subst h
        go_enter Tryz.func53, Tryz.ntmps53
        go_wp2_with fail
        refine (SX.out).mono ?_
        rintro e w' ⟨rfl, rfl⟩
        go_wp2_with fail
        refine (H0.out).mono ?_
        rintro e w' ⟨rfl, rfl⟩
        go_wp2
        go_ret
        exact ⟨rfl, rfl⟩
  · rw [List.drop_eq_nil_of_le (by omega)] at h
    obtain rfl : b = false := by rw [← h]; rfl
    obtain ⟨n, hn⟩ : ∃ n, c.length = n := ⟨_, rfl⟩
    unfold maxLen at h2
    rw [hn] at h1 hl hin ⊢
    have i2 : (n : Int) ≤ i := by omega
    clear h3 hn hv2 h
    go_enter Tryz.func53, Tryz.ntmps53
    go_wp2
    go_ret
    exact ⟨by first | rfl | (simp; done) | (simp; omega), rfl⟩
end Go.Proofs.YtpecaalpbeoolaaGreatDoor

/- The reference of names: escaped, Take, numbered. -/
namespace Go.Proofs.YtpecaalpbeoolaaGreatDoor
open Go.RowKit
set_option linter.unusedVariables false
set_option linter.unusedSimpArgs false

theorem encZs_le4 (l : List Int) : (M.encZs l).length ≤ 4 * l.length := (M.encZs_len l).2
set_option maxRecDepth 100000 in
set_option maxHeartbeats 4000000 in
theorem rescaped_any (v : Value) (c : List Int) (i : Nat) (r : Int) (k : Nat) (w : World) (hv : Lc w v c) (hl : c.length ≤ 4294967290) (hi : i < c.length) (h : M.escV (c.drop (i + 1)) = (r, k)) :
    Calls Tryz.prog 79 #[v, .int .i64 (i : Int)] w fun e w' => e = .returned (.tuple #[.int .i64 r, .int .i64 ((i + 1 + k : Nat) : Int)]) ∧ w = w' := by
  have AT := Lib.hid (fun j => rat_any v c j _ w hv (by omega) rfl)
  obtain ⟨a, cap, rfl, h1, h2, h3⟩ := hv
  obtain ⟨n, hn⟩ : ∃ n, c.length = n := ⟨_, rfl⟩
  unfold maxLen at h2
  rw [hn] at h1 h3 hl hi AT ⊢
  obtain ⟨m, hm⟩ : ∃ m, i + 1 = m := ⟨_, rfl⟩
  rw [hm] at h ⊢
  have hm' : (i : Int) + 1 = m := by omega
  have hm7 : (i : Int) + 7 = (m : Int) + 6 := by omega
  have hm2 : (i : Int) + 2 = (m : Int) + 1 := by omega
  clear h3
  have A0 := AT.out m
  by_cases hend : m = n
  · rw [List.drop_eq_nil_of_le (by omega)] at h
    simp only [M.escV, Prod.mk.injEq] at h
    obtain ⟨rfl, rfl⟩ := h
    have Hm := Lib.hid hm
    have HA := Lib.hid A0
    have t0 : (n : Int) ≤ m := by omega
    clear hn hm hend A0
    go_enter Tryz.func79, Tryz.ntmps79
    go_wp2_with fail
    refine (HA.out).mono ?_
    rintro e w' ⟨rfl, rfl⟩
    go_wp2
    go_ret2
    exact ⟨etup_ii rfl (by omega), rfl⟩
  have hmn : m < n := by omega
  have i2 : (m : Int) < n := by omega
  have i0 : (0 : Int) ≤ m := by omega
  have tg : decide ((n : Int) ≤ m) = false := by simp; omega
  have hdc : c.drop m = c.getD m (-1) :: c.drop (m + 1) := by rw [getD_lt c m (by omega)]; exact List.drop_eq_getElem_cons (by omega)
  by_cases hx : M.isX (c.getD m (-1)) = true
  · rw [hdc] at h
    simp only [M.escV, hx, if_true, Prod.mk.injEq] at h
    rw [← hdc] at h
    obtain ⟨hr, hk⟩ := h
    obtain ⟨D, hD⟩ : ∃ D, M.hexRun 6 (c.drop m) = D := ⟨_, rfl⟩
    have hg := M.hexRun_get 6 (c.drop m)
    have he := M.hexRun_end 6 (c.drop m)
    have hle := M.hexRun_len 6 (c.drop m)
    have hsm := M.hexVal_small 6 (c.drop m)
    have hst := M.hexVal_step D
    rw [hD] at hg he hle hr hk
    simp only [getD_drop, hD] at hg he hk hsm
    rw [List.length_drop, hn] at he hle
    obtain ⟨d, hd⟩ : ∃ d, D.length = d := ⟨_, rfl⟩
    rw [hd] at he hle hk
    have hxr := M.xv_range _ hx
    have X1 := Lib.hid (rhex_any (c.getD m (-1)) _ w (hexO_x _ hx))
    obtain ⟨x0, hx0⟩ : ∃ x, M.xv (c.getD m (-1)) = x := ⟨_, rfl⟩
    rw [hx0] at X1 hxr
    obtain ⟨hx00, hx01⟩ := hxr
    have Hr := Lib.hid hr
    have Hk := Lib.hid hk
    have Hn := Lib.hid hn
    have Hm := Lib.hid hm
    have Hd := Lib.hid hd
    have HG := Lib.hid hg
    have HE := Lib.hid he
    have HS := Lib.hid hsm
    have HT := Lib.hid hst
    have hm0 : M.hexVal (D.take 0) = 0 := by simp [M.hexVal]
    have Hm0 := Lib.hid hm0
    obtain ⟨y, hy⟩ : ∃ y, c.getD m (-1) = y := ⟨_, rfl⟩
    rw [hy] at A0 X1
    have HA := Lib.hid A0
    clear hr hk hn hm hd hg he hsm hst hdc hx hD hend hy hm0 hx0 A0
    have hd6 := hle.1
    have hdn := hle.2
    clear hle
    go_enter Tryz.func79, Tryz.ntmps79
    go_wp2_with fail
    refine (HA.out).mono ?_
    rintro e w' ⟨rfl, rfl⟩
    go_wp2_with fail
    refine (X1.out).mono ?_
    rintro e w' ⟨rfl, rfl⟩
    go_wp2
    go_loop [7, 8] (fun rv ev => ∃ j : Nat, ev = .int .i64 ((m : Int) + j) ∧ j ≤ d ∧ rv = .int .i64 (M.hexVal (D.take j))) (fun _ ev => m + d - (intOf ev).toNat)
    case atStart => exact ⟨0, by simp, by omega, by rw [Hm0.out]⟩
    case round =>
      obtain ⟨j, rfl, hj, rfl⟩ := hrel
      obtain ⟨V, hV⟩ : ∃ V, M.hexVal (D.take j) = V := ⟨_, rfl⟩
      have hVr := HS.out j (by decide)
      rw [hV] at hVr ⊢
      obtain ⟨hV0, hV1⟩ := hVr
      obtain ⟨q, hq⟩ : ∃ q, m + j = q := ⟨_, rfl⟩
      have hq' : (m : Int) + j = q := by omega
      rw [hq']
      have A1 := AT.out q
      by_cases hlt : j < d
      · obtain ⟨g1, g2⟩ := HG.out j (by rw [Hd.out]; exact hlt)
        have ht := HT.out j (by rw [Hd.out]; exact hlt)
        rw [← g1, hV, hq] at ht
        rw [hq] at g2
        have hxr := M.xv_range _ g2
        obtain ⟨x, hx⟩ : ∃ x, M.xv (c.getD q (-1)) = x := ⟨_, rfl⟩
        have X2 := Lib.hid (rhex_any (c.getD q (-1)) _ w (hexO_x _ g2))
        rw [hx] at ht hxr X2
        obtain ⟨hx0, hx1⟩ := hxr
        obtain ⟨y2, hy⟩ : ∃ y, c.getD q (-1) = y := ⟨_, rfl⟩
        rw [hy] at A1 X2
        have HA1 := Lib.hid A1
        have Ht := Lib.hid ht
        have Hq := Lib.hid hq
        have j1 : (0 : Int) ≤ q := by omega
        have j3 : (q : Int) < (m : Int) + 6 := by omega
        clear g1 g2 ht hx hy hq hV hq' A1
        go_wp2_with fail
        refine (HA1.out).mono ?_
        rintro e w' ⟨rfl, rfl⟩
        go_wp2_with fail
        refine (X2.out).mono ?_
        rintro e w' ⟨rfl, rfl⟩
        go_wp2_with fail
        refine (HA1.out).mono ?_
        rintro e w' ⟨rfl, rfl⟩
        go_wp2_with fail
        refine (X2.out).mono ?_
        rintro e w' ⟨rfl, rfl⟩
        go_wp2
        go_round
        case rel => exact ⟨j + 1, by have := Hq.out; go_num, by omega, by rw [Ht.out]⟩
        case measure => have := Hq.out; simp [intOf]; omega
      · obtain rfl : j = d := by omega
        have hvd : V = M.hexVal D := by rw [← hV, List.take_of_length_le (by rw [Hd.out]; exact Nat.le_refl _)]
        have hr2 : M.okX V = r := by rw [hvd]; exact Hr.out
        have hk2 := Hk.out
        have he2 := HE.out
        rw [hq] at hk2 he2
        have Hq := Lib.hid hq
        have HR := Lib.hid hr2
        have HK := Lib.hid hk2
        have j1 : (0 : Int) ≤ q := by omega
        have hnx : n ≤ q → M.isX (c.getD q (-1)) = false := fun hh => by simp [List.getD, List.getElem?_eq_none (show c.length ≤ q by rw [Hn.out]; exact hh), M.isX, M.nDg]
        have hqq := Hq.out
        have j4 : (q : Int) ≤ 4294967290 := by omega
        have hx2 : ((m : Int) + 6 ≤ q) ∨ ((q : Int) < (m : Int) + 6 ∧ M.isX (c.getD q (-1)) = false) := by
          by_cases h6 : (q : Int) < (m : Int) + 6
          · right
            refine ⟨h6, ?_⟩
            rcases he2 with h | h | ⟨h, h2⟩
            · omega
            · exact hnx (by omega)
            · exact h2
          · left; omega
        obtain ⟨bl, hbl⟩ : ∃ bl, M.isBl (c.getD q (-1)) = bl := ⟨_, rfl⟩
        have X2 := Lib.hid (risbl_any (c.getD q (-1)) bl w hbl)
        have HB := Lib.hid hbl
        obtain ⟨y2, hy⟩ : ∃ y, c.getD q (-1) = y := ⟨_, rfl⟩
        rw [hy] at X2 hx2 A1
        have HA1 := Lib.hid A1
        clear hV hvd hr2 hk2 hlt hq' hq hnx he2 hqq hbl hy A1
        rcases hx2 with h6 | ⟨h6, hx2⟩
        · have t3 : decide ((q : Int) < (m : Int) + 6) = false := by simp; omega
          cases bl
          all_goals
            go_wp2_with fail
            refine (HA1.out).mono ?_
            rintro e w' ⟨rfl, rfl⟩
            go_wp2_with fail
            refine (X2.out).mono ?_
            rintro e w' ⟨rfl, rfl⟩
            go_wp2
            all_goals
              go_ret2
              refine ⟨etup_ii ?_ ?_, rfl⟩
              · rw [← HR.out]; unfold M.okX; (try simp only [beq_iff_eq] at *); split <;> omega
              · have hk3 := HK.out; have hqq := Hq.out; rw [HB.out] at hk3; simp at hk3; omega
        · have t3 : decide ((q : Int) < (m : Int) + 6) = true := by simp; omega
          have X4 := Lib.hid (rhex_any y2 _ w (hexO_n _ hx2))
          clear hx2
          cases bl
          all_goals
            go_wp2_with fail
            refine (HA1.out).mono ?_
            rintro e w' ⟨rfl, rfl⟩
            go_wp2_with fail
            refine (X4.out).mono ?_
            rintro e w' ⟨rfl, rfl⟩
            go_wp2_with fail
            refine (HA1.out).mono ?_
            rintro e w' ⟨rfl, rfl⟩
            go_wp2_with fail
            refine (X2.out).mono ?_
            rintro e w' ⟨rfl, rfl⟩
            go_wp2
            all_goals
              go_ret2
              refine ⟨etup_ii ?_ ?_, rfl⟩
              · rw [← HR.out]; unfold M.okX; (try simp only [beq_iff_eq] at *); split <;> omega
              · have hk3 := HK.out; have hqq := Hq.out; rw [HB.out] at hk3; simp at hk3; omega
  · have hx' : M.isX (c.getD m (-1)) = false := by simpa using hx
    rw [hdc] at h
    simp only [M.escV, hx', Bool.false_eq_true, if_false, Prod.mk.injEq] at h
    obtain ⟨hr, rfl⟩ := h
    have X1 := Lib.hid (rhex_any (c.getD m (-1)) _ w (hexO_n _ hx'))
    rw [hr] at A0 X1
    have HA := Lib.hid A0
    have Hn := Lib.hid hn
    have Hm := Lib.hid hm
    clear hn hm hend hx hx' hdc hr A0
    go_enter Tryz.func79, Tryz.ntmps79
    go_wp2_with fail
    refine (HA.out).mono ?_
    rintro e w' ⟨rfl, rfl⟩
    go_wp2_with fail
    refine (X1.out).mono ?_
    rintro e w' ⟨rfl, rfl⟩
    go_wp2
    go_ret2
    exact ⟨etup_ii rfl (by omega), rfl⟩
set_option maxRecDepth 100000 in
set_option maxHeartbeats 4000000 in
theorem rtake_any (v : Value) (c : List Int) (at' : Int) (T : List Int) (K : Nat) (w : World) (hv : Lc w v c) (hl : c.length ≤ 100000) (h1 : (M.takeN (c.drop (clampN at' c.length))).1 = T) (h2 : clampN at' c.length + (M.takeN (c.drop (clampN at' c.length))).2 = K) :
    Calls Tryz.prog 52 #[v, .int .i64 at'] w (TkP w T K) := by
  obtain ⟨n, hn⟩ : ∃ n, c.length = n := ⟨_, rfl⟩
  have hi0 := clamp_le at' n
  rw [hn] at h1 h2
  have hcap : (if at' < 0 then 0 else if (n : Int) < at' then (n : Int) else at') = (clampN at' n : Int) := by
    unfold clampN
    by_cases h0 : at' < 0
    · rw [if_pos h0, show min at' (n : Int) = at' from Int.min_eq_left (by omega), Int.max_eq_left (by omega)]; rfl
    · rw [if_neg h0]
      by_cases hh : (n : Int) < at'
      · rw [if_pos hh, show min at' (n : Int) = n from Int.min_eq_right (by omega), Int.max_eq_right (by omega)]; simp
      · rw [if_neg hh, show min at' (n : Int) = at' from Int.min_eq_left (by omega), Int.max_eq_right (by omega)]; omega
  obtain ⟨i0, hi00⟩ : ∃ i0, clampN at' n = i0 := ⟨_, rfl⟩
  rw [hi00] at h1 h2 hi0 hcap
  have CP := Lib.hid (rcap_any at' 0 n w _ hcap)
  have hv2 := hv
  obtain ⟨a, cap, rfl, g1, g2, g3⟩ := hv2
  unfold maxLen at g2
  rw [hn] at g1 g3 hl ⊢
  have Hv := Lib.hid hv
  have Hn := Lib.hid hn
  have H1 := Lib.hid h1
  have H2 := Lib.hid h2
  have H3 := Lib.hid g3
  have hNO : n ≤ 100000 := hl
  clear hv hn h1 h2 g3 hcap hi00
  go_enter Tryz.func52, Tryz.ntmps52
  go_wp2_with fail
  refine (CP.out).mono ?_
  rintro e w' ⟨rfl, rfl⟩
  go_wp2
  go_loopw [1, 6, 7, 8] (fun av nv _ _ wr => ∃ (i : Nat) (pre : List Int), av = .int .i64 i ∧ i ≤ n ∧ pre ++ (M.takeN (c.drop i)).1 = T ∧ i + (M.takeN (c.drop i)).2 = K ∧ pre.length ≤ i ∧ OwnB w.heap.size wr nv (M.encZs pre) ∧ Below w.heap.size w wr) (fun av _ _ _ _ => n - (intOf av).toNat)
  case atStart => exact ⟨i0, [], rfl, hi0, H1.out, H2.out, by simp, World.ownsRow_nil _ _ _ _, Below.refl _ _⟩
  case round =>
    obtain ⟨i, pre, rfl, hi, hp1, hp2, hpl, ho, hb⟩ := hrel
    have hsz := hb.size
    have hel := encZs_le4 pre
    by_cases hlt : i < n
    · obtain ⟨p, off, rfl, hp, hc⟩ := H3.out (by omega)
      have c0 := hc i hlt
      have cr := hb.cell (p := ⟨p, off + i * 2, none⟩) hp
      rw [c0] at cr
      have i1 : (0 : Int) ≤ i := by omega
      have i2 : (i : Int) < n := by omega
      have Lv := Hv.out.keep hb
      cases hin : M.nIn (c.getD i (-1)) with
      | true =>
        have X1 := Lib.hid (rnin_any _ true wr hin)
        have hte := M.takeN_at_in c i (by rw [Hn.out]; exact hlt) hin
        rw [hte] at hp1 hp2
        obtain ⟨r, hr⟩ : ∃ y, c.getD i (-1) = y := ⟨_, rfl⟩
        rw [hr] at hp1 cr X1
        simp only at hp1 hp2
        have hp1' : (pre ++ [r]) ++ (M.takeN (c.drop (i + 1))).1 = T := by rw [← hp1]; simp
        have hp2' : (i + 1) + (M.takeN (c.drop (i + 1))).2 = K := by omega
        have PT := Lib.hid (refput_any w.heap.size u6 (M.encZs pre) (M.encZs (pre ++ [r])) r wr ho (by omega) hsz (by rw [M.encZs_append, M.encZs_cons, M.encZs_nil, List.append_nil]))
        have P1 := Lib.hid hp1'
        have P2 := Lib.hid hp2'
        clear hc c0 Lv hr hte hp1 hp2 hp1' hp2' hin ho hel
        go_wp2_with fail
        refine (X1.out).mono ?_
        rintro e w' ⟨rfl, rfl⟩
        go_wp2_with fail
        refine (PT.out).mono ?_
        rintro e w2 ⟨v2, rfl, ho2, hb2⟩
        have hb3 := hb.trans hb2
        clear hb hb2
        go_wp2
        go_roundw
        case rel => exact ⟨i + 1, pre ++ [r], by go_num, by omega, P1.out, P2.out, by simp; omega, ho2, hb3⟩
        case measure => simp [intOf]; omega
      | false =>
        have X1 := Lib.hid (rnin_any _ false wr hin)
        cases he : M.esB (c.drop i) with
        | true =>
          have E1 := Lib.hid (rescape_any _ c i true wr Lv (by rw [Hn.out]; omega) (by omega) he)
          obtain ⟨r, k, hr⟩ : ∃ r k, M.escV (c.drop (i + 1)) = (r, k) := ⟨_, _, rfl⟩
          have E2 := Lib.hid (rescaped_any _ c i r k wr Lv (by rw [Hn.out]; omega) (by rw [Hn.out]; exact hlt) hr)
          have hte := M.takeN_at_esc c i (by rw [Hn.out]; exact hlt) he
          have hle := M.escV_le_at c i (by rw [Hn.out]; exact hlt)
          rw [hr] at hte hle
          simp only at hte hle
          rw [hte] at hp1 hp2
          rw [Hn.out] at hle
          simp only at hp1 hp2
          have hp1' : (pre ++ [r]) ++ (M.takeN (c.drop (i + 1 + k))).1 = T := by rw [← hp1]; simp
          have hp2' : (i + 1 + k) + (M.takeN (c.drop (i + 1 + k))).2 = K := by omega
          have PT := Lib.hid (refput_any w.heap.size u6 (M.encZs pre) (M.encZs (pre ++ [r])) r wr ho (by omega) hsz (by rw [M.encZs_append, M.encZs_cons, M.encZs_nil, List.append_nil]))
          have P1 := Lib.hid hp1'
          have P2 := Lib.hid hp2'
          rw [Hn.out] at E1 E2
          obtain ⟨j, hj⟩ : ∃ j, i + 1 + k = j := ⟨_, rfl⟩
          rw [hj] at hle P1 P2 E2
          have hj2 : i + 1 ≤ j := by omega
          obtain ⟨y, hy⟩ : ∃ y, c.getD i (-1) = y := ⟨_, rfl⟩
          rw [hy] at cr X1
          clear hc c0 Lv he hr hte hp1 hp2 hp1' hp2' hj hy hin ho hel
          go_wp2_with fail
          refine (X1.out).mono ?_
          rintro e w' ⟨rfl, rfl⟩
          go_wp2_with fail
          refine (E1.out).mono ?_
          rintro e w' ⟨rfl, rfl⟩
          go_wp2_with fail
          refine (E2.out).mono ?_
          rintro e w' ⟨rfl, rfl⟩
          go_wp2_with fail
          refine (PT.out).mono ?_
          rintro e w2 ⟨v2, rfl, ho2, hb2⟩
          have hb3 := hb.trans hb2
          clear hb hb2
          go_wp2
          go_roundw
          case rel => exact ⟨j, pre ++ [r], by go_num, by omega, P1.out, P2.out, by simp; omega, ho2, hb3⟩
          case measure => simp [intOf]; omega
        | false =>
          have E1 := Lib.hid (rescape_any _ c i false wr Lv (by rw [Hn.out]; omega) (by omega) he)
          rw [Hn.out] at E1
          have hte := M.takeN_at_out c i (by rw [Hn.out]; exact hlt) he hin
          rw [hte] at hp1 hp2
          obtain ⟨y, hy⟩ : ∃ y, c.getD i (-1) = y := ⟨_, rfl⟩
          rw [hy] at cr X1
          simp only [List.append_nil, Nat.add_zero] at hp1 hp2
          subst hp1
          subst hp2
          have hcv := conv_own ho
          have HF : Hid (TkP w pre i (.returned (.tuple #[.string (bytes (M.encZs pre)), .int .i64 (i : Int)])) wr) := Lib.hid ⟨rfl, hb⟩
          clear hc c0 Lv he hte hin hy ho hel hb
          go_wp2_with fail
          refine (X1.out).mono ?_
          rintro e w' ⟨rfl, rfl⟩
          go_wp2_with fail
          refine (E1.out).mono ?_
          rintro e w' ⟨rfl, rfl⟩
          go_wp2
          go_ret2
          exact HF.out
    · obtain rfl : i = n := by omega
      have hte := M.takeN_at_end c i (by rw [Hn.out]; exact Nat.le_refl _)
      rw [hte] at hp1 hp2
      simp only [List.append_nil, Nat.add_zero] at hp1 hp2
      subst hp1
      subst hp2
      have hcv := conv_own ho
      have HF : Hid (TkP w pre i (.returned (.tuple #[.string (bytes (M.encZs pre)), .int .i64 (i : Int)])) wr) := Lib.hid ⟨rfl, hb⟩
      clear hte ho hlt hel hb
      go_wp2
      go_ret2
      exact HF.out
end Go.Proofs.YtpecaalpbeoolaaGreatDoor

/- What the reference's numbers of base 16 want (the first part of XEEsc0), texts side by side. -/
namespace Go.Proofs.YtpecaalpbeoolaaGreatDoor
open Go.RowKit
set_option linter.unusedVariables false
set_option linter.unusedSimpArgs false

theorem ext_fromP (l : List UInt8) (k n : Nat) (hn : (bytes l).size = n) : (bytes l).extract k n = bytes (l.drop k) := by
  subst hn
  rw [bytes_size]
  apply ByteArray.ext
  simp [bytes, ByteArray.extract, ByteArray.copySlice, List.take_of_length_le]
theorem ext_toP (l : List UInt8) (k : Nat) (h : k ≤ l.length) : (bytes l).extract 0 k = bytes (l.take k) := by
  apply ByteArray.ext
  simp [bytes, ByteArray.extract, ByteArray.copySlice]
theorem cat2 (a b : List UInt8) : bytes a ++ bytes b = bytes (a ++ b) := by
  apply ByteArray.ext
  simp [bytes]
def StP (w : World) (t : List UInt8) (e : Ending) (w' : World) : Prop := e = .returned (.string (bytes t)) ∧ Below w.heap.size w w'
theorem eand15 (n : Int) (h0 : 0 ≤ n) (h1 : n ≤ 1114111) : bits .and .i64 n 15 = n % 16 := bits_mask .i64 62 (by decide) rwraps_i64 4 (by decide) n h0 (by omega)
theorem cutF : ∀ d : Fin 16, (ByteArray.mk #[48, 49, 50, 51, 52, 53, 54, 55, 56, 57, 97, 98, 99, 100, 101, 102]).extract d.val (d.val + 1) = bytes (M.encZs [M.dgG false d.val]) := by decide +kernel
theorem cutT : ∀ d : Fin 16, (ByteArray.mk #[48, 49, 50, 51, 52, 53, 54, 55, 56, 57, 65, 66, 67, 68, 69, 70]).extract d.val (d.val + 1) = bytes (M.encZs [M.dgG true d.val]) := by decide +kernel
theorem digs_len (g : Bool) (d : List Nat) (h : ∀ x ∈ d, x < 16) : (M.encZs (d.map (M.dgG g))).length = d.length := by
  induction d with
  | nil => rfl
  | cons a d ih =>
    have h1 := M.dgG_ok g a (h a (by simp))
    rw [List.map_cons, M.encZs_cons, List.length_append, ih (fun x hx => h x (by simp [hx])), M.enc_ascii _ (by omega) (by omega)]
    simp; omega
theorem escS_bytes (g : Bool) (r z : Nat) : (M.encZs (M.escS g r z)).length = (M.escS g r z).length := by
  unfold M.escS
  rw [M.encZs_append, List.length_append, digs_len g _ (M.hx16_lt r r (Nat.le_refl _)), List.length_append, List.length_map]
  congr 1
  induction z with
  | zero => rfl
  | succ z ih => rw [List.replicate_succ, M.encZs_cons, List.length_append, ih, M.enc_ascii _ (by decide) (by decide)]; simp; omega
end Go.Proofs.YtpecaalpbeoolaaGreatDoor

/- The reference of names: numbered. -/
namespace Go.Proofs.YtpecaalpbeoolaaGreatDoor
open Go.RowKit
set_option linter.unusedVariables false
set_option linter.unusedSimpArgs false

theorem bytes_ne {l : List UInt8} (h : l ≠ []) : (bytes l).toList ≠ [] := by rw [ByteArray.toList_eq, bytes_toList]; exact h
set_option maxRecDepth 100000 in
set_option maxHeartbeats 2000000 in
theorem rnum_any (r : Nat) (w : World) (h1 : 1 ≤ r) (h2 : r < 128) :
    Calls Tryz.prog 24 #[.int .i64 (r : Int)] w fun e w' => e = .returned (.string (bytes (M.encZs (92 :: M.hexd r)))) ∧ w = w' := by
  have hle6 : (M.hx16 r).length ≤ 2 := M.hx16_len 2 r (by omega)
  have hlt16 := M.hx16_lt r r (Nat.le_refl _)
  have hhd := M.hexd_hx r h1 (by omega)
  have HHD := Lib.hid hhd
  have HLT := Lib.hid hlt16
  have H6 := Lib.hid hle6
  have hr0 : (0 : Int) < r := by omega
  clear hle6 hlt16 hhd
  go_enter Tryz.func24, Tryz.ntmps24
  go_wp2
  go_loop [3, 4] (fun sv xv => ∃ (x : Nat) (suf : List Nat), xv = .int .i64 (x : Int) ∧ x < 128 ∧ M.hx16 x ++ suf = M.hx16 r ∧ sv = .string (bytes (M.encZs (suf.map (M.dgG false))))) (fun _ xv => (intOf xv).toNat)
  case atStart => exact ⟨r, [], rfl, h2, by simp, rfl⟩
  case round =>
    obtain ⟨x, suf, rfl, hx, hsuf, rfl⟩ := hrel
    by_cases hx0 : 0 < x
    · obtain ⟨X, hX⟩ : ∃ X : Int, (x : Int) = X := ⟨_, rfl⟩
      have hx0' : 0 < X := by omega
      have hx1' : X < 128 := by omega
      have a15 := eand15 X (by omega) (by omega)
      have hsl : suf.length ≤ 2 := by
        have h6 := H6.out
        rw [← hsuf, List.length_append] at h6
        omega
      have hall : ∀ d ∈ suf, d < 16 := fun d hd => HLT.out d (by rw [← hsuf]; simp [hd])
      have hdl := digs_len false suf hall
      have hps : M.hx16 (x / 16) ++ ((x % 16) :: suf) = M.hx16 r := by rw [← hsuf, M.hx16_pos x hx0]; simp
      have Hps := Lib.hid hps
      obtain ⟨Sx, hSx⟩ : ∃ S, bytes (M.encZs (suf.map (M.dgG false))) = S := ⟨_, rfl⟩
      have hSs : Sx.size ≤ 6 := by rw [← hSx, bytes_size, hdl]; omega
      obtain ⟨Tx, hTx⟩ : ∃ T, (ByteArray.mk #[48, 49, 50, 51, 52, 53, 54, 55, 56, 57, 97, 98, 99, 100, 101, 102]).extract (X % 16).toNat (X % 16 + 1).toNat = T := ⟨_, rfl⟩
      have e1 : (X % 16).toNat = x % 16 := by omega
      have e2 : (X % 16 + 1).toNat = x % 16 + 1 := by omega
      have hTe : Tx = bytes (M.encZs [M.dgG false (x % 16)]) := by rw [← hTx, e1, e2]; exact cutF ⟨x % 16, by omega⟩
      have hTs : Tx.size ≤ 4 := by
        have := (M.encZs_len [M.dgG false (x % 16)]).2
        rw [hTe, bytes_size]; simpa using this
      have hsum : Tx ++ Sx = bytes (M.encZs (((x % 16) :: suf).map (M.dgG false))) := by
        rw [← hSx, hTe, cat2, List.map_cons, M.encZs_cons, M.encZs_cons, M.encZs_nil, List.append_nil]
      have Hsum := Lib.hid hsum
      rw [hSx, hX]
      have m0 : (0 : Int) ≤ X % 16 := by omega
      have m1 : X % 16 < 16 := by omega
      have HX := Lib.hid hX
      clear hX hsuf hall hdl hps hSx hTe hsum e1 e2 hx0 hsl
      go_wp2
      go_round
      case rel => exact ⟨x / 16, (x % 16) :: suf, congrArg (Value.int .i64) (by have := HX.out; omega), by omega, Hps.out, by rw [← Hsum.out]⟩
      case measure => have := HX.out; simp [intOf]; omega
    · obtain rfl : x = 0 := by omega
      rw [M.hx16_zero, List.nil_append] at hsuf
      subst hsuf
      have hfin : bytes [92] ++ bytes (M.encZs ((M.hx16 r).map (M.dgG false))) = bytes (M.encZs (92 :: M.hexd r)) := by
        rw [HHD.out, M.encZs_cons, M.enc_ascii 92 (by decide) (by decide), cat2]; rfl
      have hne : (bytes (M.encZs ((M.hx16 r).map (M.dgG false)))).toList ≠ [] := bytes_ne (by
        have := M.hx16_ne r h1
        intro hh
        have hl := (M.encZs_len ((M.hx16 r).map (M.dgG false))).1
        rw [hh] at hl
        simp at hl
        exact this hl)
      have hsz : (bytes (M.encZs ((M.hx16 r).map (M.dgG false)))).size ≤ 8 := by
        have := (M.encZs_len ((M.hx16 r).map (M.dgG false))).2
        have h6 := H6.out
        rw [bytes_size]; simp at this; omega
      rw [show bytes [92] = ⟨#[92]⟩ from rfl] at hfin
      obtain ⟨S, hS⟩ : ∃ S, bytes (M.encZs ((M.hx16 r).map (M.dgG false))) = S := ⟨_, rfl⟩
      rw [hS] at hfin hne hsz ⊢
      have q1 : (S.toList == []) = false := by rw [beq_eq_false_iff_ne]; exact hne
      have q2 : S.toList.isEmpty = false := by cases hl : S.toList with
        | nil => exact absurd hl hne
        | cons a t => rfl
      have HF : Hid ((ByteArray.mk #[92]) ++ S = bytes (M.encZs (92 :: M.hexd r))) := Lib.hid hfin
      clear hS hx0 hfin
      go_wp2
      go_ret
      exact ⟨by rw [← HF.out]; rfl, rfl⟩
end Go.Proofs.YtpecaalpbeoolaaGreatDoor

/- The reference of names: Quoted, QuotedText. -/
namespace Go.Proofs.YtpecaalpbeoolaaGreatDoor
open Go.RowKit
set_option linter.unusedVariables false
set_option linter.unusedSimpArgs false

theorem enum_size (r : Int) : (bytes (M.encZs (92 :: M.hexd r))).size ≤ 16 := by
  have h1 := (M.encZs_len (92 :: M.hexd r)).2
  have h2 : (92 :: M.hexd r).length ≤ 4 := by unfold M.hexd; split <;> simp
  rw [bytes_size]; omega
set_option maxRecDepth 100000 in
set_option maxHeartbeats 4000000 in
theorem rquoted_any (l : List UInt8) (q : UInt8) (t : List UInt8) (w : World) (hl : l.length ≤ 1000) (hq : q = 34 ∨ q = 39) (ht : M.encZs (M.qF q.toNat (M.pn l 0)) = t) :
    Calls Tryz.prog 18 #[.string (bytes l), .int .i64 (q.toNat : Int)] w (StP w t) := by
  obtain ⟨ps, hp⟩ : ∃ ps, M.pn l 0 = ps := ⟨_, rfl⟩
  have hok := M.pn_ok l l.length 0 (by omega)
  have hlen := M.pn_len l l.length 0 (by omega)
  rw [M.qF_bytes q hq, hp] at ht
  rw [hp] at hok hlen
  rw [← M.qacc_full] at ht
  have P := Lib.hid (points_any l ps w (by omega) hp)
  unfold IsP at P
  obtain ⟨Q, hQ⟩ : ∃ Q : Int, (q.toNat : Int) = Q := ⟨_, rfl⟩
  have hQ2 : Q = 34 ∨ Q = 39 := by rcases hq with rfl | rfl; left; rw [← hQ]; rfl; right; rw [← hQ]; rfl
  have hQe : M.enc Q = [q] := by rw [← hQ]; exact M.enc_byte q (by omega)
  rw [hQ] at ht ⊢
  obtain ⟨n, hn⟩ : ∃ n, ps.length = n := ⟨_, rfl⟩
  rw [hn] at hlen ht
  have hnl : n ≤ 1000 := by omega
  have Hok := Lib.hid hok
  have Hn := Lib.hid hn
  have Ht := Lib.hid ht
  have PQ := Lib.hid (fun W => refput_any W.heap.size (.slice none 0 0) [] [q] Q W (World.ownsRow_nil _ _ _ _) (by simp) (Nat.le_refl _) (by rw [hQe]; rfl))
  obtain ⟨QS, hQS⟩ : ∃ S, bytes [q] = S := ⟨_, rfl⟩
  have hQSz : QS.size = 1 := by rw [← hQS, bytes_size]; rfl
  have hQSz2 : QS.size ≤ 1 := by omega
  have HQS := Lib.hid hQS
  obtain ⟨S, hS⟩ : ∃ S, bytes l = S := ⟨_, rfl⟩
  rw [hS] at P ⊢
  clear hok hlen hn hS hp ht hQe hQ hQS hQSz hq
  go_enter Tryz.func18, Tryz.ntmps18
  go_wp2_with fail
  refine (P.out).mono ?_
  rintro e w1 ⟨v1, rfl, hv, hbl⟩
  obtain ⟨a, cap, rfl, h1, h2, h3⟩ := hv
  rw [Hn.out] at h1 ⊢
  unfold maxLen at h2
  have H3 := Lib.hid h3
  have Hbl := Lib.hid hbl
  clear h3 hbl
  go_wp2_with fail
  refine (PQ.out _).mono ?_
  rintro e w2 ⟨v2, rfl, ho2, hb2⟩
  have hcvq := conv_own ho2
  rw [HQS.out] at hcvq
  have B2 := Lib.hid hb2
  clear ho2 hb2
  go_wp2
  clear hcvq
  go_loopw [6, 8, 9, 10] (fun tv iv _ _ wr => ∃ i : Nat, iv = .int .i64 i ∧ i ≤ n ∧ tv = .string (bytes (q :: M.encZs (M.qacc Q ps i))) ∧ Below w1.heap.size w1 wr) (fun _ iv _ _ _ => n - (intOf iv).toNat)
  case atStart => exact ⟨0, rfl, by omega, by rw [← HQS.out]; rfl, B2.out⟩
  case round =>
    obtain ⟨i, rfl, hi, rfl, hb⟩ := hrel
    have HB := Lib.hid hb
    have hTs : (bytes (q :: M.encZs (M.qacc Q ps i))).size ≤ 100000 := by
      have h4 := M.qacc_len Q ps i
      have := encZs_le4 (M.qacc Q ps i)
      rw [bytes_size]; simp; omega
    obtain ⟨Tx, hTx⟩ : ∃ S, bytes (q :: M.encZs (M.qacc Q ps i)) = S := ⟨_, rfl⟩
    rw [hTx] at hTs ⊢
    have HTx := Lib.hid hTx
    by_cases hlt : i < n
    · obtain ⟨b1, off, rfl, hbk, hc⟩ := H3.out (by rw [Hn.out]; omega)
      have hil : i < ps.length := by rw [Hn.out]; exact hlt
      have c0 := hc i hil
      have hg : ps.getD i 0 = ps[i] := by simp [List.getD, hil]
      rw [← hg] at c0
      have cr := (hb.cell (p := ⟨b1, off + i, none⟩) hbk).trans c0
      have cx : i + 1 < n → w1.cell? ⟨b1, off + (i + 1), none⟩ = some (.int .i64 (ps.getD (i + 1) 0)) := fun hj => by
        have hj' : i + 1 < ps.length := by rw [Hn.out]; exact hj
        rw [hc (i + 1) hj']; simp [List.getD, hj']
      have c00 : n ≤ i + 1 → ps.getD (i + 1) 0 = 0 := fun hj => by simp [List.getD, List.getElem?_eq_none (show ps.length ≤ i + 1 by rw [Hn.out]; exact hj)]
      have hin := List.getElem_mem hil
      have hcp := Hok.out _ hin
      rw [← hg] at hcp
      obtain ⟨r, hr⟩ : ∃ r, ps.getD i 0 = r := ⟨_, rfl⟩
      obtain ⟨x, hx⟩ : ∃ r, ps.getD (i + 1) 0 = r := ⟨_, rfl⟩
      have Hr := Lib.hid hr
      have Hx := Lib.hid hx
      rw [hr] at cr hcp
      rw [hx] at cx c00
      have hr1 := hcp.2
      have i1 : (0 : Int) ≤ i := by omega
      have i2 : (i : Int) < n := by omega
      have PT := Lib.hid (refput_any wr.heap.size (.slice none 0 0) [] (M.enc r) r wr (World.ownsRow_nil _ _ _ _) (by simp) (Nat.le_refl _) (by simp))
      obtain ⟨PS, hPS⟩ : ∃ S, bytes (M.enc r) = S := ⟨_, rfl⟩
      have hPz : PS.size ≤ 4 := by rw [← hPS, bytes_size]; exact M.enc_le r
      have HPS := Lib.hid hPS
      obtain ⟨k, hkr⟩ : ∃ k : Nat, (k : Int) = r := ⟨r.toNat, by omega⟩
      have hsucc : bytes (q :: M.encZs (M.qacc Q ps (i + 1))) = Tx ++ bytes (M.encZs (M.qt Q r x)) := by
        rw [M.qacc_succ, Hr.out, Hx.out, M.encZs_append, ← HTx.out, cat2]; simp
      have Hsucc := Lib.hid hsucc
      clear hc c0 hg hin hcp hr hx hb hTx hil hPS hsucc
      by_cases hA : r = Q ∨ r = 92
      · have HSUM : Hid ((Tx ++ (ByteArray.mk #[92])) ++ PS = bytes (q :: M.encZs (M.qacc Q ps (i + 1)))) := Lib.hid (by
          rw [Hsucc.out, show M.qt Q r x = [92, r] by unfold M.qt; rw [if_pos hA], M.encZs_cons, M.encZs_cons, M.encZs_nil, List.append_nil, M.enc_ascii 92 (by decide) (by decide), ← cat2, HPS.out, ← ByteArray.append_assoc]; rfl)
        have hway : (r == Q) = true ∨ ((r == Q) = false ∧ (r == 92) = true) := by
          by_cases h : r = Q
          · left; rw [beq_iff_eq]; exact h
          · right; refine ⟨by rw [beq_eq_false_iff_ne]; exact h, by rw [beq_iff_eq]; omega⟩
        clear hA cx c00 hkr
        rcases hway with hw1 | ⟨hw1, hw2⟩
        all_goals
          go_wp2_with fail
          refine (PT.out).mono ?_
          rintro e w3 ⟨v3, rfl, ho3, hb3⟩
          have hcv := conv_own ho3
          rw [HPS.out] at hcv
          have HB3 := Lib.hid (HB.out.trans (hb3.mono HB.out.size))
          clear ho3 hb3
          go_wp2
          go_roundw
          case rel => exact ⟨i + 1, by go_num, by omega, by rw [← HSUM.out], HB3.out⟩
          case measure => simp [intOf]; omega
      have tA : (r == Q) = false := by rw [beq_eq_false_iff_ne]; omega
      have tB : (r == 92) = false := by rw [beq_eq_false_iff_ne]; omega
      by_cases hL : r = 10 ∨ r = 12 ∨ r = 13
      · have NB := Lib.hid (fun W => rnum_any k W (by omega) (by omega))
        rw [hkr] at NB
        have hsz2 := enum_size r
        obtain ⟨NS, hNS⟩ : ∃ S, bytes (M.encZs (92 :: M.hexd r)) = S := ⟨_, rfl⟩
        rw [hNS] at NB hsz2
        have hqt : M.qt Q r x = (92 :: M.hexd r) ++ (if M.jn x then [32] else []) := by unfold M.qt; rw [if_neg hA, if_pos hL]
        have HS1 : M.jn x = true → (Tx ++ NS) ++ (ByteArray.mk #[32]) = bytes (q :: M.encZs (M.qacc Q ps (i + 1))) := fun hj => by
          rw [Hsucc.out, hqt, if_pos hj, M.encZs_append, ← cat2, hNS, ← ByteArray.append_assoc, show M.encZs [32] = [32] by decide +kernel]; rfl
        have HS2 : M.jn x = false → Tx ++ NS = bytes (q :: M.encZs (M.qacc Q ps (i + 1))) := fun hj => by
          rw [Hsucc.out, hqt, if_neg (by rw [hj]; decide), List.append_nil, hNS]
        have S1 := Lib.hid HS1
        have S2 := Lib.hid HS2
        have hway : (r == 10) = true ∨ ((r == 10) = false ∧ (r == 12) = true) ∨ ((r == 10) = false ∧ (r == 12) = false ∧ (r == 13) = true) := by
          rcases hL with rfl | rfl | rfl
          · left; rfl
          · right; left; exact ⟨by decide, by decide⟩
          · right; right; exact ⟨by decide, by decide, by decide⟩
        have hCX := Lib.hid cx
        have hC0 := Lib.hid c00
        clear hA hqt HS1 HS2 hNS hL cx c00 hkr
        rcases hway with hw1 | ⟨hw1, hw2⟩ | ⟨hw1, hw2, hw3⟩
        all_goals
          as_aux_lemma =>
            go_wp2_with fail
            refine (PT.out).mono ?_
            rintro e w3 ⟨v3, rfl, ho3, hb3⟩
            have hcv := conv_own ho3
            rw [HPS.out] at hcv
            have HB3 := Lib.hid (HB.out.trans (hb3.mono HB.out.size))
            clear ho3 hb3
            go_wp2_with fail
            refine (NB.out _).mono ?_
            rintro e w' ⟨rfl, rfl⟩
            by_cases hin : i + 1 < n
            · have hcx := (HB3.out.cell (p := ⟨b1, off + (i + 1), none⟩) hbk).trans (hCX.out hin)
              have j1 : (i : Int) + 1 < n := by omega
              have j2 : ((i : Int) + 1).toNat = i + 1 := by omega
              have j3 : decide ((i : Int) + 1 < n) = true := by simpa using j1
              cases hX : M.isX x with
              | true =>
                have HX := Lib.hid (rhex_any x _ w3 (hexO_x _ hX))
                have hxr := M.xv_range _ hX
                obtain ⟨xx, hxx⟩ : ∃ y, M.xv x = y := ⟨_, rfl⟩
                rw [hxx] at HX hxr
                have y0 := hxr.1
                have hs := S1.out (by simp [M.jn, hX])
                have HSS := Lib.hid hs
                clear hs hxr hxx hX hcv
                go_wp2_with fail
                refine (HX.out).mono ?_
                rintro e w' ⟨rfl, rfl⟩
                go_wp2
                go_roundw
                case rel => exact ⟨i + 1, by go_num, by omega, by rw [← HSS.out], HB3.out⟩
                case measure => simp [intOf]; omega
              | false =>
                have HX := Lib.hid (rhex_any x _ w3 (hexO_n _ hX))
                cases hBl : M.isBl x with
                | true =>
                  have BX := Lib.hid (risbl_any x true w3 hBl)
                  have hs := S1.out (by simp [M.jn, hBl])
                  have HSS := Lib.hid hs
                  clear hs hX hBl hcv
                  go_wp2_with fail
                  refine (HX.out).mono ?_
                  rintro e w' ⟨rfl, rfl⟩
                  go_wp2_with fail
                  refine (BX.out).mono ?_
                  rintro e w' ⟨rfl, rfl⟩
                  go_wp2
                  go_roundw
                  case rel => exact ⟨i + 1, by go_num, by omega, by rw [← HSS.out], HB3.out⟩
                  case measure => simp [intOf]; omega
                | false =>
                  have BX := Lib.hid (risbl_any x false w3 hBl)
                  by_cases h12 : x = 12
                  · subst h12
                    have hs := S1.out (by decide)
                    have HSS := Lib.hid hs
                    clear hs hX hBl hcv
                    go_wp2_with fail
                    refine (HX.out).mono ?_
                    rintro e w' ⟨rfl, rfl⟩
                    go_wp2_with fail
                    refine (BX.out).mono ?_
                    rintro e w' ⟨rfl, rfl⟩
                    go_wp2
                    go_roundw
                    case rel => exact ⟨i + 1, by go_num, by omega, by rw [← HSS.out], HB3.out⟩
                    case measure => simp [intOf]; omega
                  have x12 : (x == 12) = false := by rw [beq_eq_false_iff_ne]; exact h12
                  by_cases h13 : x = 13
                  · subst h13
                    have hs := S1.out (by decide)
                    have HSS := Lib.hid hs
                    clear hs hX hBl hcv h12
                    go_wp2_with fail
                    refine (HX.out).mono ?_
                    rintro e w' ⟨rfl, rfl⟩
                    go_wp2_with fail
                    refine (BX.out).mono ?_
                    rintro e w' ⟨rfl, rfl⟩
                    go_wp2
                    go_roundw
                    case rel => exact ⟨i + 1, by go_num, by omega, by rw [← HSS.out], HB3.out⟩
                    case measure => simp [intOf]; omega
                  · have x13 : (x == 13) = false := by rw [beq_eq_false_iff_ne]; exact h13
                    have hs := S2.out (by simp [M.jn, hX, hBl, h12, h13])
                    have HSS := Lib.hid hs
                    clear hs hX hBl hcv h12 h13
                    go_wp2_with fail
                    refine (HX.out).mono ?_
                    rintro e w' ⟨rfl, rfl⟩
                    go_wp2_with fail
                    refine (BX.out).mono ?_
                    rintro e w' ⟨rfl, rfl⟩
                    go_wp2
                    go_roundw
                    case rel => exact ⟨i + 1, by go_num, by omega, by rw [← HSS.out], HB3.out⟩
                    case measure => simp [intOf]; omega
            · have hx0 := hC0.out (by omega)
              subst hx0
              have j3 : decide ((i : Int) + 1 < n) = false := by simp; omega
              have hs := S2.out (by decide)
              have HSS := Lib.hid hs
              clear hs hcv hin
              go_wp2
              go_roundw
              case rel => exact ⟨i + 1, by go_num, by omega, by rw [← HSS.out], HB3.out⟩
              case measure => simp [intOf]; omega
      have ta : (r == 10) = false := by rw [beq_eq_false_iff_ne]; omega
      have tb : (r == 12) = false := by rw [beq_eq_false_iff_ne]; omega
      have tc : (r == 13) = false := by rw [beq_eq_false_iff_ne]; omega
      have HSUM : Hid (Tx ++ PS = bytes (q :: M.encZs (M.qacc Q ps (i + 1)))) := Lib.hid (by
        rw [Hsucc.out, show M.qt Q r x = [r] by unfold M.qt; rw [if_neg hA, if_neg hL], M.encZs_cons, M.encZs_nil, List.append_nil, HPS.out])
      clear hA hL cx c00 hkr
      go_wp2_with fail
      refine (PT.out).mono ?_
      rintro e w3 ⟨v3, rfl, ho3, hb3⟩
      have hcv := conv_own ho3
      rw [HPS.out] at hcv
      have HB3 := Lib.hid (HB.out.trans (hb3.mono HB.out.size))
      clear ho3 hb3
      go_wp2
      go_roundw
      case rel => exact ⟨i + 1, by go_num, by omega, by rw [← HSUM.out], HB3.out⟩
      case measure => simp [intOf]; omega
    · obtain rfl : i = n := by omega
      have hfin : Tx ++ QS = bytes t := by rw [← HTx.out, ← HQS.out, cat2, ← Ht.out]; simp
      have HF : Hid (StP w t (.returned (.string (Tx ++ QS))) wr) := Lib.hid ⟨by rw [hfin], Hbl.out.trans (HB.out.mono Hbl.out.size)⟩
      clear hlt hb hTx hfin
      go_wp2
      go_ret
      exact HF.out
end Go.Proofs.YtpecaalpbeoolaaGreatDoor

/- Plain numbers and lists: a text between marks is read as it was written. Nothing of the program is imported. -/
namespace Go.Proofs.YtpecaalpbeoolaaGreatDoor.M
open Go.Lib
set_option linter.unusedVariables false
set_option linter.unusedSimpArgs false

/-- The marks. -/
def Mk (q : Int) : Prop := q = 34 ∨ q = 39
theorem jn_not (n : Int) (h : jn n = false) : isX n = false ∧ isBl n = false ∧ n ≠ 12 ∧ n ≠ 13 := by
  unfold jn at h
  simp only [Bool.or_eq_false_iff, decide_eq_false_iff_not] at h
  exact ⟨h.1.1.1, h.1.1.2, h.1.2, h.2⟩
theorem hexd_ten (r : Int) (h : r = 10 ∨ r = 12 ∨ r = 13) : ∃ a, hexd r = [a] ∧ isX a = true ∧ a ≠ 10 ∧ hexVal [a] = r ∧ okX r = r := by
  rcases h with rfl | rfl | rfl
  · exact ⟨97, by decide, by decide, by decide, by decide, by decide⟩
  · exact ⟨99, by decide, by decide, by decide, by decide, by decide⟩
  · exact ⟨100, by decide, by decide, by decide, by decide, by decide⟩
/-- An escape of a line's end, with a blank behind it, or with what is neither a digit nor a blank. -/
theorem escV_ten (r : Int) (h : r = 10 ∨ r = 12 ∨ r = 13) (u : List Int) : escV (hexd r ++ 32 :: u) = (r, 2) := by
  obtain ⟨a, e, h1, h2, h3, h4⟩ := hexd_ten r h
  rw [e]
  simp only [List.singleton_append, escV, h1, if_true, hexRun_go 5 _ _ h1, hexRun_stop 5 32 u (by decide), h3, h4]
  simp [isBl]
theorem escV_ten2 (r : Int) (h : r = 10 ∨ r = 12 ∨ r = 13) (x : Int) (u : List Int) (hx : isX x = false) : escV (hexd r ++ x :: u) = (r, 1 + if isBl x then 1 else 0) := by
  obtain ⟨a, e, h1, h2, h3, h4⟩ := hexd_ten r h
  rw [e]
  simp only [List.singleton_append, escV, h1, if_true, hexRun_go 5 _ _ h1, hexRun_stop 5 x u hx, h3, h4]
  simp
/-- What a text goes on with. -/
theorem qB_head (q : Int) (hq : Mk q) (l : List Int) (e : Int) (he : Mk e ∨ e = 10) (t : List Int) : ∃ x u, qB q l ++ e :: t = x :: u ∧ (jn (l.getD 0 0) = false → isX x = false ∧ ((l ≠ [] ∨ Mk e) → isBl x = false) ∧ (l = [] → x = e)) := by
  cases l with
  | nil =>
    refine ⟨e, t, rfl, fun _ => ⟨?_, ?_, fun _ => rfl⟩⟩
    · rcases he with (h | h) | h <;> (rw [h]; decide)
    · rintro (h | h | h)
      · exact absurd rfl h
      · rw [h]; decide
      · rw [h]; decide
  | cons r l =>
    have e1 : qB q (r :: l) = qt q r (l.getD 0 0) ++ qB q l := rfl
    rw [e1]
    unfold qt
    by_cases h1 : r = q ∨ r = 92
    · rw [if_pos h1]
      exact ⟨92, _, rfl, fun _ => ⟨by decide, fun _ => by decide, fun h => absurd h (by simp)⟩⟩
    · rw [if_neg h1]
      by_cases h2 : r = 10 ∨ r = 12 ∨ r = 13
      · rw [if_pos h2]
        refine ⟨92, _, rfl, fun _ => ⟨by decide, fun _ => by decide, fun h => absurd h (by simp)⟩⟩
      · rw [if_neg h2]
        refine ⟨r, _, rfl, fun h => ?_⟩
        obtain ⟨a, b, _⟩ := jn_not r h
        exact ⟨a, fun _ => b, fun h => absurd h (by simp)⟩
theorem qt_len1 (q r n : Int) : 1 ≤ (qt q r n).length := by
  unfold qt
  split
  · simp
  · split <;> simp
/-- A text's inner part is read as it was written, whatever ends it. -/
theorem strT_qB (q : Int) (hq : Mk q) (l : List Int) (e : Int) (t : List Int) (he : Mk e ∨ (e = 10 ∧ ∀ r, l.getLast? = some r → ¬ (r = 10 ∨ r = 12 ∨ r = 13))) :
    strT q (qB q l ++ e :: t) = ((strT q (e :: t)).1, l ++ (strT q (e :: t)).2.1, (qB q l).length + (strT q (e :: t)).2.2) := by
  have hq92 : q ≠ 92 := by rcases hq with h | h <;> omega
  have hq10 : q ≠ 10 := by rcases hq with h | h <;> omega
  induction l with
  | nil => simp [qB]
  | cons r l ih =>
    have he2 : Mk e ∨ (e = 10 ∧ ∀ r, l.getLast? = some r → ¬ (r = 10 ∨ r = 12 ∨ r = 13)) := by
      rcases he with h | ⟨h, h2⟩
      · exact .inl h
      · refine .inr ⟨h, fun r' hr' => h2 r' ?_⟩
        cases l with
        | nil => simp at hr'
        | cons a l => rw [List.getLast?_cons_cons]; exact hr'
    have IH := ih he2
    have e1 : qB q (r :: l) = qt q r (l.getD 0 0) ++ qB q l := rfl
    obtain ⟨x, u, hxu, hx⟩ := qB_head q hq l e (he.elim .inl fun h => .inr h.1) t
    rw [e1, List.append_assoc]
    have hlq := qt_len1 q r (l.getD 0 0)
    by_cases h1 : r = q ∨ r = 92
    · have eq : qt q r (l.getD 0 0) = [92, r] := by unfold qt; rw [if_pos h1]
      have hX : isX r = false := by rcases h1 with rfl | rfl; rcases hq with rfl | rfl <;> decide; decide
      have hr10 : r ≠ 10 := by rcases h1 with rfl | rfl; exact hq10; decide
      rw [eq]
      show strT q (92 :: r :: (qB q l ++ e :: t)) = _
      rw [strT_esc q _ hq92 (by simp) (by simpa using hr10)]
      have hv : escV (r :: (qB q l ++ e :: t)) = (r, 1) := by simp [escV, hX]
      rw [hv]
      simp only [List.drop_succ_cons, List.drop_zero]
      rw [IH]
      simp; omega
    · by_cases h2 : r = 10 ∨ r = 12 ∨ r = 13
      · have eq : qt q r (l.getD 0 0) = 92 :: hexd r ++ (if jn (l.getD 0 0) then [32] else []) := by unfold qt; rw [if_neg h1, if_pos h2]
        obtain ⟨a, ea, hxa, ha10, _⟩ := hexd_ten r h2
        rw [eq]
        by_cases hj : jn (l.getD 0 0) = true
        · rw [if_pos hj]
          have e3 : 92 :: hexd r ++ [32] ++ (qB q l ++ e :: t) = 92 :: (hexd r ++ 32 :: (qB q l ++ e :: t)) := by simp
          rw [e3, strT_esc q _ hq92 (by rw [ea]; simp) (by rw [ea]; simpa using ha10), escV_ten r h2]
          have hd : (hexd r ++ 32 :: (qB q l ++ e :: t)).drop 2 = qB q l ++ e :: t := by rw [ea]; rfl
          simp only [hd]
          rw [IH]
          simp [ea]; omega
        · have hj' : jn (l.getD 0 0) = false := by simpa using hj
          rw [if_neg hj]
          obtain ⟨hx1, hx2, hx3⟩ := hx hj'
          have hbl : isBl x = false := by
            apply hx2
            by_cases hl : l = []
            · subst hl
              rcases he with h | ⟨h, h3⟩
              · exact .inr h
              · exact absurd h2 (h3 r rfl)
            · exact .inl hl
          have e3 : 92 :: hexd r ++ [] ++ (qB q l ++ e :: t) = 92 :: (hexd r ++ x :: u) := by rw [hxu]; simp
          rw [e3, strT_esc q _ hq92 (by rw [ea]; simp) (by rw [ea]; simpa using ha10), escV_ten2 r h2 x u hx1, hbl]
          have hd : (hexd r ++ x :: u).drop 1 = qB q l ++ e :: t := by rw [ea, hxu]; rfl
          simp only [Bool.false_eq_true, if_false, Nat.add_zero, hd]
          rw [IH]
          simp [ea]; omega
      · have eq : qt q r (l.getD 0 0) = [r] := by unfold qt; rw [if_neg h1, if_neg h2]
        rw [eq]
        show strT q (r :: (qB q l ++ e :: t)) = _
        rw [strT_one q r _ (fun h => h1 (.inl h)) (fun h => h2 (.inl h)) (fun h => h1 (.inr h)), IH]
        simp; omega
theorem qt_okr (q : Int) (hq : Mk q) (r n : Int) (h : okP r) : ∀ c ∈ qt q r n, Okr c := by
  obtain ⟨h1, h2⟩ := h
  intro c hc
  unfold qt at hc
  split at hc
  · rename_i hh
    simp only [List.mem_cons, List.mem_nil_iff, or_false] at hc
    rcases hc with rfl | rfl
    · exact ⟨by decide, by decide, by decide, by decide⟩
    · rcases hh with rfl | rfl
      · rcases hq with rfl | rfl <;> exact ⟨by decide, by decide, by decide, by decide⟩
      · exact ⟨by decide, by decide, by decide, by decide⟩
  · split at hc
    · rename_i hh
      obtain ⟨a, ea, hxa, ha10, _⟩ := hexd_ten r hh
      rw [ea] at hc
      have ha := (isX_iff a).1 hxa
      have hao : Okr a := ⟨by rw [isCP_iff]; omega, by omega, by omega, by omega⟩
      simp only [List.cons_append, List.nil_append, List.mem_cons] at hc
      rcases hc with rfl | rfl | hc
      · exact ⟨by decide, by decide, by decide, by decide⟩
      · exact hao
      · split at hc
        · rw [List.mem_singleton.1 hc]; exact ⟨by decide, by decide, by decide, by decide⟩
        · simp at hc
    · rename_i hh
      rw [List.mem_singleton.1 hc]
      exact ⟨h1, by omega, by omega, by omega⟩
theorem qB_okr (q : Int) (hq : Mk q) (l : List Int) (h : ∀ r ∈ l, okP r) : ∀ c ∈ qB q l, Okr c := by
  induction l with
  | nil => simp [qB]
  | cons r l ih =>
    intro c hc
    have e1 : qB q (r :: l) = qt q r (l.getD 0 0) ++ qB q l := rfl
    rw [e1] at hc
    rcases List.mem_append.1 hc with hc | hc
    · exact qt_okr q hq r _ (h r (by simp)) c hc
    · exact ih (fun r hr => h r (by simp [hr])) c hc
theorem mk_okr (q : Int) (hq : Mk q) : Okr q := by rcases hq with rfl | rfl <;> exact ⟨by decide, by decide, by decide, by decide⟩
end Go.Proofs.YtpecaalpbeoolaaGreatDoor.M

/- Plain numbers and lists: a text between marks ahead of any bytes. Nothing of the program is imported. -/
namespace Go.Proofs.YtpecaalpbeoolaaGreatDoor.M
open Go.Lib
set_option linter.unusedVariables false
set_option linter.unusedSimpArgs false

theorem encZs_encR (c : List Int) : encR (c.map fun r => (r, (0 : Int))) = encZs c := by unfold encR encZs; rw [List.flatMap_map]
/-- Code points that are written, ahead of any bytes. -/
theorem rn_enc_join (c : List Int) (hc : ∀ r ∈ c, Okr r) (b : List UInt8) : rn (encZs c ++ b) 0 = rn (encZs c) 0 ++ (rn b 0).map (sh (encZs c).length) := by
  have h1 : ∀ r ∈ c.map (fun r => (r, (0 : Int))), Okr r.1 := by
    intro r hr
    simp only [List.mem_map] at hr
    obtain ⟨x, hx, rfl⟩ := hr
    exact hc x hx
  have hv := encR_valid _ h1
  have hcl := encR_clean _ h1
  rw [encZs_encR] at hv hcl
  have := rn_join (encZs c) b (encZs c).length 0 (by omega) (by omega) (by rw [List.drop_zero, hv]) (by
    intro h0
    have e : (encZs c).getD ((encZs c).length - 1) 0 = (encZs c)[(encZs c).length - 1] := by simp [List.getD, show (encZs c).length - 1 < (encZs c).length by omega]
    rw [e]
    exact (hcl _ (List.getElem_mem _)).2.2)
  simpa using this
theorem rn_enc_fst (c : List Int) (hc : ∀ r ∈ c, Okr r) (b : List UInt8) : ((rn (encZs c ++ b) 0).map Prod.fst) = c ++ (rn b 0).map Prod.fst := by
  rw [rn_enc_join c hc b, List.map_append, rn_encZs c hc, List.map_map]
  congr 1
/-- The first token, and what is left. -/
theorem tks_head (X : List UInt8) (h0 : 0 < X.length) (t : CT) (n : Nat) (ht : tkC ((rn X 0).map Prod.fst) = (t, n)) : tksC (rn X 0) = (t, 0) :: tksC ((rn X 0).drop n) := by
  obtain ⟨L, hL⟩ : ∃ L, rn X 0 = L := ⟨_, rfl⟩
  have e2 := rn_in X 0 h0
  rw [hL] at e2 ht
  have hLl : 0 < L.length := by rw [e2]; simp
  have h0' : (L[0]'hLl).2 = 0 := by
    have hg : ∀ (T : List (Int × Int)) x T' (hT : T = x :: T') (h0 : 0 < T.length), T[0] = x := by rintro T x T' rfl h0; rfl
    rw [hg L _ _ e2 hLl]; rfl
  have hi := lexC_in L 0 hLl
  rw [List.drop_zero, List.drop_zero, h0', Nat.zero_add, ht] at hi
  rw [hL, hi]
theorem mk_way (q : Int) (hq : Mk q) (c : List Int) : wayT (q :: c) = 3 := by
  unfold wayT
  rcases hq with rfl | rfl
  · rw [if_neg (by simp [stC, List.isPrefixOf]), if_neg (by simp [isBl]), if_pos (by simp)]
  · rw [if_neg (by simp [stC, List.isPrefixOf]), if_neg (by simp [isBl]), if_pos (by simp)]
theorem quoted_tks (q : Int) (hq : Mk q) (ps : List Int) (hp : ∀ r ∈ ps, okP r) (b : List UInt8) :
    ∃ R, tksC (rn (encZs (qF q ps) ++ b) 0) = ({ kind := 5, text := encZs ps }, 0) :: R := by
  have hok : ∀ r ∈ qF q ps, Okr r := by
    intro r hr
    simp only [qF, List.mem_append, List.mem_cons, List.mem_nil_iff, or_false] at hr
    rcases hr with (rfl | hr) | rfl
    · exact mk_okr _ hq
    · exact qB_okr q hq ps hp r hr
    · exact mk_okr _ hq
  have hf := rn_enc_fst (qF q ps) hok b
  have hc : qF q ps ++ (rn b 0).map Prod.fst = q :: (qB q ps ++ q :: (rn b 0).map Prod.fst) := by simp [qF]
  have hs := strT_qB q hq ps q ((rn b 0).map Prod.fst) (.inl hq)
  rw [strT_end] at hs
  simp only [List.append_nil] at hs
  have ht : tkC ((rn (encZs (qF q ps) ++ b) 0).map Prod.fst) = ({ kind := 5, text := encZs ps }, 1 + ((qB q ps).length + 1)) := by
    rw [hf, hc]
    unfold tkC
    rw [mk_way q hq]
    show txtT _ = _
    unfold txtT
    simp only [List.getD_cons_zero, List.drop_succ_cons, List.drop_zero]
    rw [hs]
    rfl
  refine ⟨_, tks_head _ ?_ _ _ ht⟩
  have h1 := (encZs_len (qF q ps)).1
  rw [List.length_append]
  have : 0 < (qF q ps).length := by simp [qF]
  omega
theorem broken_tks (q : Int) (hq : Mk q) (ps : List Int) (hp : ∀ r ∈ ps, okP r) (hl : ∀ r, ps.getLast? = some r → ¬ (r = 10 ∨ r = 12 ∨ r = 13)) (b : List UInt8) :
    ∃ x z R, tksC (rn (encZs (q :: qB q ps) ++ (10 :: b)) 0) = ({ kind := 6, text := encZs (q :: qB q ps) }, 0) :: (x, z) :: R ∧ x.kind = 13 := by
  have hok : ∀ r ∈ (q :: qB q ps) ++ [10], Okr r := by
    intro r hr
    simp only [List.mem_append, List.mem_cons, List.mem_nil_iff, or_false] at hr
    rcases hr with (rfl | hr) | rfl
    · exact mk_okr _ hq
    · exact qB_okr q hq ps hp r hr
    · exact ⟨by decide, by decide, by decide, by decide⟩
  have hen : encZs (q :: qB q ps) ++ (10 :: b) = encZs ((q :: qB q ps) ++ [10]) ++ b := by
    rw [encZs_append, show encZs [10] = [10] by decide +kernel]; simp
  rw [hen]
  have hf := rn_enc_fst ((q :: qB q ps) ++ [10]) hok b
  have hc : (q :: qB q ps) ++ [10] ++ (rn b 0).map Prod.fst = q :: (qB q ps ++ 10 :: (rn b 0).map Prod.fst) := by simp
  have hs := strT_qB q hq ps 10 ((rn b 0).map Prod.fst) (.inr ⟨rfl, hl⟩)
  have hq10 : q ≠ 10 := by rcases hq with h | h <;> omega
  rw [strT_bad q _ hq10] at hs
  simp only [List.append_nil, Nat.add_zero] at hs
  have htk : (q :: (qB q ps ++ 10 :: (rn b 0).map Prod.fst)).take (1 + (qB q ps).length) = q :: qB q ps := by
    rw [Nat.add_comm, List.take_succ_cons, List.take_left' rfl]
  have ht : tkC ((rn (encZs ((q :: qB q ps) ++ [10]) ++ b) 0).map Prod.fst) = ({ kind := 6, text := encZs (q :: qB q ps) }, 1 + (qB q ps).length) := by
    rw [hf, hc]
    unfold tkC
    rw [mk_way q hq]
    show txtT _ = _
    unfold txtT
    simp only [List.getD_cons_zero, List.drop_succ_cons, List.drop_zero]
    rw [hs]
    simp only [if_true]
    rw [htk]
  have hX : 0 < (encZs ((q :: qB q ps) ++ [10]) ++ b).length := by
    have h1 := (encZs_len ((q :: qB q ps) ++ [10])).1
    have h2 : 0 < ((q :: qB q ps) ++ [10]).length := by simp
    rw [List.length_append]
    omega
  rw [tks_head _ hX _ _ ht]
  obtain ⟨L, hL⟩ : ∃ L, rn (encZs ((q :: qB q ps) ++ [10]) ++ b) 0 = L := ⟨_, rfl⟩
  rw [hL] at hf ⊢
  have hLl : 1 + (qB q ps).length < L.length := by
    have := congrArg List.length hf
    rw [List.length_map] at this
    rw [this]; simp; omega
  have hi := lexC_in L (1 + (qB q ps).length) hLl
  have hd : (L.map Prod.fst).drop (1 + (qB q ps).length) = 10 :: (rn b 0).map Prod.fst := by
    rw [hf, hc, Nat.add_comm, List.drop_succ_cons, List.drop_left' rfl]
  rw [hd] at hi
  rw [hi]
  refine ⟨_, _, _, rfl, ?_⟩
  unfold tkC
  have hw : wayT (10 :: (rn b 0).map Prod.fst) = 2 := by
    unfold wayT
    rw [if_neg (by simp [stC, List.isPrefixOf]), if_pos (by simp [isBl])]
  rw [hw]
  rfl
end Go.Proofs.YtpecaalpbeoolaaGreatDoor.M
