/- The walk of CinputTells. -/
import Derived.Test.YtpnlkahebdipcaaDoorCLaw
import Derived.Test.YtpnlkahebdipcaaDoorCOpen
import Derived.Test.YtpnlkahebdipcaaDoorVGuard
import Derived.Outline
namespace Go.Proofs.YtpnlkahebdipcaaDoor
open Go.RowKit
set_option linter.unusedVariables false
set_option linter.unusedSimpArgs false

set_option maxRecDepth 100000 in
set_option maxHeartbeats 4000000 in
theorem ctells_walk (a0 : Option Addr) (len0 cap0 : Nat) (a1 : Option Addr) (len1 cap1 : Nat) (l : List UInt8) (rs : List (Int × Int)) (w : World) (hl : l.length = len0) (b0 : Bs w (.slice a0 len0 cap0) l) (n0 : ∀ n c, Value.slice a0 len0 cap0 = .slice none n c → c = 0)
    (hr : rs.length = len1) (b1 : Rs w (.slice a1 len1 cap1) rs) (n1 : NNv (.slice a1 len1 cap1)) (hT : Tabs w) :
    Calls Tryd.prog 3 #[.slice a0 len0 cap0, .slice a1 len1 cap1] w fun e w' => e = .returned (.bool true) ∧ Below w.heap.size w w' := by
  have al := Lib.hid (alive_any w hT)
  have B0 := Lib.hid b0
  have B1 := Lib.hid b1
  have N0 := Lib.hid n0
  have N1 := Lib.hid n1
  have HT := Lib.hid hT
  by_cases h0 : 400 < len0
  · have h0' : (400 : Int) < len0 := by omega
    clear b0 b1 n0 n1 hT hl hr
    go_enter Tryd.func3, Tryd.ntmps3
    go_wp2_with fail
    refine al.out.mono ?_
    rintro e w1 ⟨rfl, hb⟩
    go_wp2
    go_ret
    exact ⟨rfl, hb⟩
  by_cases h1 : 400 < len1
  · have h1' : (400 : Int) < len1 := by omega
    clear b0 b1 n0 n1 hT hl hr
    go_enter Tryd.func3, Tryd.ntmps3
    go_wp2_with fail
    refine al.out.mono ?_
    rintro e w1 ⟨rfl, hb⟩
    go_wp2
    go_ret
    exact ⟨rfl, hb⟩
  obtain ⟨ms, hms⟩ : ∃ ms, M.rn l 0 = ms := ⟨_, rfl⟩
  have hml := M.rn_len l l.length 0 (by omega)
  rw [hms] at hml
  obtain ⟨t, ht⟩ : ∃ t, M.encR rs = t := ⟨_, rfl⟩
  have R1 := Lib.hid (fun v W (hW : Tabs W) hB => cruns_any v l ms W hW hB (by omega) hms)
  have R2 := Lib.hid (fun v W hB => refruns_any v l ms W hB (by omega) hms)
  have S1 := Lib.hid (fun v u W hv hu => same_one v u ms W hv hu (by omega))
  have T1 := Lib.hid (fun v W hB => ctext_any v rs t W hB (by omega) ht)
  have T2 := Lib.hid (fun v W hB => reftext_any v rs t W hB (by omega) ht)
  have q1 : decide ((400 : Int) < len0) = false := by simp; omega
  have q2 : decide ((400 : Int) < len1) = false := by simp; omega
  have k0 : len0 ≤ 400 := by omega
  have k1 : len1 ≤ 400 := by omega
  obtain ⟨S, hS⟩ : ∃ S, bytes t = S := ⟨_, rfl⟩
  rw [hS] at T1 T2
  have e1 : (S.toList == S.toList) = true := by simp
  have Hl := Lib.hid hl
  have Hr := Lib.hid hr
  clear b0 b1 n0 n1 hT hl hr h0 h1 hms hml ht hS
  go_enter Tryd.func3, Tryd.ntmps3
  go_wp2_with fail
  refine al.out.mono ?_
  rintro e w1 ⟨rfl, hb⟩
  have hbz := hb.size
  go_wp2_with (at_builtin; refine wpl_append rfl _ _ rfl w.heap.size (.slice none 0 0) (.slice a0 len0 cap0) [] l l rfl (World.ownsRow_nil _ _ _ _) rfl (B0.out.keep hb) N0.out (by rw [Hl.out]; simp; omega) hbz rfl ?_)
  intro v6 w6 ho6 hb6
  have c6 := hb.trans hb6
  clear hb6 hb
  go_wp2_with fail
  refine (R1.out _ _ (HT.out.keep c6) ho6.bs).mono ?_
  rintro e w7 ⟨v7, rfl, ho7, hb7⟩
  have c7 := c6.trans (hb7.mono c6.size)
  clear hb7 c6 ho6
  go_wp2_with fail
  refine (R2.out _ _ (B0.out.keep c7)).mono ?_
  rintro e w8 ⟨v8, rfl, ho8, hb8⟩
  have c8 := c7.trans (hb8.mono c7.size)
  have hs7 := (OwnR.keep ho7 hb8).vs
  clear hb8 c7 ho7
  go_wp2_with fail
  refine (S1.out _ _ _ hs7 ho8.vs).mono ?_
  rintro e w9 ⟨rfl, hb9⟩
  have c9 := c8.trans (hb9.mono c8.size)
  have c9z := c9.size
  clear hb9 c8 ho8 hs7
  go_wp2_with (at_builtin; refine wpl_appendVG _ _ (by rfl) rfl Tryd.underlying23 infoR rfl (by decide) w.heap.size (.slice none 0 0) (.slice a1 len1 cap1) [] (rvs rs) (rvs rs) rfl (ownV_nil _ _ _ _) rfl (B1.out.keep c9) N1.out (rvs_two _) (rvs_one _) (by rw [rvs_len, Hr.out]; simp; omega) (by decide) c9z rfl ?_)
  intro v10 w10 ho10 hb10
  have c10 := c9.trans hb10
  clear hb10 c9
  go_wp2_with fail
  refine (T1.out _ _ ho10.vs).mono ?_
  rintro e w11 ⟨rfl, hb11⟩
  have c11 := c10.trans (hb11.mono c10.size)
  clear hb11 c10 ho10
  go_wp2_with fail
  refine (T2.out _ _ (B1.out.keep c11)).mono ?_
  rintro e w12 ⟨rfl, hb12⟩
  have c12 := c11.trans (hb12.mono c11.size)
  clear hb12 c11
  go_wp2
  go_ret
  exact ⟨rfl, c12⟩
end Go.Proofs.YtpnlkahebdipcaaDoor
