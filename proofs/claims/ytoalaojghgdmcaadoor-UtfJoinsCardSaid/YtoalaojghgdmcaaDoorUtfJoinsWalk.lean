/- The walk of UtfJoins: what the call comes to, in any memory in which the tables are laid. -/
import Derived.Test.YtoalaojghgdmcaaDoorTied
import Derived.WalkKit
import Derived.ProofKit
import Derived.OpenShut
import Derived.ShutString
import Derived.ChangeOld
import Derived.Below
import Derived.Test.YtoalaojghgdmcaaDoorUAlive
import Derived.Test.YtoalaojghgdmcaaDoorUApp
import Derived.Test.YtoalaojghgdmcaaDoorUMath3
namespace Go.Proofs.YtoalaojghgdmcaaDoor.utfJoins
open Go.ChangeShapes Go.WideShapes Go.ChangeAt Go.RowKit
open Go.ChangeMaps (open_string shut_string)
set_option linter.unusedVariables false

def IsRow (k : IntKind) (w : World) (a : Option Addr) (len cap : Nat) (zs : List Int) : Prop :=
  (a = none ∧ len = 0 ∧ cap = 0 ∧ zs = []) ∨
  ∃ x, a = some x ∧ len ≤ cap ∧ cap ≤ maxLen ∧ zs.length = cap ∧ (∀ i, i < zs.length → w.cell? (x.add i) = some (.int k (zs.getD i 0))) ∧ ∀ n ∈ zs, (Lit.int k n).wf = true

set_option maxHeartbeats 400000 in
theorem long_of (a0 : Option Addr) (len0 cap0 : Nat) (a1 : Option Addr) (len1 cap1 : Nat) (w : World) (hT : Tabs w) (h : 200 < len0 ∨ (len0 ≤ 200 ∧ 200 < len1)) :
    Calls Tryd.prog 6 #[.slice a0 len0 cap0, .slice a1 len1 cap1] w fun e w' => e = .returned (.bool true) ∧ Below w.heap.size w w' := by
  have HT := Lib.hid hT
  clear hT
  rcases h with h | ⟨h1, h2⟩
  all_goals
    go_enter Tryd.func6, Tryd.ntmps6
    go_wp2_with fail
    refine (alive_any _ HT.out).mono ?_
    rintro e w1 ⟨rfl, hb⟩
    go_wp2
    go_ret
    exact ⟨rfl, hb⟩

set_option maxHeartbeats 1000000 in
theorem inside (a0 : Option Addr) (len0 cap0 : Nat) (a1 : Option Addr) (len1 cap1 : Nat) (k l : List UInt8) (w : World) (hT : Tabs w) (hk : k.length = len0) (hl : l.length = len1)
    (h1 : len0 ≤ 200) (h2 : len1 ≤ 200) (b0 : Bs w (.slice a0 len0 cap0) k) (b1 : Bs w (.slice a1 len1 cap1) l)
    (z0 : ∀ n c, Value.slice a0 len0 cap0 = .slice none n c → c = 0) (z1 : ∀ n c, Value.slice a1 len1 cap1 = .slice none n c → c = 0) :
    Calls Tryd.prog 6 #[.slice a0 len0 cap0, .slice a1 len1 cap1] w fun e w' => e = .returned (.bool true) ∧ Below w.heap.size w w' := by
  subst hk hl
  obtain ⟨n, ok, hn⟩ : ∃ n ok, M.validAll k = (n, ok) := ⟨_, _, rfl⟩
  obtain ⟨m, is, hm⟩ : ∃ m is, M.validAll l = (m, is) := ⟨_, _, rfl⟩
  obtain ⟨j, has, hj⟩ : ∃ j has, M.validAll (k ++ l) = (j, has) := ⟨_, _, rfl⟩
  have hgood : ok = true → n = k.length ∧ j = k.length + m ∧ has = is := by
    intro h
    have e1 := M.join_good k l (by rw [hn]; exact h)
    have e2 := M.all_len k (by rw [hn]; exact h)
    rw [hn] at e2
    rw [hj, hm] at e1
    simp only [Prod.mk.injEq] at e1
    exact ⟨e2, e1.1, e1.2⟩
  have hbad : ok = false → n ≤ j := by
    intro h
    have := M.join_bad k l (by rw [hn]; exact h)
    rwa [hn, hj] at this
  have hml := M.all_le l
  rw [hm] at hml
  have Hn := Lib.hid hn
  have Hm := Lib.hid hm
  have Hj := Lib.hid hj
  have HT := Lib.hid hT
  have B0 := Lib.hid b0
  have B1 := Lib.hid b1
  have Z0 := Lib.hid z0
  have Z1 := Lib.hid z1
  have Hgood := Lib.hid hgood
  have Hbad := Lib.hid hbad
  clear hn hm hj hT b0 b1 z0 z1 hgood hbad
  go_enter Tryd.func6, Tryd.ntmps6
  go_wp2_with fail
  refine (alive_any _ HT.out).mono ?_
  rintro e w1 ⟨rfl, hb1⟩
  go_wp2_with fail
  refine (valid_any _ k n ok _ (HT.out.keep hb1) (B0.out.keep hb1) (by omega) Hn.out).mono ?_
  rintro e w2 ⟨rfl, hb2⟩
  have hb3 := hb1.trans (hb2.mono hb1.size)
  clear hb1 hb2
  go_wp2_with fail
  refine (valid_any _ l m is _ (HT.out.keep hb3) (B1.out.keep hb3) (by omega) Hm.out).mono ?_
  rintro e w4 ⟨rfl, hb4⟩
  have hb5 := hb3.trans (hb4.mono hb3.size)
  have hs5 := hb5.size
  clear hb3 hb4
  go_wp2_with (at_builtin; refine wpl_append rfl _ _ rfl w.heap.size (.slice none 0 0) _ [] k k rfl (World.ownsRow_nil _ _ _ _) rfl (B0.out.keep hb5) Z0.out (by simp; omega) hs5 rfl ?_)
  intro v6 w6 ho6 hb6
  have hb7 := hb5.trans hb6
  have hs7 := hb7.size
  clear hb5 hb6
  go_wp2_with (at_builtin; refine wpl_append rfl _ _ rfl w.heap.size v6 _ k l (k ++ l) rfl ho6 rfl (B1.out.keep hb7) Z1.out (by omega) hs7 rfl ?_)
  intro v8 w8 ho8 hb8
  have hb9 := hb7.trans hb8
  have hbs := ho8.bs
  clear hb7 hb8 ho6 ho8
  go_wp2_with fail
  refine (valid_any _ (k ++ l) j has _ (HT.out.keep hb9) hbs (by simp; omega) Hj.out).mono ?_
  rintro e w10 ⟨rfl, hb10⟩
  have hb11 := hb9.trans (hb10.mono hb9.size)
  clear hb9 hb10 hbs
  cases ok with
  | false =>
    have := Hbad.out rfl
    go_wp2
    go_ret
    exact ⟨by first | (simp; done) | (simp; omega), hb11⟩
  | true =>
    obtain ⟨e1, e2, e3⟩ := Hgood.out rfl
    subst e1 e2 e3
    go_wp2
    go_ret
    exact ⟨by first | rfl | simp, hb11⟩

theorem walk (a0 : Option Addr) (len0 cap0 : Nat) (z0 : List Int) (a1 : Option Addr) (len1 cap1 : Nat) (z1 : List Int) (w : World) (w0 : IsRow .u8 w a0 len0 cap0 z0) (w1 : IsRow .u8 w a1 len1 cap1 z1) (hT : Tabs w) :
    Calls Tryd.prog 6 #[.slice a0 len0 cap0, .slice a1 len1 cap1] w fun e w' => e = .returned (.bool true) ∧ Below w.heap.size w w' := by
  by_cases h : 200 < len0 ∨ (len0 ≤ 200 ∧ 200 < len1)
  · exact long_of a0 len0 cap0 a1 len1 cap1 w hT h
  · obtain ⟨k, hk, b0, y0⟩ := row_bs w0
    obtain ⟨l, hl, b1, y1⟩ := row_bs w1
    exact inside a0 len0 cap0 a1 len1 cap1 k l w hT hk hl (by omega) (by omega) b0 b1 y0 y1

end Go.Proofs.YtoalaojghgdmcaaDoor.utfJoins
