/- The walk of LinesTell: what the call comes to, in any memory in which the tables are laid. -/
import Derived.Test.YtoalaojghgdmcaaDoorTied
import Derived.WalkKit
import Derived.ProofKit
import Derived.OpenShut
import Derived.ShutString
import Derived.ChangeOld
import Derived.Below
import Derived.Test.YtoalaojghgdmcaaDoorLTell
import Derived.Test.YtoalaojghgdmcaaDoorUApp
namespace Go.Proofs.YtoalaojghgdmcaaDoor.linesTell
open Go.ChangeShapes Go.WideShapes Go.ChangeAt Go.RowKit
open Go.ChangeMaps (open_string shut_string)
set_option linter.unusedVariables false

def IsRow (k : IntKind) (w : World) (a : Option Addr) (len cap : Nat) (zs : List Int) : Prop :=
  (a = none ∧ len = 0 ∧ cap = 0 ∧ zs = []) ∨
  ∃ x, a = some x ∧ len ≤ cap ∧ cap ≤ maxLen ∧ zs.length = cap ∧ (∀ i, i < zs.length → w.cell? (x.add i) = some (.int k (zs.getD i 0))) ∧ ∀ n ∈ zs, (Lit.int k n).wf = true

theorem clamp (i : Int) (n : Nat) : ∃ t : Nat, t ≤ n ∧ ((i = t) ∨ (i < 0 ∧ t = 0) ∨ ((n : Int) ≤ i ∧ t = n)) := by
  by_cases h0 : i < 0
  · exact ⟨0, by omega, .inr (.inl ⟨h0, rfl⟩)⟩
  · by_cases h1 : (n : Int) ≤ i
    · exact ⟨n, by omega, .inr (.inr ⟨h1, rfl⟩)⟩
    · exact ⟨i.toNat, by omega, .inl (by omega)⟩
set_option maxHeartbeats 400000 in
theorem long_of (a0 : Option Addr) (len0 cap0 : Nat) (i x y : Int) (w : World) (hT : Tabs w) (h : 200 < len0) :
    Calls Tryd.prog 8 #[.slice a0 len0 cap0, .int .i64 i, .int .i64 x, .int .i64 y] w fun e w' => e = .returned (.bool true) ∧ Below w.heap.size w w' := by
  have HT := Lib.hid hT
  clear hT
  go_enter Tryd.func8, Tryd.ntmps8
  go_wp2_with fail
  refine (lalive_any _ HT.out).mono ?_
  rintro e w1 ⟨rfl, hb⟩
  go_wp2
  go_ret
  exact ⟨rfl, hb⟩

set_option maxHeartbeats 1000000 in
theorem inside (a0 : Option Addr) (len0 cap0 : Nat) (l : List UInt8) (i x y : Int) (w : World) (hT : Tabs w) (hl : l.length = len0) (h1 : len0 ≤ 200) (b0 : Bs w (.slice a0 len0 cap0) l)
    (z0 : ∀ n c, Value.slice a0 len0 cap0 = .slice none n c → c = 0) :
    Calls Tryd.prog 8 #[.slice a0 len0 cap0, .int .i64 i, .int .i64 x, .int .i64 y] w fun e w' => e = .returned (.bool true) ∧ Below w.heap.size w w' := by
  subst hl
  obtain ⟨t, ht, hi⟩ := clamp i l.length
  obtain ⟨p, q, hp⟩ : ∃ p q, M.atP l t = (p, q) := ⟨_, _, rfl⟩
  obtain ⟨n, ok, hf⟩ : ∃ n ok, M.found l x y = (n, ok) := ⟨_, _, rfl⟩
  obtain ⟨k, c, hk⟩ : ∃ k c, M.atP l l.length = (k, c) := ⟨_, _, rfl⟩
  have s1 := fun v W hT hv => at_any v l t i W hT hv (by omega) ht hi _ hp
  have s2 := fun v W hv => refat_any v l t i W hv (by omega) ht hi _ hp
  have s3 := fun v W hT hv => back_all v l x y W hT hv (by omega) _ hf
  have s4 := fun v W hv => refback_any v l x y _ W hv (by omega) hf
  have s5 := fun v W hT hv => count_any v l k c W hT hv (by omega) hk
  have s6 := fun v W hv => refcount_any v l k c W hv (by omega) hk
  have S1 := Lib.hid s1
  have S2 := Lib.hid s2
  have S3 := Lib.hid s3
  have S4 := Lib.hid s4
  have S5 := Lib.hid s5
  have S6 := Lib.hid s6
  have HT := Lib.hid hT
  have B0 := Lib.hid b0
  have Z0 := Lib.hid z0
  clear s1 s2 s3 s4 s5 s6 hT b0 z0 hp hf hk hi
  go_enter Tryd.func8, Tryd.ntmps8
  go_wp2_with fail
  refine (lalive_any _ HT.out).mono ?_
  rintro e w1 ⟨rfl, hb1⟩
  have hs1 := hb1.size
  go_wp2_with (at_builtin; refine wpl_append rfl _ _ rfl w.heap.size (.slice none 0 0) _ [] l l rfl (World.ownsRow_nil _ _ _ _) rfl (B0.out.keep hb1) Z0.out (by simp <;> omega) hs1 rfl ?_)
  intro v2 w2 ho2 hb2
  have hb3 := hb1.trans hb2
  have hbs := ho2.bs
  clear hb1 hb2 ho2
  go_wp2_with fail
  refine (S1.out _ _ (HT.out.keep hb3) hbs).mono ?_
  rintro e w4 ⟨rfl, hb4⟩
  have hb5 := hb3.trans (hb4.mono hb3.size)
  clear hb3 hb4 hbs
  go_wp2_with fail
  refine (S2.out _ _ (B0.out.keep hb5)).mono ?_
  rintro e w6 ⟨rfl, rfl⟩
  go_wp2_with fail
  refine (S3.out _ _ (HT.out.keep hb5) (B0.out.keep hb5)).mono ?_
  rintro e w6 ⟨rfl, hb6⟩
  have hb7 := hb5.trans (hb6.mono hb5.size)
  clear hb5 hb6
  unfold two
  go_wp2_with fail
  refine (S4.out _ _ (B0.out.keep hb7)).mono ?_
  rintro e w8 ⟨rfl, rfl⟩
  unfold two
  go_wp2_with fail
  refine (S5.out _ _ (HT.out.keep hb7) (B0.out.keep hb7)).mono ?_
  rintro e w8 ⟨rfl, hb8⟩
  have hb9 := hb7.trans (hb8.mono hb7.size)
  clear hb7 hb8
  go_wp2_with fail
  refine (S6.out _ _ (B0.out.keep hb9)).mono ?_
  rintro e w10 ⟨rfl, rfl⟩
  go_wp2
  go_ret
  exact ⟨by simp, hb9⟩

theorem walk (a0 : Option Addr) (len0 cap0 : Nat) (z0 : List Int) (a1 a2 a3 : Int) (w : World) (w0 : IsRow .u8 w a0 len0 cap0 z0) (w1 : (Lit.int .i64 a1).wf = true) (w2 : (Lit.int .i64 a2).wf = true) (w3 : (Lit.int .i64 a3).wf = true) (hT : Tabs w) :
    Calls Tryd.prog 8 #[.slice a0 len0 cap0, .int .i64 a1, .int .i64 a2, .int .i64 a3] w fun e w' => e = .returned (.bool true) ∧ Below w.heap.size w w' := by
  by_cases h : 200 < len0
  · exact long_of a0 len0 cap0 a1 a2 a3 w hT h
  · obtain ⟨l, hl, b0, n0⟩ := row_bs w0
    exact inside a0 len0 cap0 l a1 a2 a3 w hT hl (by omega) b0 n0

end Go.Proofs.YtoalaojghgdmcaaDoor.linesTell
