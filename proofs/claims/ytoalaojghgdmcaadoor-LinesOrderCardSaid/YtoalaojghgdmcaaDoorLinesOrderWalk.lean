/- The walk of LinesOrder: what the call comes to, in any memory in which the tables are laid. -/
import Derived.Test.YtoalaojghgdmcaaDoorTied
import Derived.WalkKit
import Derived.ProofKit
import Derived.OpenShut
import Derived.ShutString
import Derived.ChangeOld
import Derived.Below
import Derived.Test.YtoalaojghgdmcaaDoorLines
import Derived.Test.YtoalaojghgdmcaaDoorUApp
namespace Go.Proofs.YtoalaojghgdmcaaDoor.linesOrder
open Go.ChangeShapes Go.WideShapes Go.ChangeAt Go.RowKit
open Go.ChangeMaps (open_string shut_string)
set_option linter.unusedVariables false

def IsRow (k : IntKind) (w : World) (a : Option Addr) (len cap : Nat) (zs : List Int) : Prop :=
  (a = none ∧ len = 0 ∧ cap = 0 ∧ zs = []) ∨
  ∃ x, a = some x ∧ len ≤ cap ∧ cap ≤ maxLen ∧ zs.length = cap ∧ (∀ i, i < zs.length → w.cell? (x.add i) = some (.int k (zs.getD i 0))) ∧ ∀ n ∈ zs, (Lit.int k n).wf = true

set_option maxHeartbeats 400000 in
theorem out_of (a0 : Option Addr) (len0 cap0 : Nat) (i k : Int) (w : World) (hT : Tabs w)
    (h : 200 < len0 ∨ (len0 ≤ 200 ∧ i < 0) ∨ (len0 ≤ 200 ∧ 0 ≤ i ∧ k < i) ∨ (len0 ≤ 200 ∧ 0 ≤ i ∧ i ≤ k ∧ (len0 : Int) < k)) :
    Calls Tryd.prog 12 #[.slice a0 len0 cap0, .int .i64 i, .int .i64 k] w fun e w' => e = .returned (.bool true) ∧ Below w.heap.size w w' := by
  have HT := Lib.hid hT
  clear hT
  rcases h with h | ⟨h1, h2⟩ | ⟨h1, h2, h3⟩ | ⟨h1, h2, h3, h4⟩
  all_goals
    go_enter Tryd.func12, Tryd.ntmps12
    go_wp2_with fail
    refine (lalive_any _ HT.out).mono ?_
    rintro e w1 ⟨rfl, hb⟩
    go_wp2
    go_ret
    exact ⟨rfl, hb⟩

set_option maxHeartbeats 400000 in
theorem inside (a0 : Option Addr) (cap0 : Nat) (l : List UInt8) (i k : Nat) (w : World) (hT : Tabs w) (h1 : l.length ≤ 200) (h2 : i ≤ k) (h3 : k ≤ l.length) (b0 : Bs w (.slice a0 l.length cap0) l) :
    Calls Tryd.prog 12 #[.slice a0 l.length cap0, .int .i64 (i : Int), .int .i64 (k : Int)] w fun e w' => e = .returned (.bool true) ∧ Below w.heap.size w w' := by
  obtain ⟨p, q, hp⟩ : ∃ p q, M.atP l i = (p, q) := ⟨_, _, rfl⟩
  obtain ⟨x, y, hx⟩ : ∃ p q, M.atP l k = (p, q) := ⟨_, _, rfl⟩
  have ho := M.atP_order l i k h2
  rw [hp, hx] at ho
  unfold M.Later at ho
  simp only at ho
  have HT := Lib.hid hT
  have Hp := Lib.hid hp
  have Hx := Lib.hid hx
  have B0 := Lib.hid b0
  clear hT hp hx b0
  rcases ho with ho | ⟨rfl, ho⟩
  all_goals
    go_enter Tryd.func12, Tryd.ntmps12
    go_wp2_with fail
    refine (lalive_any _ HT.out).mono ?_
    rintro e w1 ⟨rfl, hb1⟩
    go_wp2_with fail
    refine (at_any _ l i i _ (HT.out.keep hb1) (B0.out.keep hb1) (by omega) (by omega) (.inl rfl) _ Hp.out).mono ?_
    rintro e w2 ⟨rfl, hb2⟩
    have hb3 := hb1.trans (hb2.mono hb1.size)
    clear hb1 hb2
    go_wp2_with fail
    refine (at_any _ l k k _ (HT.out.keep hb3) (B0.out.keep hb3) (by omega) (by omega) (.inl rfl) _ Hx.out).mono ?_
    rintro e w4 ⟨rfl, hb4⟩
    have hb5 := hb3.trans (hb4.mono hb3.size)
    clear hb3 hb4
    go_wp2
    go_ret
    exact ⟨by first | rfl | simp, hb5⟩

theorem walk (a0 : Option Addr) (len0 cap0 : Nat) (z0 : List Int) (a1 : Int) (a2 : Int) (w : World) (w0 : IsRow .u8 w a0 len0 cap0 z0) (w1 : (Lit.int .i64 a1).wf = true) (w2 : (Lit.int .i64 a2).wf = true) (hT : Tabs w) :
    Calls Tryd.prog 12 #[.slice a0 len0 cap0, .int .i64 a1, .int .i64 a2] w fun e w' => e = .returned (.bool true) ∧ Below w.heap.size w w' := by
  by_cases h : 200 < len0 ∨ (len0 ≤ 200 ∧ a1 < 0) ∨ (len0 ≤ 200 ∧ 0 ≤ a1 ∧ a2 < a1) ∨ (len0 ≤ 200 ∧ 0 ≤ a1 ∧ a1 ≤ a2 ∧ (len0 : Int) < a2)
  · exact out_of a0 len0 cap0 a1 a2 w hT h
  · obtain ⟨l, hl, b0, _⟩ := row_bs w0
    subst hl
    obtain ⟨i, rfl⟩ : ∃ i : Nat, a1 = i := ⟨a1.toNat, by omega⟩
    obtain ⟨k, rfl⟩ : ∃ i : Nat, a2 = i := ⟨a2.toNat, by omega⟩
    exact inside a0 cap0 l i k w hT (by omega) (by omega) (by omega) b0

end Go.Proofs.YtoalaojghgdmcaaDoor.linesOrder
