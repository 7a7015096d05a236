/- Colours: which one a token is. -/
import Derived.Test.YtilndlifmpbfnaaDoorCoHx
import Derived.Test.YtilndlifmpbfnaaDoorCoEq
namespace Go.Proofs.YtilndlifmpbfnaaDoor
open Go.RowKit
set_option linter.unusedVariables false
set_option linter.unusedSimpArgs false

def M.isXB (c : UInt8) : Bool := decide (M.hexN c < 16)
/-- One of the numbers of a colour of sixteen digits. -/
def M.valX (s : List UInt8) (sz i : Nat) : Int := if sz = 1 then (M.hexNum [s.getD i 0, s.getD i 0] : Int) else (M.hexNum [s.getD (i * 2) 0, s.getD (i * 2 + 1) 0] : Int)
/-- The colour of digits. -/
def M.numX (s : List UInt8) : M.C4 × Bool :=
  if s.all M.isXB then
    if s.length = 3 then ((M.valX s 1 0, M.valX s 1 1, M.valX s 1 2, 255), true)
    else if s.length = 4 then ((M.valX s 1 0, M.valX s 1 1, M.valX s 1 2, M.valX s 1 3), true)
    else if s.length = 6 then ((M.valX s 2 0, M.valX s 2 1, M.valX s 2 2, 255), true)
    else if s.length = 8 then ((M.valX s 2 0, M.valX s 2 1, M.valX s 2 2, M.valX s 2 3), true)
    else ((0, 0, 0, 0), false)
  else ((0, 0, 0, 0), false)
theorem isX_far (c : UInt8) (h : ¬ M.hexN c < 16) : ¬ (48 ≤ c.toNat ∧ c.toNat ≤ 57) ∧ ¬ (97 ≤ c.toNat ∧ c.toNat ≤ 102) ∧ ¬ (65 ≤ c.toNat ∧ c.toNat ≤ 70) := by
  unfold M.hexN at h
  refine ⟨fun h1 => ?_, fun h1 => ?_, fun h1 => ?_⟩
  · rw [if_pos h1] at h; omega
  · rw [if_neg (by omega), if_pos h1] at h; omega
  · rw [if_neg (by omega), if_neg (by omega), if_pos h1] at h; omega
set_option maxRecDepth 100000 in
set_option maxHeartbeats 1000000 in
theorem ishexC_any (c : UInt8) (X : Int) (b : Bool) (w : World) (hX : (c.toNat : Int) = X) (h : M.isXB c = b) : Calls Tryd.prog 30 #[.int .i64 X] w fun e w' => e = .returned (.bool b) ∧ w = w' := by
  unfold M.isXB at h
  cases b with
  | true =>
    have hs := hexN_ways c (by simpa using h)
    have hs2 : (48 ≤ X ∧ X ≤ 57) ∨ (65 ≤ X ∧ X ≤ 70) ∨ (97 ≤ X ∧ X ≤ 102) := by omega
    clear hs h hX
    rcases hs2 with ⟨h1, h2⟩ | ⟨h1, h2⟩ | ⟨h1, h2⟩
    all_goals
      go_enter Tryd.func30, Tryd.ntmps30
      go_wp2
      go_ret
      exact ⟨by first | rfl | (simp; done) | (simp; omega), rfl⟩
  | false =>
    have hs := isX_far c (by simpa using h)
    have hs2 : (X ≤ 47) ∨ (58 ≤ X ∧ X ≤ 64) ∨ (71 ≤ X ∧ X ≤ 96) ∨ (103 ≤ X) := by omega
    clear hs h hX
    rcases hs2 with h1 | ⟨h1, h2⟩ | ⟨h1, h2⟩ | h1
    all_goals
      go_enter Tryd.func30, Tryd.ntmps30
      go_wp2
      go_ret
      exact ⟨by first | rfl | (simp; done) | (simp; omega), rfl⟩
set_option maxRecDepth 100000 in
set_option maxHeartbeats 2000000 in
theorem pu16_any (l : List UInt8) (S : ByteArray) (bw mx : Int) (w : World) (hS : bytes l = S) (h : ∀ c ∈ l, M.hexN c < 16) (h0 : l ≠ []) (hb : (bw = 8 ∧ mx = 255 ∧ l.length ≤ 2) ∨ (bw = 16 ∧ mx = 65535 ∧ l.length ≤ 4)) :
    Calls Tryd.prog 31 #[.string S, .int .i64 16, .int .i64 bw] w fun e w' => e = .returned (.tuple #[.int .u64 (M.hexNum l : Int), .nilIface]) ∧ Below w.heap.size w w' := by
  have P := Lib.hid (fun w => pu16_in l bw mx w h h0 hb)
  rw [hS] at P
  clear h h0 hb hS
  go_enter Tryd.func31, Tryd.ntmps31
  go_wp2_with fail
  refine (P.out _).mono ?_
  rintro e w1 ⟨rfl, hb1⟩
  have HB := Lib.hid hb1
  clear hb1
  go_wp2
  go_ret2
  exact ⟨rfl, HB.out⟩
/-- What stands in the array when so many numbers were read. -/
def cAt (V : Nat → Int) (j : Nat) : M.C4 := (if 0 < j then V 0 else 0, if 1 < j then V 1 else 0, if 2 < j then V 2 else 0, if 3 < j then V 3 else 255)
theorem cAt_set (V : Nat → Int) (j : Nat) (hj : j < 4) : (arrC (cAt V j)).setIfInBounds j (.int .i64 (V j)) = arrC (cAt V (j + 1)) := by
  have : j = 0 ∨ j = 1 ∨ j = 2 ∨ j = 3 := by omega
  rcases this with rfl | rfl | rfl | rfl <;> rfl
theorem cAt_get (V : Nat → Int) (j : Nat) (hj : j < 4) : ∃ x, (arrC (cAt V j))[j]? = some (.int .i64 x) := by
  have : j = 0 ∨ j = 1 ∨ j = 2 ∨ j = 3 := by omega
  rcases this with rfl | rfl | rfl | rfl <;> exact ⟨_, rfl⟩
theorem AB.put {w : World} {b : Nat} {c d : M.C4} (h : AB w b c) (j : Nat) (u : Value) (hd : (arrC c).setIfInBounds j u = arrC d) : AB (w.setCell ⟨b, j, none⟩ u) b d := by
  unfold AB; rw [setCell_eq_setRow w b j (arrC c) _ _ u h, hd]; exact setRow_heap w b (arrC c) _ _ _ h
theorem AB.other {w : World} {b : Nat} {c : M.C4} (h : AB w b c) {g : Nat} (hne : b ≠ g) (j : Nat) (u : Value) : AB (w.setCell ⟨g, j, none⟩ u) b c := by
  unfold AB; rw [Below.heap_setCell _ _ _ _ (fun e => hne e)]; exact h
theorem two_of (s : List UInt8) (a b : Nat) (h : a + 1 < s.length) : (bytes s).extract a (a + 2) = bytes [s.getD a 0, s.getD (a + 1) 0] := by
  apply ByteArray.ext
  simp only [bytes, ByteArray.data_extract]
  apply Array.ext'
  rw [Array.toList_extract]
  simp only [List.extract]
  rw [show a + 2 - a = 2 by omega, List.drop_eq_getElem_cons (by omega), List.drop_eq_getElem_cons (by omega), List.getD_eq_getElem?_getD, List.getElem?_eq_getElem (by omega), List.getD_eq_getElem?_getD, List.getElem?_eq_getElem h]
  rfl
theorem one_of (s : List UInt8) (a : Nat) (h : a < s.length) : (bytes s).extract a (a + 1) = bytes [s.getD a 0] := by
  apply ByteArray.ext
  simp only [bytes, ByteArray.data_extract]
  apply Array.ext'
  rw [Array.toList_extract]
  simp only [List.extract]
  rw [show a + 1 - a = 1 by omega, List.drop_eq_getElem_cons h, List.getD_eq_getElem?_getD, List.getElem?_eq_getElem h]
  rfl
end Go.Proofs.YtilndlifmpbfnaaDoor
