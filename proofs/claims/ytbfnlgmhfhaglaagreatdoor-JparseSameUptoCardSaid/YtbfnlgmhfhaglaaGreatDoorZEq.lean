/- slices.Equal of ints. -/
import Derived.Test.YtbfnlgmhfhaglaaGreatDoorJgB
import Derived.Deep.QuietTactic
import Derived.BigQuiet
import Derived.Outline
namespace Go.Proofs.YtbfnlgmhfhaglaaGreatDoor
open Go.RowKit
set_option linter.unusedVariables false
set_option linter.unusedSimpArgs false

set_option maxRecDepth 100000 in
set_option maxHeartbeats 1000000 in
theorem seq_any (v u : Value) (l k : List Int) (r : Bool) (w : World) (hv : Is w v l) (hu : Is w u k) (hl : l.length ≤ 4294967296) (hk : k.length ≤ 4294967296) (hr : decide (l = k) = r) :
    Calls Tryz.prog 23 #[v, u] w fun e w' => e = .returned (.bool r) ∧ Below w.heap.size w w' := by
  obtain ⟨a, cap, rfl, h1, h2, h3⟩ := hv
  obtain ⟨a', cap', rfl, g1, g2, g3⟩ := hu
  have H3 := Lib.hid h3
  have G3 := Lib.hid g3
  have Hr := Lib.hid hr
  by_cases hlk : l.length = k.length
  · obtain ⟨n, hn⟩ : ∃ n, l.length = n := ⟨_, rfl⟩
    rw [hn] at hlk h1 hl ⊢
    rw [← hlk] at g1 hk ⊢
    have Hn := Lib.hid hn
    have Hk := Lib.hid hlk
    clear h3 g3 hr hn hlk
    go_enter Tryz.func23, Tryz.ntmps23
    go_wp2
    go_loopw [5, 13] (fun _ iv wr => ∃ m q : Nat, iv = .int .i64 m ∧ m ≤ n ∧ wr = w.drewN q ∧ l.take m = k.take m) (fun _ iv _ => n - (intOf iv).toNat)
    case atStart => exact ⟨0, 0, rfl, by omega, rfl, by simp⟩
    case round =>
      obtain ⟨m, q, rfl, hm, rfl, ht⟩ := hrel
      have Ht := Lib.hid ht
      clear ht
      by_cases hlt : m < n
      · obtain ⟨b, off, rfl, hb, hc⟩ := H3.out (by rw [Hn.out]; omega)
        obtain ⟨b', off', rfl, hb', hc'⟩ := G3.out (by rw [← Hk.out]; omega)
        have c1 := hc m (by rw [Hn.out]; exact hlt)
        have c2 := hc' m (by rw [← Hk.out]; exact hlt)
        obtain ⟨x, hx⟩ : ∃ x, l[m]'(by rw [Hn.out]; exact hlt) = x := ⟨_, rfl⟩
        obtain ⟨y, hy⟩ : ∃ x, k[m]'(by rw [← Hk.out]; exact hlt) = x := ⟨_, rfl⟩
        rw [hx] at c1
        rw [hy] at c2
        have Hx := Lib.hid hx
        have Hy := Lib.hid hy
        have i1 : (0 : Int) ≤ m := by omega
        have i2 : (m : Int) < n := by omega
        clear hc hc' hx hy
        by_cases hxy : x = y
        · have t1 : (x != y) = false := by simp [hxy]
          have t2 : (x == y) = true := by simp [hxy]
          have hnext : l.take (m + 1) = k.take (m + 1) := by
            rw [List.take_succ_eq_append_getElem (by rw [Hn.out]; exact hlt), List.take_succ_eq_append_getElem (by rw [← Hk.out]; exact hlt), Ht.out, Hx.out, Hy.out, hxy]
          have Hnext := Lib.hid hnext
          clear hnext hxy
          go_wp2
          go_quiet (fail)
          go_wp2
          go_roundw
          case rel => exact ⟨m + 1, _, by go_num, by omega, rfl, Hnext.out⟩
          case measure => simp [intOf]; omega
        · have t1 : (x != y) = true := by simpa using hxy
          have t2 : (x == y) = false := by simpa using hxy
          have hr2 : r = false := by
            rw [← Hr.out]
            rw [decide_eq_false_iff_not]
            intro hh
            apply hxy
            rw [← Hx.out, ← Hy.out]
            subst hh
            rfl
          subst hr2
          clear hxy
          go_wp2
          go_quiet (fail)
          go_wp2
          go_ret
          exact ⟨rfl, ⟨rfl, rfl, rfl, Nat.le_refl _, fun _ _ => rfl⟩⟩
      · obtain rfl : m = n := by omega
        have hr2 := Hr.out
        have ht := Ht.out
        rw [List.take_of_length_le (by rw [Hn.out]; exact Nat.le_refl _), List.take_of_length_le (by rw [← Hk.out]; exact Nat.le_refl _)] at ht
        have : r = true := by rw [← hr2]; simpa using ht
        subst this
        clear hlt hr2 ht
        go_wp2
        go_ret
        exact ⟨rfl, ⟨rfl, rfl, rfl, Nat.le_refl _, fun _ _ => rfl⟩⟩
  · have : r = false := by
      rw [← hr, decide_eq_false_iff_not]
      intro hh; exact hlk (by rw [hh])
    subst this
    have t1 : ((l.length : Int) != k.length) = true := by simp; omega
    have t2 : ((l.length : Int) == k.length) = false := by simp; omega
    clear h3 g3 hr
    go_enter Tryz.func23, Tryz.ntmps23
    go_wp2
    go_ret
    exact ⟨rfl, Below.refl _ _⟩
end Go.Proofs.YtbfnlgmhfhaglaaGreatDoor
