/- Blocks of ints, and the reference's RightUnits. -/
import Derived.Test.YtejpgopbgepaoaaDoorJSpell
namespace Go.Proofs.YtejpgopbgepaoaaDoor
open Go.RowKit
set_option linter.unusedVariables false

theorem is_cells_new (w : World) (l : List Int) (cs : List Value) (n : Nat) (h : icells l = cs) (hn : cs.length = n) (hl : l.length ≤ 1048576) :
    Is (w.alloc (.cells cs.toArray 3)) (.slice (some ⟨w.heap.size, 0, none⟩) n n) l := by
  have := is_new w l hl
  have e : l.length = n := by rw [← hn, ← h]; simp [icells]
  rw [h] at this
  simpa [e] using this

theorem is_two (w : World) (x y : Int) : Is (w.alloc (.cells #[.int .i64 x, .int .i64 y] 3)) (.slice (some ⟨w.heap.size, 0, none⟩) 2 2) [x, y] := is_cells_new w [x, y] [.int .i64 x, .int .i64 y] 2 rfl rfl (by simp)
theorem is_one (w : World) (x : Int) : Is (w.alloc (.cells #[.int .i64 x] 3)) (.slice (some ⟨w.heap.size, 0, none⟩) 1 1) [x] := is_cells_new w [x] [.int .i64 x] 1 rfl rfl (by simp)
set_option maxHeartbeats 400000 in
theorem runits_any (v : Value) (l : List Int) (r : Bool) (w : World) (hv : Is w v l) (hl : l.length ≤ 4294967296) (hr : M.rightU l = r) :
    Calls Tryd.prog 37 #[v] w fun e w' => e = .returned (.bool r) ∧ w = w' := by
  obtain ⟨a, cap, rfl, h1, h2, h3⟩ := hv
  have Hr := Lib.hid hr
  have H3 := Lib.hid h3
  clear hr h3
  go_enter Tryd.func37, Tryd.ntmps37
  go_wp2
  go_loop [3] (fun iv => ∃ k : Nat, iv = .int .i64 k ∧ k ≤ l.length ∧ M.rightU (l.take k) = true) (fun iv => l.length - (intOf iv).toNat)
  case atStart => exact ⟨0, rfl, by omega, rfl⟩
  case round =>
    obtain ⟨k, rfl, hk, ht⟩ := hrel
    have Ht := Lib.hid ht
    clear ht
    by_cases hlt : k < l.length
    · obtain ⟨b, off, rfl, hb, hc⟩ := H3.out (by omega)
      have hc0 := hc k hlt
      have hbad := rightU_bad l k hlt
      have hgood := rightU_take l k hlt Ht.out
      rw [Hr.out] at hbad
      obtain ⟨x, hx⟩ : ∃ x, l[k] = x := ⟨_, rfl⟩
      rw [hx] at hc0 hbad hgood
      have i1 : (0 : Int) ≤ k := by omega
      have i2 : (k : Int) < l.length := by omega
      clear hc hx
      by_cases hx : x < 0 ∨ 65535 < x
      · have hr2 := hbad hx
        subst hr2
        clear hbad hgood
        by_cases hx0 : x < 0
        · go_wp2
          go_ret
          exact ⟨rfl, rfl⟩
        · have hx1 : 65535 < x := by omega
          clear hx
          go_wp2
          go_ret
          exact ⟨rfl, rfl⟩
      · have hgo := hgood (by omega)
        have Hgo := Lib.hid hgo
        have x0 : 0 ≤ x := by omega
        have x1 : x ≤ 65535 := by omega
        clear hbad hgood hgo hx
        go_wp2
        go_round
        case rel => exact ⟨k + 1, by go_num, by omega, Hgo.out⟩
        case measure => simp [intOf]; omega
    · obtain rfl : k = l.length := by omega
      have hr2 := Hr.out
      rw [List.take_of_length_le (Nat.le_refl _)] at Ht
      rw [Ht.out] at hr2
      subst hr2
      clear hlt
      go_wp2
      go_ret
      exact ⟨rfl, rfl⟩
end Go.Proofs.YtejpgopbgepaoaaDoor
