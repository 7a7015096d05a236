/- What the laws of texts of JSON share: the example of the document; units one behind the other. -/
import Derived.Test.YtmhjafpoaamkeaaJSpell
namespace Go.Proofs.Ytmhjafpoaamkeaa
open Go.RowKit
set_option linter.unusedVariables false

theorem is_cells_new (w : World) (l : List Int) (cs : List Value) (n : Nat) (h : icells l = cs) (hn : cs.length = n) (hl : l.length ≤ 1048576) :
    Is (w.alloc (.cells cs.toArray 3)) (.slice (some ⟨w.heap.size, 0, none⟩) n n) l := by
  have := is_new w l hl
  have e : l.length = n := by rw [← hn, ← h]; simp [icells]
  rw [h] at this
  simpa [e] using this

theorem is_two (w : World) (x y : Int) : Is (w.alloc (.cells #[.int .i64 x, .int .i64 y] 3)) (.slice (some ⟨w.heap.size, 0, none⟩) 2 2) [x, y] := is_cells_new w [x, y] [.int .i64 x, .int .i64 y] 2 rfl rfl (by simp)
theorem is_one (w : World) (x : Int) : Is (w.alloc (.cells #[.int .i64 x] 3)) (.slice (some ⟨w.heap.size, 0, none⟩) 1 1) [x] := is_cells_new w [x] [.int .i64 x] 1 rfl rfl (by simp)
set_option maxHeartbeats 400000 in
theorem jalive_any (w : World) : Calls Try.prog 8 #[] w fun e w' => e = .returned (.bool true) ∧ Below w.heap.size w w' := by
  have s1 := fun W => jspell_all (.slice none 0 0) [] ⟨#[34, 34]⟩ W (is_nil W) (by decide) (by decide +kernel)
  have s2 := fun W : World => jspell_all _ [34, 97] ⟨#[34, 92, 34, 97, 34]⟩ _ (is_two W 34 97) (by decide) (by decide +kernel)
  have s3 := fun W : World => jright_any _ [65535] true _ (is_one W 65535) (by decide) (by decide +kernel)
  have s4 := fun W : World => jright_any _ [65536] false _ (is_one W 65536) (by decide) (by decide +kernel)
  have al : ∀ (W : World) (o : Obj), Below w.heap.size w W → Below w.heap.size w (W.alloc o) := fun W o h => h.alloc h.size o
  have S1 := Lib.hid s1
  have S2 := Lib.hid s2
  have S3 := Lib.hid s3
  have S4 := Lib.hid s4
  have Al := Lib.hid al
  clear s1 s2 s3 s4 al
  go_enter Try.func8, Try.ntmps8
  go_wp2_with fail
  refine (S1.out _).mono ?_
  rintro e w1 ⟨rfl, hb1⟩
  go_wp2_with fail
  refine (S2.out _).mono ?_
  rintro e w2 ⟨rfl, hb2⟩
  have b2 := (Al.out _ (.cells #[.int .i64 34, .int .i64 97] 3) hb1).trans (hb2.mono (Al.out _ _ hb1).size)
  clear hb1 hb2
  go_wp2_with fail
  refine (S3.out _).mono ?_
  rintro e w3 ⟨rfl, hw3⟩
  have b3 := Al.out _ (.cells #[.int .i64 65535] 3) b2
  rw [hw3] at b3
  clear hw3 b2
  go_wp2_with fail
  refine (S4.out _).mono ?_
  rintro e w4 ⟨rfl, hw4⟩
  have b4 := Al.out _ (.cells #[.int .i64 65536] 3) b3
  rw [hw4] at b4
  clear hw4 b3
  go_wp2
  go_ret
  exact ⟨rfl, b4⟩

set_option maxHeartbeats 400000 in
theorem runits_any (v : Value) (l : List Int) (r : Bool) (w : World) (hv : Is w v l) (hl : l.length ≤ 4294967296) (hr : M.rightU l = r) :
    Calls Try.prog 10 #[v] w fun e w' => e = .returned (.bool r) ∧ w = w' := by
  obtain ⟨a, cap, rfl, h1, h2, h3⟩ := hv
  have Hr := Lib.hid hr
  have H3 := Lib.hid h3
  clear hr h3
  go_enter Try.func10, Try.ntmps10
  go_wp2
  go_loop [3] (fun iv => ∃ k : Nat, iv = .int .i64 k ∧ k ≤ l.length ∧ M.rightU (l.take k) = true) (fun iv => l.length - (intOf iv).toNat)
  case atStart => exact ⟨0, rfl, by omega, rfl⟩
  case round =>
    obtain ⟨k, rfl, hk, ht⟩ := hrel
    have Ht := Lib.hid ht
    clear ht
    by_cases hlt : k < l.length
    · obtain ⟨b, off, rfl, hb, hc⟩ := H3.out (by omega)
      have hc0 := hc k hlt
      have hbad := rightU_bad l k hlt
      have hgood := rightU_take l k hlt Ht.out
      rw [Hr.out] at hbad
      obtain ⟨x, hx⟩ : ∃ x, l[k] = x := ⟨_, rfl⟩
      rw [hx] at hc0 hbad hgood
      have i1 : (0 : Int) ≤ k := by omega
      have i2 : (k : Int) < l.length := by omega
      clear hc hx
      by_cases hx : x < 0 ∨ 65535 < x
      · have hr2 := hbad hx
        subst hr2
        clear hbad hgood
        by_cases hx0 : x < 0
        · go_wp2
          go_ret
          exact ⟨rfl, rfl⟩
        · have hx1 : 65535 < x := by omega
          clear hx
          go_wp2
          go_ret
          exact ⟨rfl, rfl⟩
      · have hgo := hgood (by omega)
        have Hgo := Lib.hid hgo
        have x0 : 0 ≤ x := by omega
        have x1 : x ≤ 65535 := by omega
        clear hbad hgood hgo hx
        go_wp2
        go_round
        case rel => exact ⟨k + 1, by go_num, by omega, Hgo.out⟩
        case measure => simp [intOf]; omega
    · obtain rfl : k = l.length := by omega
      have hr2 := Hr.out
      rw [List.take_of_length_le (Nat.le_refl _)] at Ht
      rw [Ht.out] at hr2
      subst hr2
      clear hlt
      go_wp2
      go_ret
      exact ⟨rfl, rfl⟩
end Go.Proofs.Ytmhjafpoaamkeaa
