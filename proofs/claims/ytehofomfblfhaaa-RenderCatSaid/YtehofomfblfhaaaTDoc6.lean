/- Documents: how wide a text is; chapter 10's alive. -/
import Derived.Test.YtehofomfblfhaaaTDoc5
import Derived.Test.YtehofomfblfhaaaShelf
import Derived.Lib.RuneCount
namespace Go.Proofs.Ytehofomfblfhaaa
open Go.RowKit
set_option linter.unusedVariables false
set_option linter.unusedSimpArgs false

theorem count_any (S : ByteArray) (w : World) (hs : S.size < 9223372036854775807) :
    Calls Try.prog 53 #[.string S] w fun e w' => e = .returned (.int .i64 (Lib.runeCount S : Nat)) ∧ Below w.heap.size w w' :=
  (Try.utf8_RuneCountInString S w hs).mono fun e w' ⟨h1, pos, h2⟩ => ⟨h1, by rw [h2]; exact (Below.refl _ _).alloc (Nat.le_refl _) _⟩
set_option maxRecDepth 100000 in
set_option maxHeartbeats 1000000 in
theorem wide_any (S : ByteArray) (n : Nat) (w : World) (hs : S.size < 9223372036854775807) (hn : Lib.runeCount S = n) :
    Calls Try.prog 47 #[.string S] w fun e w' => e = .returned (.int .i64 (n : Int)) ∧ Below w.heap.size w w' := by
  have C := Lib.hid (count_any S w hs)
  rw [hn] at C
  clear hn hs
  go_enter Try.func47, Try.ntmps47
  go_wp2_with fail
  refine (C.out).mono ?_
  rintro e w1 ⟨rfl, hb⟩
  go_wp2
  go_ret
  exact ⟨rfl, hb⟩
def three : List Lf := [(1, 3, [97]), (2, 0, []), (1, -1, [98])]
theorem three_ds (w : World) : Ds (w.alloc (.cells #[.int .i64 1, .int .i64 3, .string ⟨#[97]⟩, .slice none 0 0, .int .i64 2, .int .i64 0, .string ⟨#[]⟩, .slice none 0 0, .int .i64 1, .int .i64 (-1), .string ⟨#[98]⟩, .slice none 0 0] 24)) (.slice (some ⟨w.heap.size, 0, none⟩) 3 3) three :=
  vs_cells 4 24 w (three.map lfv) _ 3 rfl (lfv_four _) rfl (by decide)
theorem three_ok : ∀ x ∈ three, LfOk x := by
  intro x hx
  simp only [three, List.mem_cons, List.mem_nil_iff, or_false] at hx
  rcases hx with rfl | rfl | rfl
  · exact .inl rfl
  · exact .inr ⟨rfl, rfl, rfl⟩
  · exact .inl rfl
theorem three_s : ∀ x ∈ three, x.2.2.length ≤ 100 := by
  intro x hx
  simp only [three, List.mem_cons, List.mem_nil_iff, or_false] at hx
  rcases hx with rfl | rfl | rfl <;> decide
end Go.Proofs.Ytehofomfblfhaaa
