/- Documents: how wide a text is; chapter 10's alive. -/
import Derived.Test.YtghkhammobodgaaTDoc5
import Derived.Test.YtghkhammobodgaaShelf
import Derived.Lib.RuneCount
namespace Go.Proofs.Ytghkhammobodgaa
open Go.RowKit
set_option linter.unusedVariables false
set_option linter.unusedSimpArgs false

theorem count_any (S : ByteArray) (w : World) (hs : S.size < 9223372036854775807) :
    Calls Try.prog 37 #[.string S] w fun e w' => e = .returned (.int .i64 (Lib.runeCount S : Nat)) ∧ Below w.heap.size w w' :=
  (Try.utf8_RuneCountInString S w hs).mono fun e w' ⟨h1, pos, h2⟩ => ⟨h1, by rw [h2]; exact (Below.refl _ _).alloc (Nat.le_refl _) _⟩
set_option maxRecDepth 100000 in
set_option maxHeartbeats 1000000 in
theorem wide_any (S : ByteArray) (n : Nat) (w : World) (hs : S.size < 9223372036854775807) (hn : Lib.runeCount S = n) :
    Calls Try.prog 18 #[.string S] w fun e w' => e = .returned (.int .i64 (n : Int)) ∧ Below w.heap.size w w' := by
  have C := Lib.hid (count_any S w hs)
  rw [hn] at C
  clear hn hs
  go_enter Try.func18, Try.ntmps18
  go_wp2_with fail
  refine (C.out).mono ?_
  rintro e w1 ⟨rfl, hb⟩
  go_wp2
  go_ret
  exact ⟨rfl, hb⟩
def three : List Lf := [(1, 3, [97]), (2, 0, []), (1, -1, [98])]
theorem three_ds (w : World) : Ds (w.alloc (.cells #[.int .i64 1, .int .i64 3, .string ⟨#[97]⟩, .slice none 0 0, .int .i64 2, .int .i64 0, .string ⟨#[]⟩, .slice none 0 0, .int .i64 1, .int .i64 (-1), .string ⟨#[98]⟩, .slice none 0 0] 24)) (.slice (some ⟨w.heap.size, 0, none⟩) 3 3) three :=
  vs_cells 4 24 w (three.map lfv) _ 3 rfl (lfv_four _) rfl (by decide)
theorem three_ok : ∀ x ∈ three, LfOk x := by
  intro x hx
  simp only [three, List.mem_cons, List.mem_nil_iff, or_false] at hx
  rcases hx with rfl | rfl | rfl
  · exact .inl rfl
  · exact .inr ⟨rfl, rfl, rfl⟩
  · exact .inl rfl
theorem three_s : ∀ x ∈ three, x.2.2.length ≤ 100 := by
  intro x hx
  simp only [three, List.mem_cons, List.mem_nil_iff, or_false] at hx
  rcases hx with rfl | rfl | rfl <;> decide
set_option maxRecDepth 100000 in
set_option maxHeartbeats 2000000 in
theorem alive_any (w : World) :
    Calls Try.prog 12 #[] w fun e w' => e = .returned (.bool true) ∧ Below w.heap.size w w' := by
  have T1 := Lib.hid (fun W => text_any ⟨#[97]⟩ 3 W)
  have T2 := Lib.hid (fun W => text_any ⟨#[98]⟩ (-1) W)
  have CT := Lib.hid (fun v W hv => cat_any 6 v three W hv (by decide) (by decide))
  have FL : Hid (∀ v W, Ds W v three → Calls Try.prog 14 #[.agg (dv 6 0 ⟨#[]⟩ v)] W fun e w' => e = .returned (.tuple #[.string ⟨#[97, 32, 98]⟩, .bool true]) ∧ Below W.heap.size W w') := Lib.hid (fun v W hv => flat_any v three [97, 32, 98] W hv (by decide) three_ok three_s (by decide))
  have WD := Lib.hid (fun W => wide_any ⟨#[]⟩ 0 W (by decide) (by decide))
  have RL := Lib.hid (fun W => righttop_leaf 1 3 ⟨#[97]⟩ W (.inl rfl))
  have TH := Lib.hid three_ds
  unfold dv at T1 T2 CT FL RL
  go_enter Try.func12, Try.ntmps12
  go_wp2_with fail
  refine (T1.out _).mono ?_
  rintro e w1 ⟨rfl, hb1⟩
  go_wp2_with fail
  refine (T2.out _).mono ?_
  rintro e w2 ⟨rfl, hb2⟩
  have c2 := hb1.trans (hb2.mono hb1.size)
  have d3 := Lib.hid (c2.alloc c2.size (.cells #[.int .i64 1, .int .i64 3, .string ⟨#[97]⟩, .slice none 0 0, .int .i64 2, .int .i64 0, .string ⟨#[]⟩, .slice none 0 0, .int .i64 1, .int .i64 (-1), .string ⟨#[98]⟩, .slice none 0 0] 24))
  clear hb1 hb2 c2
  go_wp2_with fail
  refine (CT.out _ _ (TH.out _)).mono ?_
  rintro e w3 ⟨v3, rfl, hv3, hb3⟩
  have c3 := d3.out.trans (hb3.mono d3.out.size)
  clear hb3
  go_wp2_with fail
  refine (FL.out _ _ hv3).mono ?_
  rintro e w4 ⟨rfl, hb4⟩
  have c4 := c3.trans (hb4.mono c3.size)
  clear hb4 c3 hv3
  go_wp2_with fail
  refine (WD.out _).mono ?_
  rintro e w5 ⟨rfl, hb5⟩
  have c5 := c4.trans (hb5.mono c4.size)
  clear hb5 c4
  go_wp2_with fail
  refine (T1.out _).mono ?_
  rintro e w6 ⟨rfl, hb6⟩
  have c6 := c5.trans (hb6.mono c5.size)
  clear hb6 c5
  go_wp2_with fail
  refine (RL.out _).mono ?_
  rintro e w7 ⟨rfl, hb7⟩
  have c7 := c6.trans (hb7.mono c6.size)
  go_wp2
  go_ret
  exact ⟨rfl, c7⟩
end Go.Proofs.Ytghkhammobodgaa
