/- What the laws of smap share: the example of the document, and a map. -/
import Derived.Test.YtbmnmnfdlajgnaaDoorSWrite3
namespace Go.Proofs.YtbmnmnfdlajgnaaDoor
open Go.RowKit
set_option linter.unusedVariables false
set_option linter.unusedSimpArgs false

theorem maps_nil : M.maps [] = some [] := rfl
theorem maps_ex : M.maps [(1, 2, 0, 3)] = some [59, 69, 65, 65, 71] := by decide +kernel
theorem wtx_pos (T m : ByteArray) : 0 < (wtx T m).size := by
  unfold wtx
  simp only [ByteArray.size_append]
  have : (ByteArray.mk #[34, 125]).size = 2 := rfl
  omega
theorem wtx_len (l m : List UInt8) (hl : l.length ≤ 100000) (hm : m.length ≤ 1000000) : (wtx (bytes (M.spell (unitsL l))) (bytes m)).size ≤ 9000000 := by
  unfold wtx
  simp only [ByteArray.size_append]
  rw [bytes_size, bytes_size]
  have h1 := M.body_len (unitsL l)
  have h2 := unitsL_len l.length l (Nat.le_refl _)
  have q1 : (ByteArray.mk #[34, 125]).size = 2 := rfl
  have q2 : (ByteArray.mk #[123, 34, 118, 101, 114, 115, 105, 111, 110, 34, 58, 51, 44, 34, 115, 111, 117, 114, 99, 101, 115, 34, 58, 91]).size = 24 := rfl
  have q3 : (ByteArray.mk #[93, 44, 34, 110, 97, 109, 101, 115, 34, 58, 91, 93, 44, 34, 109, 97, 112, 112, 105, 110, 103, 115, 34, 58, 34]).size = 25 := rfl
  unfold M.spell
  simp only [List.length_cons, List.length_append, List.length_nil]
  omega
set_option maxRecDepth 100000 in
set_option maxHeartbeats 2000000 in
theorem salive_any (w : World) (hT : Tabs w) : Calls Tryd.prog 6 #[] w fun e w' => e = .returned (.bool true) ∧ Below w.heap.size w w' := by
  have S1 := Lib.hid (fun W => smaps_any (.slice none 0 0) [] _ W (ss_nil W) (by simp) maps_nil)
  have S2 := Lib.hid (fun v W hv => smaps_any v [(1, 2, 0, 3)] _ W hv (by simp) maps_ex)
  have S3 := Lib.hid (fun W hT => swrite_any (.mk #[97]) [97] (.slice none 0 0) [] _ W hT rfl (by simp) (ss_nil W) (by simp) maps_nil)
  unfold MpP mres at S1 S2
  simp only [Option.isSome_some, Option.getD_some] at S1 S2
  dsimp only [wres] at S3
  have hp := wtx_pos (bytes (M.spell (unitsL [97]))) (bytes [])
  have hq := wtx_len [97] [] (by simp) (by simp)
  obtain ⟨X, hX⟩ : ∃ X, wtx (bytes (M.spell (unitsL [97]))) (bytes []) = X := ⟨_, rfl⟩
  rw [hX] at S3 hp hq
  have hE : bytes [59, 69, 65, 65, 71] = ByteArray.mk #[59, 69, 65, 65, 71] := rfl
  have hE0 : bytes [] = ByteArray.mk #[] := rfl
  rw [hE] at S2
  rw [hE0] at S1
  have HT := Lib.hid hT
  clear hT hX hE hE0
  go_enter Tryd.func6, Tryd.ntmps6
  go_wp2_with fail
  refine (S1.out w).mono ?_
  rintro e w1 ⟨rfl, hb1⟩
  have s1 := hb1.size
  have ho := one_s4 w1 (1, 2, 0, 3)
  have hb2 := hb1.alloc s1 (.cells #[.int .i64 1, .int .i64 2, .int .i64 0, .int .i64 3] 28)
  have s2 := hb2.size
  have HB2 := Lib.hid hb2
  have HO := Lib.hid ho
  clear hb1 hb2 ho
  go_wp2_with fail
  refine (S2.out _ _ HO.out).mono ?_
  rintro e w3 ⟨rfl, hb3⟩
  have hb4 := HB2.out.trans (hb3.mono s2)
  have s4 := hb4.size
  have HB4 := Lib.hid hb4
  clear hb3 hb4
  go_wp2_with fail
  refine (S3.out _ (HT.out.keep HB4.out)).mono ?_
  rintro e w5 ⟨rfl, hb5⟩
  have hb6 := HB4.out.trans (hb5.mono s4)
  clear hb5
  go_wp2
  go_ret
  exact ⟨rfl, hb6⟩
end Go.Proofs.YtbmnmnfdlajgnaaDoor
