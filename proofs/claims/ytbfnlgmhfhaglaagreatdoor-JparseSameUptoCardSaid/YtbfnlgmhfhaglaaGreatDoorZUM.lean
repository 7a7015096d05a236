/- jparse.Units, plain: element by element. Nothing of the program is imported. -/
import Derived.Test.YtbfnlgmhfhaglaaGreatDoorJgA
namespace Go.Proofs.YtbfnlgmhfhaglaaGreatDoor.M
open Go.Lib
set_option linter.unusedVariables false
set_option linter.unusedSimpArgs false

set_option maxRecDepth 100000 in
set_option maxHeartbeats 4000000 in
/-- A mark behind a text is no part of a code point. -/
theorem dec_quote (s : List UInt8) (h0 : 0 < s.length) : dec (s ++ [34]) = dec s := by
  unfold dec
  obtain ⟨n, hn⟩ : ∃ n, s.length = n := ⟨_, rfl⟩
  have hq : byte (s ++ [34]) n = 34 := by unfold byte; rw [← hn]; simp [List.getD]
  have hs : ∀ i, i < n → byte (s ++ [34]) i = byte s i := fun i hi => byte_append s _ i (by omega)
  rw [List.length_append, hn, hs 0 (by omega)]
  simp only [List.length_cons, List.length_nil, Nat.zero_add]
  generalize byte s 0 = b0
  by_cases n1 : n = 1
  · subst n1
    rw [hq]
    unfold decodeN
    repeat' split
    all_goals first | (exfalso; omega) | rfl
  · rw [hs 1 (by omega)]
    by_cases n2 : n = 2
    · subst n2
      rw [hq]
      unfold decodeN
      repeat' split
      all_goals first | (exfalso; omega) | rfl
    · rw [hs 2 (by omega)]
      by_cases n3 : n = 3
      · subst n3
        rw [hq]
        unfold decodeN
        repeat' split
        all_goals first | (exfalso; omega) | rfl
      · rw [hs 3 (by omega)]
        unfold decodeN
        repeat' split
        all_goals first | (exfalso; omega) | rfl
theorem nx_quote (s : List UInt8) (h0 : 0 < s.length) : nx (s ++ [34]) = nx s := by unfold nx; rw [dec_quote s h0]
/-- One element: what it stands for, and how many bytes it has: 0 where none begins. -/
def elS (s : List UInt8) : Nat × Nat :=
  if s.getD 0 0 = 92 then
    (if s.length = 1 then (0, 0)
     else if s.getD 1 0 = 117 then (if s.length < 6 then (0, 0) else if hex4ok (s.drop 2) then (hex4 (s.drop 2), 6) else (0, 0))
     else if s.getD 1 0 ∈ escL then (escV (s.getD 1 0), 2) else (0, 0))
  else if (nx s).2.2 = true ∧ 32 ≤ (dec s).1 ∧ (dec s).1 ≠ 34 then dec s else (0, 0)
def Good (t : List UInt8) : Prop := jtS t = some t.length ∧ (validAll t).2 = true
theorem elS_le (s : List UInt8) (h0 : 0 < s.length) : (elS s).2 ≤ s.length := by
  unfold elS
  have := dec_le s h0
  repeat' split
  all_goals first | exact this | (simp only; omega) | exact Nat.zero_le _
theorem hex4_le (t : List UInt8) : hex4 t ≤ 65535 := by
  have h := fun k => hexV_lt (t.getD k 0)
  have h0 := h 0
  have h1 := h 1
  have h2 := h 2
  have h3 := h 3
  unfold hex4 hexN
  omega
theorem escV_le (d : UInt8) : escV d ≤ 255 := by
  have := d.toNat_lt
  unfold escV
  repeat' split
  all_goals omega
theorem elS_val (s : List UInt8) : (elS s).1 ≤ 1114111 := by
  unfold elS
  have h1 := hex4_le (s.drop 2)
  have h2 := escV_le (s.getD 1 0)
  have h3 := dec_rune s
  repeat' split
  all_goals first | (simp only; omega) | exact h3
end Go.Proofs.YtbfnlgmhfhaglaaGreatDoor.M
