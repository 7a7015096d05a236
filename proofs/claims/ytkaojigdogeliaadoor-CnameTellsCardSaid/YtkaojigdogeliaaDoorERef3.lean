/- The reference of names: numbered. -/
import Derived.Test.YtkaojigdogeliaaDoorERef2
import Derived.Test.YtkaojigdogeliaaDoorEMath6
import Derived.Test.YtkaojigdogeliaaDoorEEsc0
import Derived.Outline
namespace Go.Proofs.YtkaojigdogeliaaDoor
open Go.RowKit
set_option linter.unusedVariables false
set_option linter.unusedSimpArgs false

theorem bytes_ne {l : List UInt8} (h : l ≠ []) : (bytes l).toList ≠ [] := by rw [ByteArray.toList_eq, bytes_toList]; exact h
set_option maxRecDepth 100000 in
set_option maxHeartbeats 2000000 in
theorem rnum_any (r : Nat) (w : World) (h1 : 1 ≤ r) (h2 : r < 128) :
    Calls Tryd.prog 53 #[.int .i64 (r : Int)] w fun e w' => e = .returned (.string (bytes (M.encZs (92 :: M.hexd r)))) ∧ w = w' := by
  have hle6 : (M.hx16 r).length ≤ 2 := M.hx16_len 2 r (by omega)
  have hlt16 := M.hx16_lt r r (Nat.le_refl _)
  have hhd := M.hexd_hx r h1 (by omega)
  have HHD := Lib.hid hhd
  have HLT := Lib.hid hlt16
  have H6 := Lib.hid hle6
  have hr0 : (0 : Int) < r := by omega
  clear hle6 hlt16 hhd
  go_enter Tryd.func53, Tryd.ntmps53
  go_wp2
  go_loop [3, 4] (fun sv xv => ∃ (x : Nat) (suf : List Nat), xv = .int .i64 (x : Int) ∧ x < 128 ∧ M.hx16 x ++ suf = M.hx16 r ∧ sv = .string (bytes (M.encZs (suf.map (M.dgG false))))) (fun _ xv => (intOf xv).toNat)
  case atStart => exact ⟨r, [], rfl, h2, by simp, rfl⟩
  case round =>
    obtain ⟨x, suf, rfl, hx, hsuf, rfl⟩ := hrel
    by_cases hx0 : 0 < x
    · obtain ⟨X, hX⟩ : ∃ X : Int, (x : Int) = X := ⟨_, rfl⟩
      have hx0' : 0 < X := by omega
      have hx1' : X < 128 := by omega
      have a15 := eand15 X (by omega) (by omega)
      have hsl : suf.length ≤ 2 := by
        have h6 := H6.out
        rw [← hsuf, List.length_append] at h6
        omega
      have hall : ∀ d ∈ suf, d < 16 := fun d hd => HLT.out d (by rw [← hsuf]; simp [hd])
      have hdl := digs_len false suf hall
      have hps : M.hx16 (x / 16) ++ ((x % 16) :: suf) = M.hx16 r := by rw [← hsuf, M.hx16_pos x hx0]; simp
      have Hps := Lib.hid hps
      obtain ⟨Sx, hSx⟩ : ∃ S, bytes (M.encZs (suf.map (M.dgG false))) = S := ⟨_, rfl⟩
      have hSs : Sx.size ≤ 6 := by rw [← hSx, bytes_size, hdl]; omega
      obtain ⟨Tx, hTx⟩ : ∃ T, (ByteArray.mk #[48, 49, 50, 51, 52, 53, 54, 55, 56, 57, 97, 98, 99, 100, 101, 102]).extract (X % 16).toNat (X % 16 + 1).toNat = T := ⟨_, rfl⟩
      have e1 : (X % 16).toNat = x % 16 := by omega
      have e2 : (X % 16 + 1).toNat = x % 16 + 1 := by omega
      have hTe : Tx = bytes (M.encZs [M.dgG false (x % 16)]) := by rw [← hTx, e1, e2]; exact cutF ⟨x % 16, by omega⟩
      have hTs : Tx.size ≤ 4 := by
        have := (M.encZs_len [M.dgG false (x % 16)]).2
        rw [hTe, bytes_size]; simpa using this
      have hsum : Tx ++ Sx = bytes (M.encZs (((x % 16) :: suf).map (M.dgG false))) := by
        rw [← hSx, hTe, cat2, List.map_cons, M.encZs_cons, M.encZs_cons, M.encZs_nil, List.append_nil]
      have Hsum := Lib.hid hsum
      rw [hSx, hX]
      have m0 : (0 : Int) ≤ X % 16 := by omega
      have m1 : X % 16 < 16 := by omega
      have HX := Lib.hid hX
      clear hX hsuf hall hdl hps hSx hTe hsum e1 e2 hx0 hsl
      go_wp2
      go_round
      case rel => exact ⟨x / 16, (x % 16) :: suf, congrArg (Value.int .i64) (by have := HX.out; omega), by omega, Hps.out, by rw [← Hsum.out]⟩
      case measure => have := HX.out; simp [intOf]; omega
    · obtain rfl : x = 0 := by omega
      rw [M.hx16_zero, List.nil_append] at hsuf
      subst hsuf
      have hfin : bytes [92] ++ bytes (M.encZs ((M.hx16 r).map (M.dgG false))) = bytes (M.encZs (92 :: M.hexd r)) := by
        rw [HHD.out, M.encZs_cons, M.enc_ascii 92 (by decide) (by decide), cat2]; rfl
      have hne : (bytes (M.encZs ((M.hx16 r).map (M.dgG false)))).toList ≠ [] := bytes_ne (by
        have := M.hx16_ne r h1
        intro hh
        have hl := (M.encZs_len ((M.hx16 r).map (M.dgG false))).1
        rw [hh] at hl
        simp at hl
        exact this hl)
      have hsz : (bytes (M.encZs ((M.hx16 r).map (M.dgG false)))).size ≤ 8 := by
        have := (M.encZs_len ((M.hx16 r).map (M.dgG false))).2
        have h6 := H6.out
        rw [bytes_size]; simp at this; omega
      rw [show bytes [92] = ⟨#[92]⟩ from rfl] at hfin
      obtain ⟨S, hS⟩ : ∃ S, bytes (M.encZs ((M.hx16 r).map (M.dgG false))) = S := ⟨_, rfl⟩
      rw [hS] at hfin hne hsz ⊢
      have q1 : (S.toList == []) = false := by rw [beq_eq_false_iff_ne]; exact hne
      have q2 : S.toList.isEmpty = false := by cases hl : S.toList with
        | nil => exact absurd hl hne
        | cons a t => rfl
      have HF : Hid ((ByteArray.mk #[92]) ++ S = bytes (M.encZs (92 :: M.hexd r))) := Lib.hid hfin
      clear hS hx0 hfin
      go_wp2
      go_ret
      exact ⟨by rw [← HF.out]; rfl, rfl⟩
end Go.Proofs.YtkaojigdogeliaaDoor
