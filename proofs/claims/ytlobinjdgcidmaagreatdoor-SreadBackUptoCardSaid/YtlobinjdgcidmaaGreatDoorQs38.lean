/- Texts of ours in one: VqRef. -/
import Derived.Test.YtlobinjdgcidmaaGreatDoorQs32
import Derived.Laws.BitsLemmas
import Derived.Deep.QuietTactic
import Derived.BigQuiet
import Derived.Laws.DeepStrings4
/- The reference of vlq: what abridgerref1.PutVlq and abridgerref1.GetVlq return. -/
namespace Go.Proofs.YtlobinjdgcidmaaGreatDoor
open Go.RowKit

theorem vq_wraps (n : Int) (h₀ : 0 ≤ n) (h₁ : n < 2 ^ 62) : IntKind.i64.wrap n = n := by rw [IntKind.wrap_i64]; omega
theorem vq_letters_any (w : World) : Calls Tryz.prog 35 #[] w fun e w' => e = .returned (.string ⟨V.alpha.toArray⟩) ∧ w' = w := by
  go_enter Tryz.func35, Tryz.ntmps35
  go_wp2
  go_ret
  exact ⟨rfl, rfl⟩

theorem vq_and31 (x : Nat) (h : x < 4611686018427387904) : bits .and .i64 (x : Int) 31 = ((x % 32 : Nat) : Int) := by
  have := (bits_nat .i64 62 (by decide) vq_wraps x 31 (by omega) (by omega)).1
  rw [show (x &&& 31) = x % 32 from Nat.and_two_pow_sub_one_eq_mod x 5] at this
  exact this
theorem vq_ret_str {a b : ByteArray} (h : a = b) : Ending.returned (.string a) = .returned (.string b) := by rw [h]
theorem vq_letter_piece (d : Nat) (h : d < 64) : (ByteArray.mk V.alpha.toArray).extract d (d + 1) = V.bytes [V.letter d] := by
  have : ∀ d, d < 64 → (ByteArray.mk V.alpha.toArray).extract d (d + 1) = V.bytes [V.letter d] := by decide +kernel
  exact this d h
theorem vq_bytes_cat (s : ByteArray) (k l : List UInt8) : s ++ V.bytes k ++ V.bytes l = s ++ V.bytes (k ++ l) := by apply ByteArray.ext; simp [V.bytes]

theorem vq_slice_letter (w : World) (i : Int) (d : Nat) (hi : i = d) (hd : d < 64) :
    (Instr.slice 9 (.string ⟨V.alpha.toArray⟩) (some (.int .i64 i)) (some (.int .i64 (i + 1))) none).run Tryz.prog w = .ok (.string (V.bytes [V.letter d])) w := by
  subst hi
  have hs : (ByteArray.mk V.alpha.toArray).size = 64 := rfl
  rw [run_slice_string_if _ 9 _ _ _ _ _ Tryz.underlying9, if_pos (by rw [hs]; omega), if_pos (by omega)]
  have := vq_letter_piece d hd
  rw [show ((d : Int)).toNat = d by omega, show ((d : Int) + 1).toNat = d + 1 by omega, this]

set_option maxHeartbeats 400000 in
theorem vq_refput_in (s : ByteArray) (n : Int) (w : World) (h1 : -1099511627776 ≤ n) (h2 : n ≤ 1099511627776) (hs : s.size ≤ 8000000) :
    Calls Tryz.prog 22 #[.string s, .int .i64 n] w fun e w' => e = .returned (.string (s ++ V.bytes (V.text n))) ∧ w' = w := by
  have b1 : decide (n < -1099511627776) = false := by simp; omega
  have b2 : decide (1099511627776 < n) = false := by simp; omega
  by_cases hn : n < 0
  all_goals
    go_enter Tryz.func22, Tryz.ntmps22
    go_wp2
    go_loop [0, 5] (fun sv xv => ∃ (f x : Nat) (l : List Nat), xv = .int .i64 x ∧ sv = .string (s ++ V.bytes (l.map V.letter)) ∧ V.Left (V.zig n) f x l) (fun xs xv => (intOf xv).toNat + 0 * (intOf xs).toNat)
    case atStart =>
      refine ⟨8, V.zig n, [], ?_, congrArg Value.string (by apply ByteArray.ext; simp [V.bytes]), V.left_start _ (V.zig_lt _ h1 h2)⟩
      unfold V.zig
      first | rw [if_pos (by omega)] | rw [if_neg (by omega)]
      congr 1
      omega
    case round =>
      obtain ⟨f, x, l, rfl, rfl, hL⟩ := hrel
      have hlen := V.left_len hL
      have hx := V.left_x hL
      have HL := Lib.hid hL
      clear hL
      have hand := vq_and31 x (by omega)
      have hsz : (s ++ V.bytes (l.map V.letter)).size ≤ 8000008 := by rw [ByteArray.size_append]; simp only [V.bytes, ByteArray.size, List.size_toArray, List.length_map]; simp only [ByteArray.size] at hs; omega
      obtain ⟨t, ht⟩ : ∃ t, s ++ V.bytes (l.map V.letter) = t := ⟨_, rfl⟩
      rw [ht] at hsz ⊢
      have Ht := Lib.hid ht
      clear ht
      have hq : ∀ d, (V.bytes [V.letter d]).size = 1 := fun _ => rfl
      by_cases hx32 : 32 ≤ x
      · have hsl := fun w => vq_slice_letter w ((x : Int) % 32 + 32) (32 + x % 32) (by omega) (by omega)
        go_wp2_with (go_at_call 35; refine (vq_letters_any _).mono ?_; rintro e w' ⟨rfl, rfl⟩)
        go_round
        case rel =>
          obtain ⟨g, hg⟩ := V.left_step HL.out hx32
          refine ⟨g, x / 32, l ++ [32 + x % 32], by simp, ?_, hg⟩
          rw [← Ht.out, vq_bytes_cat]; simp
        case measure => simp [intOf]; omega
      · have hsl := fun w => vq_slice_letter w ((x : Int) % 32) x (by omega) (by omega)
        have hzx : ((x : Int) / 32 == 0) = true := by rw [beq_iff_eq]; omega
        go_wp2_with (go_at_call 35; refine (vq_letters_any _).mono ?_; rintro e w' ⟨rfl, rfl⟩)
        go_ret
        refine ⟨vq_ret_str ?_, rfl⟩
        have := V.left_stop HL.out (by omega)
        rw [← Ht.out, vq_bytes_cat]
        unfold V.text
        rw [← this]
        simp

end Go.Proofs.YtlobinjdgcidmaaGreatDoor
