/- The reference of vlq: what abridgerref1.PutVlq and abridgerref1.GetVlq return. -/
import Derived.Test.YtkkidjaagahniaaPut
import Derived.Test.YtkkidjaagahniaaGet
import Derived.Test.YtkkidjaagahniaaMath2
import Derived.Deep.QuietTactic
import Derived.BigQuiet
import Derived.Laws.DeepStrings4
namespace Go.Proofs.Ytkkidjaagahniaa
open Go.RowKit

theorem letters_any (w : World) : Calls Try.prog 15 #[] w fun e w' => e = .returned (.string ⟨M.alpha.toArray⟩) ∧ w' = w := by
  go_enter Try.func15, Try.ntmps15
  go_wp2
  go_ret
  exact ⟨rfl, rfl⟩

theorem and31 (x : Nat) (h : x < 4611686018427387904) : bits .and .i64 (x : Int) 31 = ((x % 32 : Nat) : Int) := by
  have := (bits_nat .i64 62 (by decide) wraps_i64 x 31 (by omega) (by omega)).1
  rw [show (x &&& 31) = x % 32 from Nat.and_two_pow_sub_one_eq_mod x 5] at this
  exact this
theorem and1 (x : Nat) (h : x < 4611686018427387904) : bits .and .i64 (x : Int) 1 = ((x % 2 : Nat) : Int) := by
  have := (bits_nat .i64 62 (by decide) wraps_i64 x 1 (by omega) (by omega)).1
  rw [Nat.and_one_is_mod] at this
  exact this
theorem ret_str {a b : ByteArray} (h : a = b) : Ending.returned (.string a) = .returned (.string b) := by rw [h]
theorem letter_piece (d : Nat) (h : d < 64) : (ByteArray.mk M.alpha.toArray).extract d (d + 1) = M.bytes [M.letter d] := by
  have : ∀ d, d < 64 → (ByteArray.mk M.alpha.toArray).extract d (d + 1) = M.bytes [M.letter d] := by decide +kernel
  exact this d h
theorem bytes_cat (s : ByteArray) (k l : List UInt8) : s ++ M.bytes k ++ M.bytes l = s ++ M.bytes (k ++ l) := by apply ByteArray.ext; simp [M.bytes]

theorem slice_letter (w : World) (i : Int) (d : Nat) (hi : i = d) (hd : d < 64) :
    (Instr.slice 9 (.string ⟨M.alpha.toArray⟩) (some (.int .i64 i)) (some (.int .i64 (i + 1))) none).run Try.prog w = .ok (.string (M.bytes [M.letter d])) w := by
  subst hi
  have hs : (ByteArray.mk M.alpha.toArray).size = 64 := rfl
  rw [run_slice_string_if _ 9 _ _ _ _ _ Try.underlying9, if_pos (by rw [hs]; omega), if_pos (by omega)]
  have := letter_piece d hd
  rw [show ((d : Int)).toNat = d by omega, show ((d : Int) + 1).toNat = d + 1 by omega, this]

set_option maxHeartbeats 400000 in
theorem refput_in (s : ByteArray) (n : Int) (w : World) (h1 : -1099511627776 ≤ n) (h2 : n ≤ 1099511627776) (hs : s.size ≤ 1048576) :
    Calls Try.prog 12 #[.string s, .int .i64 n] w fun e w' => e = .returned (.string (s ++ M.bytes (M.text n))) ∧ w' = w := by
  have b1 : decide (n < -1099511627776) = false := by simp; omega
  have b2 : decide (1099511627776 < n) = false := by simp; omega
  by_cases hn : n < 0
  all_goals
    go_enter Try.func12, Try.ntmps12
    go_wp2
    go_loop [0, 5] (fun sv xv => ∃ (f x : Nat) (l : List Nat), xv = .int .i64 x ∧ sv = .string (s ++ M.bytes (l.map M.letter)) ∧ M.Left (M.zig n) f x l) (fun xs xv => (intOf xv).toNat + 0 * (intOf xs).toNat)
    case atStart =>
      refine ⟨8, M.zig n, [], ?_, congrArg Value.string (by apply ByteArray.ext; simp [M.bytes]), M.left_start _ (M.zig_lt _ h1 h2)⟩
      unfold M.zig
      first | rw [if_pos (by omega)] | rw [if_neg (by omega)]
      congr 1
      omega
    case round =>
      obtain ⟨f, x, l, rfl, rfl, hL⟩ := hrel
      have hlen := M.left_len hL
      have hx := M.left_x hL
      have HL := Lib.hid hL
      clear hL
      have hand := and31 x (by omega)
      have hsz : (s ++ M.bytes (l.map M.letter)).size ≤ 1048584 := by rw [ByteArray.size_append]; simp only [M.bytes, ByteArray.size, List.size_toArray, List.length_map]; simp only [ByteArray.size] at hs; omega
      obtain ⟨t, ht⟩ : ∃ t, s ++ M.bytes (l.map M.letter) = t := ⟨_, rfl⟩
      rw [ht] at hsz ⊢
      have Ht := Lib.hid ht
      clear ht
      have hq : ∀ d, (M.bytes [M.letter d]).size = 1 := fun _ => rfl
      by_cases hx32 : 32 ≤ x
      · have hsl := fun w => slice_letter w ((x : Int) % 32 + 32) (32 + x % 32) (by omega) (by omega)
        go_wp2_with (go_at_call 15; refine (letters_any _).mono ?_; rintro e w' ⟨rfl, rfl⟩)
        go_round
        case rel =>
          obtain ⟨g, hg⟩ := M.left_step HL.out hx32
          refine ⟨g, x / 32, l ++ [32 + x % 32], by simp, ?_, hg⟩
          rw [← Ht.out, bytes_cat]; simp
        case measure => simp [intOf]; omega
      · have hsl := fun w => slice_letter w ((x : Int) % 32) x (by omega) (by omega)
        have hzx : ((x : Int) / 32 == 0) = true := by rw [beq_iff_eq]; omega
        go_wp2_with (go_at_call 15; refine (letters_any _).mono ?_; rintro e w' ⟨rfl, rfl⟩)
        go_ret
        refine ⟨ret_str ?_, rfl⟩
        have := M.left_stop HL.out (by omega)
        rw [← Ht.out, bytes_cat]
        unfold M.text
        rw [← this]
        simp

theorem refput_out (s : ByteArray) (n : Int) (w : World) (h : n < -1099511627776 ∨ 1099511627776 < n) :
    Calls Try.prog 12 #[.string s, .int .i64 n] w fun e w' => e = .returned (.string s) ∧ w' = w := by
  rcases h with h | h
  all_goals
    go_enter Try.func12, Try.ntmps12
    go_wp2
    go_ret
    exact ⟨rfl, rfl⟩
/-- From nothing on: any number. -/
theorem refput_any (n : Int) (w : World) :
    Calls Try.prog 12 #[.string ⟨#[]⟩, .int .i64 n] w fun e w' => e = .returned (.string (M.bytes (M.out n))) ∧ w' = w := by
  unfold M.out
  by_cases h : n < -1099511627776 ∨ 1099511627776 < n
  · rw [if_pos h]; exact refput_out _ n w h
  · rw [if_neg h]
    have := refput_in ⟨#[]⟩ n w (by omega) (by omega) (by decide)
    rwa [empty_bytes] at this

theorem sub_text (s : ByteArray) (a b : Nat) (l : List UInt8) (h : (s.data.toList.drop a).take b = l) : s.extract a (a + b) = M.bytes l := by
  apply ByteArray.ext
  apply Array.toList_inj.1
  subst h
  simp [M.bytes]

theorem refput_to (n : Int) (t : ByteArray) (w : World) (h : M.bytes (M.out n) = t) :
    Calls Try.prog 12 #[.string ⟨#[]⟩, .int .i64 n] w fun e w' => e = .returned (.string t) ∧ w' = w := by
  subst h; exact refput_any n w
theorem slice_any (w : World) (s u : ByteArray) (i j : Int) (a b : Nat) (hi : i = a) (hj : j = b) (hab : a ≤ b) (hb : b ≤ s.size) (hu : s.extract a b = u) :
    (Instr.slice 9 (.string s) (some (.int .i64 i)) (some (.int .i64 j)) none).run Try.prog w = .ok (.string u) w := by
  subst hi hj hu
  rw [run_slice_string_if _ 9 _ _ _ _ _ Try.underlying9, if_pos (by omega), if_pos (by omega)]
  rw [show ((a : Int)).toNat = a by omega, show ((b : Int)).toNat = b by omega]

/-- The world is as it was but for draws. -/
def Dr (w v : World) : Prop := ∃ q, v = w.drewN q
theorem Dr.refl (w : World) : Dr w w := ⟨0, rfl⟩
theorem Dr.more {w v : World} (h : Dr w v) (n : Nat) : Dr w (v.drewN n) := by
  obtain ⟨q, rfl⟩ := h; exact ⟨q + n, by rw [World.drewN_drewN]⟩

set_option maxHeartbeats 1000000 in
theorem refget_in (s : ByteArray) (k0 : Nat) (w : World) (hs : s.size ≤ 1048576) (h0 : k0 ≤ s.size) :
    Calls Try.prog 10 #[.string s, .int .i64 (k0 : Int)] w fun e w' => e = .returned (tri (M.gN k0 (M.get (s.data.toList.drop k0)))) ∧ Dr w w' := by
  have hB2 : decide ((k0 : Int) < 0) = false := by simp
  go_enter Try.func10, Try.ntmps10
  go_wp2_with fail
  go_loopw [7, 8] (fun xv iv wr => ∃ (k : Nat) (ds : List Nat), iv = .int .i64 ((k0 : Int) + k) ∧ xv = .int .i64 (M.val ds) ∧ M.Read (s.data.toList.drop k0) k ds ∧ M.Heads (s.data.toList.drop k0) k ds ∧ Dr w wr) (fun _ iv _ => k0 + 9 - (intOf iv).toNat)
  case atStart => exact ⟨0, [], by simp, rfl, M.read_start _, M.heads_start _, Dr.refl _⟩
  case round =>
    obtain ⟨k, ds, rfl, rfl, hR, hH, hD⟩ := hrel
    have hk9 := hR.2.1
    have HR := Lib.hid hR
    have HH := Lib.hid hH
    clear hR hH
    by_cases hlt : k < 9 ∧ k0 + k < s.size
    · obtain ⟨hk, hks⟩ := hlt
      have hll : k < (s.data.toList.drop k0).length := by
        have : s.data.toList.length = s.size := by simp
        rw [List.length_drop]; omega
      have hget : (s.data.toList.drop k0)[k] = s[k0 + k] := by simp [ByteArray.getElem_eq_getElem_data]
      have HG := Lib.hid hget
      clear hget
      have hB3 : decide ((k : Int) < 9) = true := by simp; omega
      obtain ⟨c, hcc⟩ : ∃ c : UInt8, s[k0 + k] = c := ⟨_, rfl⟩
      have Hc := Lib.hid hcc
      clear hcc
      go_wp2_with fail
      go_loopw [9, 10] (fun dv jv wr => ∃ j : Nat, j ≤ 64 ∧ jv = .int .i64 j ∧ dv = .int .i64 (M.found c j) ∧ Dr w wr) (fun _ jv _ => 64 - (intOf jv).toNat)
      case atStart => exact ⟨0, by omega, rfl, by rw [M.found_zero], hD⟩
      case round =>
        clear hD
        obtain ⟨j, hj, rfl, rfl, hD⟩ := hrel
        by_cases hj64 : j < 64
        · have hjs : j < (ByteArray.mk M.alpha.toArray).size := hj64
          have hsz : (ByteArray.mk M.alpha.toArray).size = 64 := rfl
          have hlj := letter_at j hjs
          have i1 : 0 ≤ (j : Int) := by omega
          have i2 : (j : Int) < 64 := by omega
          have i3 : 0 ≤ (k0 : Int) + k := by omega
          have i4 : (k0 : Int) + k < s.size := by omega
          have hcc := Hc.out
          by_cases hcmp : M.letter j = c
          · have hb : (((M.letter j).toNat : Int) == (c.toNat : Int)) = true := by rw [hcmp]; simp
            have hf := M.found_hit c j hj64 hcmp
            have Hf := Lib.hid hf
            clear hf hcmp
            go_wp2
            go_quiet ((go_at_call 15; exact Calls.quiet_of_same (letters_any _)))
            go_wp2
            go_roundw
            case rel => exact ⟨j + 1, by omega, by go_num, by rw [Hf.out], hD.more _⟩
            case measure => simp [intOf]; omega
          · have hb : (((M.letter j).toNat : Int) == (c.toNat : Int)) = false := by
              rw [beq_eq_false_iff_ne]; intro h; apply hcmp; apply UInt8.toNat_inj.1; omega
            have hf := M.found_miss c j hcmp
            have Hf := Lib.hid hf
            clear hf hcmp
            go_wp2
            go_quiet ((go_at_call 15; exact Calls.quiet_of_same (letters_any _)))
            go_wp2
            go_roundw
            case rel => exact ⟨j + 1, by omega, by go_num, by rw [Hf.out], hD.more _⟩
            case measure => simp [intOf]; omega
        · obtain rfl : j = 64 := by omega
          clear hj64 hj
          obtain ⟨dd, hdd⟩ : ∃ dd, M.found c 64 = dd := ⟨_, rfl⟩
          rw [hdd]
          rw [M.found_all] at hdd
          have Hdd := Lib.hid hdd
          have hcs := M.idx_cases c
          rw [hdd] at hcs
          clear hdd
          by_cases hneg : dd < 0
          · have hres := M.read_none HR.out hk hll (by rw [HG.out, Hc.out, Hdd.out]; exact hneg)
            have Hres := Lib.hid hres
            clear hres hcs
            go_wp2
            go_ret3
            exact ⟨by rw [Hres.out]; rfl, hD⟩
          · obtain ⟨d, rfl⟩ : ∃ d : Nat, dd = d := ⟨dd.toNat, by omega⟩
            have hd64 : d < 64 := by omega
            clear hcs hneg
            have hand := and31 d (by omega)
            have hor := or_step ds d k HR.out.1 (by omega)
            obtain ⟨x2, hx2⟩ : ∃ x2 : Nat, M.val (ds ++ [d]) = x2 := ⟨_, rfl⟩
            have hx2b : x2 < 1152921504606846976 := by
              have q1 := M.val_lt (ds ++ [d])
              have q2 : 32 ^ (ds ++ [d]).length ≤ 32 ^ 9 := Nat.pow_le_pow_right (by omega) (by have := HR.out.1; simp; omega)
              omega
            rw [hx2] at hor
            have Hx2 := Lib.hid hx2
            clear hx2
            rw [Nat.mul_comm k 5] at hor
            by_cases h32 : d < 32
            · have hfine := M.heads_fine HR.out HH.out hk hll (by rw [HG.out, Hc.out, Hdd.out]; omega) (by rw [HG.out, Hc.out, Hdd.out]; omega)
              have hres := M.read_some HR.out hk hll (by rw [HG.out, Hc.out, Hdd.out]; omega) (by rw [HG.out, Hc.out, Hdd.out]; omega)
              rw [HG.out, Hc.out, Hdd.out, Int.toNat_natCast, Hx2.out] at hfine hres
              have hand1 := and1 x2 (by omega)
              obtain ⟨t, ht⟩ : ∃ t, M.bytes (M.out (M.unzig x2)) = t := ⟨_, rfl⟩
              obtain ⟨u, hu⟩ : ∃ u, M.bytes ((s.data.toList.drop k0).take (k + 1)) = u := ⟨_, rfl⟩
              have hsl := fun W => slice_any W s u (k0 : Int) ((k0 : Int) + k + 1) k0 (k0 + (k + 1)) rfl (by omega) (by omega) (by omega) (by rw [sub_text s k0 (k + 1) _ rfl, hu])
              have hw1 : IntKind.i64.wrap ((k0 : Int) + k + 1) = (k0 : Int) + k + 1 := IntWalk.i64_in _ (by omega)
              have Ht := Lib.hid ht
              by_cases hfn : M.fine (ds ++ [d]) = true
              · rw [if_pos hfn] at hres
                have htu : t = u := by rw [← ht, ← hu, hfine.2 hfn]
                subst htu
                have Hres := Lib.hid hres
                clear hres hfine ht hu hfn
                by_cases hpar : x2 % 2 = 1
                · have hpb : ((x2 : Int) % 2 == 1) = true := by simp; omega
                  have hun : -((x2 : Int) / 2) = M.unzig x2 := by simp [M.unzig, hpar]
                  have Hun := Lib.hid hun
                  clear hpar hun
                  go_wp2_with fail
                  go_quiet ((go_at_call 12; exact Calls.quiet_of_same (refput_to _ t _ (by rw [Hun.out]; exact Ht.out))))
                  go_wp2
                  go_ret3
                  exact ⟨by rw [Hres.out]; simp [M.gN, tri, ← Hun.out]; omega, hD.more _⟩
                · have hpb : ((x2 : Int) % 2 == 1) = false := by simp; omega
                  have hun : ((x2 : Int) / 2) = M.unzig x2 := by simp [M.unzig, hpar]
                  have Hun := Lib.hid hun
                  clear hpar hun
                  go_wp2_with fail
                  go_quiet ((go_at_call 12; exact Calls.quiet_of_same (refput_to _ t _ (by rw [Hun.out]; exact Ht.out))))
                  go_wp2
                  go_ret3
                  exact ⟨by rw [Hres.out]; simp [M.gN, tri, ← Hun.out]; omega, hD.more _⟩
              · rw [if_neg hfn] at hres
                have htu : (t.toList == u.toList) = false := by
                  rw [beq_eq_false_iff_ne]
                  intro h
                  rw [ByteArray.toList_eq, ByteArray.toList_eq, ← ht, ← hu] at h
                  apply hfn
                  apply hfine.1
                  simpa [M.bytes] using h
                have Hres := Lib.hid hres
                clear hres hfine ht hu hfn
                by_cases hpar : x2 % 2 = 1
                · have hpb : ((x2 : Int) % 2 == 1) = true := by simp; omega
                  have hun : -((x2 : Int) / 2) = M.unzig x2 := by simp [M.unzig, hpar]
                  have Hun := Lib.hid hun
                  clear hpar hun
                  go_wp2_with fail
                  go_quiet ((go_at_call 12; exact Calls.quiet_of_same (refput_to _ t _ (by rw [Hun.out]; exact Ht.out))))
                  go_wp2
                  go_ret3
                  exact ⟨by rw [Hres.out]; rfl, hD.more _⟩
                · have hpb : ((x2 : Int) % 2 == 1) = false := by simp; omega
                  have hun : ((x2 : Int) / 2) = M.unzig x2 := by simp [M.unzig, hpar]
                  have Hun := Lib.hid hun
                  clear hpar hun
                  go_wp2_with fail
                  go_quiet ((go_at_call 12; exact Calls.quiet_of_same (refput_to _ t _ (by rw [Hun.out]; exact Ht.out))))
                  go_wp2
                  go_ret3
                  exact ⟨by rw [Hres.out]; rfl, hD.more _⟩
            · have hR2 := M.read_step HR.out hk hll (by rw [HG.out, Hc.out, Hdd.out]; omega)
              have hH2 := M.heads_step HH.out hll (by rw [HG.out, Hc.out, Hdd.out]; omega)
              rw [HG.out, Hc.out, Hdd.out, Int.toNat_natCast] at hR2 hH2
              have HR2 := Lib.hid hR2
              have HH2 := Lib.hid hH2
              clear hR2 hH2
              go_wp2
              go_roundw
              case rel => exact ⟨k + 1, ds ++ [d], by simp; omega, by rw [Hx2.out], HR2.out, HH2.out, hD⟩
              case measure => simp [intOf]; omega
    · have hres : M.get (s.data.toList.drop k0) = none := M.read_end HR.out (by
        have : s.data.toList.length = s.size := by simp
        rw [List.length_drop]; omega)
      have Hres := Lib.hid hres
      clear hres
      by_cases hks : k0 + k < s.size
      all_goals
        go_wp2
        go_ret3
        exact ⟨by rw [Hres.out]; rfl, hD⟩
end Go.Proofs.Ytkkidjaagahniaa
