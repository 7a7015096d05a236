/- vlq.Get: what is returned for any text at any place. -/
import Derived.Test.YtpfbhdkljcjhlaaDoorRows
import Derived.Test.YtpfbhdkljcjhlaaDoorVqMath2
import Derived.Test.YtpfbhdkljcjhlaaDoorShelf
import Derived.WalkKit
import Derived.ProofKit
import Derived.OpenShut
import Derived.Below
import Derived.Lib.Hide
import Derived.Laws.BitsLemmas
import Derived.IntWalk
namespace Go.Proofs.YtpfbhdkljcjhlaaDoor
open Go.RowKit

/-- The three results of reading. -/
def vq_tri (r : Int × Int × Bool) : Value := .tuple #[.int .i64 r.1, .int .i64 r.2.1, .bool r.2.2]

theorem vq_indexByte_any (c : Int) (x : UInt8) (d : Int) (hx : c = x.toNat) (hd : V.idx x = d) (w : World) :
    Calls Tryd.prog 27 #[.string ⟨V.alpha.toArray⟩, .int .u8 c] w fun e w' => e = .returned (.int .i64 d) ∧ w = w' := by
  subst hx hd
  refine (Tryd.strings_IndexByte _ _ _).mono ?_
  rintro e w' ⟨rfl, rfl⟩
  exact ⟨by simp [V.idx], rfl⟩

theorem vq_wraps_i64 (n : Int) (h₀ : 0 ≤ n) (h₁ : n < 2 ^ 62) : IntKind.i64.wrap n = n := by rw [IntKind.wrap_i64]; omega

/-- One digit more, by 'or' of what is shifted. -/
theorem vq_or_step (ds : List Nat) (d k : Nat) (hl : ds.length = k) (hk : k ≤ 8) : bits .or .i64 (V.val ds : Int) (wrap64 ((d : Int) % 32 * 2 ^ (k * 5))) = (V.val (ds ++ [d]) : Int) := by
  have h1 := V.val_lt ds
  have hp : 32 ^ k = 2 ^ (k * 5) := by rw [Nat.mul_comm, Nat.pow_mul]
  have hm : d % 32 < 32 := Nat.mod_lt _ (by omega)
  have h2 : 2 ^ (k * 5) ≤ 2 ^ 40 := Nat.pow_le_pow_right (by omega) (by omega)
  have h3 : d % 32 * 2 ^ (k * 5) ≤ 31 * 2 ^ (k * 5) := Nat.mul_le_mul_right _ (by omega)
  have hc : (d : Int) % 32 * 2 ^ (k * 5) = ((d % 32 * 2 ^ (k * 5) : Nat) : Int) := by simp
  rw [V.val_snoc, hl, hp]
  rw [hl, hp] at h1
  rw [hc, IntWalk.wrap64_in _ (by omega), (bits_nat .i64 62 (by decide) vq_wraps_i64 _ _ (by omega) (by omega)).2, Nat.mul_comm (d % 32), Nat.or_comm, ← Nat.two_pow_add_eq_or_of_lt h1 (d % 32), Nat.add_comm]

theorem vq_num_no (x : Nat) (w : World) (h : x < 1152921504606846976) (hx : x = 1 ∨ 1099511627776 < x / 2) :
    Calls Tryd.prog 28 #[.int .i64 (x : Int)] w fun e w' => e = .returned (.tuple #[.int .i64 0, .bool false]) ∧ w = w' := by
  by_cases h1 : x = 1
  · subst h1
    go_enter Tryd.func28, Tryd.ntmps28
    go_wp2
    go_ret2
    exact ⟨rfl, rfl⟩
  · have h2 : 1099511627776 < x / 2 := by omega
    have h3 : ((x : Int) == 1) = false := by simp; omega
    clear hx
    go_enter Tryd.func28, Tryd.ntmps28
    go_wp2
    go_ret2
    exact ⟨rfl, rfl⟩

theorem vq_num_yes (x : Nat) (w : World) (h : x < 1152921504606846976) (hx : ¬ (x = 1 ∨ 1099511627776 < x / 2)) :
    Calls Tryd.prog 28 #[.int .i64 (x : Int)] w fun e w' => e = .returned (.tuple #[.int .i64 (V.unzig x), .bool true]) ∧ w = w' := by
  have h1 : ¬ x = 1 := fun h => hx (.inl h)
  have h2 : x / 2 ≤ 1099511627776 := by omega
  have h3 : ((x : Int) == 1) = false := by simp; omega
  clear hx h1
  by_cases hp : x % 2 = 1
  · have hr : V.unzig x = -((x / 2 : Nat) : Int) := by simp [V.unzig, hp]
    have Hr := Lib.hid hr
    have h5 : ((x : Int) % 2 == 1) = true := by simp; omega
    clear hr hp
    go_enter Tryd.func28, Tryd.ntmps28
    go_wp2
    go_ret2
    exact ⟨by rw [Hr.out]; simp, rfl⟩
  · have hr : V.unzig x = ((x / 2 : Nat) : Int) := by simp [V.unzig, hp]
    have Hr := Lib.hid hr
    have h5 : ((x : Int) % 2 == 1) = false := by simp; omega
    clear hr hp
    go_enter Tryd.func28, Tryd.ntmps28
    go_wp2
    go_ret2
    exact ⟨by rw [Hr.out]; simp, rfl⟩

set_option maxRecDepth 100000 in
set_option maxHeartbeats 2000000 in
theorem vq_get_in (s : ByteArray) (k0 : Nat) (w : World) (hs : s.size ≤ 1048576) (h0 : k0 < s.size) :
    Calls Tryd.prog 17 #[.string s, .int .i64 (k0 : Int)] w fun e w' => e = .returned (vq_tri (V.gN k0 (V.get (s.data.toList.drop k0)))) ∧ w = w' := by
  have hB1 : decide (s.size ≤ k0) = false := by simp; omega
  have hB2 : decide ((k0 : Int) < 0) = false := by simp
  go_enter Tryd.func17, Tryd.ntmps17
  go_wp2_with fail
  go_loop [7, 25] (fun xv kv => ∃ (k : Nat) (ds : List Nat), kv = .int .i64 k ∧ xv = .int .i64 (V.val ds) ∧ V.Read (s.data.toList.drop k0) k ds) (fun _ kv => 9 - (intOf kv).toNat)
  case atStart => exact ⟨0, [], rfl, rfl, V.read_start _⟩
  case round =>
    obtain ⟨k, ds, rfl, rfl, hR⟩ := hrel
    have hk9 := hR.2.1
    have HR := Lib.hid hR
    clear hR
    by_cases hlt : k < 9 ∧ k0 + k < s.size
    · obtain ⟨hk, hks⟩ := hlt
      have hll : k < (s.data.toList.drop k0).length := by
        have : s.data.toList.length = s.size := by simp
        rw [List.length_drop]; omega
      have hget : (s.data.toList.drop k0)[k] = s[k0 + k] := by simp [ByteArray.getElem_eq_getElem_data]
      have hc := V.idx_cases s[k0 + k]
      by_cases hneg : V.idx s[k0 + k] < 0
      · have hm1 : V.idx s[k0 + k] = -1 := by omega
        have hres := V.read_none HR.out hk hll (by rw [hget]; exact hneg)
        have Hm := Lib.hid hm1
        have Hres := Lib.hid hres
        clear hm1 hneg hc hget hres
        go_wp2_with fail
        refine (vq_indexByte_any _ s[k0 + k] _ rfl Hm.out _).mono ?_
        rintro e w' ⟨rfl, rfl⟩
        go_wp2
        go_ret3
        exact ⟨by rw [Hres.out]; rfl, rfl⟩
      · obtain ⟨d, hd⟩ : ∃ d : Nat, V.idx s[k0 + k] = d := ⟨(V.idx s[k0 + k]).toNat, by omega⟩
        have hd64 : d < 64 := by omega
        have Hd := Lib.hid hd
        have HC := Lib.hid hget
        clear hc hd hneg hget
        have hor := vq_or_step ds d k HR.out.1 (by omega)
        obtain ⟨x2, hx2⟩ : ∃ x2 : Nat, V.val (ds ++ [d]) = x2 := ⟨_, rfl⟩
        have hx2b : x2 < 1152921504606846976 := by
          have q1 := V.val_lt (ds ++ [d])
          have q2 : 32 ^ (ds ++ [d]).length ≤ 32 ^ 9 := Nat.pow_le_pow_right (by omega) (by have := HR.out.1; simp; omega)
          omega
        rw [hx2] at hor
        have Hx2 := Lib.hid hx2
        clear hx2
        by_cases h32 : d < 32
        · have hres := V.read_some HR.out hk hll (by rw [HC.out, Hd.out]; omega) (by rw [HC.out, Hd.out]; omega)
          rw [HC.out, Hd.out, Int.toNat_natCast, V.fine_snoc, HR.out.1, Hx2.out] at hres
          by_cases hbad : x2 = 1 ∨ 1099511627776 < x2 / 2
          · have hres2 : V.get (s.data.toList.drop k0) = none := by
              rw [hres, if_neg]
              rcases hbad with h | h
              · simp [h]
              · have : ¬ x2 / 2 ≤ 1099511627776 := by omega
                simp [this]
            have Hres := Lib.hid hres2
            have Hbad := Lib.hid hbad
            clear hres hres2 hbad
            go_wp2_with fail
            refine (vq_indexByte_any _ s[k0 + k] _ rfl Hd.out _).mono ?_
            rintro e w' ⟨rfl, rfl⟩
            go_wp2_with fail
            refine (vq_num_no x2 _ hx2b Hbad.out).mono ?_
            rintro e w' ⟨rfl, rfl⟩
            go_wp2
            go_ret3
            exact ⟨by rw [Hres.out]; rfl, rfl⟩
          · by_cases hz : d = 0 ∧ 0 < k
            · have hres2 : V.get (s.data.toList.drop k0) = none := by
                rw [hres, if_neg]
                simp [hz]
              obtain ⟨hz1, hz2⟩ := hz
              have hd00 : ((d : Int) == 0) = true := by simp; omega
              clear hz1
              have Hres := Lib.hid hres2
              have Hbad := Lib.hid hbad
              clear hres hres2 hbad
              go_wp2_with fail
              refine (vq_indexByte_any _ s[k0 + k] _ rfl Hd.out _).mono ?_
              rintro e w' ⟨rfl, rfl⟩
              go_wp2_with fail
              refine (vq_num_yes x2 _ hx2b Hbad.out).mono ?_
              rintro e w' ⟨rfl, rfl⟩
              go_wp2
              go_ret3
              exact ⟨by rw [Hres.out]; rfl, rfl⟩
            · have hres2 : V.get (s.data.toList.drop k0) = some (V.unzig x2, k + 1) := by
                rw [hres, if_pos]
                have b1 : ¬ x2 = 1 := fun h => hbad (.inl h)
                have b2 : x2 / 2 ≤ 1099511627776 := by omega
                simp [b1, b2]
                omega
              have Hres := Lib.hid hres2
              have Hbad := Lib.hid hbad
              clear hres hres2 hbad
              by_cases hd0 : d = 0
              · have hk1 : k < 1 := by omega
                have hd00 : ((d : Int) == 0) = true := by simp; omega
                clear hz hd0
                go_wp2_with fail
                refine (vq_indexByte_any _ s[k0 + k] _ rfl Hd.out _).mono ?_
                rintro e w' ⟨rfl, rfl⟩
                go_wp2_with fail
                refine (vq_num_yes x2 _ hx2b Hbad.out).mono ?_
                rintro e w' ⟨rfl, rfl⟩
                go_wp2
                go_ret3
                exact ⟨by rw [Hres.out]; simp [V.gN, vq_tri]; omega, rfl⟩
              · clear hz
                have hd00 : ((d : Int) == 0) = false := by simp; omega
                go_wp2_with fail
                refine (vq_indexByte_any _ s[k0 + k] _ rfl Hd.out _).mono ?_
                rintro e w' ⟨rfl, rfl⟩
                go_wp2_with fail
                refine (vq_num_yes x2 _ hx2b Hbad.out).mono ?_
                rintro e w' ⟨rfl, rfl⟩
                go_wp2
                go_ret3
                exact ⟨by rw [Hres.out]; simp [V.gN, vq_tri]; omega, rfl⟩
        · have hR2 := V.read_step HR.out hk hll (by rw [HC.out, Hd.out]; omega)
          rw [HC.out, Hd.out, Int.toNat_natCast] at hR2
          have HR2 := Lib.hid hR2
          clear hR2
          go_wp2_with fail
          refine (vq_indexByte_any _ s[k0 + k] _ rfl Hd.out _).mono ?_
          rintro e w' ⟨rfl, rfl⟩
          go_wp2
          go_round
          case rel => exact ⟨k + 1, ds ++ [d], by go_num, by rw [Hx2.out], HR2.out⟩
          case measure => simp [intOf]; omega
    · have hres : V.get (s.data.toList.drop k0) = none := V.read_end HR.out (by
        have : s.data.toList.length = s.size := by simp
        rw [List.length_drop]; omega)
      have Hres := Lib.hid hres
      clear hres
      go_wp2
      go_ret3
      exact ⟨by rw [Hres.out]; rfl, rfl⟩

theorem vq_get_out (s : ByteArray) (k0 : Int) (w : World) (_hs : s.size ≤ 9223372036854775807) (h : k0 < 0 ∨ (s.size : Int) ≤ k0) :
    Calls Tryd.prog 17 #[.string s, .int .i64 k0] w fun e w' => e = .returned (vq_tri (0, 0, false)) ∧ w = w' := by
  by_cases h0 : k0 < 0
  · clear h
    go_enter Tryd.func17, Tryd.ntmps17
    go_wp2
    go_ret3
    exact ⟨rfl, rfl⟩
  · have h2 : (s.size : Int) ≤ k0 := by omega
    clear h
    go_enter Tryd.func17, Tryd.ntmps17
    go_wp2
    go_ret3
    exact ⟨rfl, rfl⟩

/-- Any place: at any result that it comes to. -/
theorem vq_get_any (s : ByteArray) (k0 : Int) (r : Int × Int × Bool) (w : World) (hs : s.size ≤ 1048576) (hr : V.gN k0 (V.getAt s.data.toList k0) = r) :
    Calls Tryd.prog 17 #[.string s, .int .i64 k0] w fun e w' => e = .returned (vq_tri r) ∧ w = w' := by
  subst hr
  have hl : s.data.toList.length = s.size := by simp
  by_cases h : k0 < 0 ∨ (s.size : Int) ≤ k0
  · have : V.getAt s.data.toList k0 = none := by unfold V.getAt; rw [if_pos (by omega)]
    rw [this]
    exact vq_get_out s k0 w (by omega) h
  · obtain ⟨k, rfl⟩ : ∃ k : Nat, k0 = k := ⟨k0.toNat, by omega⟩
    have : V.getAt s.data.toList k = V.get (s.data.toList.drop k) := by unfold V.getAt; rw [if_neg (by omega)]; simp
    rw [this]
    exact vq_get_in s k w hs (by omega)
end Go.Proofs.YtpfbhdkljcjhlaaDoor
