/- Texts of JSON as the reference reads them: hexDigit, pair, SameInts. -/
import Derived.Test.YtmhjafpoaamkeaaKMath
import Derived.Test.YtmhjafpoaamkeaaJLaw
import Derived.Deep.QuietTactic
import Derived.BigQuiet
import Derived.Outline
namespace Go.Proofs.Ytmhjafpoaamkeaa
open Go.RowKit
set_option linter.unusedVariables false
set_option linter.unusedSimpArgs false

theorem ret_i {k : IntKind} {a b : Int} (h : a = b) : Ending.returned (.int k a) = .returned (.int k b) := by rw [h]
set_option maxRecDepth 100000 in
set_option maxHeartbeats 1000000 in
theorem hex_any (c : UInt8) (x : Int) (w : World) (hx : M.hexV c = x) :
    Calls Try.prog 22 #[.int .u8 (c.toNat : Int)] w fun e w' => e = .returned (.int .i64 x) ∧ w = w' := by
  have hb : c.toNat < 256 := c.toNat_lt
  unfold M.hexV at hx
  have hs : (c.toNat < 48 ∧ x = -1) ∨ (48 ≤ c.toNat ∧ c.toNat ≤ 57 ∧ x = (c.toNat : Int) - 48) ∨ (57 < c.toNat ∧ c.toNat < 65 ∧ x = -1) ∨ (65 ≤ c.toNat ∧ c.toNat ≤ 70 ∧ x = (c.toNat : Int) - 55) ∨ (70 < c.toNat ∧ c.toNat < 97 ∧ x = -1) ∨ (97 ≤ c.toNat ∧ c.toNat ≤ 102 ∧ x = (c.toNat : Int) - 87) ∨ (102 < c.toNat ∧ x = -1) := by
    repeat' split at hx
    all_goals omega
  obtain ⟨C, hC⟩ : ∃ C : Int, (c.toNat : Int) = C := ⟨_, rfl⟩
  rw [hC] at hs ⊢
  have hs2 : (C < 48 ∧ x = -1) ∨ (48 ≤ C ∧ C ≤ 57 ∧ x = C - 48) ∨ (57 < C ∧ C < 65 ∧ x = -1) ∨ (65 ≤ C ∧ C ≤ 70 ∧ x = C - 55) ∨ (70 < C ∧ C < 97 ∧ x = -1) ∨ (97 ≤ C ∧ C ≤ 102 ∧ x = C - 87) ∨ (102 < C ∧ x = -1) := by omega
  have C0 : 0 ≤ C := by omega
  have C9 : C < 256 := by omega
  clear hs hx hC hb
  rcases hs2 with ⟨h1, rfl⟩ | ⟨h1, h2, hx⟩ | ⟨h1, h2, rfl⟩ | ⟨h1, h2, hx⟩ | ⟨h1, h2, rfl⟩ | ⟨h1, h2, hx⟩ | ⟨h1, rfl⟩
  · have t1 : decide ((48 : Int) ≤ C) = false := by simp; omega
    have t2 : decide ((97 : Int) ≤ C) = false := by simp; omega
    have t3 : decide ((65 : Int) ≤ C) = false := by simp; omega
    go_enter Try.func22, Try.ntmps22
    go_wp2
    go_ret
    exact ⟨rfl, rfl⟩
  · have Hx := Lib.hid hx
    have t1 : decide ((48 : Int) ≤ C) = true := by simp; omega
    have t2 : decide (C ≤ (57 : Int)) = true := by simp; omega
    clear hx
    go_enter Try.func22, Try.ntmps22
    go_wp2
    go_ret
    exact ⟨ret_i (by have := Hx.out; omega), rfl⟩
  · have t1 : decide ((48 : Int) ≤ C) = true := by simp; omega
    have t2 : decide (C ≤ (57 : Int)) = false := by simp; omega
    have t3 : decide ((97 : Int) ≤ C) = false := by simp; omega
    have t4 : decide ((65 : Int) ≤ C) = false := by simp; omega
    go_enter Try.func22, Try.ntmps22
    go_wp2
    go_ret
    exact ⟨rfl, rfl⟩
  · have Hx := Lib.hid hx
    have t1 : decide ((48 : Int) ≤ C) = true := by simp; omega
    have t2 : decide (C ≤ (57 : Int)) = false := by simp; omega
    have t3 : decide ((97 : Int) ≤ C) = false := by simp; omega
    have t4 : decide ((65 : Int) ≤ C) = true := by simp; omega
    have t5 : decide (C ≤ (70 : Int)) = true := by simp; omega
    clear hx
    go_enter Try.func22, Try.ntmps22
    go_wp2
    go_ret
    exact ⟨ret_i (by have := Hx.out; omega), rfl⟩
  · have t1 : decide ((48 : Int) ≤ C) = true := by simp; omega
    have t2 : decide (C ≤ (57 : Int)) = false := by simp; omega
    have t3 : decide ((97 : Int) ≤ C) = false := by simp; omega
    have t4 : decide ((65 : Int) ≤ C) = true := by simp; omega
    have t5 : decide (C ≤ (70 : Int)) = false := by simp; omega
    go_enter Try.func22, Try.ntmps22
    go_wp2
    go_ret
    exact ⟨rfl, rfl⟩
  · have Hx := Lib.hid hx
    have t1 : decide ((48 : Int) ≤ C) = true := by simp; omega
    have t2 : decide (C ≤ (57 : Int)) = false := by simp; omega
    have t3 : decide ((97 : Int) ≤ C) = true := by simp; omega
    have t4 : decide (C ≤ (102 : Int)) = true := by simp; omega
    clear hx
    go_enter Try.func22, Try.ntmps22
    go_wp2
    go_ret
    exact ⟨ret_i (by have := Hx.out; omega), rfl⟩
  · have t1 : decide ((48 : Int) ≤ C) = true := by simp; omega
    have t2 : decide (C ≤ (57 : Int)) = false := by simp; omega
    have t3 : decide ((97 : Int) ≤ C) = true := by simp; omega
    have t4 : decide (C ≤ (102 : Int)) = false := by simp; omega
    have t5 : decide ((65 : Int) ≤ C) = true := by simp; omega
    have t6 : decide (C ≤ (70 : Int)) = false := by simp; omega
    go_enter Try.func22, Try.ntmps22
    go_wp2
    go_ret
    exact ⟨rfl, rfl⟩

theorem and1023 (n : Int) (h0 : 0 ≤ n) (h1 : n ≤ 1114111) : bits .and .i64 n 1023 = n % 1024 := bits_mask .i64 62 (by decide) (fun n h₀ h₁ => by rw [IntKind.wrap_i64]; omega) 10 (by decide) n h0 (by omega)
set_option maxRecDepth 100000 in
set_option maxHeartbeats 1000000 in
theorem pair_any (r : Nat) (w : World) (hr : r ≤ 1114111) :
    Calls Try.prog 21 #[.int .i64 (r : Int)] w fun e w' => ∃ v, e = .returned v ∧ Is w' v (iN (M.pairU r)) ∧ NN v ∧ Below w.heap.size w w' := by
  unfold M.pairU
  obtain ⟨R, hR⟩ : ∃ R : Int, (r : Int) = R := ⟨_, rfl⟩
  have R0 : 0 ≤ R := by omega
  have R1 : R ≤ 1114111 := by omega
  by_cases h : r < 65536
  · rw [if_pos h]
    have h' : R < 65536 := by omega
    have e : iN [r] = [R] := by simp [iN, hR]
    have He := Lib.hid e
    rw [hR]
    clear e hR h
    go_enter Try.func21, Try.ntmps21
    go_wp2
    go_ret
    exact ⟨_, rfl, by rw [He.out]; exact is_one w R, nn_some _ _ _, (Below.refl _ _).alloc (Nat.le_refl _) _⟩
  · rw [if_neg h]
    have h' : 65536 ≤ R := by omega
    have hand := and1023 (R - 65536) (by omega) (by omega)
    have hand2 : (0 : Int) ≤ (R - 65536) % 1024 := by omega
    have hand3 : (R - 65536) % 1024 < 1024 := by omega
    have hd2 : (0 : Int) ≤ (R - 65536) / 1024 := by omega
    have hd3 : (R - 65536) / 1024 < 1024 := by omega
    have e : iN [55296 + (r - 65536) / 1024, 56320 + (r - 65536) % 1024] = [55296 + (R - 65536) / 1024, 56320 + (R - 65536) % 1024] := by
      simp only [iN, List.map_cons, List.map_nil]
      have q1 : ((55296 + (r - 65536) / 1024 : Nat) : Int) = 55296 + (R - 65536) / 1024 := by omega
      have q2 : ((56320 + (r - 65536) % 1024 : Nat) : Int) = 56320 + (R - 65536) % 1024 := by omega
      rw [q1, q2]
    have He := Lib.hid e
    rw [hR]
    clear e hR h
    go_enter Try.func21, Try.ntmps21
    go_wp2
    go_ret
    exact ⟨_, rfl, by rw [He.out]; exact is_two w _ _, nn_some _ _ _, (Below.refl _ _).alloc (Nat.le_refl _) _⟩

set_option maxRecDepth 100000 in
set_option maxHeartbeats 1000000 in
theorem same_any (v u : Value) (l k : List Int) (r : Bool) (w : World) (hv : Is w v l) (hu : Is w u k) (hl : l.length ≤ 4294967296) (hk : k.length ≤ 4294967296) (hr : decide (l = k) = r) :
    Calls Try.prog 15 #[v, u] w fun e w' => e = .returned (.bool r) ∧ Below w.heap.size w w' := by
  obtain ⟨a, cap, rfl, h1, h2, h3⟩ := hv
  obtain ⟨a', cap', rfl, g1, g2, g3⟩ := hu
  have H3 := Lib.hid h3
  have G3 := Lib.hid g3
  have Hr := Lib.hid hr
  by_cases hlk : l.length = k.length
  · obtain ⟨n, hn⟩ : ∃ n, l.length = n := ⟨_, rfl⟩
    rw [hn] at hlk h1 hl ⊢
    rw [← hlk] at g1 hk ⊢
    have Hn := Lib.hid hn
    have Hk := Lib.hid hlk
    clear h3 g3 hr hn hlk
    go_enter Try.func15, Try.ntmps15
    go_wp2
    go_loopw [5] (fun iv wr => ∃ m q : Nat, iv = .int .i64 m ∧ m ≤ n ∧ wr = w.drewN q ∧ l.take m = k.take m) (fun iv _ => n - (intOf iv).toNat)
    case atStart => exact ⟨0, 0, rfl, by omega, rfl, by simp⟩
    case round =>
      obtain ⟨m, q, rfl, hm, rfl, ht⟩ := hrel
      have Ht := Lib.hid ht
      clear ht
      by_cases hlt : m < n
      · obtain ⟨b, off, rfl, hb, hc⟩ := H3.out (by rw [Hn.out]; omega)
        obtain ⟨b', off', rfl, hb', hc'⟩ := G3.out (by rw [← Hk.out]; omega)
        have c1 := hc m (by rw [Hn.out]; exact hlt)
        have c2 := hc' m (by rw [← Hk.out]; exact hlt)
        obtain ⟨x, hx⟩ : ∃ x, l[m]'(by rw [Hn.out]; exact hlt) = x := ⟨_, rfl⟩
        obtain ⟨y, hy⟩ : ∃ x, k[m]'(by rw [← Hk.out]; exact hlt) = x := ⟨_, rfl⟩
        rw [hx] at c1
        rw [hy] at c2
        have Hx := Lib.hid hx
        have Hy := Lib.hid hy
        have i1 : (0 : Int) ≤ m := by omega
        have i2 : (m : Int) < n := by omega
        clear hc hc' hx hy
        by_cases hxy : x = y
        · have t1 : (x != y) = false := by simp [hxy]
          have t2 : (x == y) = true := by simp [hxy]
          have hnext : l.take (m + 1) = k.take (m + 1) := by
            rw [List.take_succ_eq_append_getElem (by rw [Hn.out]; exact hlt), List.take_succ_eq_append_getElem (by rw [← Hk.out]; exact hlt), Ht.out, Hx.out, Hy.out, hxy]
          have Hnext := Lib.hid hnext
          clear hnext hxy
          go_wp2
          go_quiet (fail)
          go_wp2
          go_roundw
          case rel => exact ⟨m + 1, _, by go_num, by omega, rfl, Hnext.out⟩
          case measure => simp [intOf]; omega
        · have t1 : (x != y) = true := by simpa using hxy
          have t2 : (x == y) = false := by simpa using hxy
          have hr2 : r = false := by
            rw [← Hr.out]
            rw [decide_eq_false_iff_not]
            intro hh
            apply hxy
            rw [← Hx.out, ← Hy.out]
            subst hh
            rfl
          subst hr2
          clear hxy
          go_wp2
          go_quiet (fail)
          go_wp2
          go_ret
          exact ⟨rfl, ⟨rfl, rfl, rfl, Nat.le_refl _, fun _ _ => rfl⟩⟩
      · obtain rfl : m = n := by omega
        have hr2 := Hr.out
        have ht := Ht.out
        rw [List.take_of_length_le (by rw [Hn.out]; exact Nat.le_refl _), List.take_of_length_le (by rw [← Hk.out]; exact Nat.le_refl _)] at ht
        have : r = true := by rw [← hr2]; simpa using ht
        subst this
        clear hlt hr2 ht
        go_wp2
        go_ret
        exact ⟨rfl, ⟨rfl, rfl, rfl, Nat.le_refl _, fun _ _ => rfl⟩⟩
  · have : r = false := by
      rw [← hr, decide_eq_false_iff_not]
      intro hh; exact hlk (by rw [hh])
    subst this
    have t1 : ((l.length : Int) != k.length) = true := by simp; omega
    have t2 : ((l.length : Int) == k.length) = false := by simp; omega
    clear h3 g3 hr
    go_enter Try.func15, Try.ntmps15
    go_wp2
    go_ret
    exact ⟨rfl, Below.refl _ _⟩
end Go.Proofs.Ytmhjafpoaamkeaa
