/- Texts of ours in one: ZKw. -/
import Derived.Test.YtbfnlgmhfhaglaaGreatDoorQk32
import Derived.Test.YtbfnlgmhfhaglaaGreatDoorQk29
import Derived.Test.YtbfnlgmhfhaglaaGreatDoorQk28
import Derived.Test.YtbfnlgmhfhaglaaGreatDoorQk33
import Derived.Test.YtbfnlgmhfhaglaaGreatDoorQk02
import Derived.Test.YtbfnlgmhfhaglaaGreatDoorQk15
import Derived.Deep.DeepCutAuto
import Derived.Deep.QuietTactic
import Derived.BigQuiet
/- The walk of JparseKeys. -/
namespace Go.Proofs.YtbfnlgmhfhaglaaGreatDoor
open Go.RowKit
set_option linter.unusedVariables false
set_option linter.unusedSimpArgs false

theorem kbytes_app (k l : List UInt8) : bytes k ++ bytes l = bytes (k ++ l) := by
  apply ByteArray.ext
  simp [bytes]
theorem and3_any (z : Int) : bits .and .i64 z 3 = z % 4 := by
  show IntKind.i64.wrap ((BitVec.ofInt 64 z &&& BitVec.ofInt 64 3).toNat : Int) = _
  have h : (BitVec.ofInt 64 z &&& BitVec.ofInt 64 3).toNat = (BitVec.ofInt 64 z).toNat % 4 := by
    rw [BitVec.toNat_and]
    exact Nat.and_two_pow_sub_one_eq_mod _ 2
  rw [h, BitVec.toNat_ofInt, IntKind.wrap_i64]
  omega
theorem and15_any (z : Int) : bits .and .i64 z 15 = z % 16 := by
  show IntKind.i64.wrap ((BitVec.ofInt 64 z &&& BitVec.ofInt 64 15).toNat : Int) = _
  have h : (BitVec.ofInt 64 z &&& BitVec.ofInt 64 15).toNat = (BitVec.ofInt 64 z).toNat % 16 := by
    rw [BitVec.toNat_and]
    exact Nat.and_two_pow_sub_one_eq_mod _ 4
  rw [h, BitVec.toNat_ofInt, IntKind.wrap_i64]
  omega
theorem kdec_any (a : Nat) (ha : a < 4) (w : World) (S : ByteArray) (hS : bytes [kyD a] = S) :
    Calls Tryz.prog 16 #[.int .i64 (a : Int)] w fun e w' => e = .returned (.string S) ∧ w = w' := by
  have h := refdec_any (a : Int) w (by omega) (by omega)
  have e : M.txt (a : Int) = [kyD a] := by
    have h0 : ∀ d : Fin 4, M.txt ((d.val : Nat) : Int) = [kyD d.val] := by decide +kernel
    exact h0 ⟨a, ha⟩
  rw [e, hS] at h
  exact h
theorem ky_adds (l : List UInt8) (x : Nat × Nat) (hl : l.length ≤ 1000) (A D1 D2 Z : ByteArray) (hA : bytes l = A) (h1 : bytes [kyD x.1] = D1) (h2 : bytes [kyD x.2] = D2) (hZ : bytes (l ++ kyM x) = Z) :
    ∃ S1 S2 S3 : ByteArray, (∀ W, (Op.stringOp .add A (ByteArray.mk #[34])).run Tryz.prog W = .ok (.string S1) W) ∧ (∀ W, (Op.stringOp .add S1 D1).run Tryz.prog W = .ok (.string S2) W) ∧ (∀ W, (Op.stringOp .add S2 (ByteArray.mk #[34, 58])).run Tryz.prog W = .ok (.string S3) W) ∧ (∀ W, (Op.stringOp .add S3 D2).run Tryz.prog W = .ok (.string Z) W) := by
  have add : ∀ (k m : List UInt8) (K M2 : ByteArray) (hk : bytes k = K) (hm : bytes m = M2) (hkl : k.length + m.length ≤ 2000), ∀ W, (Op.stringOp .add K M2).run Tryz.prog W = .ok (.string (bytes (k ++ m))) W := by
    intro k m K M2 hk hm hkl W
    subst hk; subst hm
    rw [← kbytes_app]
    exact run_string_add_sum (P := Tryz.prog) (w := W) _ _ (by rw [bytes_size, bytes_size]; omega)
  refine ⟨bytes (l ++ [34]), bytes (l ++ [34] ++ [kyD x.1]), bytes (l ++ [34] ++ [kyD x.1] ++ [34, 58]), add l [34] A _ hA rfl (by simp; omega), add (l ++ [34]) [kyD x.1] _ D1 rfl h1 (by simp; omega), add (l ++ [34] ++ [kyD x.1]) [34, 58] _ _ rfl rfl (by simp; omega), ?_⟩
  have := add (l ++ [34] ++ [kyD x.1] ++ [34, 58]) [kyD x.2] _ D2 rfl h2 (by simp; omega)
  rw [← hZ, show l ++ kyM x = l ++ [34] ++ [kyD x.1] ++ [34, 58] ++ [kyD x.2] by simp [kyM]]
  exact this
theorem ky_comma (l : List UInt8) (hl : l.length ≤ 1000) (A Z : ByteArray) (hA : bytes l = A) (hZ : bytes (l ++ [44]) = Z) : ∀ W, (Op.stringOp .add A (ByteArray.mk #[44])).run Tryz.prog W = .ok (.string Z) W := by
  intro W
  subst hA; subst hZ
  rw [← kbytes_app]
  exact run_string_add_sum (P := Tryz.prog) (w := W) _ _ (by rw [bytes_size, show (ByteArray.mk #[44]).size = 1 from rfl]; omega)
theorem kand1023_any (z : Int) : ∃ a : Nat, bits .and .i64 z 1023 = (a : Int) ∧ a < 1024 := by
  refine ⟨(BitVec.ofInt 64 z &&& BitVec.ofInt 64 1023).toNat, ?_, ?_⟩
  · have h : (BitVec.ofInt 64 z &&& BitVec.ofInt 64 1023).toNat ≤ 1023 := by
      rw [BitVec.toNat_and]
      exact Nat.le_trans Nat.and_le_right (by decide)
    show IntKind.i64.wrap ((BitVec.ofInt 64 z &&& BitVec.ofInt 64 1023).toNat : Int) = _
    rw [IntKind.wrap_i64]
    omega
  · rw [BitVec.toNat_and]
    exact Nat.lt_of_le_of_lt Nat.and_le_right (by decide)
theorem kyadd_end (l : List UInt8) (hl : l.length ≤ 1000) (A Z : ByteArray) (hA : bytes l = A) (hZ : bytes (l ++ [125]) = Z) : ∀ W, (Op.stringOp .add A (ByteArray.mk #[125])).run Tryz.prog W = .ok (.string Z) W := by
  intro W
  subst hA; subst hZ
  rw [← kbytes_app]
  exact run_string_add_sum (P := Tryz.prog) (w := W) _ _ (by rw [bytes_size, show (ByteArray.mk #[125]).size = 1 from rfl]; omega)
def kyO (l : List (Nat × Nat)) : List UInt8 := 123 :: kyT 0 l
theorem kyO_snoc (l : List (Nat × Nat)) (x : Nat × Nat) : kyO (l ++ [x]) = (kyO l ++ kyC l.length) ++ kyM x := by
  unfold kyO
  rw [kyT_snoc, Nat.zero_add]
  simp [List.append_assoc]
theorem kyO_len (l : List (Nat × Nat)) (h : l.length ≤ 20) : (kyO l).length ≤ 121 := by
  have := kyT_len l 0
  unfold kyO
  rw [List.length_cons]
  omega
def BH (w : World) (b : Nat) (H : List Bool) : Prop := BK 4 w b (H.map Value.bool).toArray
theorem BH.get {w : World} {b : Nat} {H : List Bool} (h : BH w b H) (j : Nat) (q : Bool) (hj : H[j]? = some q) : w.cell? ⟨b, j, none⟩ = some (.bool q) := by
  unfold BH at h
  rw [h.cell j]
  simp [hj]
theorem BH.set {w : World} {b : Nat} {H : List Bool} (h : BH w b H) (j : Nat) (q : Bool) : BH (w.setCell ⟨b, j, none⟩ (.bool q)) b (H.set j q) := by
  have := BK.setCell h j (.bool q)
  unfold BH
  rw [show ((H.set j q).map Value.bool).toArray = (H.map Value.bool).toArray.setIfInBounds j (.bool q) by simp [List.map_set]]
  exact this
theorem BH.free {w : World} {b : Nat} {H : List Bool} (h : BH w b H) (j : Nat) : w.frozen? ⟨b, j, none⟩ = false := Lib.frozen_of_heap h j
theorem BH.new (w : World) (n : Nat) : BH (w.alloc (.cells (madeCells #[.bool false] n) 4)) w.heap.size (List.replicate n false) := by
  have h := BK.new 4 w (madeCells #[.bool false] n)
  unfold BH
  rw [show ((List.replicate n false).map Value.bool).toArray = madeCells #[.bool false] n by
    apply Array.ext'
    rw [toList_madeCells_one]
    simp]
  exact h
theorem knef_0 (W : World) : (binOp .neq 34 (.agg #[.int .i64 0, .int .i64 0]) (.agg #[.int .i64 0, .int .i64 0])).run Tryz.prog W = .ok (.bool false) W := by kernel_rfl
def kyD0 (n j : Nat) (v : Value) : Nat := if (intOf v).toNat ≤ j then j - (intOf v).toNat else j + n - (intOf v).toNat
theorem kyD0_nat (n j x : Nat) : kyD0 n j (.int .i64 (x : Int)) = if x ≤ j then j - x else j + n - x := by
  unfold kyD0 intOf
  simp
set_option maxRecDepth 100000 in
set_option maxHeartbeats 2000000 in
theorem ky_early (a0 : Option Addr) (len0 cap0 : Nat) (a1 : Option Addr) (len1 cap1 : Nat) (w : World) (h : 20 < len0 ∨ (len0 ≤ 20 ∧ len1 < len0)) (hT : TabX w) :
    Calls Tryz.prog 6 #[.slice a0 len0 cap0, .slice a1 len1 cap1] w fun e w' => e = .returned (.bool true) ∧ Below w.heap.size w w' := by
  have AL := Lib.hid (alive7_any w hT)
  clear hT
  have hq : (decide ((20 : Int) < len0) = true) ∨ (decide ((20 : Int) < len0) = false ∧ decide ((len1 : Int) < len0) = true ∧ decide (len1 < len0) = true) := by
    rcases h with h | ⟨h, h2⟩
    · left; simp; omega
    · right; exact ⟨by simp; omega, by simp; omega, by simpa using h2⟩
  clear h
  rcases hq with q1 | ⟨q1, q2, q3⟩
  all_goals (
    go_enter Tryz.func6, Tryz.ntmps6
    go_wp2_with fail
    refine AL.out.mono ?_
    rintro e w1 ⟨rfl, hb⟩
    go_wp2
    go_ret
    exact ⟨rfl, hb⟩)
set_option maxRecDepth 100000 in
set_option maxHeartbeats 8000000 in
theorem jpkeys_walk (a0 : Option Addr) (len0 cap0 : Nat) (a1 : Option Addr) (len1 cap1 : Nat) (xs zs : List Int) (w : World) (hx : xs.length = len0) (b0 : Is w (.slice a0 len0 cap0) xs) (n0 : NN (.slice a0 len0 cap0)) (hz : zs.length = len1) (b1 : Is w (.slice a1 len1 cap1) zs) (n1 : NN (.slice a1 len1 cap1)) (hT : TabX w) :
    Calls Tryz.prog 6 #[.slice a0 len0 cap0, .slice a1 len1 cap1] w fun e w' => e = .returned (.bool true) ∧ Below w.heap.size w w' := by
  by_cases c1 : 20 < len0
  · exact ky_early a0 len0 cap0 a1 len1 cap1 w (.inl c1) hT
  by_cases c2 : len1 < len0
  · exact ky_early a0 len0 cap0 a1 len1 cap1 w (.inr ⟨by omega, c2⟩) hT
  have AL := Lib.hid (alive7_any w hT)
  have HT := Lib.hid hT
  have B0 := Lib.hid b0
  have B1 := Lib.hid b1
  have HX := Lib.hid hx
  have HZ := Lib.hid hz
  obtain ⟨i0, hi0, hz0, hz1, hz2⟩ := info_parts (show (Tryz.prog.info? 4).map (fun i => (i.zero, i.size, i.bytes)) = some (some (.bool false), 1, 1) by kernel_rfl)
  have hmk : ∀ u : World, (Instr.makeSlice 40 (.int .i64 (len0 : Int)) (.int .i64 (len0 : Int))).run Tryz.prog u = .ok (.slice (some ⟨u.heap.size, 0, none⟩) len0 len0) (u.alloc (.cells (madeCells #[.bool false] len0) 4)) := fun u => by
    have h := run_make (P := Tryz.prog) u 40 4 i0 _ Tryz.underlying40 hi0 hz0 .i64 .i64 (len0 : Int) (len0 : Int) (by omega) (by omega) (by rw [hz2]; omega) (by omega)
    simpa [hz1, Value.cells] using h
  have q1 : decide ((20 : Int) < len0) = false := by simp; omega
  have q2 : decide ((len1 : Int) < len0) = false := by simp; omega
  have q3 : decide (len1 < len0) = false := by simp; omega
  have k20 : len0 ≤ 20 := by omega
  have k10 : len0 ≤ len1 := by omega
  clear hT b0 b1 n0 n1 hx hz c1 c2 hi0 hz0 hz1 hz2
  go_enter Tryz.func6, Tryz.ntmps6
  go_wp2_with fail
  refine AL.out.mono ?_
  rintro e w1 ⟨rfl, hb1⟩
  have C1 := Lib.hid hb1
  have S1 := hb1.size
  have bh0 := Lib.hid (BH.new w1 len0)
  have CB := Lib.hid (hb1.alloc hb1.size (.cells (madeCells #[.bool false] len0) 4))
  clear hb1
  go_wp2
  clear hmk
  obtain ⟨hb0, ehb⟩ : ∃ x, w1.heap.size = x := ⟨_, rfl⟩
  rw [ehb] at bh0 S1 ⊢
  obtain ⟨W2, hW2⟩ : ∃ x, w1.alloc (.cells (madeCells #[.bool false] len0) 4) = x := ⟨_, rfl⟩
  rw [hW2] at bh0 CB ⊢
  clear ehb hW2
  go_loopw [6, 7, 9, 10, 11] (fun ov tv sv iv kv wr => ∃ (i : Nat) (L2 : List (Nat × Nat)) (H : List Bool), ov = .string (bytes (kyO ((xs.take i).map kyP))) ∧ tv = .string (bytes (kyO L2)) ∧ sv = .bool (decide ((xs.take i).map kyP = L2)) ∧ iv = .int .i64 (i : Int) ∧ i ≤ len0 ∧ L2.length = i ∧ KyO L2 ∧ BH wr hb0 H ∧ H.length = len0 ∧ H.count true = i ∧ Below w.heap.size w wr) (fun _ _ _ iv _ _ => len0 - (intOf iv).toNat)
  case atStart => exact ⟨0, [], List.replicate len0 false, rfl, rfl, rfl, rfl, by omega, rfl, (by intro x hx; cases hx), bh0.out, List.length_replicate, (by rw [List.count_replicate]; rfl), CB.out⟩
  case round =>
    obtain ⟨i, L2, H, rfl, rfl, rfl, rfl, hi, hl2, ho2, hbh, hHl, hHc, hb⟩ := hrel
    obtain ⟨wo, rfl⟩ : ∃ x, x = wr := ⟨_, rfl⟩
    have HB := Lib.hid hb
    have HBH := Lib.hid hbh
    have HHC := Lib.hid hHc
    have HO2 := Lib.hid ho2
    have HL2 := Lib.hid hl2
    clear hHc ho2 hl2
    by_cases hlt : i < len0
    · obtain ⟨j0, hj0⟩ := cnt_free H (by rw [HHC.out, hHl]; exact hlt)
      have hj1 : j0 < len0 := by rw [← hHl]; exact (List.getElem?_eq_some_iff.1 hj0).1
      obtain ⟨p0, pc0, hps, -, -, hpc⟩ := B0.out
      obtain ⟨bx, ox, hA, hbx, hcx⟩ := hpc (by rw [HX.out]; omega)
      obtain ⟨rfl, -, rfl⟩ : p0 = a0 ∧ True ∧ pc0 = cap0 := by simp only [Value.slice.injEq] at hps; exact ⟨hps.1.symm, trivial, hps.2.2.symm⟩
      obtain ⟨p1, pc1, hps1, -, -, hpc1⟩ := B1.out
      obtain ⟨by1, oy, hA1, hby, hcy⟩ := hpc1 (by rw [HZ.out]; omega)
      obtain ⟨rfl, -, rfl⟩ : p1 = a1 ∧ True ∧ pc1 = cap1 := by simp only [Value.slice.injEq] at hps1; exact ⟨hps1.1.symm, trivial, hps1.2.2.symm⟩
      subst hA
      subst hA1
      have hcx' : ∀ W, Below w.heap.size w W → ∀ k, k < len0 → W.cell? ⟨bx, ox + k, none⟩ = some (.int .i64 (xs.getD k 0)) := fun W hW k hk => by
        have hk' : k < xs.length := by rw [HX.out]; exact hk
        rw [hW.cell (p := ⟨bx, ox + k, none⟩) hbx, hcx k hk']; simp [hk']
      have hzi : wo.cell? ⟨by1, oy + i, none⟩ = some (.int .i64 (zs.getD i 0)) := by
        have hk' : i < zs.length := by rw [HZ.out]; omega
        rw [hb.cell (p := ⟨by1, oy + i, none⟩) hby, hcy i hk']; simp [hk']
      have HCX := Lib.hid hcx'
      obtain ⟨z, hzv⟩ : ∃ z, zs.getD i 0 = z := ⟨_, rfl⟩
      rw [hzv] at hzi
      obtain ⟨av, hA2, hA9⟩ := kand1023_any z
      have r0 : av % len0 < len0 := Nat.mod_lt _ (by omega)
      have r1 : (av : Int).tmod (len0 : Int) = ((av % len0 : Nat) : Int) := by rw [Int.tmod_eq_emod_of_nonneg (by omega)]; omega
      obtain ⟨r, hr⟩ : ∃ r, av % len0 = r := ⟨_, rfl⟩
      rw [hr] at r1 r0
      have nz : (len0 : Int) ≠ 0 := by omega
      have u0 : (0 : Int) ≤ i := by omega
      have u1 : (i : Int) < len0 := by omega
      have u2 : (i : Int) < len1 := by omega
      have HJ := Lib.hid hj0
      have HHl := Lib.hid hHl
      clear hpc hps hpc1 hps1 hcx hcy hcx' hzv hr hj0 hHl hb hbh
      go_wp2
      go_loopw [11] (fun kv wx => ∃ k : Nat, kv = .int .i64 (k : Int) ∧ k < len0 ∧ BH wx hb0 H ∧ Below w.heap.size w wx) (fun kv _ => kyD0 len0 j0 kv)
      case atStart => exact ⟨r, rfl, r0, HBH.out, HB.out⟩
      case round =>
        obtain ⟨k, rfl, hk, hbh2, hb2⟩ := hrel
        obtain ⟨q, hq⟩ : ∃ q, H[k]? = some q := ⟨H[k]'(by rw [HHl.out]; exact hk), List.getElem?_eq_getElem _⟩
        have ck := hbh2.get k q hq
        have v0 : (0 : Int) ≤ k := by omega
        have v1 : (k : Int) < len0 := by omega
        have v2 : (k : Int) ≤ 20 := by omega
        clear hzi hA2 hA9 r1 r0
        cases q with
        | true =>
          have hne : k ≠ j0 := by
            rintro rfl
            have := HJ.out
            rw [hq] at this
            cases this
          have e0 : (k + 1) % len0 < len0 := Nat.mod_lt _ (by omega)
          have e1 : ((k : Int) + 1).tmod (len0 : Int) = (((k + 1) % len0 : Nat) : Int) := by rw [Int.tmod_eq_emod_of_nonneg (by omega)]; simp
          have e2 : (k + 1 = len0 ∧ (k + 1) % len0 = 0) ∨ (k + 1 < len0 ∧ (k + 1) % len0 = k + 1) := by
            by_cases h : k + 1 = len0
            · left; exact ⟨h, by rw [h]; exact Nat.mod_self _⟩
            · right; exact ⟨by omega, Nat.mod_eq_of_lt (by omega)⟩
          obtain ⟨k2, hk2⟩ : ∃ x, (k + 1) % len0 = x := ⟨_, rfl⟩
          rw [hk2] at e0 e1 e2
          have HB2 := Lib.hid hb2
          have HBH2 := Lib.hid hbh2
          clear hk2 hb2 hbh2 hq
          have E2 := Lib.hid e2
          clear e2
          go_wp2
          go_roundw
          case rel => exact ⟨k2, rfl, e0, HBH2.out, HB2.out⟩
          case measure =>
            have := E2.out
            show kyD0 len0 j0 (.int .i64 (k2 : Int)) < kyD0 len0 j0 (.int .i64 (k : Int))
            rw [kyD0_nat, kyD0_nat]
            by_cases q1 : k2 ≤ j0
            · rw [if_pos q1]
              by_cases q2 : k ≤ j0
              · rw [if_pos q2]; omega
              · rw [if_neg q2]; omega
            · rw [if_neg q1]
              by_cases q2 : k ≤ j0
              · rw [if_pos q2]; omega
              · rw [if_neg q2]; omega
        | false =>
          have fr := hbh2.free k
          have b3 := hb2.setCell (p := ⟨hb0, k, none⟩) S1 (.bool true)
          have bh3 := hbh2.set k true
          have hc3 := cnt_set H k hq
          rw [HHC.out] at hc3
          have hl3 : (H.set k true).length = len0 := by rw [List.length_set]; exact HHl.out
          obtain ⟨H3, hH3⟩ : ∃ x, H.set k true = x := ⟨_, rfl⟩
          rw [hH3] at bh3 hc3 hl3
          obtain ⟨W3, hW3⟩ : ∃ x, wr.setCell ⟨hb0, k, none⟩ (.bool true) = x := ⟨_, rfl⟩
          rw [hW3] at b3 bh3
          have x1 := HCX.out W3 b3 i hlt
          have x2 := HCX.out W3 b3 k hk
          obtain ⟨X, hX⟩ : ∃ X, xs.getD i 0 = X := ⟨_, rfl⟩
          obtain ⟨Y, hY⟩ : ∃ X, xs.getD k 0 = X := ⟨_, rfl⟩
          rw [hX] at x1
          rw [hY] at x2
          have hL1 : (xs.take (i + 1)).map kyP = (xs.take i).map kyP ++ [kyP X] := by
            have hk' : i < xs.length := by rw [HX.out]; exact hlt
            rw [List.take_add_one, List.map_append, ← hX]
            simp [hk']
          obtain ⟨L1, hL1'⟩ : ∃ L, (xs.take i).map kyP = L := ⟨_, rfl⟩
          have l1 : L1.length = i := by
            rw [← hL1', List.length_map, List.length_take, HX.out]
            omega
          rw [hL1'] at hL1 ⊢
          have l2 := HL2.out
          have oX := kyP_lt X
          have oY := kyP_lt Y
          obtain ⟨E1, hE1⟩ : ∃ x, bytes [kyD (kyP X).1] = x := ⟨_, rfl⟩
          obtain ⟨E2, hE2⟩ : ∃ x, bytes [kyD (kyP X).2] = x := ⟨_, rfl⟩
          obtain ⟨F1, hF1⟩ : ∃ x, bytes [kyD (kyP Y).1] = x := ⟨_, rfl⟩
          obtain ⟨F2, hF2⟩ : ∃ x, bytes [kyD (kyP Y).2] = x := ⟨_, rfl⟩
          have D1 := Lib.hid (fun W => kdec_any (kyP X).1 oX.1 W E1 hE1)
          have D2 := Lib.hid (fun W => kdec_any (kyP X).2 oX.2 W E2 hE2)
          have D3 := Lib.hid (fun W => kdec_any (kyP Y).1 oY.1 W F1 hF1)
          have D4 := Lib.hid (fun W => kdec_any (kyP Y).2 oY.2 W F2 hF2)
          obtain ⟨Z1, hZ1⟩ : ∃ x, bytes (kyO (L1 ++ [kyP X])) = x := ⟨_, rfl⟩
          obtain ⟨Z2, hZ2⟩ : ∃ x, bytes (kyO (L2 ++ [kyP Y])) = x := ⟨_, rfl⟩
          have z1 : bytes ((kyO L1 ++ kyC i) ++ kyM (kyP X)) = Z1 := by rw [← hZ1, kyO_snoc, l1]
          have z2 : bytes ((kyO L2 ++ kyC i) ++ kyM (kyP Y)) = Z2 := by rw [← hZ2, kyO_snoc, l2]
          have lc : (kyC i).length ≤ 1 := by unfold kyC; split <;> simp
          have y1 := kyO_len L1 (by omega)
          have y2 := kyO_len L2 (by omega)
          have g1 : (kyO L1 ++ kyC i).length ≤ 1000 := by rw [List.length_append]; omega
          have g2 : (kyO L2 ++ kyC i).length ≤ 1000 := by rw [List.length_append]; omega
          obtain ⟨A1, hA1⟩ : ∃ x, bytes (kyO L1 ++ kyC i) = x := ⟨_, rfl⟩
          obtain ⟨A2, hA2⟩ : ∃ x, bytes (kyO L2 ++ kyC i) = x := ⟨_, rfl⟩
          obtain ⟨P1, P2, P3, f1, f2, f3, f4⟩ := ky_adds _ (kyP X) g1 A1 E1 E2 Z1 hA1 hE1 hE2 z1
          obtain ⟨Q1, Q2, Q3, f5, f6, f7, f8⟩ := ky_adds _ (kyP Y) g2 A2 F1 F2 Z2 hA2 hF1 hF2 z2
          obtain ⟨B1', hB1'⟩ : ∃ x, bytes (kyO L1) = x := ⟨_, rfl⟩
          obtain ⟨B2', hB2'⟩ : ∃ x, bytes (kyO L2) = x := ⟨_, rfl⟩
          have hi0 : (decide ((0 : Int) < i) = false ∧ (¬ 0 < i) ∧ B1' = A1 ∧ B2' = A2) ∨ (decide ((0 : Int) < i) = true ∧ 0 < i ∧ (∀ W, (Op.stringOp .add B1' (ByteArray.mk #[44])).run Tryz.prog W = .ok (.string A1) W) ∧ (∀ W, (Op.stringOp .add B2' (ByteArray.mk #[44])).run Tryz.prog W = .ok (.string A2) W)) := by
            by_cases h0 : 0 < i
            · have hc : kyC i = [44] := by unfold kyC; rw [if_pos h0]
              rw [hc] at hA1 hA2
              exact .inr ⟨by simp; omega, h0, ky_comma _ (by omega) _ _ hB1' hA1, ky_comma _ (by omega) _ _ hB2' hA2⟩
            · have hc : kyC i = [] := by unfold kyC; rw [if_neg h0]
              rw [hc, List.append_nil] at hA1 hA2
              exact .inl ⟨by simp; omega, h0, by rw [← hB1', hA1], by rw [← hB2', hA2]⟩
          have m1 : bits .and .i64 X 3 = ((kyP X).1 : Int) := by rw [and3_any]; unfold kyP; simp only; omega
          have m3 : bits .and .i64 Y 3 = ((kyP Y).1 : Int) := by rw [and3_any]; unfold kyP; simp only; omega
          have m2 : bits .and .i64 (X / 4) 3 = ((kyP X).2 : Int) := by rw [and3_any]; unfold kyP; simp only; omega
          have m4 : bits .and .i64 (Y / 4) 3 = ((kyP Y).2 : Int) := by rw [and3_any]; unfold kyP; simp only; omega
          have m5 := and15_any X
          have m6 := and15_any Y
          have sbn : decide (L1 ++ [kyP X] = L2 ++ [kyP Y]) = (decide (L1 = L2) && (X % 16 == Y % 16)) := by
            have e : (L1 ++ [kyP X] = L2 ++ [kyP Y]) ↔ (L1 = L2 ∧ X % 16 = Y % 16) := by
              rw [← kyP_eq]
              constructor
              · intro h
                have h1 := List.append_inj h (by rw [l1, l2])
                exact ⟨h1.1, by simpa using h1.2⟩
              · rintro ⟨h1, h2⟩; rw [h1, h2]
            rw [Bool.eq_iff_iff, Bool.and_eq_true, decide_eq_true_eq, decide_eq_true_eq, beq_iff_eq, e]
          obtain ⟨X6, hX6⟩ : ∃ x, X % 16 = x := ⟨_, rfl⟩
          obtain ⟨Y6, hY6⟩ : ∃ x, Y % 16 = x := ⟨_, rfl⟩
          rw [hX6] at m5 sbn
          rw [hY6] at m6 sbn
          obtain ⟨sb, hsb⟩ : ∃ b, decide (L1 = L2) = b := ⟨_, rfl⟩
          rw [hsb] at sbn
          rw [hB1', hB2', hsb]
          obtain ⟨n1, hn1⟩ : ∃ n, (kyP X).1 = n := ⟨_, rfl⟩
          obtain ⟨n2, hn2⟩ : ∃ n, (kyP X).2 = n := ⟨_, rfl⟩
          obtain ⟨n3, hn3⟩ : ∃ n, (kyP Y).1 = n := ⟨_, rfl⟩
          obtain ⟨n4, hn4⟩ : ∃ n, (kyP Y).2 = n := ⟨_, rfl⟩
          have ho3 : KyO (L2 ++ [kyP Y]) := by
            intro x hx
            rcases List.mem_append.1 hx with hx | hx
            · exact HO2.out x hx
            · rw [List.mem_singleton.1 hx]; exact oY
          obtain ⟨L3, hL3⟩ : ∃ x, L2 ++ [kyP Y] = x := ⟨_, rfl⟩
          have l3 : L3.length = i + 1 := by rw [← hL3, List.length_append, l2]; rfl
          rw [hL3] at hZ2 sbn ho3
          rw [← hL1] at hZ1 sbn
          rw [hn1] at D1 m1
          rw [hn2] at D2 m2
          rw [hn3] at D3 m3
          rw [hn4] at D4 m4
          have HW3 := Lib.hid hW3
          have REL := Lib.hid (And.intro hZ1 (And.intro hZ2 (And.intro sbn (And.intro ho3 (And.intro l3 (And.intro bh3 (And.intro hl3 (And.intro hc3 b3))))))))
          clear hq hbh2 hb2 hc3 hl3 hH3 hW3 b3 bh3 hX hY hL1 hL1' l1 l2 oX oY hE1 hE2 hF1 hF2 hZ1 hZ2 z1 z2 lc y1 y2 g1 g2 hA1 hA2 hB1' hB2' sbn hX6 hY6 hsb hn1 hn2 hn3 hn4 ho3 hL3 l3
          rcases hi0 with ⟨s1, s2, rfl, rfl⟩ | ⟨s1, s2, k1, k2⟩
          all_goals (
            go_wp2
            rw [HW3.out]
            go_quiet ((first
              | (go_at_call 16; with_reducible exact Calls.quiet_of_same ((D1.out _).mono fun _ _ h => ⟨h.1, h.2.symm⟩))
              | (go_at_call 16; with_reducible exact Calls.quiet_of_same ((D2.out _).mono fun _ _ h => ⟨h.1, h.2.symm⟩))))
            go_wp2
            obtain ⟨W4, hW4⟩ : ∃ x, W3.drewN nq = x := ⟨_, rfl⟩
            have x1b : W4.cell? ⟨bx, ox + i, none⟩ = some (.int .i64 X) := by rw [← hW4]; exact x1
            have x2b : W4.cell? ⟨bx, ox + k, none⟩ = some (.int .i64 Y) := by rw [← hW4]; exact x2
            rw [hW4]
            have HW4 := Lib.hid hW4
            clear hW4
            go_quiet ((first
              | (go_at_call 16; with_reducible exact Calls.quiet_of_same ((D3.out _).mono fun _ _ h => ⟨h.1, h.2.symm⟩))
              | (go_at_call 16; with_reducible exact Calls.quiet_of_same ((D4.out _).mono fun _ _ h => ⟨h.1, h.2.symm⟩))))
            go_wp2
            cases sb
            all_goals (
              go_quiet (fail)
              go_wp2
              go_roundw
              case rel =>
                obtain ⟨r1, r2, r3, r4, r5, r6, r7, r8, r9⟩ := REL.out
                have e4 := HW4.out
                subst e4
                exact ⟨i + 1, L3, H3, by rw [r1], by rw [r2], by rw [r3]; simp, by go_num, by omega, r5, r4, r6, r7, r8, below_drewN (below_drewN r9 _) _⟩
              case measure => simp [intOf]; omega))
    · obtain rfl : i = len0 := by omega
      have t0 : decide ((i : Int) < i) = false := by simp
      obtain ⟨Lx, hLx⟩ : ∃ L, (xs.take i).map kyP = L := ⟨_, rfl⟩
      have oLx : KyO Lx := by rw [← hLx]; exact KyO_map _
      have lLx : Lx.length = i := by rw [← hLx, List.length_map, List.length_take, HX.out]; omega
      have aLx : ∀ j (hj : j < Lx.length), Lx[j] = kyP (xs.getD j 0) := by
        intro j hj
        have hj' : j < xs.length := by rw [HX.out]; omega
        subst hLx
        simp [hj']
      rw [hLx]
      obtain ⟨h1, kd1, pv1, sm1, cs1⟩ := ky_parse Lx oLx (by omega)
      obtain ⟨h2, kd2, pv2, sm2, cs2⟩ := ky_parse L2 HO2.out (by rw [HL2.out]; exact k20)
      have two := ky_two oLx HO2.out sm1 sm2
      obtain ⟨kl1, kat⟩ := ky_at sm1
      rw [lLx] at kl1
      have atk : ∀ j, j < i → ∃ ha ka hb kb, kd1.at? (2 * j) = some (ha, ka) ∧ ha.tx = [((48 + (kyP (xs.getD j 0)).1 : Nat) : Int)] ∧ kd1.at? (2 * j + 1) = some (hb, kb) ∧ hb.k = 4 := by
        intro j hj
        obtain ⟨ha, ka, hb, kb, x1, x2, x3, x4⟩ := kat j (by rw [lLx]; exact hj)
        rw [aLx j (by rw [lLx]; exact hj)] at x2
        exact ⟨ha, ka, hb, kb, x1, x2, x3, x4⟩
      have s1 := kyO_len Lx (by omega)
      have s2 := kyO_len L2 (by rw [HL2.out]; exact k20)
      obtain ⟨A1, hA1⟩ : ∃ x, bytes (kyO Lx) = x := ⟨_, rfl⟩
      obtain ⟨A2, hA2⟩ : ∃ x, bytes (kyO L2) = x := ⟨_, rfl⟩
      obtain ⟨Z1, hZ1⟩ : ∃ x, bytes (kyS Lx) = x := ⟨_, rfl⟩
      obtain ⟨Z2, hZ2⟩ : ∃ x, bytes (kyS L2) = x := ⟨_, rfl⟩
      have f1 : ∀ W, (Op.stringOp .add A1 (ByteArray.mk #[125])).run Tryz.prog W = .ok (.string Z1) W := kyadd_end (kyO Lx) (by omega) A1 Z1 hA1 hZ1
      have f2 : ∀ W, (Op.stringOp .add A2 (ByteArray.mk #[125])).run Tryz.prog W = .ok (.string Z2) W := kyadd_end (kyO L2) (by omega) A2 Z2 hA2 hZ2
      have z1 : (kyS Lx).length ≤ 1000 := by unfold kyS; simp only [List.length_append, List.length_cons, List.length_nil]; unfold kyO at s1; simp only [List.length_cons] at s1; omega
      have z2 : (kyS L2).length ≤ 1000 := by unfold kyS; simp only [List.length_append, List.length_cons, List.length_nil]; unfold kyO at s2; simp only [List.length_cons] at s2; omega
      have y1 : Z1.size ≤ 1000 := by rw [← hZ1, bytes_size]; exact z1
      have y2 : Z2.size ≤ 1000 := by rw [← hZ2, bytes_size]; exact z2
      have v1 : Z1.data.toList = kyS Lx := by rw [← hZ1]; exact bytes_list _
      have v2 : Z2.data.toList = kyS L2 := by rw [← hZ2]; exact bytes_list _
      obtain ⟨sb, hsb⟩ : ∃ b, decide (Lx = L2) = b := ⟨_, rfl⟩
      rw [hsb] at two
      rw [hA1, hA2, hsb]
      -- the first text
      have cv := bw_conv wo Z1
      have hbs := bw_bs wo Z1 (by omega)
      rw [v1] at hbs
      have bwb := bw_below wo Z1
      obtain ⟨cc, hcc⟩ : ∃ x, grownCap wo Z1.size 0 5 = x := ⟨_, rfl⟩
      rw [hcc] at cv hbs
      obtain ⟨WX, hWX⟩ : ∃ x, Lib.bytesWorld wo 5 Z1 = x := ⟨_, rfl⟩
      rw [hWX] at cv hbs bwb
      have bX := hb.trans (bwb.mono hb.size)
      have PA0 := parse_any _ (kyS Lx) 5 WX (HT.out.keep bX) hbs (by omega)
      rw [pv1] at PA0
      unfold ParQ at PA0
      dsimp only at PA0
      have PA := Lib.hid PA0
      have BX := Lib.hid bX
      have ATK := Lib.hid atk
      have TWO := Lib.hid two
      have PV2 := Lib.hid pv2
      have KL1 := Lib.hid kl1
      have Z2' := Lib.hid z2
      have V2 := Lib.hid v2
      have CS := Lib.hid (And.intro cs1 cs2)
      clear hLx oLx lLx aLx pv1 sm1 cs1 pv2 sm2 cs2 two kl1 kat atk s1 s2 hA1 hA2 hZ1 hZ2 z1 z2 v1 v2 hsb hbs bwb hcc hWX bX PA0 hb hbh hHl HBH HHC HO2 HL2 hlt bh0
      go_wp2_with fail
      refine PA.out.mono ?_
      rintro e w2 ⟨tv, v, mv, rfl, hd, hv, hb2⟩
      obtain ⟨p2, hp2⟩ : ∃ x, w2.heap.size + 1 = x := ⟨_, rfl⟩
      obtain ⟨k1, k2, k3, k4, bb⟩ := two_laid w2 (vv h1 tv v mv) (.int .i64 0) (.int .i64 0) p2 hp2
      have C2 := BX.out.trans (hb2.mono BX.out.size)
      have B4 := Lib.hid (C2.trans (bb.mono C2.size))
      have t3 := hd.t.one
      have t4 := hv.one
      have t5 := hd.m.one
      have hdS0 : HdS w2 h1 tv mv := hd.mono (fun b hb => hb.2)
      have hvS0 : VoS w2 v kd1 := hv.mono (fun b hb => hb.2)
      have hdS := hdS0.below bb
      have hvS := hvS0.below bb
      obtain ⟨W4, hW4⟩ : ∃ x, (((w2.alloc (.cells zv 27)).alloc (.cells #[.int .i64 0, .int .i64 0] 34)).setRow w2.heap.size (vv h1 tv v mv)).setRow p2 #[.int .i64 0, .int .i64 0] = x := ⟨_, rfl⟩
      rw [hW4] at k3 k4 B4 hdS hvS
      have HW4 := Lib.hid (show (((w2.alloc (.cells #[.int .i64 0, .slice none 0 0, .bool false, .string ⟨#[]⟩, .string ⟨#[]⟩, .slice none 0 0, .int .i64 0, .int .i64 0, .slice none 0 0] 27)).alloc (.cells #[.int .i64 0, .int .i64 0] 34)).setRow w2.heap.size (vv h1 tv v mv)).setRow p2 #[.int .i64 0, .int .i64 0] = W4 from hW4)
      have HD1 := Lib.hid hdS
      have HV1 := Lib.hid hvS
      have K3 := Lib.hid k3
      have K4 := Lib.hid k4
      clear hW4 bb hb2 hd hv C2 hdS hvS hdS0 hvS0 k3 k4 cv
      go_upto_region 22 with (first | (refine wpl_stV rfl _ _ rfl w2.heap.size zv h1 tv v mv rfl rfl k1 rfl t3 t4 t5 ?_) | (refine wpl_stK infoF1 rfl _ _ rfl p2 _ #[.int .i64 0, .int .i64 0] rfl rfl k2 rfl rfl (by simp [Value.oneCell']) ?_))
      rw [HW4.out]
      obtain ⟨qv1, hq1⟩ : ∃ x, w2.heap.size = x := ⟨_, rfl⟩
      rw [hq1] at K3 ⊢
      clear k1 k2 t3 t4 t5 HW4 hp2 hq1
      -- the second text
      have cv := bw_conv W4 Z2
      have hbs := bw_bs W4 Z2 (by omega)
      rw [V2.out] at hbs
      have bwb := bw_below W4 Z2
      obtain ⟨cc2, hcc⟩ : ∃ x, grownCap W4 Z2.size 0 5 = x := ⟨_, rfl⟩
      rw [hcc] at cv hbs
      obtain ⟨WY, hWY⟩ : ∃ x, Lib.bytesWorld W4 5 Z2 = x := ⟨_, rfl⟩
      rw [hWY] at cv hbs bwb
      have bY := B4.out.trans (bwb.mono B4.out.size)
      have PB0 := parse_any _ (kyS L2) 5 WY (HT.out.keep bY) hbs (by have := Z2'.out; omega)
      rw [PV2.out] at PB0
      unfold ParQ at PB0
      dsimp only at PB0
      have PB := Lib.hid PB0
      have BY := Lib.hid bwb
      clear hbs bwb hcc hWY bY PB0
      go_wp2_with fail
      refine PB.out.mono ?_
      rintro e w5 ⟨tv2, v2, mv2, rfl, hd, hv, hb5⟩
      obtain ⟨p5, hp5⟩ : ∃ x, w5.heap.size + 1 = x := ⟨_, rfl⟩
      obtain ⟨k1, k2, k3, k4, bb⟩ := two_laid w5 (vv h2 tv2 v2 mv2) (.int .i64 0) (.int .i64 0) p5 hp5
      have C5 := BY.out.trans (hb5.mono BY.out.size)
      have C6 := C5.trans (bb.mono C5.size)
      have B6 := B4.out.trans (C6.mono B4.out.size)
      have t3 := hd.t.one
      have t4 := hv.one
      have t5 := hd.m.one
      have hdS0 : HdS w5 h2 tv2 mv2 := hd.mono (fun b hb => hb.2)
      have hvS0 : VoS w5 v2 kd2 := hv.mono (fun b hb => hb.2)
      have hdS := hdS0.below bb
      have hvS := hvS0.below bb
      have hd1 := HD1.out.below C6
      have hv1 := HV1.out.below C6
      have K3' := K3.out.keep C6
      have K4' := K4.out.keep C6
      obtain ⟨W6, hW6⟩ : ∃ x, (((w5.alloc (.cells zv 27)).alloc (.cells #[.int .i64 0, .int .i64 0] 34)).setRow w5.heap.size (vv h2 tv2 v2 mv2)).setRow p5 #[.int .i64 0, .int .i64 0] = x := ⟨_, rfl⟩
      rw [hW6] at k3 k4 B6 hdS hvS hd1 hv1 K3' K4'
      have HW6 := Lib.hid (show (((w5.alloc (.cells #[.int .i64 0, .slice none 0 0, .bool false, .string ⟨#[]⟩, .string ⟨#[]⟩, .slice none 0 0, .int .i64 0, .int .i64 0, .slice none 0 0] 27)).alloc (.cells #[.int .i64 0, .int .i64 0] 34)).setRow w5.heap.size (vv h2 tv2 v2 mv2)).setRow p5 #[.int .i64 0, .int .i64 0] = W6 from hW6)
      have e0 : W6.cell? ⟨p2, 0, none⟩ = some (.int .i64 0) := K4'.cell 0
      have e1 : W6.cell? ⟨p2, 1, none⟩ = some (.int .i64 0) := K4'.cell 1
      have g0 : W6.cell? ⟨p5, 0, none⟩ = some (.int .i64 0) := k4.cell 0
      have g1 : W6.cell? ⟨p5, 1, none⟩ = some (.int .i64 0) := k4.cell 1
      have HD1' := Lib.hid hd1
      have HV1' := Lib.hid hv1
      have HD2 := Lib.hid hdS
      have HV2 := Lib.hid hvS
      have VX := Lib.hid (show VB W6 qv1 h1 tv v mv from K3')
      have VY := Lib.hid (show VB W6 w5.heap.size h2 tv2 v2 mv2 from k3)
      have BB6 := Lib.hid B6
      clear hW6 bb hb5 hd hv C5 C6 B6 hdS hvS hdS0 hvS0 hd1 hv1 K3' K4' k3 k4 cv HD1 HV1 K3 K4
      go_upto_region 23 with (first | (refine wpl_stV rfl _ _ rfl w5.heap.size zv h2 tv2 v2 mv2 rfl rfl k1 rfl t3 t4 t5 ?_) | (refine wpl_stK infoF1 rfl _ _ rfl p5 _ #[.int .i64 0, .int .i64 0] rfl rfl k2 rfl rfl (by simp [Value.oneCell']) ?_))
      rw [HW6.out]
      obtain ⟨q5, hq5⟩ : ∃ x, w5.heap.size = x := ⟨_, rfl⟩
      rw [hq5] at VY ⊢
      clear k1 k2 t3 t4 t5 HW6 hp5 hq5
      obtain ⟨va, vc, hvs⟩ := HV1'.out.slice
      have g5 := VX.out.cells.2.2.2.2.2.1
      rw [hvs, KL1.out] at g5
      have nf := knef_0
      obtain ⟨I2, hI2⟩ : ∃ x, 2 * i = x := ⟨_, rfl⟩
      rw [hI2] at g5
      have nn : ((I2 : Int) != 2 * (i : Int)) = false := by
        have : (I2 : Int) = 2 * (i : Int) := by omega
        rw [this]; simp
      have HI2 := Lib.hid hI2
      have HVS := Lib.hid hvs
      clear hI2 hvs
      go_wp2
      clear e0 e1 g0 g1 g5 nf nn f1 f2
      go_loopw [16] (fun jv wr => ∃ j : Nat, jv = .int .i64 (j : Int) ∧ j ≤ i ∧ Below W6.heap.size W6 wr) (fun jv _ => i - (intOf jv).toNat)
      case atStart => exact ⟨0, rfl, by omega, Below.refl _ _⟩
      case round =>
        obtain ⟨j, rfl, hj, hb6⟩ := hrel
        have hv6 := HV1'.out.below hb6
        have vx6 := VX.out.keep hb6
        have HB6 := Lib.hid hb6
        by_cases hlt : j < i
        · obtain ⟨ha, ka, hbk, kb, x1, x2, x3, x4⟩ := ATK.out j hlt
          obtain ⟨p0, pc0, hps, -, -, hpc⟩ := B0.out
          obtain ⟨bx, ox, hA, hbx, hcx⟩ := hpc (by rw [HX.out]; omega)
          obtain ⟨rfl, -, rfl⟩ : p0 = a0 ∧ True ∧ pc0 = cap0 := by simp only [Value.slice.injEq] at hps; exact ⟨hps.1.symm, trivial, hps.2.2.symm⟩
          subst hA
          have hj' : j < xs.length := by rw [HX.out]; exact hlt
          have bw6 := BB6.out.trans (hb6.mono BB6.out.size)
          have k0 : wr.cell? ⟨bx, ox + j, none⟩ = some (.int .i64 (xs.getD j 0)) := by
            rw [bw6.cell (p := ⟨bx, ox + j, none⟩) hbx, hcx j hj']; simp [hj']
          obtain ⟨a, c, e, -, -, -, hq⟩ := hv6
          rw [HVS.out] at e
          simp only [Value.slice.injEq] at e
          obtain ⟨rfl, -, rfl⟩ := e
          obtain ⟨ib, ioff, hva, hib, hat⟩ := hq (by rw [KL1.out]; omega)
          subst hva
          obtain ⟨t1, m1, v1, hd1, hr1, -⟩ := voAt_get kd1 ib ioff (2 * j) ha ka hat x1
          obtain ⟨t2, m2, v2', hd2, hr2, -⟩ := voAt_get kd1 ib ioff (2 * j + 1) hbk kb hat x3
          have c1 := hr1 1 _ rfl
          have c2 := hr2 0 _ rfl
          rw [Nat.add_zero, x4] at c2
          obtain ⟨ta, tc, rfl, -, -, -, ht⟩ := hd1.t
          obtain ⟨tb, toff, hta, htb, hc⟩ := ht (by rw [x2]; simp)
          subst hta
          have c3 := hc 0 (by rw [x2]; simp)
          have ex : ha.tx[0]'(by rw [x2]; simp) = (48 : Int) + ((kyP (xs.getD j 0)).1 : Int) := by
            simp only [x2, List.getElem_cons_zero]
            omega
          rw [ex, Nat.add_zero] at c3
          have lx : ha.tx.length = 1 := by rw [x2]; rfl
          rw [lx] at c1
          have g5 := vx6.cells.2.2.2.2.2.1
          rw [HVS.out, KL1.out, HI2.out] at g5
          obtain ⟨X, hX⟩ : ∃ X, xs.getD j 0 = X := ⟨_, rfl⟩
          rw [hX] at k0 c3
          have m3 : bits .and .i64 X 3 = ((kyP X).1 : Int) := by rw [and3_any]; unfold kyP; simp only; omega
          have oX := (kyP_lt X).1
          obtain ⟨n1, hn1⟩ : ∃ n, (kyP X).1 = n := ⟨_, rfl⟩
          rw [hn1] at c3 m3 oX
          have jI := HI2.out
          obtain ⟨j2, hj2⟩ : ∃ x, 2 * j = x := ⟨_, rfl⟩
          have e2 : (2 : Int) * (j : Int) = (j2 : Int) := by omega
          have d0 : (0 : Int) ≤ j2 := by omega
          have d1 : (j2 : Int) < I2 := by omega
          have d2 : (0 : Int) ≤ (j2 : Int) + 1 := by omega
          have d3 : (j2 : Int) + 1 < I2 := by omega
          have d4 : (0 : Int) ≤ j := by omega
          have d5 : (j : Int) < i := by omega
          have d6 : (j : Int) ≤ 20 := by omega
          have d7 : (j2 : Int) ≤ 40 := by omega
          have d8 : (n1 : Int) < 4 := by omega
          rw [hj2] at c1 c2
          clear hps hpc hcx hq hat hr1 hr2 hd1 hd2 ht hc ex lx vx6 hX hn1 jI hj2 x1 x2 x3 x4 hb6 bw6 hj' oX
          go_wp2
          go_quiet (fail)
          go_wp2
          go_roundw
          case rel => exact ⟨j + 1, by go_num, by omega, below_drewN HB6.out _⟩
          case measure => simp [intOf]; omega
        · obtain rfl : j = i := by omega
          have t9 : decide ((j : Int) < j) = false := by simp
          have hd6 := HD1'.out.below hb6
          have hx2 := HD2.out.below hb6
          have hy2 := HV2.out.below hb6
          have vy6 := VY.out.keep hb6
          have SA0 := jsame_any h1 kd1 h2 kd2 wr tv v mv tv2 v2 mv2 (by have := CS.out.1; omega) (by have := CS.out.2; omega) hd6 hv6 hx2 hy2
          rw [TWO.out] at SA0
          have SA := Lib.hid SA0
          have VX6 := Lib.hid vx6
          have VY6 := Lib.hid vy6
          clear SA0 hd6 hx2 hy2 hv6 vx6 vy6 hb6 hlt
          go_wp2_with (first | (refine wpl_ldV rfl _ rfl qv1 0 h1 tv v mv rfl (VB.range VX6.out) ?_) | (refine wpl_ldV rfl _ rfl q5 0 h2 tv2 v2 mv2 rfl (VB.range VY6.out) ?_) | fail)
          refine SA.out.mono ?_
          rintro e w9 ⟨rfl, hb9⟩
          have b9 := BB6.out.trans ((HB6.out.trans (hb9.mono HB6.out.size)).mono BB6.out.size)
          cases sb
          all_goals (
            go_wp2
            go_ret
            exact ⟨rfl, b9⟩)
end Go.Proofs.YtbfnlgmhfhaglaaGreatDoor
