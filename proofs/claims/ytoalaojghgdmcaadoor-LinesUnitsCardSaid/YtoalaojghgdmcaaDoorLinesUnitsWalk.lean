/- The walk of LinesUnits: what the call comes to, in any memory in which the tables are laid. -/
import Derived.Test.YtoalaojghgdmcaaDoorTied
import Derived.WalkKit
import Derived.ProofKit
import Derived.OpenShut
import Derived.ShutString
import Derived.ChangeOld
import Derived.Below
import Derived.Test.YtoalaojghgdmcaaDoorLines
import Derived.Test.YtoalaojghgdmcaaDoorURef
import Derived.Test.YtoalaojghgdmcaaDoorLMath2
namespace Go.Proofs.YtoalaojghgdmcaaDoor.linesUnits
open Go.ChangeShapes Go.WideShapes Go.ChangeAt Go.RowKit
open Go.ChangeMaps (open_string shut_string)
set_option linter.unusedVariables false

def IsRow (k : IntKind) (w : World) (a : Option Addr) (len cap : Nat) (zs : List Int) : Prop :=
  (a = none ∧ len = 0 ∧ cap = 0 ∧ zs = []) ∨
  ∃ x, a = some x ∧ len ≤ cap ∧ cap ≤ maxLen ∧ zs.length = cap ∧ (∀ i, i < zs.length → w.cell? (x.add i) = some (.int k (zs.getD i 0))) ∧ ∀ n ∈ zs, (Lit.int k n).wf = true

theorem and17 (n : Int) : bits .and .i64 n 131071 = n % 131072 := by
  have h2 : (BitVec.ofInt 64 n &&& BitVec.ofInt 64 131071).toNat = (n % 18446744073709551616).toNat % 131072 := by
    have := Nat.and_two_pow_sub_one_eq_mod (n % 18446744073709551616).toNat 17
    rw [BitVec.toNat_and, BitVec.toNat_ofInt]
    exact this
  have h3 : bits .and .i64 n 131071 = IntKind.i64.wrap (((BitVec.ofInt 64 n &&& BitVec.ofInt 64 131071).toNat : Nat) : Int) := rfl
  rw [h3, h2, IntKind.wrap_i64]
  omega
theorem zero_of (a : Option Addr) (cap : Nat) (w : World) (hT : Tabs w) :
    Calls Tryd.prog 11 #[.slice a 0 cap] w fun e w' => e = .returned (.bool true) ∧ Below w.heap.size w w' := by
  have HT := Lib.hid hT
  clear hT
  go_enter Tryd.func11, Tryd.ntmps11
  go_wp2_with fail
  refine (lalive_any _ HT.out).mono ?_
  rintro e w1 ⟨rfl, hb⟩
  go_wp2
  refine wp_loop_rounds 1 ?_
  rw [rounds_succ]
  go_wp2_with fail
  refine (at_any _ [] 0 0 _ (HT.out.keep hb) (bs_nil _) (by decide) (by decide) (.inl rfl) (0, 0) (by decide +kernel)).mono ?_
  rintro e w2 ⟨rfl, hb2⟩
  have hb3 := hb.trans (hb2.mono hb.size)
  clear hb hb2
  go_wp2
  go_ret
  exact ⟨rfl, hb3⟩
theorem long_of (a : Option Addr) (len cap : Nat) (w : World) (hT : Tabs w) (h : 60 < len) :
    Calls Tryd.prog 11 #[.slice a len cap] w fun e w' => e = .returned (.bool true) ∧ Below w.heap.size w w' := by
  have HT := Lib.hid hT
  clear hT
  go_enter Tryd.func11, Tryd.ntmps11
  go_wp2_with fail
  refine (lalive_any _ HT.out).mono ?_
  rintro e w1 ⟨rfl, hb⟩
  go_wp2
  go_ret
  exact ⟨rfl, hb⟩

set_option maxHeartbeats 1000000 in
theorem row_of (b off len cap : Nat) (zs : List Int) (w : World) (hT : Tabs w) (hl : len ≤ 60) (hz : len ≤ zs.length)
    (hc : ∀ j, j < zs.length → w.cell? ⟨b, off + j, none⟩ = some (.int .i64 (zs.getD j 0))) (hbk : b < w.heap.size) :
    Calls Tryd.prog 11 #[.slice (some ⟨b, off, none⟩) len cap] w fun e w' => e = .returned (.bool true) ∧ Below w.heap.size w w' := by
  have hq : decide (60 < (len : Int)) = false := by simp; omega
  have HT := Lib.hid hT
  have Hc := Lib.hid hc
  clear hc hT
  go_enter Tryd.func11, Tryd.ntmps11
  go_wp2_with fail
  refine (lalive_any _ HT.out).mono ?_
  rintro e w1 ⟨rfl, hb⟩
  go_wp2
  go_loopw [4, 5, 6] (fun v nv iv wr => ∃ (i : Nat) (rs : List Nat), i ≤ len ∧ rs.length = i ∧ iv = .int .i64 i ∧ nv = .int .i64 (M.tot rs : Int) ∧ (∀ r ∈ rs, M.Mid r) ∧ OwnB w.heap.size wr v (M.encs rs) ∧ Below w.heap.size w wr) (fun _ _ iv _ => len - (intOf iv).toNat)
  case atStart => exact ⟨0, [], by omega, rfl, rfl, rfl, by simp, World.ownsRow_nil _ _ _ _, hb⟩
  case round =>
    obtain ⟨i, rs, hi, hrl, rfl, rfl, hmid, ho, hbr⟩ := hrel
    have htot := M.tot_le rs
    have hel := M.encs_len rs
    have Hmid := Lib.hid hmid
    have Hrl := Lib.hid hrl
    have hrl2 : rs.length ≤ i := by omega
    clear hmid
    by_cases hlt : i < len
    · have hcell : wr.cell? ⟨b, off + i, none⟩ = some (.int .i64 (zs.getD i 0)) := by
        rw [hbr.cell (p := ⟨b, off + i, none⟩) hbk]; exact Hc.out i (by omega)
      obtain ⟨z, hzz⟩ : ∃ z, zs.getD i 0 = z := ⟨_, rfl⟩
      rw [hzz] at hcell
      obtain ⟨q, hq17⟩ : ∃ q, z % 131072 = q := ⟨_, rfl⟩
      have hand := and17 z
      rw [hq17] at hand
      have q0 : 0 ≤ q := by omega
      have q1 : q ≤ 131071 := by omega
      have hsz := hbr.size
      clear hzz hq17 hrl
      by_cases hbad : q = 10 ∨ q = 13 ∨ (55296 ≤ q ∧ q < 57344)
      · have fin : ∀ v' w', OwnB w.heap.size w' v' (M.encs (rs ++ [97])) → M.tot (rs ++ [97]) = M.tot rs + 1 ∧ ∀ r ∈ rs ++ [97], M.Mid r := by
          intro v' w' _
          refine ⟨by rw [M.tot_snoc]; rfl, fun r hr => ?_⟩
          rcases List.mem_append.1 hr with h | h
          · exact Hmid.out r h
          · simp at h; subst h; exact ⟨by decide, by decide, by decide⟩
        have Fin := Lib.hid fin
        clear fin
        rcases hbad with h | h | ⟨h, h2⟩
        all_goals
          try (have k1 : (q == 10) = true := by rw [beq_iff_eq]; exact h)
          try (have k2 : (q == 13) = true := by rw [beq_iff_eq]; exact h)
          try (have k3 : (q == 10) = false := by rw [beq_eq_false_iff_ne]; omega)
          try (have k4 : (q == 13) = false := by rw [beq_eq_false_iff_ne]; omega)
          try (have k5 : 55296 ≤ q := h)
          clear h
          go_wp2_with fail
          refine (refput_cp w.heap.size _ (M.encs rs) (M.encs (rs ++ [97])) 97 wr (by decide) ho (by omega) hsz (by rw [M.encs_snoc]; rfl)).mono ?_
          rintro e w2 ⟨v2, rfl, ho2, hb2⟩
          have hb3 := hbr.trans hb2
          obtain ⟨f1, f2⟩ := Fin.out v2 w2 ho2
          have F1 := Lib.hid f1
          have F2 := Lib.hid f2
          clear f1 f2 hbr hb2 ho
          go_wp2
          go_roundw
          case rel => exact ⟨i + 1, rs ++ [97], by omega, by simp [Hrl.out], by go_num, by rw [F1.out]; go_num, F2.out, ho2, hb3⟩
          case measure => simp [intOf]; omega
      · have hqn : ((q.toNat : Nat) : Int) = q := Int.toNat_of_nonneg q0
        have hm : M.Mid q.toNat := ⟨by rw [M.isCP_iff]; omega, by omega, by omega⟩
        have hcp : M.isCP q = true := by have := hm.1; rwa [hqn] at this
        have fin : ∀ r ∈ rs ++ [q.toNat], M.Mid r := by
          intro r hr
          rcases List.mem_append.1 hr with h | h
          · exact Hmid.out r h
          · simp at h; subst h; exact hm
        have hen : M.encs rs ++ M.enc q = M.encs (rs ++ [q.toNat]) := by rw [M.encs_snoc, hqn]
        have k1 : (q == 10) = false := by rw [beq_eq_false_iff_ne]; omega
        have k2 : (q == 13) = false := by rw [beq_eq_false_iff_ne]; omega
        have Fin := Lib.hid fin
        have Hcp := Lib.hid hcp
        have Hen := Lib.hid hen
        have hcl : q < 55296 ∨ 57344 ≤ q := by omega
        by_cases hu : 65536 ≤ q
        · have F1 : Hid (M.tot (rs ++ [q.toNat]) = M.tot rs + 2) := by
            show _ = _
            rw [M.tot_snoc]; unfold M.unitsOf; rw [if_pos (by omega)]
          clear hcl hqn hm hcp fin hen hbad
          go_wp2_with fail
          refine (refput_cp w.heap.size _ (M.encs rs) _ q wr Hcp.out ho (by omega) hsz Hen.out).mono ?_
          rintro e w2 ⟨v2, rfl, ho2, hb2⟩
          have hb3 := hbr.trans hb2
          clear hbr hb2 ho
          go_wp2
          go_roundw
          case rel => exact ⟨i + 1, rs ++ [q.toNat], by omega, by simp [Hrl.out], by go_num, by rw [F1.out]; go_num, Fin.out, ho2, hb3⟩
          case measure => simp [intOf]; omega
        · have F1 : Hid (M.tot (rs ++ [q.toNat]) = M.tot rs + 1) := by
            show _ = _
            rw [M.tot_snoc]; unfold M.unitsOf; rw [if_neg (by omega)]
          have hu2 : q < 65536 := by omega
          clear hu hqn hm hcp fin hen hbad
          rcases hcl with hcl | hcl
          all_goals
            go_wp2_with fail
            refine (refput_cp w.heap.size _ (M.encs rs) _ q wr Hcp.out ho (by omega) hsz Hen.out).mono ?_
            rintro e w2 ⟨v2, rfl, ho2, hb2⟩
            have hb3 := hbr.trans hb2
            clear hbr hb2 ho
            go_wp2
            go_roundw
            case rel => exact ⟨i + 1, rs ++ [q.toNat], by omega, by simp [Hrl.out], by go_num, by rw [F1.out]; go_num, Fin.out, ho2, hb3⟩
            case measure => simp [intOf]; omega
    · obtain rfl : i = len := by omega
      have hat := M.atP_mid rs Hmid.out
      have Hat := Lib.hid hat
      have hbs := ho.bs
      have hbs2 := hbs
      obtain ⟨ad, cp, rfl, _, _, _⟩ := hbs2
      have Hbs := Lib.hid hbs
      clear hlt hat ho hbs hrl
      go_wp2_with fail
      refine (at_any _ (M.encs rs) (M.encs rs).length _ _ (HT.out.keep hbr) Hbs.out (by omega) (Nat.le_refl _) (.inl rfl) _ Hat.out).mono ?_
      rintro e w2 ⟨rfl, hb2⟩
      have hb3 := hbr.trans (hb2.mono hbr.size)
      clear hbr hb2
      go_wp2
      go_ret
      exact ⟨by first | rfl | simp, hb3⟩

theorem walk (a0 : Option Addr) (len0 cap0 : Nat) (z0 : List Int) (w : World) (w0 : IsRow .i64 w a0 len0 cap0 z0) (hT : Tabs w) :
    Calls Tryd.prog 11 #[.slice a0 len0 cap0] w fun e w' => e = .returned (.bool true) ∧ Below w.heap.size w w' := by
  by_cases h0 : len0 = 0
  · subst h0; exact zero_of _ _ _ hT
  by_cases h60 : 60 < len0
  · exact long_of _ _ _ _ hT h60
  rcases w0 with ⟨_, h, _⟩ | ⟨x, rfl, hl, hm, hz, hc, _⟩
  · exact absurd h h0
  · obtain ⟨b, off, rfl, hc2⟩ := ints_at hc (by omega)
    exact row_of b off len0 cap0 z0 w hT (by omega) (by omega) hc2 (World.block_lt_of_cell? w _ (hc2 0 (by omega)))

end Go.Proofs.YtoalaojghgdmcaaDoor.linesUnits
