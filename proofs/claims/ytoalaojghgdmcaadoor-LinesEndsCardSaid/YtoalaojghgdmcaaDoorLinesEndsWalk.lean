/- The walk of LinesEnds: what the call comes to, in any memory in which the tables are laid. -/
import Derived.Test.YtoalaojghgdmcaaDoorTied
import Derived.WalkKit
import Derived.ProofKit
import Derived.OpenShut
import Derived.ShutString
import Derived.ChangeOld
import Derived.Below
import Derived.Test.YtoalaojghgdmcaaDoorLines
import Derived.Test.YtoalaojghgdmcaaDoorURef
import Derived.Test.YtoalaojghgdmcaaDoorUAppS
import Derived.Test.YtoalaojghgdmcaaDoorLMath4
namespace Go.Proofs.YtoalaojghgdmcaaDoor.linesEnds
open Go.ChangeShapes Go.WideShapes Go.ChangeAt Go.RowKit
open Go.ChangeMaps (open_string shut_string)
set_option linter.unusedVariables false

def IsRow (k : IntKind) (w : World) (a : Option Addr) (len cap : Nat) (zs : List Int) : Prop :=
  (a = none ∧ len = 0 ∧ cap = 0 ∧ zs = []) ∨
  ∃ x, a = some x ∧ len ≤ cap ∧ cap ≤ maxLen ∧ zs.length = cap ∧ (∀ i, i < zs.length → w.cell? (x.add i) = some (.int k (zs.getD i 0))) ∧ ∀ n ∈ zs, (Lit.int k n).wf = true

theorem and1023 (n : Int) : bits .and .i64 n 1023 = n % 1024 := by
  have h2 : (BitVec.ofInt 64 n &&& BitVec.ofInt 64 1023).toNat = (n % 18446744073709551616).toNat % 1024 := by
    have := Nat.and_two_pow_sub_one_eq_mod (n % 18446744073709551616).toNat 10
    rw [BitVec.toNat_and, BitVec.toNat_ofInt]
    exact this
  have h3 : bits .and .i64 n 1023 = IntKind.i64.wrap (((BitVec.ofInt 64 n &&& BitVec.ofInt 64 1023).toNat : Nat) : Int) := rfl
  rw [h3, h2, IntKind.wrap_i64]
  omega
theorem own_keep {B : Nat} {w w' : World} {v : Value} {l : List UInt8} (h : OwnB B w v l) (hb : Below w.heap.size w w') : OwnB B w' v l := by
  have hlt := World.ownsRow.lt h
  obtain ⟨h1, h2 | ⟨g, cap, cur, rfl, hB, hh, h3⟩⟩ := h
  · exact ⟨h1, .inl h2⟩
  · exact ⟨h1, .inr ⟨g, cap, cur, rfl, hB, by rw [hb.block g (hlt g rfl).2]; exact hh, h3⟩⟩
set_option maxRecDepth 100000 in
theorem out_of (a0 : Option Addr) (len0 cap0 : Nat) (i : Int) (w : World) (hT : Tabs w) (h : 30 < len0 ∨ (len0 ≤ 30 ∧ i < 0) ∨ (len0 ≤ 30 ∧ 0 ≤ i ∧ 20 < i)) :
    Calls Tryd.prog 10 #[.slice a0 len0 cap0, .int .i64 i] w fun e w' => e = .returned (.bool true) ∧ Below w.heap.size w w' := by
  have HT := Lib.hid hT
  clear hT
  rcases h with h | ⟨h1, h2⟩ | ⟨h1, h2, h3⟩
  all_goals
    go_enter Tryd.func10, Tryd.ntmps10
    go_wp2_with fail
    refine (lalive_any _ HT.out).mono ?_
    rintro e w1 ⟨rfl, hb⟩
    go_wp2
    go_ret
    exact ⟨rfl, hb⟩

theorem own_form {B : Nat} {w : World} {v : Value} {l : List UInt8} (h : OwnB B w v l) (h0 : 0 < l.length) : ∃ g cp, v = .slice (some ⟨g, 0, none⟩) l.length cp ∧ l.length ≤ cp := by
  obtain ⟨_, ⟨_, h1⟩ | ⟨g, cap, cur, rfl, _, _, h1, _⟩⟩ := h
  · omega
  · exact ⟨g, cap, rfl, h1⟩
set_option maxRecDepth 100000 in
set_option maxHeartbeats 8000000 in
theorem row_of (A : Option Addr) (len cap W : Nat) (zs : List Int) (w : World) (hT : Tabs w) (hl : len ≤ 30) (hW : W ≤ 20)
    (hc : 0 < len → ∃ b off, A = some ⟨b, off, none⟩ ∧ b < w.heap.size ∧ ∀ j, j < len → w.cell? ⟨b, off + j, none⟩ = some (.int .i64 (zs.getD j 0))) :
    Calls Tryd.prog 10 #[.slice A len cap, .int .i64 (W : Int)] w fun e w' => e = .returned (.bool true) ∧ Below w.heap.size w w' := by
  have q1 : decide (30 < (len : Int)) = false := by simp; omega
  have q2 : decide ((W : Int) < 0) = false := by simp
  have q3 : decide (20 < (W : Int)) = false := by simp; omega
  have q4 : decide (30 < len) = false := by simp; omega
  have q5 : decide (20 < W) = false := by simp; omega
  have HT := Lib.hid hT
  have Hc := Lib.hid hc
  clear hc hT
  go_enter Tryd.func10, Tryd.ntmps10
  go_wp2_with fail
  refine (lalive_any _ HT.out).mono ?_
  rintro e w1 ⟨rfl, hb⟩
  obtain ⟨V, hV⟩ : ∃ V, w1.alloc (.cells #[.string ⟨#[10]⟩, .string ⟨#[13]⟩, .string ⟨#[13, 10]⟩] 9) = V := ⟨_, rfl⟩
  have hbV : Below w.heap.size w V := by rw [← hV]; exact hb.alloc hb.size _
  have hVs : w.heap.size ≤ V.heap.size := hbV.size
  have hVm : w1.heap.size < V.heap.size := by rw [← hV]; simp
  have c0 : V.cell? ⟨w1.heap.size, 0, none⟩ = some (.string ⟨#[10]⟩) := by rw [← hV, World.cell?_alloc_at _ _ _ _ rfl]; rfl
  have c1 : V.cell? ⟨w1.heap.size, 1, none⟩ = some (.string ⟨#[13]⟩) := by rw [← hV, World.cell?_alloc_at _ _ _ _ rfl]; rfl
  have c2 : V.cell? ⟨w1.heap.size, 2, none⟩ = some (.string ⟨#[13, 10]⟩) := by rw [← hV, World.cell?_alloc_at _ _ _ _ rfl]; rfl
  have HV := Lib.hid hV
  have C0 := Lib.hid c0
  have C1 := Lib.hid c1
  have C2 := Lib.hid c2
  clear hV c0 c1 c2 hb
  go_wp2
  rw [HV.out]
  go_loopw [7, 8] (fun v iv wr => ∃ (i : Nat) (ms : List Nat), i ≤ len ∧ ms.length = i ∧ iv = .int .i64 i ∧ M.Apart W ms ∧ OwnB V.heap.size wr v (M.textOf W ms) ∧ Below V.heap.size V wr) (fun _ iv _ => len - (intOf iv).toNat)
  case atStart => exact ⟨0, [], by omega, rfl, rfl, fun i hi => by simp at hi, World.ownsRow_nil _ _ _ _, Below.refl _ _⟩
  case round =>
    obtain ⟨i, ms, hi, hml, rfl, hap, ho, hbr⟩ := hrel
    have htl : (M.textOf W ms).length ≤ 660 := by
      have h1 := M.text_len W ms
      have h2 : (W + 2) * ms.length ≤ 22 * 30 := Nat.mul_le_mul (by omega) (by omega)
      omega
    have Hap := Lib.hid hap
    have Hml := Lib.hid hml
    have Ho0 := Lib.hid ho
    clear hap ho hml
    by_cases hlt : i < len
    · obtain ⟨wo, rfl⟩ : ∃ wo : World, wo = wr := ⟨_, rfl⟩
      go_wp2
      go_loopw [7, 9] (fun v kv wr2 => ∃ k : Nat, k ≤ W ∧ kv = .int .i64 k ∧ OwnB V.heap.size wr2 v (M.textOf W ms ++ M.xs k) ∧ Below V.heap.size V wr2) (fun _ kv _ => W - (intOf kv).toNat)
      case atStart => exact ⟨0, by omega, rfl, by simpa [M.xs] using Ho0.out, hbr⟩
      case round =>
        clear hbr
        obtain ⟨k, hk, rfl, ho, hbk⟩ := hrel
        have hs2 := hbk.size
        have Ho := Lib.hid ho
        clear ho
        by_cases hkW : k < W
        · have hal := fun o => World.ownsRow.alloc Ho.out o
          have hbs := bs_cells_new wr [120] [.int .u8 120] 1 rfl rfl (by decide)
          have hba := fun o => hbk.alloc hs2 o
          have Hal := Lib.hid hal
          have Hbs := Lib.hid hbs
          have Hba := Lib.hid hba
          clear hal hbs hba hbk
          go_wp2_with (at_builtin; refine wpl_append rfl _ _ rfl V.heap.size _ (.slice (some ⟨wr.heap.size, 0, none⟩) 1 1) (M.textOf W ms ++ M.xs k) [120] (M.textOf W ms ++ M.xs (k + 1)) rfl (Hal.out _) rfl Hbs.out (fun n c h => by simp at h) (by simp only [List.length_append, List.length_cons, List.length_nil, M.xs_len]; omega) (by simp only [World.alloc, Array.size_push]; omega) (by rw [M.xs_snoc, List.append_assoc]) ?_)
          intro v3 w3 ho3 hb3
          have hb4 := (Hba.out _).trans hb3
          clear hb3
          go_wp2
          go_roundw
          case rel => exact ⟨k + 1, by omega, by go_num, ho3, hb4⟩
          case measure => simp [intOf]; omega
        · obtain rfl : W = k := by omega
          clear hkW
          obtain ⟨b, off, rfl, hbk0, hcs⟩ := Hc.out (by omega)
          have hcell : wr.cell? ⟨b, off + i, none⟩ = some (.int .i64 (zs.getD i 0)) := by
            rw [hbk.cell (p := ⟨b, off + i, none⟩) (Nat.lt_of_lt_of_le hbk0 hVs), hbV.cell (p := ⟨b, off + i, none⟩) hbk0]; exact hcs i hlt
          have m0 : wr.cell? ⟨w1.heap.size, 0, none⟩ = some (.string ⟨#[10]⟩) := by rw [hbk.cell (p := ⟨w1.heap.size, 0, none⟩) hVm]; exact C0.out
          have m1 : wr.cell? ⟨w1.heap.size, 1, none⟩ = some (.string ⟨#[13]⟩) := by rw [hbk.cell (p := ⟨w1.heap.size, 1, none⟩) hVm]; exact C1.out
          have m2 : wr.cell? ⟨w1.heap.size, 2, none⟩ = some (.string ⟨#[13, 10]⟩) := by rw [hbk.cell (p := ⟨w1.heap.size, 2, none⟩) hVm]; exact C2.out
          have M0 := Lib.hid m0
          have M1 := Lib.hid m1
          have M2 := Lib.hid m2
          obtain ⟨z, hzz⟩ : ∃ z, zs.getD i 0 = z := ⟨_, rfl⟩
          rw [hzz] at hcell
          obtain ⟨q, hq⟩ : ∃ q, z % 1024 = q := ⟨_, rfl⟩
          have hand := and1023 z
          rw [hq] at hand
          have q0 : 0 ≤ q := by omega
          have q6 : q ≤ 1023 := by omega
          clear hcs hzz hq m0 m1 m2
          by_cases hW0 : W = 0
          · have e1 : ((W : Int) == 0) = true := by rw [beq_iff_eq]; omega
            by_cases hi0 : i = 0
            · have hi1 : i < 1 := by omega
              have hcases : q % 3 = 0 ∨ q % 3 = 1 ∨ q % 3 = 2 := by omega
              clear hW0 hi0
              rcases hcases with hj | hj | hj
              · have mk := M0.out
                go_wp2_with (at_builtin; refine wpl_append_str rfl _ _ rfl V.heap.size _ (M.textOf W ms ++ M.xs W) [10] (M.textOf W (ms ++ [0])) rfl Ho.out rfl (by simp only [List.length_append, List.length_cons, List.length_nil, M.xs_len]; omega) hs2 (by rw [M.text_snoc]; rfl) ?_)
                intro v4 w4 ho4 hb4
                have hb5 := hbk.trans hb4
                have hbs4 := ho4.bs
                have hbs5 := hbs4
                obtain ⟨a4, c4, rfl, _, _, _⟩ := hbs5
                have Ho4 := Lib.hid ho4
                have Hbs4 := Lib.hid hbs4
                have hap := M.apart_snoc W ms 0 Hap.out (fun _ h _ => by have := Hml.out; omega)
                have hat := M.atP_text W (ms ++ [0]) 0 hap (.inl rfl)
                simp only [M.xs, List.replicate_zero, List.append_nil, List.length_append, List.length_singleton, Hml.out] at hat
                have hln : (M.textOf W (ms ++ [0])).length ≤ 1048576 := by rw [M.text_snoc]; simp only [List.length_append, M.xs_len]; have := M.mark_len 0; omega
                have Hap2 := Lib.hid hap
                have Hat := Lib.hid hat
                clear hb4 hbk ho4 hbs4 hap hat
                go_wp2_with fail
                refine (at_any _ (M.textOf W (ms ++ [0])) (M.textOf W (ms ++ [0])).length _ _ (HT.out.keep (hbV.trans (hb5.mono hVs))) Hbs4.out hln (Nat.le_refl _) (.inl rfl) (i + 1, 0) Hat.out).mono ?_
                rintro e w5 ⟨rfl, hb6⟩
                have hb7 := hb5.trans (hb6.mono hb5.size)
                have ho5 := own_keep Ho4.out hb6
                clear hb5 hb6
                go_wp2
                go_roundw
                case rel => exact ⟨i + 1, ms ++ [0], by omega, by simp [Hml.out], by go_num, Hap2.out, ho5, hb7⟩
                case measure => simp [intOf]; omega
              · have mk := M1.out
                go_wp2_with (at_builtin; refine wpl_append_str rfl _ _ rfl V.heap.size _ (M.textOf W ms ++ M.xs W) [13] (M.textOf W (ms ++ [1])) rfl Ho.out rfl (by simp only [List.length_append, List.length_cons, List.length_nil, M.xs_len]; omega) hs2 (by rw [M.text_snoc]; rfl) ?_)
                intro v4 w4 ho4 hb4
                have hb5 := hbk.trans hb4
                have hbs4 := ho4.bs
                have hbs5 := hbs4
                obtain ⟨a4, c4, rfl, _, _, _⟩ := hbs5
                have Ho4 := Lib.hid ho4
                have Hbs4 := Lib.hid hbs4
                have hap := M.apart_snoc W ms 1 Hap.out (fun _ h _ => by have := Hml.out; omega)
                have hat := M.atP_text W (ms ++ [1]) 0 hap (.inl rfl)
                simp only [M.xs, List.replicate_zero, List.append_nil, List.length_append, List.length_singleton, Hml.out] at hat
                have hln : (M.textOf W (ms ++ [1])).length ≤ 1048576 := by rw [M.text_snoc]; simp only [List.length_append, M.xs_len]; have := M.mark_len 1; omega
                have Hap2 := Lib.hid hap
                have Hat := Lib.hid hat
                clear hb4 hbk ho4 hbs4 hap hat
                go_wp2_with fail
                refine (at_any _ (M.textOf W (ms ++ [1])) (M.textOf W (ms ++ [1])).length _ _ (HT.out.keep (hbV.trans (hb5.mono hVs))) Hbs4.out hln (Nat.le_refl _) (.inl rfl) (i + 1, 0) Hat.out).mono ?_
                rintro e w5 ⟨rfl, hb6⟩
                have hb7 := hb5.trans (hb6.mono hb5.size)
                have ho5 := own_keep Ho4.out hb6
                clear hb5 hb6
                go_wp2
                go_roundw
                case rel => exact ⟨i + 1, ms ++ [1], by omega, by simp [Hml.out], by go_num, Hap2.out, ho5, hb7⟩
                case measure => simp [intOf]; omega
              · have mk := M2.out
                go_wp2_with (at_builtin; refine wpl_append_str rfl _ _ rfl V.heap.size _ (M.textOf W ms ++ M.xs W) [13, 10] (M.textOf W (ms ++ [2])) rfl Ho.out rfl (by simp only [List.length_append, List.length_cons, List.length_nil, M.xs_len]; omega) hs2 (by rw [M.text_snoc]; rfl) ?_)
                intro v4 w4 ho4 hb4
                have hb5 := hbk.trans hb4
                have hbs4 := ho4.bs
                have hbs5 := hbs4
                obtain ⟨a4, c4, rfl, _, _, _⟩ := hbs5
                have Ho4 := Lib.hid ho4
                have Hbs4 := Lib.hid hbs4
                have hap := M.apart_snoc W ms 2 Hap.out (fun _ h _ => by have := Hml.out; omega)
                have hat := M.atP_text W (ms ++ [2]) 0 hap (.inl rfl)
                simp only [M.xs, List.replicate_zero, List.append_nil, List.length_append, List.length_singleton, Hml.out] at hat
                have hln : (M.textOf W (ms ++ [2])).length ≤ 1048576 := by rw [M.text_snoc]; simp only [List.length_append, M.xs_len]; have := M.mark_len 2; omega
                have Hap2 := Lib.hid hap
                have Hat := Lib.hid hat
                clear hb4 hbk ho4 hbs4 hap hat
                go_wp2_with fail
                refine (at_any _ (M.textOf W (ms ++ [2])) (M.textOf W (ms ++ [2])).length _ _ (HT.out.keep (hbV.trans (hb5.mono hVs))) Hbs4.out hln (Nat.le_refl _) (.inl rfl) (i + 1, 0) Hat.out).mono ?_
                rintro e w5 ⟨rfl, hb6⟩
                have hb7 := hb5.trans (hb6.mono hb5.size)
                have ho5 := own_keep Ho4.out hb6
                clear hb5 hb6
                go_wp2
                go_roundw
                case rel => exact ⟨i + 1, ms ++ [2], by omega, by simp [Hml.out], by go_num, Hap2.out, ho5, hb7⟩
                case measure => simp [intOf]; omega
            · have hi1 : 0 < i := by omega
              obtain ⟨pre, hpre⟩ := M.last_text W ms (by have := Hml.out; omega)
              have hxs : M.xs W = [] := by rw [hW0]; rfl
              have hpl : (M.textOf W ms ++ M.xs W).length = pre.length + 1 := by rw [hxs, List.append_nil, hpre]; simp
              obtain ⟨g, cp, rfl, hcp⟩ := own_form Ho.out (by omega)
              have hlast : wr.cell? ⟨g, pre.length, none⟩ = some (.int .u8 (if ms.getD (ms.length - 1) 0 = 1 then 13 else 10)) := by
                obtain ⟨a', c', he', _, _, h3'⟩ := Ho.out.bs
                obtain ⟨b', off', hab, _, hcc⟩ := h3' (by omega)
                simp only [Value.slice.injEq] at he'
                obtain ⟨rfl, _, rfl⟩ := he'
                simp only [Option.some.injEq, Addr.mk.injEq] at hab
                obtain ⟨rfl, rfl, _⟩ := hab
                have := hcc pre.length (by omega)
                rw [Nat.zero_add] at this
                rw [this]
                congr 2
                have e : (M.textOf W ms ++ M.xs W)[pre.length]'(by omega) = (if ms.getD (ms.length - 1) 0 = 1 then 13 else 10 : UInt8) := by
                  simp [hxs, hpre]
                rw [e]
                split <;> rfl
              have ho2 := Ho.out
              rw [hpl] at hcp ho2 ⊢
              have hpb : pre.length ≤ 1000 := by
                have hx := hpl
                rw [List.length_append, M.xs_len] at hx
                omega
              clear Ho
              have Ho := Lib.hid ho2
              clear ho2
              clear hpre hxs hpl hW0 hi0
              by_cases hlm : ms.getD (ms.length - 1) 0 = 1
              · rw [if_pos hlm] at hlast
                have hcases : q % 3 = 0 ∨ q % 3 = 1 ∨ q % 3 = 2 := by omega
                have Hlm := Lib.hid hlm
                clear hlm
                rcases hcases with hj | hj | hj
                · have mk := M0.out
                  go_wp2
                  go_ret
                  exact ⟨rfl, hbV.trans (hbk.mono hVs)⟩
                · have mk := M1.out
                  go_wp2_with (at_builtin; refine wpl_append_str rfl _ _ rfl V.heap.size _ (M.textOf W ms ++ M.xs W) [13] (M.textOf W (ms ++ [1])) rfl Ho.out rfl (by simp only [List.length_append, List.length_cons, List.length_nil, M.xs_len]; omega) hs2 (by rw [M.text_snoc]; rfl) ?_)
                  intro v4 w4 ho4 hb4
                  have hb5 := hbk.trans hb4
                  have hbs4 := ho4.bs
                  have hbs5 := hbs4
                  obtain ⟨a4, c4, rfl, _, _, _⟩ := hbs5
                  have Ho4 := Lib.hid ho4
                  have Hbs4 := Lib.hid hbs4
                  have hap := M.apart_snoc W ms 1 Hap.out (fun _ _ _ => by decide)
                  have hat := M.atP_text W (ms ++ [1]) 0 hap (.inl rfl)
                  simp only [M.xs, List.replicate_zero, List.append_nil, List.length_append, List.length_singleton, Hml.out] at hat
                  have hln : (M.textOf W (ms ++ [1])).length ≤ 1048576 := by rw [M.text_snoc]; simp only [List.length_append, M.xs_len]; have := M.mark_len 1; omega
                  have Hap2 := Lib.hid hap
                  have Hat := Lib.hid hat
                  clear hb4 hbk ho4 hbs4 hap hat
                  go_wp2_with fail
                  refine (at_any _ (M.textOf W (ms ++ [1])) (M.textOf W (ms ++ [1])).length _ _ (HT.out.keep (hbV.trans (hb5.mono hVs))) Hbs4.out hln (Nat.le_refl _) (.inl rfl) (i + 1, 0) Hat.out).mono ?_
                  rintro e w5 ⟨rfl, hb6⟩
                  have hb7 := hb5.trans (hb6.mono hb5.size)
                  have ho5 := own_keep Ho4.out hb6
                  clear hb5 hb6
                  go_wp2
                  go_roundw
                  case rel => exact ⟨i + 1, ms ++ [1], by omega, by simp [Hml.out], by go_num, Hap2.out, ho5, hb7⟩
                  case measure => simp [intOf]; omega
                · have mk := M2.out
                  go_wp2_with (at_builtin; refine wpl_append_str rfl _ _ rfl V.heap.size _ (M.textOf W ms ++ M.xs W) [13, 10] (M.textOf W (ms ++ [2])) rfl Ho.out rfl (by simp only [List.length_append, List.length_cons, List.length_nil, M.xs_len]; omega) hs2 (by rw [M.text_snoc]; rfl) ?_)
                  intro v4 w4 ho4 hb4
                  have hb5 := hbk.trans hb4
                  have hbs4 := ho4.bs
                  have hbs5 := hbs4
                  obtain ⟨a4, c4, rfl, _, _, _⟩ := hbs5
                  have Ho4 := Lib.hid ho4
                  have Hbs4 := Lib.hid hbs4
                  have hap := M.apart_snoc W ms 2 Hap.out (fun _ _ _ => by decide)
                  have hat := M.atP_text W (ms ++ [2]) 0 hap (.inl rfl)
                  simp only [M.xs, List.replicate_zero, List.append_nil, List.length_append, List.length_singleton, Hml.out] at hat
                  have hln : (M.textOf W (ms ++ [2])).length ≤ 1048576 := by rw [M.text_snoc]; simp only [List.length_append, M.xs_len]; have := M.mark_len 2; omega
                  have Hap2 := Lib.hid hap
                  have Hat := Lib.hid hat
                  clear hb4 hbk ho4 hbs4 hap hat
                  go_wp2_with fail
                  refine (at_any _ (M.textOf W (ms ++ [2])) (M.textOf W (ms ++ [2])).length _ _ (HT.out.keep (hbV.trans (hb5.mono hVs))) Hbs4.out hln (Nat.le_refl _) (.inl rfl) (i + 1, 0) Hat.out).mono ?_
                  rintro e w5 ⟨rfl, hb6⟩
                  have hb7 := hb5.trans (hb6.mono hb5.size)
                  have ho5 := own_keep Ho4.out hb6
                  clear hb5 hb6
                  go_wp2
                  go_roundw
                  case rel => exact ⟨i + 1, ms ++ [2], by omega, by simp [Hml.out], by go_num, Hap2.out, ho5, hb7⟩
                  case measure => simp [intOf]; omega
              · rw [if_neg hlm] at hlast
                have hcases : q % 3 = 0 ∨ q % 3 = 1 ∨ q % 3 = 2 := by omega
                have Hlm := Lib.hid hlm
                clear hlm
                rcases hcases with hj | hj | hj
                · have mk := M0.out
                  go_wp2_with (at_builtin; refine wpl_append_str rfl _ _ rfl V.heap.size _ (M.textOf W ms ++ M.xs W) [10] (M.textOf W (ms ++ [0])) rfl Ho.out rfl (by simp only [List.length_append, List.length_cons, List.length_nil, M.xs_len]; omega) hs2 (by rw [M.text_snoc]; rfl) ?_)
                  intro v4 w4 ho4 hb4
                  have hb5 := hbk.trans hb4
                  have hbs4 := ho4.bs
                  have hbs5 := hbs4
                  obtain ⟨a4, c4, rfl, _, _, _⟩ := hbs5
                  have Ho4 := Lib.hid ho4
                  have Hbs4 := Lib.hid hbs4
                  have hap := M.apart_snoc W ms 0 Hap.out (fun _ _ h => absurd h Hlm.out)
                  have hat := M.atP_text W (ms ++ [0]) 0 hap (.inl rfl)
                  simp only [M.xs, List.replicate_zero, List.append_nil, List.length_append, List.length_singleton, Hml.out] at hat
                  have hln : (M.textOf W (ms ++ [0])).length ≤ 1048576 := by rw [M.text_snoc]; simp only [List.length_append, M.xs_len]; have := M.mark_len 0; omega
                  have Hap2 := Lib.hid hap
                  have Hat := Lib.hid hat
                  clear hb4 hbk ho4 hbs4 hap hat
                  go_wp2_with fail
                  refine (at_any _ (M.textOf W (ms ++ [0])) (M.textOf W (ms ++ [0])).length _ _ (HT.out.keep (hbV.trans (hb5.mono hVs))) Hbs4.out hln (Nat.le_refl _) (.inl rfl) (i + 1, 0) Hat.out).mono ?_
                  rintro e w5 ⟨rfl, hb6⟩
                  have hb7 := hb5.trans (hb6.mono hb5.size)
                  have ho5 := own_keep Ho4.out hb6
                  clear hb5 hb6
                  go_wp2
                  go_roundw
                  case rel => exact ⟨i + 1, ms ++ [0], by omega, by simp [Hml.out], by go_num, Hap2.out, ho5, hb7⟩
                  case measure => simp [intOf]; omega
                · have mk := M1.out
                  go_wp2_with (at_builtin; refine wpl_append_str rfl _ _ rfl V.heap.size _ (M.textOf W ms ++ M.xs W) [13] (M.textOf W (ms ++ [1])) rfl Ho.out rfl (by simp only [List.length_append, List.length_cons, List.length_nil, M.xs_len]; omega) hs2 (by rw [M.text_snoc]; rfl) ?_)
                  intro v4 w4 ho4 hb4
                  have hb5 := hbk.trans hb4
                  have hbs4 := ho4.bs
                  have hbs5 := hbs4
                  obtain ⟨a4, c4, rfl, _, _, _⟩ := hbs5
                  have Ho4 := Lib.hid ho4
                  have Hbs4 := Lib.hid hbs4
                  have hap := M.apart_snoc W ms 1 Hap.out (fun _ _ h => absurd h Hlm.out)
                  have hat := M.atP_text W (ms ++ [1]) 0 hap (.inl rfl)
                  simp only [M.xs, List.replicate_zero, List.append_nil, List.length_append, List.length_singleton, Hml.out] at hat
                  have hln : (M.textOf W (ms ++ [1])).length ≤ 1048576 := by rw [M.text_snoc]; simp only [List.length_append, M.xs_len]; have := M.mark_len 1; omega
                  have Hap2 := Lib.hid hap
                  have Hat := Lib.hid hat
                  clear hb4 hbk ho4 hbs4 hap hat
                  go_wp2_with fail
                  refine (at_any _ (M.textOf W (ms ++ [1])) (M.textOf W (ms ++ [1])).length _ _ (HT.out.keep (hbV.trans (hb5.mono hVs))) Hbs4.out hln (Nat.le_refl _) (.inl rfl) (i + 1, 0) Hat.out).mono ?_
                  rintro e w5 ⟨rfl, hb6⟩
                  have hb7 := hb5.trans (hb6.mono hb5.size)
                  have ho5 := own_keep Ho4.out hb6
                  clear hb5 hb6
                  go_wp2
                  go_roundw
                  case rel => exact ⟨i + 1, ms ++ [1], by omega, by simp [Hml.out], by go_num, Hap2.out, ho5, hb7⟩
                  case measure => simp [intOf]; omega
                · have mk := M2.out
                  go_wp2_with (at_builtin; refine wpl_append_str rfl _ _ rfl V.heap.size _ (M.textOf W ms ++ M.xs W) [13, 10] (M.textOf W (ms ++ [2])) rfl Ho.out rfl (by simp only [List.length_append, List.length_cons, List.length_nil, M.xs_len]; omega) hs2 (by rw [M.text_snoc]; rfl) ?_)
                  intro v4 w4 ho4 hb4
                  have hb5 := hbk.trans hb4
                  have hbs4 := ho4.bs
                  have hbs5 := hbs4
                  obtain ⟨a4, c4, rfl, _, _, _⟩ := hbs5
                  have Ho4 := Lib.hid ho4
                  have Hbs4 := Lib.hid hbs4
                  have hap := M.apart_snoc W ms 2 Hap.out (fun _ _ h => absurd h Hlm.out)
                  have hat := M.atP_text W (ms ++ [2]) 0 hap (.inl rfl)
                  simp only [M.xs, List.replicate_zero, List.append_nil, List.length_append, List.length_singleton, Hml.out] at hat
                  have hln : (M.textOf W (ms ++ [2])).length ≤ 1048576 := by rw [M.text_snoc]; simp only [List.length_append, M.xs_len]; have := M.mark_len 2; omega
                  have Hap2 := Lib.hid hap
                  have Hat := Lib.hid hat
                  clear hb4 hbk ho4 hbs4 hap hat
                  go_wp2_with fail
                  refine (at_any _ (M.textOf W (ms ++ [2])) (M.textOf W (ms ++ [2])).length _ _ (HT.out.keep (hbV.trans (hb5.mono hVs))) Hbs4.out hln (Nat.le_refl _) (.inl rfl) (i + 1, 0) Hat.out).mono ?_
                  rintro e w5 ⟨rfl, hb6⟩
                  have hb7 := hb5.trans (hb6.mono hb5.size)
                  have ho5 := own_keep Ho4.out hb6
                  clear hb5 hb6
                  go_wp2
                  go_roundw
                  case rel => exact ⟨i + 1, ms ++ [2], by omega, by simp [Hml.out], by go_num, Hap2.out, ho5, hb7⟩
                  case measure => simp [intOf]; omega
          · have e1 : ((W : Int) == 0) = false := by rw [beq_eq_false_iff_ne]; omega
            have hcases : q % 3 = 0 ∨ q % 3 = 1 ∨ q % 3 = 2 := by omega
            have HW0 := Lib.hid hW0
            clear hW0
            rcases hcases with hj | hj | hj
            · have mk := M0.out
              go_wp2_with (at_builtin; refine wpl_append_str rfl _ _ rfl V.heap.size _ (M.textOf W ms ++ M.xs W) [10] (M.textOf W (ms ++ [0])) rfl Ho.out rfl (by simp only [List.length_append, List.length_cons, List.length_nil, M.xs_len]; omega) hs2 (by rw [M.text_snoc]; rfl) ?_)
              intro v4 w4 ho4 hb4
              have hb5 := hbk.trans hb4
              have hbs4 := ho4.bs
              have hbs5 := hbs4
              obtain ⟨a4, c4, rfl, _, _, _⟩ := hbs5
              have Ho4 := Lib.hid ho4
              have Hbs4 := Lib.hid hbs4
              have hap := M.apart_snoc W ms 0 Hap.out (fun h _ _ => absurd h HW0.out)
              have hat := M.atP_text W (ms ++ [0]) 0 hap (.inl rfl)
              simp only [M.xs, List.replicate_zero, List.append_nil, List.length_append, List.length_singleton, Hml.out] at hat
              have hln : (M.textOf W (ms ++ [0])).length ≤ 1048576 := by rw [M.text_snoc]; simp only [List.length_append, M.xs_len]; have := M.mark_len 0; omega
              have Hap2 := Lib.hid hap
              have Hat := Lib.hid hat
              clear hb4 hbk ho4 hbs4 hap hat
              go_wp2_with fail
              refine (at_any _ (M.textOf W (ms ++ [0])) (M.textOf W (ms ++ [0])).length _ _ (HT.out.keep (hbV.trans (hb5.mono hVs))) Hbs4.out hln (Nat.le_refl _) (.inl rfl) (i + 1, 0) Hat.out).mono ?_
              rintro e w5 ⟨rfl, hb6⟩
              have hb7 := hb5.trans (hb6.mono hb5.size)
              have ho5 := own_keep Ho4.out hb6
              clear hb5 hb6
              go_wp2
              go_roundw
              case rel => exact ⟨i + 1, ms ++ [0], by omega, by simp [Hml.out], by go_num, Hap2.out, ho5, hb7⟩
              case measure => simp [intOf]; omega
            · have mk := M1.out
              go_wp2_with (at_builtin; refine wpl_append_str rfl _ _ rfl V.heap.size _ (M.textOf W ms ++ M.xs W) [13] (M.textOf W (ms ++ [1])) rfl Ho.out rfl (by simp only [List.length_append, List.length_cons, List.length_nil, M.xs_len]; omega) hs2 (by rw [M.text_snoc]; rfl) ?_)
              intro v4 w4 ho4 hb4
              have hb5 := hbk.trans hb4
              have hbs4 := ho4.bs
              have hbs5 := hbs4
              obtain ⟨a4, c4, rfl, _, _, _⟩ := hbs5
              have Ho4 := Lib.hid ho4
              have Hbs4 := Lib.hid hbs4
              have hap := M.apart_snoc W ms 1 Hap.out (fun h _ _ => absurd h HW0.out)
              have hat := M.atP_text W (ms ++ [1]) 0 hap (.inl rfl)
              simp only [M.xs, List.replicate_zero, List.append_nil, List.length_append, List.length_singleton, Hml.out] at hat
              have hln : (M.textOf W (ms ++ [1])).length ≤ 1048576 := by rw [M.text_snoc]; simp only [List.length_append, M.xs_len]; have := M.mark_len 1; omega
              have Hap2 := Lib.hid hap
              have Hat := Lib.hid hat
              clear hb4 hbk ho4 hbs4 hap hat
              go_wp2_with fail
              refine (at_any _ (M.textOf W (ms ++ [1])) (M.textOf W (ms ++ [1])).length _ _ (HT.out.keep (hbV.trans (hb5.mono hVs))) Hbs4.out hln (Nat.le_refl _) (.inl rfl) (i + 1, 0) Hat.out).mono ?_
              rintro e w5 ⟨rfl, hb6⟩
              have hb7 := hb5.trans (hb6.mono hb5.size)
              have ho5 := own_keep Ho4.out hb6
              clear hb5 hb6
              go_wp2
              go_roundw
              case rel => exact ⟨i + 1, ms ++ [1], by omega, by simp [Hml.out], by go_num, Hap2.out, ho5, hb7⟩
              case measure => simp [intOf]; omega
            · have mk := M2.out
              go_wp2_with (at_builtin; refine wpl_append_str rfl _ _ rfl V.heap.size _ (M.textOf W ms ++ M.xs W) [13, 10] (M.textOf W (ms ++ [2])) rfl Ho.out rfl (by simp only [List.length_append, List.length_cons, List.length_nil, M.xs_len]; omega) hs2 (by rw [M.text_snoc]; rfl) ?_)
              intro v4 w4 ho4 hb4
              have hb5 := hbk.trans hb4
              have hbs4 := ho4.bs
              have hbs5 := hbs4
              obtain ⟨a4, c4, rfl, _, _, _⟩ := hbs5
              have Ho4 := Lib.hid ho4
              have Hbs4 := Lib.hid hbs4
              have hap := M.apart_snoc W ms 2 Hap.out (fun h _ _ => absurd h HW0.out)
              have hat := M.atP_text W (ms ++ [2]) 0 hap (.inl rfl)
              simp only [M.xs, List.replicate_zero, List.append_nil, List.length_append, List.length_singleton, Hml.out] at hat
              have hln : (M.textOf W (ms ++ [2])).length ≤ 1048576 := by rw [M.text_snoc]; simp only [List.length_append, M.xs_len]; have := M.mark_len 2; omega
              have Hap2 := Lib.hid hap
              have Hat := Lib.hid hat
              clear hb4 hbk ho4 hbs4 hap hat
              go_wp2_with fail
              refine (at_any _ (M.textOf W (ms ++ [2])) (M.textOf W (ms ++ [2])).length _ _ (HT.out.keep (hbV.trans (hb5.mono hVs))) Hbs4.out hln (Nat.le_refl _) (.inl rfl) (i + 1, 0) Hat.out).mono ?_
              rintro e w5 ⟨rfl, hb6⟩
              have hb7 := hb5.trans (hb6.mono hb5.size)
              have ho5 := own_keep Ho4.out hb6
              clear hb5 hb6
              go_wp2
              go_roundw
              case rel => exact ⟨i + 1, ms ++ [2], by omega, by simp [Hml.out], by go_num, Hap2.out, ho5, hb7⟩
              case measure => simp [intOf]; omega
    · obtain rfl : i = len := by omega
      clear hlt
      go_wp2
      obtain ⟨wo, rfl⟩ : ∃ wo : World, wo = wr := ⟨_, rfl⟩
      go_loopw [7, 13] (fun v kv wr2 => ∃ k : Nat, k ≤ W ∧ kv = .int .i64 k ∧ OwnB V.heap.size wr2 v (M.textOf W ms ++ M.xs k) ∧ Below V.heap.size V wr2) (fun _ kv _ => W - (intOf kv).toNat)
      case atStart => exact ⟨0, by omega, rfl, by simpa [M.xs] using Ho0.out, hbr⟩
      case round =>
        clear hbr
        obtain ⟨k, hk, rfl, ho, hbk⟩ := hrel
        have hs2 := hbk.size
        have Ho := Lib.hid ho
        clear ho
        by_cases hkW : k < W
        · have hal := fun o => World.ownsRow.alloc Ho.out o
          have hbs := bs_cells_new wr [120] [.int .u8 120] 1 rfl rfl (by decide)
          have hba := fun o => hbk.alloc hs2 o
          have Hal := Lib.hid hal
          have Hbs := Lib.hid hbs
          have Hba := Lib.hid hba
          clear hal hbs hba hbk
          go_wp2_with (at_builtin; refine wpl_append rfl _ _ rfl V.heap.size _ (.slice (some ⟨wr.heap.size, 0, none⟩) 1 1) (M.textOf W ms ++ M.xs k) [120] (M.textOf W ms ++ M.xs (k + 1)) rfl (Hal.out _) rfl Hbs.out (fun n c h => by simp at h) (by simp only [List.length_append, List.length_cons, List.length_nil, M.xs_len]; omega) (by simp only [World.alloc, Array.size_push]; omega) (by rw [M.xs_snoc, List.append_assoc]) ?_)
          intro v3 w3 ho3 hb3
          have hb4 := (Hba.out _).trans hb3
          clear hb3
          go_wp2
          go_roundw
          case rel => exact ⟨k + 1, by omega, by go_num, ho3, hb4⟩
          case measure => simp [intOf]; omega
        · obtain rfl : k = W := by omega
          clear hkW
          have hbs4 := Ho.out.bs
          have hat := M.atP_text k ms k Hap.out (.inr rfl)
          rw [Hml.out] at hat
          have hln : (M.textOf k ms ++ M.xs k).length ≤ 1048576 := by rw [List.length_append, M.xs_len]; omega
          obtain ⟨L, hL⟩ : ∃ L, M.textOf k ms ++ M.xs k = L := ⟨_, rfl⟩
          rw [hL] at hbs4 hat hln
          clear hL Ho
          have hbs5 := hbs4
          obtain ⟨a4, c4, rfl, _, _, _⟩ := hbs5
          have Hbs4 := Lib.hid hbs4
          have Hat := Lib.hid hat
          clear hbs4 hat
          go_wp2_with fail
          refine (at_any _ L L.length _ _ (HT.out.keep (hbV.trans (hbk.mono hVs))) Hbs4.out hln (Nat.le_refl _) (.inl rfl) _ Hat.out).mono ?_
          rintro e w5 ⟨rfl, hb6⟩
          have hb7 := hbk.trans (hb6.mono hs2)
          have hbs6 := Hbs4.out.keep hb6
          have Hbs6 := Lib.hid hbs6
          clear hbk hb6 hbs6
          go_wp2_with fail
          refine (count_any _ L _ _ _ (HT.out.keep (hbV.trans (hb7.mono hVs))) Hbs6.out hln Hat.out).mono ?_
          rintro e w6 ⟨rfl, hb8⟩
          have hb9 := hbV.trans ((hb7.trans (hb8.mono hb7.size)).mono hVs)
          clear hb7 hb8
          go_wp2
          go_ret
          exact ⟨by first | rfl | simp, hb9⟩

theorem walk (a0 : Option Addr) (len0 cap0 : Nat) (z0 : List Int) (a1 : Int) (w : World) (w0 : IsRow .i64 w a0 len0 cap0 z0) (w1 : (Lit.int .i64 a1).wf = true) (hT : Tabs w) :
    Calls Tryd.prog 10 #[.slice a0 len0 cap0, .int .i64 a1] w fun e w' => e = .returned (.bool true) ∧ Below w.heap.size w w' := by
  by_cases h : 30 < len0 ∨ (len0 ≤ 30 ∧ a1 < 0) ∨ (len0 ≤ 30 ∧ 0 ≤ a1 ∧ 20 < a1)
  · exact out_of a0 len0 cap0 a1 w hT h
  · obtain ⟨W, rfl⟩ : ∃ i : Nat, a1 = i := ⟨a1.toNat, by omega⟩
    refine row_of a0 len0 cap0 W z0 w hT (by omega) (by omega) (fun h0 => ?_)
    rcases w0 with ⟨_, h, _⟩ | ⟨x, rfl, hl, hm, hz, hc, _⟩
    · omega
    · obtain ⟨b, off, rfl, hc2⟩ := ints_at hc (by omega)
      exact ⟨b, off, rfl, World.block_lt_of_cell? w _ (hc2 0 (by omega)), fun j hj => hc2 j (by omega)⟩

end Go.Proofs.YtoalaojghgdmcaaDoor.linesEnds
