/- The walk of ColourBack. -/
import Derived.Test.YtilndlifmpbfnaaDoorCoBl
import Derived.Test.YtilndlifmpbfnaaDoorCoRe
import Derived.Test.YtilndlifmpbfnaaDoorCoAm
import Derived.Test.YtilndlifmpbfnaaDoorBgE
import Derived.Test.YtilndlifmpbfnaaDoorBgG
import Derived.Deep.Cut
namespace Go.Proofs.YtilndlifmpbfnaaDoor
open Go.RowKit
set_option linter.unusedVariables false
set_option linter.unusedSimpArgs false

theorem neq_arrC (w : World) (c d : M.C4) : (binOp .neq 22 (.agg (arrC c)) (.agg (arrC d))).run Tryd.prog w = .ok (.bool (!decide (c = d))) w := by
  rw [run_neq_struct, eq_arrC]; rfl
theorem wpl_neA {ops : Array Oper} {rest : List Oper} {o : Oper} {a : Act} {w : World} {Q : Exit → Act → World → Prop} (hw : Region.wanted o (yielded ops a.tmps) = true) (x y : Operand) (ho : o.op = .binOp .neq 22 x y 22)
    (c d : M.C4) (r : Bool) (hr : (!decide (c = d)) = r) (hx : a.eval x = .agg (arrC c)) (hy : a.eval y = .agg (arrC d))
    (hh : wpList Tryd.prog ops Q rest (a.put o.dst (.bool r)) w) : wpList Tryd.prog ops Q (o :: rest) a w := by
  subst hr
  refine wpList_step fun K hK => ?_
  rw [if_pos hw]
  have hrun : (execOp a.eval o).run Tryd.prog w = .ok (.value (.bool (!decide (c = d)))) w := by
    unfold execOp
    simp only [ho, hx, hy]
    simp [run_eqGuard_agg, Tryd.eqGuardType22, neq_arrC, Sem.run_bind, Result.andThen_ok]
  unfold Oper.wp
  rw [hrun]
  exact hK _ _ hh
def nthC (c : M.C4) (i : Nat) : Int := if i = 0 then c.1 else if i = 1 then c.2.1 else if i = 2 then c.2.2.1 else c.2.2.2
theorem arr_nth (c : M.C4) (i : Nat) (hi : i < 4) : (arrC c)[i]? = some (.int .i64 (nthC c i)) := by
  have : i = 0 ∨ i = 1 ∨ i = 2 ∨ i = 3 := by omega
  rcases this with rfl | rfl | rfl | rfl <;> rfl
theorem spell_out (c : M.C4) (i : Nat) (hi : i < 4) (h : M.okN (nthC c i) = false) : M.spellC c = [] := by
  obtain ⟨a, b, e, f⟩ := c
  unfold M.spellC
  rw [if_neg]
  intro h2
  have : i = 0 ∨ i = 1 ∨ i = 2 ∨ i = 3 := by omega
  unfold M.numsC at h2
  rcases this with rfl | rfl | rfl | rfl
  · have h3 : M.okN a = false := h
    split at h2 <;> simp [h3] at h2
  · have h3 : M.okN b = false := h
    split at h2 <;> simp [h3] at h2
  · have h3 : M.okN e = false := h
    split at h2 <;> simp [h3] at h2
  · have h3 : M.okN f = false := h
    split at h2
    · rename_i hf
      have hf2 : f = 255 := hf
      rw [hf2] at h3
      revert h3; decide
    · simp [h3] at h2
theorem spell_small (c : M.C4) (p : List UInt8) (h : p ∈ M.spellC c) : p.length ≤ 9 := by
  obtain ⟨a, b, e, f⟩ := c
  unfold M.spellC at h
  split at h
  · rcases List.mem_append.1 h with h | h
    · have hs : (M.shortL (M.numsC (a, b, e, f))).length ≤ 9 := by unfold M.shortL M.numsC; split <;> simp
      have hl : (M.longL (M.numsC (a, b, e, f))).length ≤ 9 := by unfold M.longL M.numsC; split <;> simp
      split at h
      · simp only [List.mem_cons, List.not_mem_nil, or_false] at h
        rcases h with rfl | rfl <;> assumption
      · simp only [List.mem_cons, List.not_mem_nil, or_false] at h
        subst h; exact hl
    · unfold M.namesC at h
      obtain ⟨x, hx, rfl⟩ := List.mem_map.1 h
      have := M.ce_names x (List.mem_filter.1 hx).1
      omega
  · simp at h
theorem spell_lenB (c : M.C4) : (M.spellC c).length ≤ 1002 := by
  have h := nof_len c 38
  rw [nof_end] at h
  unfold M.spellC
  split
  · split <;> simp <;> omega
  · simp
theorem back_read (c : M.C4) (p : List UInt8) (h : BackP c p) : ∃ t : M.CT, M.tksC (M.rn p 0) = [(t, 0)] ∧ t.text.length ≤ 100 ∧ readC t.kind t.text = (c, true) := by
  obtain ⟨t, h1, hl, ⟨h2, h3⟩ | ⟨h2, h3⟩⟩ := h
  · exact ⟨t, h1, hl, by unfold readC; rw [if_pos h2]; exact h3⟩
  · exact ⟨t, h1, hl, by unfold readC; rw [if_neg (by rw [h2]; decide), if_pos h2]; exact h3⟩
set_option maxRecDepth 100000 in
set_option maxHeartbeats 8000000 in
theorem cback_walk (c : M.C4) (w : World) : Calls Tryd.prog 3 #[arrV c] w fun e w' => e = .returned (.bool true) ∧ Below w.heap.size w w' := by
  have AL := Lib.hid alive19_any
  have sp := spell_any c
  have a0 := AB.new w c
  have b0 := (Below.refl w.heap.size w).alloc (Nat.le_refl _) (.cells (arrC c) 22)
  have z0 : w.heap.size + 1 ≤ (w.alloc (.cells (arrC c) 22)).heap.size := by simp
  have SPO := Lib.hid (spell_out c)
  have BA := Lib.hid (back_all c)
  have SNE := Lib.hid (spell_ne c)
  have SSM := Lib.hid (spell_small c)
  have ARN := Lib.hid (arr_nth c)
  have SLE := Lib.hid (spell_lenB c)
  obtain ⟨W0, hW0⟩ : ∃ x, w.alloc (.cells (arrC c) 22) = x := ⟨_, rfl⟩
  rw [hW0] at a0 b0 z0
  obtain ⟨d1, d2, d3, d4⟩ := c
  have EXP := Lib.hid (show arrC (d1, d2, d3, d4) = #[.int .i64 d1, .int .i64 d2, .int .i64 d3, .int .i64 d4] from rfl)
  rw [EXP.out] at hW0
  unfold arrV at sp ⊢
  rw [EXP.out] at sp ⊢
  have SP := Lib.hid sp
  have A0 := Lib.hid a0
  have B0 := Lib.hid b0
  have HW0 := Lib.hid hW0
  clear sp a0 b0 hW0
  go_enter Tryd.func3, Tryd.ntmps3
  go_wp2_with fail
  rw [HW0.out]
  refine (AL.out _).mono ?_
  rintro e w1 ⟨rfl, hb1⟩
  have A1 := Lib.hid (A0.out.keep hb1 (by omega))
  have B1 := Lib.hid (B0.out.trans (hb1.mono (by omega)))
  have z1 : w.heap.size + 1 ≤ w1.heap.size := by have := hb1.size; omega
  clear hb1
  go_wp2
  go_loopw [4] (fun iv wr => ∃ i : Nat, iv = .int .i64 (i : Int) ∧ i ≤ 4 ∧ (∀ j, j < i → M.okN (nthC (d1, d2, d3, d4) j) = true) ∧ w1 = wr) (fun iv _ => 4 - (intOf iv).toNat)
  case atStart => exact ⟨0, rfl, by omega, fun j hj => by omega, rfl⟩
  case round =>
    obtain ⟨i, rfl, hi, hok, rfl⟩ := hrel
    have g0 : w1.cell? ⟨w.heap.size, 0, none⟩ = some (.int .i64 d1) := cell_of_row _ _ 0 _ _ _ A1.out
    have g1 : w1.cell? ⟨w.heap.size, 1, none⟩ = some (.int .i64 d2) := cell_of_row _ _ 1 _ _ _ A1.out
    have g2 : w1.cell? ⟨w.heap.size, 2, none⟩ = some (.int .i64 d3) := cell_of_row _ _ 2 _ _ _ A1.out
    have g3 : w1.cell? ⟨w.heap.size, 3, none⟩ = some (.int .i64 d4) := cell_of_row _ _ 3 _ _ _ A1.out
    by_cases hi4 : i < 4
    · have ci : w1.cell? ⟨w.heap.size, i, none⟩ = some (.int .i64 (nthC (d1, d2, d3, d4) i)) := (cell_of_row _ _ i _ _ _ A1.out).trans (ARN.out i hi4)
      have i1 : (i : Int) < 4 := by omega
      have hso := SPO.out i hi4
      have hnx : M.okN (nthC (d1, d2, d3, d4) i) = true → ∀ j, j < i + 1 → M.okN (nthC (d1, d2, d3, d4) j) = true := by
        intro h j hj
        by_cases e : j < i
        · exact hok j e
        · obtain rfl : j = i := by omega
          exact h
      obtain ⟨x, hx⟩ : ∃ x, nthC (d1, d2, d3, d4) i = x := ⟨_, rfl⟩
      rw [hx] at ci hso hnx
      have HSO := Lib.hid hso
      have HNX := Lib.hid hnx
      clear hx hso hnx hok
      by_cases x0 : x < 0
      · have e0 := HSO.out (by unfold M.okN; simp; omega)
        have sp2 := SP.out
        rw [e0] at sp2
        have SP2 := Lib.hid sp2
        clear sp2 e0
        go_wp2_with fail
        refine (SP2.out _).mono ?_
        rintro e w3 ⟨v3, rfl, hs3, hb3⟩
        obtain ⟨a3, c3, rfl, -, -, -⟩ := hs3
        have B3 := Lib.hid (B1.out.trans (hb3.mono (by omega)))
        clear hb3 g0 g1 g2 g3 ci
        go_wp2
        go_ret
        exact ⟨by simp [srowC], B3.out⟩
      · by_cases x1 : 255 < x
        · have e0 := HSO.out (by unfold M.okN; simp; omega)
          have sp2 := SP.out
          rw [e0] at sp2
          have SP2 := Lib.hid sp2
          clear sp2 e0
          go_wp2_with fail
          refine (SP2.out _).mono ?_
          rintro e w3 ⟨v3, rfl, hs3, hb3⟩
          obtain ⟨a3, c3, rfl, -, -, -⟩ := hs3
          have B3 := Lib.hid (B1.out.trans (hb3.mono (by omega)))
          clear hb3 g0 g1 g2 g3 ci
          go_wp2
          go_ret
          exact ⟨by simp [srowC], B3.out⟩
        · have hn := HNX.out (by unfold M.okN; simp; omega)
          have HN2 := Lib.hid hn
          clear hn
          go_wp2
          go_roundw
          case rel => exact ⟨i + 1, by go_num, by omega, HN2.out, trivial⟩
          case measure => simp [intOf]; omega
    · obtain rfl : i = 4 := by omega
      have o0 := hok 0 (by omega)
      have o1 := hok 1 (by omega)
      have o2 := hok 2 (by omega)
      have o3 := hok 3 (by omega)
      obtain ⟨L, hL⟩ : ∃ L, M.spellC (d1, d2, d3, d4) = L := ⟨_, rfl⟩
      have hne := SNE.out o0 o1 o2 o3
      have ba := BA.out o0 o1 o2 o3
      have sle := SLE.out
      have ssm := SSM.out
      have sp3 := SP.out
      rw [hL] at hne ba sle ssm sp3
      have HNE := Lib.hid hne
      have BB := Lib.hid ba
      have SM := Lib.hid ssm
      have SP3 := Lib.hid sp3
      clear hne ba ssm sp3 hL o0 o1 o2 o3 hok
      go_wp2_with fail
      refine (SP3.out _).mono ?_
      rintro e w5 ⟨v5, rfl, hs5, hb5⟩
      obtain ⟨b8, off8, cap8, rfl, hbl8, hd1, hd2, hc8⟩ := s_cells hs5 (List.length_pos_iff.2 HNE.out)
      have HC8 := Lib.hid hc8
      have A5 := Lib.hid (A1.out.keep hb5 (by omega))
      have B5 := Lib.hid (B1.out.trans (hb5.mono (by omega)))
      have z5 : w.heap.size + 1 ≤ w5.heap.size := by have := hb5.size; omega
      have l0 : ((L.length : Int) == 0) = false := by
        rw [beq_eq_false_iff_ne]
        have := List.length_pos_iff.2 HNE.out
        omega
      clear hs5 hc8 hb5 g0 g1 g2 g3
      go_wp2
      go_loopw [6] (fun iv wr => ∃ i : Nat, iv = .int .i64 (i : Int) ∧ i ≤ L.length ∧ Below w5.heap.size w5 wr) (fun iv _ => L.length - (intOf iv).toNat)
      case atStart => exact ⟨0, rfl, by omega, Below.refl _ _⟩
      case round =>
        obtain ⟨i, rfl, hi2, hb6⟩ := hrel
        by_cases hil : i < L.length
        · have hc9 := (hb6.cell (p := ⟨b8, off8 + i, none⟩) hbl8).trans (HC8.out i hil)
          have i1 : (i : Int) < L.length := by omega
          obtain ⟨p, hp⟩ : ∃ p, L[i] = p := ⟨_, rfl⟩
          have hmem : p ∈ L := by rw [← hp]; exact List.getElem_mem _
          rw [hp] at hc9
          have hp9 := SM.out p hmem
          obtain ⟨t, ht, htl, hread⟩ := back_read _ p (BB.out p hmem)
          have hrl := M.rn_len p p.length 0 (by omega)
          have hcv := bw_conv wr (bytes p)
          have hbs := bw_bs wr (bytes p) (by rw [bytes_size]; omega)
          have hbb := bw_below wr (bytes p)
          rw [bytes_list] at hbs
          rw [bytes_size] at hcv hbs
          obtain ⟨n, hn⟩ : ∃ n, p.length = n := ⟨_, rfl⟩
          rw [hn] at hcv hbs
          obtain ⟨cp, hcp⟩ : ∃ cap, grownCap wr n 0 5 = cap := ⟨_, rfl⟩
          rw [hcp] at hcv hbs
          obtain ⟨W, hW⟩ : ∃ W, Lib.bytesWorld wr 5 (bytes p) = W := ⟨_, rfl⟩
          rw [hW] at hcv hbs hbb
          obtain ⟨S, hS⟩ : ∃ S, bytes p = S := ⟨_, rfl⟩
          rw [hS] at hcv hc9
          have RU := Lib.hid (refruns_any _ p (M.rn p 0) W hbs (by omega) rfl)
          have CL := Lib.hid (fun v w (h : Rs w v (M.rn p 0)) => rclex_any v (M.rn p 0) _ w h (by omega) ht)
          have rd := fun w => cread_any t.kind t.text (.string (bytes t.unit)) (.bool t.num.1) (.string (bytes t.num.2.1)) (.string (bytes t.num.2.2)) (.bool t.flag) (.bool t.sign) (.int .i64 0) (.int .i64 0) (.int .i64 0) (.int .i64 0) (.int .i64 0) (bytes t.text) w rfl (by omega)
          rw [hread] at rd
          unfold arrV at rd
          rw [EXP.out] at rd
          have RD := Lib.hid rd
          have BW := Lib.hid (hb6.trans (hbb.mono hb6.size))
          have A6 := Lib.hid (A5.out.keep hb6 (by omega))
          have BB6 := Lib.hid hb6
          clear ht htl hread hrl hbs hbb hn hcp hW hS rd hp hmem hb6
          go_wp2_with fail
          refine RU.out.mono ?_
          rintro e w7 ⟨v7, rfl, hr7, hb7⟩
          have R7 := Lib.hid (OwnV.vs hr7)
          have B7 := Lib.hid (BW.out.trans (hb7.mono BW.out.size))
          clear hr7 hb7 hcv hc9
          go_wp2_with fail
          refine (CL.out _ _ R7.out).mono ?_
          rintro e w8 ⟨v8, rfl, hr8, hb8'⟩
          obtain ⟨a8, cap9, rfl, hcA, hcB, hcell⟩ := cs_cells (OwnC.cs hr8) (n := 1) rfl
          obtain ⟨b9, off9, rfl, hbl9, hk⟩ := hcell 0 (by simp)
          have hk2 : ∀ k, k < 13 → w8.cell? ⟨b9, off9 + k, none⟩ = (ctv t 0)[k]? := fun k hk' => by have := hk k hk'; simpa using this
          have HK := Lib.hid hk2
          have B8 := Lib.hid (B7.out.trans (hb8'.mono B7.out.size))
          clear hr8 hb8' hcell hk hk2
          go_wp2_with (refine wpl_ldM (by rfl) _ rfl b9 off9 (ctv t 0) rfl rfl HK.out ?_)
          refine (RD.out _).mono ?_
          rintro e w9 ⟨rfl, hb9⟩
          have bl10 := (Below.refl w9.heap.size w9).alloc (Nat.le_refl _) (.cells #[.int .i64 d1, .int .i64 d2, .int .i64 d3, .int .i64 d4] 22)
          have b10 := B8.out.trans ((hb9.trans (bl10.mono hb9.size)).mono B8.out.size)
          have x10 : AB (w9.alloc (.cells #[.int .i64 d1, .int .i64 d2, .int .i64 d3, .int .i64 d4] 22)) w9.heap.size (d1, d2, d3, d4) := AB.new w9 (d1, d2, d3, d4)
          have a10 := A5.out.keep b10 (by omega)
          have g0 := cell_of_row _ _ 0 _ _ _ a10
          have g1 := cell_of_row _ _ 1 _ _ _ a10
          have g2 := cell_of_row _ _ 2 _ _ _ a10
          have g3 := cell_of_row _ _ 3 _ _ _ a10
          have k0 := cell_of_row _ _ 0 _ _ _ x10
          have k1 := cell_of_row _ _ 1 _ _ _ x10
          have k2 := cell_of_row _ _ 2 _ _ _ x10
          have k3 := cell_of_row _ _ 3 _ _ _ x10
          simp only [arrC] at g0 g1 g2 g3 k0 k1 k2 k3
          obtain ⟨W10, hW10⟩ : ∃ x, w9.alloc (.cells #[.int .i64 d1, .int .i64 d2, .int .i64 d3, .int .i64 d4] 22) = x := ⟨_, rfl⟩
          rw [hW10] at b10 g0 g1 g2 g3 k0 k1 k2 k3
          have HW10 := Lib.hid hW10
          have B10 := Lib.hid b10
          clear bl10 b10 x10 a10 hW10 hb9
          go_upto_region 17 with (fail)
          rw [HW10.out]
          go_wp2_with (refine wpl_neA (by rfl) _ _ rfl (d1, d2, d3, d4) (d1, d2, d3, d4) false (by simp) rfl rfl ?_)
          go_wp2
          go_roundw
          case rel => exact ⟨i + 1, by go_num, by omega, B10.out⟩
          case measure => simp [intOf]; omega
        · obtain rfl : i = L.length := by omega
          have jf : decide ((L.length : Int) < L.length) = false := by simp
          have BF := Lib.hid (B5.out.trans (hb6.mono B5.out.size))
          clear hb6
          go_wp2
          go_ret
          exact ⟨rfl, BF.out⟩
end Go.Proofs.YtilndlifmpbfnaaDoor
