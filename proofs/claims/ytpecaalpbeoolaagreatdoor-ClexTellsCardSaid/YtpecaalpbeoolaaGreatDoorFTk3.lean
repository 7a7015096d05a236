/- Tokens of CSS: the program's functions of one token: single code points, blanks. -/
import Derived.Test.YtpecaalpbeoolaaGreatDoorFTk1
import Derived.StillTail
import Derived.StillTactics
namespace Go.Proofs.YtpecaalpbeoolaaGreatDoor
open Go.RowKit
set_option linter.unusedVariables false
set_option linter.unusedSimpArgs false

theorem still_ldT {ops : Array Oper} {w : World} {Q : Act → Prop} {a : Act} {o : Oper} {rest : List Oper} (hgd : o.guard = none) (x : Operand) (ho : o.op = .load 36 x)
    (g : Nat) (cs : Array Value) (hx : a.eval x = .pointer (some ⟨g, 0, none⟩)) (hg : CB w g cs) (hs : cs.size = 13)
    (h : wpStill Tryz.prog ops w Q rest (a.put o.dst (.agg cs))) : wpStill Tryz.prog ops w Q (o :: rest) a := by
  refine wpStill_step (fun K hK => ?_)
  simp only [Region.wanted, hgd, if_true]
  unfold Oper.still execOp
  simp only [ho, hx, Instr.loadAt, Instr.sureAddr, Sem.run_bind, Sem.run_pure, Result.andThen_ok, run_loadVar_row w g 36 36 cs (0, 0) _ hg Tryz.underlying36 rfl (by rw [hs]; exact infoC13)]
  exact ⟨rfl, hK _ h⟩
set_option maxRecDepth 100000 in
set_option maxHeartbeats 4000000 in
theorem fsingle_any (v : Value) (L : List (Int × Int)) (c : List Int) (i : Nat) (w : World) (hv : Rs w v L) (hc : cps L = c) (hl : L.length ≤ 100000) (hi : i < L.length) :
    Calls Tryz.prog 45 #[v, .int .i64 (i : Int)] w (TkR w (if M.oneK (c.getD i (-1)) = 9 then { kind := 9, text := M.enc (c.getD i (-1)) } else { kind := M.oneK (c.getD i (-1)) }) (i + 1)) := by
  have hlc := hv.lc
  rw [hc] at hlc
  have hcl : c.length = L.length := by rw [← hc, cps_len]
  obtain ⟨n, hn⟩ : ∃ n, L.length = n := ⟨_, rfl⟩
  rw [hn] at hl hi hcl
  obtain ⟨a, cap, rfl, h1, h2, h3⟩ := rs_open hv hn
  obtain ⟨p, off, rfl, hp, h4⟩ := h3 (by omega)
  have c0' := (h4 i (by omega)).1
  have e0 : (L[i]'(by omega)).1 = c.getD i (-1) := by rw [← hc]; simp [cps, List.getD, show i < L.length by omega]
  rw [e0] at c0'
  have hsub := rs_sub hv i (i + 1) (by omega) (by omega) p off rfl
  rw [Nat.add_sub_cancel_left] at hsub
  have TX := Lib.hid (fun (W : World) (hW : Below w.heap.size w W) => ctext_any _ _ (M.enc (c.getD i (-1))) W (rs_keep hsub hW) (by simp; omega) (by rw [cps_sub, hc, show (c.drop i).take 1 = [c.getD i (-1)] by rw [drop_cons c i (by omega), getD_lt c i (by omega)]; rfl]; simp [M.encZs]))
  obtain ⟨W0, hW0, cb0, b0, z0⟩ := w0_facts w
  have cr := b0.cell (p := ⟨p, off + i * 2, none⟩) hp
  rw [c0'] at cr
  have HW0 := Lib.hid hW0
  obtain ⟨y, hy⟩ : ∃ y, c.getD i (-1) = y := ⟨_, rfl⟩
  rw [hy] at cr TX ⊢
  have i1 : (0 : Int) ≤ i := by omega
  have i2 : (i : Int) < n := by omega
  have i3 : (i : Int) ≤ 100000 := by omega
  have Z0 := Lib.hid z0
  unfold maxLen at h2
  have hcr : (w.alloc (.cells #[.int .i64 0, .string ⟨#[]⟩, .string ⟨#[]⟩, .bool false, .string ⟨#[]⟩, .string ⟨#[]⟩, .bool false, .bool false, .int .i64 0, .int .i64 0, .int .i64 0, .int .i64 0, .int .i64 0] 36)).cell? ⟨p, off + i * 2, none⟩ = some (.int .i64 y) := by rw [hW0]; exact cr
  clear hW0 z0 hv hc hn h3 h4 hsub hlc hcl c0' e0 hy cr
  by_cases k0 : y = 40
  · subst k0
    rw [show M.oneK 40 = 21 from by decide, if_neg (by decide)]
    go_enter Tryz.func45, Tryz.ntmps45
    go_wp2_with (refine wpl_stT rfl _ _ rfl w.heap.size (ctv {} 0) (ctv { kind := 21 } 0) rfl rfl (CB.new w _) rfl rfl (ctv_one _ _) ?_)
    rw [HW0.out]
    go_wp2
    (try simp only [Exit.inBlock, Exit.then])
    exact bodyPost_ret (res_tok rfl _ _ w.heap.size _ _ rfl rfl (CB.set cb0 _) rfl) rfl ⟨rfl, below_setRow b0 (Nat.le_refl _) _⟩
  have t0 : (y == 40) = false := by rw [beq_eq_false_iff_ne]; exact k0
  by_cases k1 : y = 41
  · subst k1
    rw [show M.oneK 41 = 22 from by decide, if_neg (by decide)]
    go_enter Tryz.func45, Tryz.ntmps45
    go_wp2_with (refine wpl_stT rfl _ _ rfl w.heap.size (ctv {} 0) (ctv { kind := 22 } 0) rfl rfl (CB.new w _) rfl rfl (ctv_one _ _) ?_)
    rw [HW0.out]
    go_wp2
    (try simp only [Exit.inBlock, Exit.then])
    exact bodyPost_ret (res_tok rfl _ _ w.heap.size _ _ rfl rfl (CB.set cb0 _) rfl) rfl ⟨rfl, below_setRow b0 (Nat.le_refl _) _⟩
  have t1 : (y == 41) = false := by rw [beq_eq_false_iff_ne]; exact k1
  by_cases k2 : y = 91
  · subst k2
    rw [show M.oneK 91 = 23 from by decide, if_neg (by decide)]
    go_enter Tryz.func45, Tryz.ntmps45
    go_wp2_with (refine wpl_stT rfl _ _ rfl w.heap.size (ctv {} 0) (ctv { kind := 23 } 0) rfl rfl (CB.new w _) rfl rfl (ctv_one _ _) ?_)
    rw [HW0.out]
    go_wp2
    (try simp only [Exit.inBlock, Exit.then])
    exact bodyPost_ret (res_tok rfl _ _ w.heap.size _ _ rfl rfl (CB.set cb0 _) rfl) rfl ⟨rfl, below_setRow b0 (Nat.le_refl _) _⟩
  have t2 : (y == 91) = false := by rw [beq_eq_false_iff_ne]; exact k2
  by_cases k3 : y = 93
  · subst k3
    rw [show M.oneK 93 = 24 from by decide, if_neg (by decide)]
    go_enter Tryz.func45, Tryz.ntmps45
    go_wp2_with (refine wpl_stT rfl _ _ rfl w.heap.size (ctv {} 0) (ctv { kind := 24 } 0) rfl rfl (CB.new w _) rfl rfl (ctv_one _ _) ?_)
    rw [HW0.out]
    go_wp2
    (try simp only [Exit.inBlock, Exit.then])
    exact bodyPost_ret (res_tok rfl _ _ w.heap.size _ _ rfl rfl (CB.set cb0 _) rfl) rfl ⟨rfl, below_setRow b0 (Nat.le_refl _) _⟩
  have t3 : (y == 93) = false := by rw [beq_eq_false_iff_ne]; exact k3
  by_cases k4 : y = 123
  · subst k4
    rw [show M.oneK 123 = 19 from by decide, if_neg (by decide)]
    go_enter Tryz.func45, Tryz.ntmps45
    go_wp2_with (refine wpl_stT rfl _ _ rfl w.heap.size (ctv {} 0) (ctv { kind := 19 } 0) rfl rfl (CB.new w _) rfl rfl (ctv_one _ _) ?_)
    rw [HW0.out]
    go_wp2
    (try simp only [Exit.inBlock, Exit.then])
    exact bodyPost_ret (res_tok rfl _ _ w.heap.size _ _ rfl rfl (CB.set cb0 _) rfl) rfl ⟨rfl, below_setRow b0 (Nat.le_refl _) _⟩
  have t4 : (y == 123) = false := by rw [beq_eq_false_iff_ne]; exact k4
  by_cases k5 : y = 125
  · subst k5
    rw [show M.oneK 125 = 20 from by decide, if_neg (by decide)]
    go_enter Tryz.func45, Tryz.ntmps45
    go_wp2_with (refine wpl_stT rfl _ _ rfl w.heap.size (ctv {} 0) (ctv { kind := 20 } 0) rfl rfl (CB.new w _) rfl rfl (ctv_one _ _) ?_)
    rw [HW0.out]
    go_wp2
    (try simp only [Exit.inBlock, Exit.then])
    exact bodyPost_ret (res_tok rfl _ _ w.heap.size _ _ rfl rfl (CB.set cb0 _) rfl) rfl ⟨rfl, below_setRow b0 (Nat.le_refl _) _⟩
  have t5 : (y == 125) = false := by rw [beq_eq_false_iff_ne]; exact k5
  by_cases k6 : y = 44
  · subst k6
    rw [show M.oneK 44 = 18 from by decide, if_neg (by decide)]
    go_enter Tryz.func45, Tryz.ntmps45
    go_wp2_with (refine wpl_stT rfl _ _ rfl w.heap.size (ctv {} 0) (ctv { kind := 18 } 0) rfl rfl (CB.new w _) rfl rfl (ctv_one _ _) ?_)
    rw [HW0.out]
    go_wp2
    (try simp only [Exit.inBlock, Exit.then])
    exact bodyPost_ret (res_tok rfl _ _ w.heap.size _ _ rfl rfl (CB.set cb0 _) rfl) rfl ⟨rfl, below_setRow b0 (Nat.le_refl _) _⟩
  have t6 : (y == 44) = false := by rw [beq_eq_false_iff_ne]; exact k6
  by_cases k7 : y = 58
  · subst k7
    rw [show M.oneK 58 = 16 from by decide, if_neg (by decide)]
    go_enter Tryz.func45, Tryz.ntmps45
    go_wp2_with (refine wpl_stT rfl _ _ rfl w.heap.size (ctv {} 0) (ctv { kind := 16 } 0) rfl rfl (CB.new w _) rfl rfl (ctv_one _ _) ?_)
    rw [HW0.out]
    go_wp2
    (try simp only [Exit.inBlock, Exit.then])
    exact bodyPost_ret (res_tok rfl _ _ w.heap.size _ _ rfl rfl (CB.set cb0 _) rfl) rfl ⟨rfl, below_setRow b0 (Nat.le_refl _) _⟩
  have t7 : (y == 58) = false := by rw [beq_eq_false_iff_ne]; exact k7
  by_cases k8 : y = 59
  · subst k8
    rw [show M.oneK 59 = 17 from by decide, if_neg (by decide)]
    go_enter Tryz.func45, Tryz.ntmps45
    go_wp2_with (refine wpl_stT rfl _ _ rfl w.heap.size (ctv {} 0) (ctv { kind := 17 } 0) rfl rfl (CB.new w _) rfl rfl (ctv_one _ _) ?_)
    rw [HW0.out]
    go_wp2
    (try simp only [Exit.inBlock, Exit.then])
    exact bodyPost_ret (res_tok rfl _ _ w.heap.size _ _ rfl rfl (CB.set cb0 _) rfl) rfl ⟨rfl, below_setRow b0 (Nat.le_refl _) _⟩
  have t8 : (y == 59) = false := by rw [beq_eq_false_iff_ne]; exact k8
  rw [show M.oneK y = 9 by unfold M.oneK; rw [if_neg k0, if_neg k1, if_neg k2, if_neg k3, if_neg k4, if_neg k5, if_neg k6, if_neg k7, if_neg k8], if_pos rfl]
  clear k0 k1 k2 k3 k4 k5 k6 k7 k8
  go_enter Tryz.func45, Tryz.ntmps45
  go_wp2_with fail
  rw [HW0.out]
  refine (TX.out _ b0).mono ?_
  rintro e w2 ⟨rfl, hb2⟩
  have c2 := b0.trans (hb2.mono b0.size)
  have cb2 := cb0.keep hb2 cb0.lt
  clear hb2
  go_wp2_with (refine wpl_stT rfl _ _ rfl w.heap.size _ (ctv ({ kind := 9, text := M.enc y }) 0) rfl rfl cb2 rfl rfl (ctv_one _ _) ?_)
  go_wp2
  (try simp only [Exit.inBlock, Exit.then])
  refine bodyPost_ret (res_tok rfl _ _ w.heap.size _ _ rfl rfl (CB.set cb2 _) rfl) rfl ⟨rfl, below_setRow c2 (Nat.le_refl _) _⟩
set_option maxRecDepth 100000 in
set_option maxHeartbeats 4000000 in
theorem fspace_any (v : Value) (c : List Int) (i K : Nat) (w : World) (hv : Lc w v c) (hl : c.length ≤ 100000) (hi : i < c.length) (hK : i + M.blN (c.drop i) = K) :
    Calls Tryz.prog 36 #[v, .int .i64 (i : Int)] w (TkR w { kind := 13, text := if c.getD i (-1) = 10 then [10] else [32] } K) := by
  have SB := Lib.hid (fun (W : World) (hW : Below w.heap.size w W) => fskipb_any v c i K W (hv.keep hW) (by omega) (by omega) hK)
  obtain ⟨n, hn⟩ : ∃ n, c.length = n := ⟨_, rfl⟩
  rw [hn] at hl hi
  obtain ⟨a, cap, rfl, h1, h2, h3⟩ := lc_at hv hn
  obtain ⟨p, off, rfl, hp, c0⟩ := h3 i hi
  obtain ⟨y, hy⟩ : ∃ y, c.getD i (-1) = y := ⟨_, rfl⟩
  rw [hy] at c0 ⊢
  obtain ⟨W0, hW0, cb0, b0, z0⟩ := w0_facts w
  obtain ⟨W1, hW1, cb1, b1, z1⟩ := w0_facts W0
  have cb01 := cb0.keep b1 cb0.lt
  have b01 := b0.trans (b1.mono b0.size)
  obtain ⟨W2, hW2⟩ : ∃ W2, W1.setRow W0.heap.size (ctv { kind := 13, text := [32] } 0) = W2 := ⟨_, rfl⟩
  have cb2 : CB W2 (w.heap.size + 1) (ctv { kind := 13, text := [32] } 0) := by rw [← hW2, ← z0]; exact cb1.set _
  have b2 : Below w.heap.size w W2 := by rw [← hW2]; exact below_setRow b01 (by omega) _
  have cb02 : CB W2 w.heap.size (ctv {} 0) := by
    rw [← hW2]; unfold CB; rw [setRow_other _ _ _ _ (by omega)]; exact cb01
  have cr := b2.cell (p := ⟨p, off + i * 2, none⟩) hp
  rw [c0] at cr
  have hlit : ((w.alloc (.cells #[.int .i64 0, .string ⟨#[]⟩, .string ⟨#[]⟩, .bool false, .string ⟨#[]⟩, .string ⟨#[]⟩, .bool false, .bool false, .int .i64 0, .int .i64 0, .int .i64 0, .int .i64 0, .int .i64 0] 36)).alloc (.cells #[.int .i64 0, .string ⟨#[]⟩, .string ⟨#[]⟩, .bool false, .string ⟨#[]⟩, .string ⟨#[]⟩, .bool false, .bool false, .int .i64 0, .int .i64 0, .int .i64 0, .int .i64 0, .int .i64 0] 36)).setRow (w.heap.size + 1) (ctv { kind := 13, text := [32] } 0) = W2 := by rw [hW0, ← z0, hW1, hW2]
  have hcb : CB ((w.alloc (.cells #[.int .i64 0, .string ⟨#[]⟩, .string ⟨#[]⟩, .bool false, .string ⟨#[]⟩, .string ⟨#[]⟩, .bool false, .bool false, .int .i64 0, .int .i64 0, .int .i64 0, .int .i64 0, .int .i64 0] 36)).alloc (.cells #[.int .i64 0, .string ⟨#[]⟩, .string ⟨#[]⟩, .bool false, .string ⟨#[]⟩, .string ⟨#[]⟩, .bool false, .bool false, .int .i64 0, .int .i64 0, .int .i64 0, .int .i64 0, .int .i64 0] 36)) (w.heap.size + 1) (ctv {} 0) := by rw [hW0, ← z0, hW1]; exact cb1
  have e0 := cb2.cell 1
  have e1 := cb2.free 1
  have e0' : W2.cell? ⟨w.heap.size + 1, 1, none⟩ = some (.string ⟨#[32]⟩) := e0
  have HLIT := Lib.hid hlit
  have i1 : (0 : Int) ≤ i := by omega
  have i2 : (i : Int) < n := by omega
  have CR2 : (((w.alloc (.cells #[.int .i64 0, .string ⟨#[]⟩, .string ⟨#[]⟩, .bool false, .string ⟨#[]⟩, .string ⟨#[]⟩, .bool false, .bool false, .int .i64 0, .int .i64 0, .int .i64 0, .int .i64 0, .int .i64 0] 36)).alloc (.cells #[.int .i64 0, .string ⟨#[]⟩, .string ⟨#[]⟩, .bool false, .string ⟨#[]⟩, .string ⟨#[]⟩, .bool false, .bool false, .int .i64 0, .int .i64 0, .int .i64 0, .int .i64 0, .int .i64 0] 36)).setRow (w.heap.size + 1) (ctv { kind := 13, text := [32] } 0)).cell? ⟨p, off + i * 2, none⟩ = some (.int .i64 y) := by rw [hlit]; exact cr
  have E02 : (((w.alloc (.cells #[.int .i64 0, .string ⟨#[]⟩, .string ⟨#[]⟩, .bool false, .string ⟨#[]⟩, .string ⟨#[]⟩, .bool false, .bool false, .int .i64 0, .int .i64 0, .int .i64 0, .int .i64 0, .int .i64 0] 36)).alloc (.cells #[.int .i64 0, .string ⟨#[]⟩, .string ⟨#[]⟩, .bool false, .string ⟨#[]⟩, .string ⟨#[]⟩, .bool false, .bool false, .int .i64 0, .int .i64 0, .int .i64 0, .int .i64 0, .int .i64 0] 36)).setRow (w.heap.size + 1) (ctv { kind := 13, text := [32] } 0)).cell? ⟨w.heap.size + 1, 1, none⟩ = some (.string ⟨#[32]⟩) := by rw [hlit]; exact e0'
  have E12 : (((w.alloc (.cells #[.int .i64 0, .string ⟨#[]⟩, .string ⟨#[]⟩, .bool false, .string ⟨#[]⟩, .string ⟨#[]⟩, .bool false, .bool false, .int .i64 0, .int .i64 0, .int .i64 0, .int .i64 0, .int .i64 0] 36)).alloc (.cells #[.int .i64 0, .string ⟨#[]⟩, .string ⟨#[]⟩, .bool false, .string ⟨#[]⟩, .string ⟨#[]⟩, .bool false, .bool false, .int .i64 0, .int .i64 0, .int .i64 0, .int .i64 0, .int .i64 0] 36)).setRow (w.heap.size + 1) (ctv { kind := 13, text := [32] } 0)).frozen? ⟨w.heap.size + 1, 1, none⟩ = false := by rw [hlit]; exact e1
  clear hv hn h3 hK hy hW0 hW1 hW2 z0 z1 cb0 b0 cb1 b1 cb01 b01 c0 cr hlit e0 e1 e0'
  by_cases hy : y = 10
  · subst hy
    rw [if_pos rfl]
    have cb3 : CB (W2.setCell ⟨w.heap.size + 1, 1, none⟩ (.string ⟨#[10]⟩)) (w.heap.size + 1) (ctv { kind := 13, text := [10] } 0) := cb2.put 1 _
    have cb03 : CB (W2.setCell ⟨w.heap.size + 1, 1, none⟩ (.string ⟨#[10]⟩)) w.heap.size (ctv {} 0) := cb02.other (by omega) _ _
    have b3 : Below w.heap.size w (W2.setCell ⟨w.heap.size + 1, 1, none⟩ (.string ⟨#[10]⟩)) := b2.setCell (by show _ ≤ w.heap.size + 1; omega) _
    clear cb2 cb02 b2
    go_enter Tryz.func36, Tryz.ntmps36
    go_wp2_with (refine wpl_stT rfl _ _ rfl (w.heap.size + 1) (ctv {} 0) (ctv { kind := 13, text := [32] } 0) rfl rfl hcb rfl rfl (ctv_one _ _) ?_)
    rw [HLIT.out]
    obtain ⟨W3, hW3⟩ : ∃ W, W2.setCell ⟨w.heap.size + 1, 1, none⟩ (.string ⟨#[10]⟩) = W := ⟨_, rfl⟩
    rw [hW3] at cb3 cb03 b3 ⊢
    clear hW3 hcb
    refine wp_region_still_tail 4 (by kernel_rfl) (by kernel_rfl) ?_
    simp only [List.take_succ_cons, List.take_zero, List.drop_succ_cons, List.drop_zero]
    refine still_ldT rfl _ rfl (w.heap.size + 1) _ rfl cb3 rfl ?_
    repeat still_step
    still_call ((SB.out _ b3.drew).mono fun _ _ h => ⟨h.1, h.2.symm⟩)
    repeat still_step
    refine wpStill_nil ?_
    change wpList _ _ _ _ _ W3.drew
    have b4 := b3.drew
    have cb4 : CB W3.drew w.heap.size (ctv {} 0) := cb03
    go_wp2_with (refine wpl_stT rfl _ _ rfl w.heap.size _ (ctv ({ kind := 13, text := [10] }) 0) rfl rfl cb4 rfl rfl (ctv_one _ _) ?_)
    go_wp2
    (try simp only [Exit.inBlock, Exit.then])
    refine bodyPost_ret (res_tok rfl _ _ w.heap.size _ _ rfl rfl (CB.set cb4 _) rfl) rfl ⟨rfl, below_setRow b4 (Nat.le_refl _) _⟩
  · have t1 : (y == 10) = false := by rw [beq_eq_false_iff_ne]; exact hy
    rw [if_neg hy]
    clear hy
    go_enter Tryz.func36, Tryz.ntmps36
    go_wp2_with (refine wpl_stT rfl _ _ rfl (w.heap.size + 1) (ctv {} 0) (ctv { kind := 13, text := [32] } 0) rfl rfl hcb rfl rfl (ctv_one _ _) ?_)
    rw [HLIT.out]
    clear hcb
    refine wp_region_still_tail 4 (by kernel_rfl) (by kernel_rfl) ?_
    simp only [List.take_succ_cons, List.take_zero, List.drop_succ_cons, List.drop_zero]
    refine still_ldT rfl _ rfl (w.heap.size + 1) _ rfl cb2 rfl ?_
    repeat still_step
    still_call ((SB.out _ b2.drew).mono fun _ _ h => ⟨h.1, h.2.symm⟩)
    repeat still_step
    refine wpStill_nil ?_
    change wpList _ _ _ _ _ W2.drew
    have b4 := b2.drew
    have cb4 : CB W2.drew w.heap.size (ctv {} 0) := cb02
    go_wp2_with (refine wpl_stT rfl _ _ rfl w.heap.size _ (ctv ({ kind := 13, text := [32] }) 0) rfl rfl cb4 rfl rfl (ctv_one _ _) ?_)
    go_wp2
    (try simp only [Exit.inBlock, Exit.then])
    refine bodyPost_ret (res_tok rfl _ _ w.heap.size _ _ rfl rfl (CB.set cb4 _) rfl) rfl ⟨rfl, below_setRow b4 (Nat.le_refl _) _⟩
end Go.Proofs.YtpecaalpbeoolaaGreatDoor
