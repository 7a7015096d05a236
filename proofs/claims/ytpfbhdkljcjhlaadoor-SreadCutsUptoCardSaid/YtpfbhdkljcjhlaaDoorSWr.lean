/- The walk of SreadWrong. -/
import Derived.Test.YtpfbhdkljcjhlaaDoorSMp
import Derived.Laws.StructEq
import Derived.ChangeKeysEq
namespace Go.Proofs.YtpfbhdkljcjhlaaDoor
open Go.RowKit
set_option linter.unusedVariables false
set_option linter.unusedSimpArgs false

theorem eq_segQ (w : World) (c d : M.S4) : (Op.equalIn 10000 35 (.agg (s4q c)) (.agg (s4q d))).run Tryd.prog w = .ok (decide (c = d)) w := by
  obtain ⟨c0, c1, c2, c3⟩ := c
  obtain ⟨d0, d1, d2, d3⟩ := d
  unfold s4q
  rw [run_equalIn_agg w 9999 _ _ _ (by simp [Program.fieldsOf, Tryd.underlying35]) Tryd.stoodInHeld35]
  by_cases h0 : c0 = d0
  · by_cases h1 : c1 = d1
    · by_cases h2 : c2 = d2
      · by_cases h3 : c3 = d3
        · simp [Program.fieldsOf, Tryd.underlying35, Op.eqFields, part, go_sem, h0, h1, h2, h3]
        · simp [Program.fieldsOf, Tryd.underlying35, Op.eqFields, part, go_sem, h0, h1, h2, h3]
      · simp [Program.fieldsOf, Tryd.underlying35, Op.eqFields, part, go_sem, h0, h1, h2]
    · simp [Program.fieldsOf, Tryd.underlying35, Op.eqFields, part, go_sem, h0, h1]
  · simp [Program.fieldsOf, Tryd.underlying35, Op.eqFields, part, go_sem, h0]
theorem eql_segQ (w : World) (c d : M.S4) : (binOp .eql 35 (.agg (s4q c)) (.agg (s4q d))).run Tryd.prog w = .ok (.bool (decide (c = d))) w := by
  rw [run_eql_struct, eq_segQ]; rfl
theorem wpl_cmpS {ops : Array Oper} {rest : List Oper} {o : Oper} {a : Act} {w : World} {Q : Exit → Act → World → Prop} (hw : Region.wanted o (yielded ops a.tmps) = true) (x y : Operand) (ho : o.op = .binOp .eql 35 x y 35)
    (c d : M.S4) (r : Bool) (hr : decide (c = d) = r) (hx : a.eval x = .agg (s4q c)) (hy : a.eval y = .agg (s4q d))
    (hh : wpList Tryd.prog ops Q rest (a.put o.dst (.bool r)) w) : wpList Tryd.prog ops Q (o :: rest) a w := by
  subst hr
  refine wpList_step fun K hK => ?_
  rw [if_pos hw]
  have hrun : (execOp a.eval o).run Tryd.prog w = .ok (.value (.bool (decide (c = d)))) w := by
    unfold execOp
    simp only [ho, hx, hy]
    simp [run_eqGuard_agg, Tryd.eqGuardType35, eql_segQ, Sem.run_bind, Result.andThen_ok]
  unfold Oper.wp
  rw [hrun]
  exact hK _ _ hh
theorem rd0 : M.readM [] = some [] := by decide +kernel
theorem rd1 : M.readM [59, 69, 65, 65, 71] = some [(1, 2, 0, 3)] := by decide +kernel
set_option maxRecDepth 100000 in
set_option maxHeartbeats 4000000 in
theorem salive25_any (m : Int) (w : World) (hm : w.cell? ⟨0, 0, none⟩ = some (.int .i64 m)) : Calls Tryd.prog 5 #[] w fun e w' => e = .returned (.bool true) ∧ Below w.heap.size w w' := by
  have M0 := Lib.hid (fun w hm => smappings_any ⟨#[]⟩ [] _ m w rfl (by decide) hm rd0)
  have M1 := Lib.hid (fun w hm => smappings_any ⟨#[59, 69, 65, 65, 71]⟩ [59, 69, 65, 65, 71] _ m w rfl (by decide) hm rd1)
  have HM := Lib.hid hm
  clear hm
  go_enter Tryd.func5, Tryd.ntmps5
  go_wp2_with fail
  refine (M0.out _ HM.out).mono ?_
  rintro e w1 ⟨v1, rfl, hs1, hn1, hb1⟩
  have HM1 := Lib.hid (keepM HM.out hb1)
  obtain ⟨a1, c1, rfl, -, -, -⟩ := hs1
  have hz1 := hb1.size
  have HB1 := Lib.hid hb1
  clear hb1
  go_wp2_with fail
  refine (M1.out _ HM1.out).mono ?_
  rintro e w2 ⟨v2, rfl, hs2, hn2, hb2⟩
  obtain ⟨a2, c2, rfl, h21, h22, h23⟩ := s4At_of hs2
  obtain ⟨b, off, rfl, hb, hc⟩ := h23 (by simp)
  obtain ⟨x0, x1, x2, x3⟩ := hc 0 (by simp)
  simp only [Option.getD_some, Nat.zero_mul, Nat.add_zero, List.getElem_cons_zero] at x0 x1 x2 x3
  have HB2 := Lib.hid (HB1.out.trans (hb2.mono hz1))
  clear hb2 hs2 hc h23
  go_wp2_with (refine wpl_cmpS (by rfl) _ _ rfl (1, 2, 0, 3) (1, 2, 0, 3) true (by decide) rfl rfl ?_)
  go_wp2
  go_ret
  exact ⟨rfl, HB2.out⟩
def swT : List (List UInt8) := [[], [65, 65, 65, 65], [65, 65, 65], [65, 65, 65, 65, 65], [65, 67, 65, 65], [59], [65, 65, 65, 65, 59], [44, 65, 65, 65, 65], [65, 65, 65, 65, 44], [65, 65, 65, 65, 44, 65, 65, 65, 65], [65, 65, 65, 65, 44, 67, 65, 65, 65], [67, 65, 65, 65, 44, 68, 65, 65, 65], [65, 65, 65, 65, 59, 65, 65, 65, 65], [65, 65, 65, 65, 65, 65, 65, 65], [68, 65, 65, 65], [65, 65, 68, 65], [65, 65, 65, 68], [65, 65, 67, 65, 59, 65, 65, 68, 65], [65, 32, 65, 65], [33, 65, 65, 65]]
def swO : List Bool := [true, true, false, false, false, false, false, false, false, false, true, false, true, false, false, false, false, true, false, false]
def swL (k : Nat) : List UInt8 := swT.getD k []
def swB (k : Nat) : Bool := swO.getD k false
theorem sw_facts (k : Nat) (hk : k < 20) : (swL k).length ≤ 10 ∧ (M.readM (swL k)).isSome = swB k ∧ (∀ o, M.rdAll (swL k) = some o → o.length ≤ 1000) := by
  have : ∀ k, k < 20 → (swL k).length ≤ 10 ∧ (M.readM (swL k)).isSome = swB k ∧ ((M.rdAll (swL k)).getD []).length ≤ 1000 := by decide +kernel
  obtain ⟨h1, h2, h3⟩ := this k hk
  exact ⟨h1, h2, fun o ho => by rw [ho] at h3; exact h3⟩
def swW (w : World) : World := (w.alloc (.cells #[.string ⟨#[]⟩, .string ⟨#[65, 65, 65, 65]⟩, .string ⟨#[65, 65, 65]⟩, .string ⟨#[65, 65, 65, 65, 65]⟩, .string ⟨#[65, 67, 65, 65]⟩, .string ⟨#[59]⟩, .string ⟨#[65, 65, 65, 65, 59]⟩, .string ⟨#[44, 65, 65, 65, 65]⟩, .string ⟨#[65, 65, 65, 65, 44]⟩, .string ⟨#[65, 65, 65, 65, 44, 65, 65, 65, 65]⟩, .string ⟨#[65, 65, 65, 65, 44, 67, 65, 65, 65]⟩, .string ⟨#[67, 65, 65, 65, 44, 68, 65, 65, 65]⟩, .string ⟨#[65, 65, 65, 65, 59, 65, 65, 65, 65]⟩, .string ⟨#[65, 65, 65, 65, 65, 65, 65, 65]⟩, .string ⟨#[68, 65, 65, 65]⟩, .string ⟨#[65, 65, 68, 65]⟩, .string ⟨#[65, 65, 65, 68]⟩, .string ⟨#[65, 65, 67, 65, 59, 65, 65, 68, 65]⟩, .string ⟨#[65, 32, 65, 65]⟩, .string ⟨#[33, 65, 65, 65]⟩] 9)).alloc (.cells #[.bool true, .bool true, .bool false, .bool false, .bool false, .bool false, .bool false, .bool false, .bool false, .bool false, .bool true, .bool false, .bool true, .bool false, .bool false, .bool false, .bool false, .bool true, .bool false, .bool false] 4)
theorem swW_size (w : World) : (swW w).heap.size = w.heap.size + 2 := by unfold swW; simp
theorem swW_below (w : World) : Below w.heap.size w (swW w) := ((Below.refl _ _).alloc (Nat.le_refl _) _).alloc (by simp) _
theorem swW_str (w : World) (k : Nat) (hk : k < 20) : (swW w).cell? ⟨w.heap.size, k, none⟩ = some (.string (bytes (swL k))) := by
  unfold swW
  rw [World.cell?_alloc_past _ _ _ (by simp), World.cell?_alloc_at _ _ _ _ rfl]
  have : ∀ k : Fin 20, (#[.string ⟨#[]⟩, .string ⟨#[65, 65, 65, 65]⟩, .string ⟨#[65, 65, 65]⟩, .string ⟨#[65, 65, 65, 65, 65]⟩, .string ⟨#[65, 67, 65, 65]⟩, .string ⟨#[59]⟩, .string ⟨#[65, 65, 65, 65, 59]⟩, .string ⟨#[44, 65, 65, 65, 65]⟩, .string ⟨#[65, 65, 65, 65, 44]⟩, .string ⟨#[65, 65, 65, 65, 44, 65, 65, 65, 65]⟩, .string ⟨#[65, 65, 65, 65, 44, 67, 65, 65, 65]⟩, .string ⟨#[67, 65, 65, 65, 44, 68, 65, 65, 65]⟩, .string ⟨#[65, 65, 65, 65, 59, 65, 65, 65, 65]⟩, .string ⟨#[65, 65, 65, 65, 65, 65, 65, 65]⟩, .string ⟨#[68, 65, 65, 65]⟩, .string ⟨#[65, 65, 68, 65]⟩, .string ⟨#[65, 65, 65, 68]⟩, .string ⟨#[65, 65, 67, 65, 59, 65, 65, 68, 65]⟩, .string ⟨#[65, 32, 65, 65]⟩, .string ⟨#[33, 65, 65, 65]⟩] : Array Value)[k.val]? = some (.string (bytes (swL k.val))) := by
    intro k
    have e : k = 0 ∨ k = 1 ∨ k = 2 ∨ k = 3 ∨ k = 4 ∨ k = 5 ∨ k = 6 ∨ k = 7 ∨ k = 8 ∨ k = 9 ∨ k = 10 ∨ k = 11 ∨ k = 12 ∨ k = 13 ∨ k = 14 ∨ k = 15 ∨ k = 16 ∨ k = 17 ∨ k = 18 ∨ k = 19 := by omega
    rcases e with rfl | rfl | rfl | rfl | rfl | rfl | rfl | rfl | rfl | rfl | rfl | rfl | rfl | rfl | rfl | rfl | rfl | rfl | rfl | rfl <;> rfl
  exact this ⟨k, hk⟩
theorem swW_bool (w : World) (k : Nat) (hk : k < 20) : (swW w).cell? ⟨w.heap.size + 1, k, none⟩ = some (.bool (swB k)) := by
  unfold swW
  rw [World.cell?_alloc_at _ _ _ _ (by simp)]
  have : ∀ k : Fin 20, (#[.bool true, .bool true, .bool false, .bool false, .bool false, .bool false, .bool false, .bool false, .bool false, .bool false, .bool true, .bool false, .bool true, .bool false, .bool false, .bool false, .bool false, .bool true, .bool false, .bool false] : Array Value)[k.val]? = some (.bool (swB k.val)) := by
    intro k
    have e : k = 0 ∨ k = 1 ∨ k = 2 ∨ k = 3 ∨ k = 4 ∨ k = 5 ∨ k = 6 ∨ k = 7 ∨ k = 8 ∨ k = 9 ∨ k = 10 ∨ k = 11 ∨ k = 12 ∨ k = 13 ∨ k = 14 ∨ k = 15 ∨ k = 16 ∨ k = 17 ∨ k = 18 ∨ k = 19 := by omega
    rcases e with rfl | rfl | rfl | rfl | rfl | rfl | rfl | rfl | rfl | rfl | rfl | rfl | rfl | rfl | rfl | rfl | rfl | rfl | rfl | rfl <;> rfl
  exact this ⟨k, hk⟩
set_option maxRecDepth 100000 in
set_option maxHeartbeats 8000000 in
theorem srwrong_walk (a0 : Int) (w0 : (Lit.int .i64 a0).wf = true) (m : Int) (w : World) (hm : w.cell? ⟨0, 0, none⟩ = some (.int .i64 m)) :
    Calls Tryd.prog 4 #[.int .i64 a0] w fun e w' => e = .returned (.bool true) ∧ Below w.heap.size w w' := by
  have al := Lib.hid (salive25_any m w hm)
  have HM := Lib.hid hm
  clear hm
  by_cases ho : a0 < 0 ∨ 20 ≤ a0
  · rcases ho with ho | ho
    all_goals
      go_enter Tryd.func4, Tryd.ntmps4
      go_wp2_with fail
      refine al.out.mono ?_
      rintro e w1 ⟨rfl, hb⟩
      have hfin := hb.trans ((swW_below w1).mono hb.size)
      unfold swW at hfin
      go_wp2
      go_ret
      exact ⟨rfl, hfin⟩
  · obtain ⟨k, rfl⟩ : ∃ k : Nat, a0 = k := ⟨a0.toNat, by omega⟩
    have hk : k < 20 := by omega
    obtain ⟨h1, h2, h3⟩ := sw_facts k hk
    have sm := fun w hm => smappings_any (bytes (swL k)) (swL k) _ m w rfl (by rw [bytes_size]; omega) hm rfl
    obtain ⟨ok, hok⟩ : ∃ b, swB k = b := ⟨_, rfl⟩
    rw [h2, hok] at sm
    have SC := Lib.hid (fun w => swW_str w k hk)
    have BC := Lib.hid (fun w => swW_bool w k hk)
    have HOK := Lib.hid hok
    obtain ⟨S, hS⟩ : ∃ x, bytes (swL k) = x := ⟨_, rfl⟩
    rw [hS] at sm
    have SM := Lib.hid sm
    have HS := Lib.hid hS
    have k1 : (k : Int) < 20 := by omega
    clear ho sm hok hS h1 h2 h3 w0
    go_enter Tryd.func4, Tryd.ntmps4
    go_wp2_with fail
    refine al.out.mono ?_
    rintro e w1 ⟨rfl, hb⟩
    have c1 := SC.out w1
    have c2 := BC.out w1
    rw [HS.out] at c1
    rw [HOK.out] at c2
    have hb2 := hb.trans ((swW_below w1).mono hb.size)
    have hlt : w1.heap.size + 1 < (swW w1).heap.size := by rw [swW_size]; omega
    obtain ⟨W1, hW1⟩ : ∃ x, swW w1 = x := ⟨_, rfl⟩
    rw [hW1] at c1 c2 hb2 hlt
    unfold swW at hW1
    have HW1 := Lib.hid hW1
    have HB2 := Lib.hid hb2
    clear hW1 hb2 hb
    go_upto_region 4 with (fail)
    rw [HW1.out]
    go_wp2_with fail
    refine (SM.out _ (keepM HM.out HB2.out)).mono ?_
    rintro e w3 ⟨v, rfl, -, -, hb3⟩
    have c3 := (hb3.cell (p := ⟨w1.heap.size + 1, k, none⟩) hlt).trans c2
    have HB3 := Lib.hid (HB2.out.trans (hb3.mono HB2.out.size))
    have q : (ok == ok) = true := by simp
    clear hb3 c1 c2
    go_wp2
    go_ret
    exact ⟨by simp, HB3.out⟩
end Go.Proofs.YtpfbhdkljcjhlaaDoor
