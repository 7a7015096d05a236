/- Texts of ours in one: SRWrite SWr SCu. -/
import Derived.Test.YtlobinjdgcidmaaGreatDoorQs34
import Derived.Test.YtlobinjdgcidmaaGreatDoorQs39
import Derived.Test.YtlobinjdgcidmaaGreatDoorQs40
import Derived.Test.YtlobinjdgcidmaaGreatDoorQs41
import Derived.Test.YtlobinjdgcidmaaGreatDoorQs36
import Derived.Laws.StructEq
import Derived.ChangeKeysEq
import Derived.Deep.QuietTactic
import Derived.BigQuiet
import Derived.Deep.Cut
/- The reference's Write: what is returned, for any name and any segments. -/
namespace Go.Proofs.YtlobinjdgcidmaaGreatDoor
open Go.RowKit
set_option linter.unusedVariables false
set_option linter.unusedSimpArgs false

set_option maxRecDepth 100000 in
set_option maxHeartbeats 2000000 in
theorem refwrite_any (s : ByteArray) (l : List UInt8) (v : Value) (L : List M.S4) (r : Option (List UInt8)) (w : World) (hs : s.data.toList = l) (hl : l.length ≤ 1048576) (hv : SsS w v L) (hL : L.length ≤ 209715) (hr : M.maps L = r) :
    Calls Tryz.prog 6 #[.string s, v] w fun e w' => e = .returned (wres l r) ∧ Below w.heap.size w w' := by
  have MP := Lib.hid (refmaps_any v L r w hv (by omega) hr)
  unfold MpP mres at MP
  have HUL := Lib.hid (unitsL_le l.length l (Nat.le_refl _))
  have HS := Lib.hid hs
  obtain ⟨a, cap, rfl, -⟩ := s4At_of hv
  cases r with
  | none =>
    simp only [Option.isSome_none, Option.getD_none] at MP
    clear hv hr hs
    go_enter Tryz.func6, Tryz.ntmps6
    go_wp2_with fail
    refine MP.out.mono ?_
    rintro e w1 ⟨rfl, hb1⟩
    go_wp2
    go_ret2
    exact ⟨rfl, hb1⟩
  | some m =>
    simp only [Option.isSome_some, Option.getD_some] at MP
    obtain ⟨U, hU⟩ : ∃ U, unitsL l = U := ⟨_, rfl⟩
    obtain ⟨T, hTT⟩ : ∃ T, bytes (M.spell U) = T := ⟨_, rfl⟩
    obtain ⟨mb, hmb⟩ : ∃ T, bytes m = T := ⟨_, rfl⟩
    have hts : T.size ≤ 20000000 := by
      rw [← hTT, bytes_size]
      have h1 := M.body_len U
      have h2 := unitsL_len l.length l (Nat.le_refl _)
      rw [hU] at h2
      unfold M.spell
      simp only [List.length_cons, List.length_append, List.length_nil]
      omega
    have hms : mb.size ≤ 20000000 := by
      rw [← hmb, bytes_size]
      have := maps_len L m hr
      omega
    rw [hU] at HUL
    rw [hmb] at MP
    have hw : wres l (some m) = .tuple #[.string (wtx T mb), .bool true] := by rw [← hmb, ← hTT, ← hU]; rfl
    have HW := Lib.hid hw
    have HU := Lib.hid hU
    have HTT := Lib.hid hTT
    clear hv hr hs hw hmb hU hTT
    go_enter Tryz.func6, Tryz.ntmps6
    go_wp2_with fail
    refine MP.out.mono ?_
    rintro e w1 ⟨rfl, hb1⟩
    go_wp2_with fail
    refine (refunits_any s l U w1 HS.out (by omega) HU.out).mono ?_
    rintro e w2 ⟨v2, rfl, his, hul, hb2⟩
    have hb3 := hb1.trans (hb2.mono hb1.size)
    clear hb1 hb2
    go_wp2_with fail
    refine (refspell_any v2 U T w2 his (by omega) HUL.out HTT.out).mono ?_
    rintro e w3 ⟨rfl, hb4⟩
    have hb5 := hb3.trans (hb4.mono hb3.size)
    clear hb3 hb4
    go_wp2
    go_ret2
    exact ⟨by rw [HW.out]; rfl, hb5⟩
end Go.Proofs.YtlobinjdgcidmaaGreatDoor
/- The walk of SreadWrong. -/
namespace Go.Proofs.YtlobinjdgcidmaaGreatDoor
open Go.RowKit
set_option linter.unusedVariables false
set_option linter.unusedSimpArgs false

theorem eq_segQ (w : World) (c d : M.S4) : (Op.equalIn 10000 39 (.agg (s4q c)) (.agg (s4q d))).run Tryz.prog w = .ok (decide (c = d)) w := by
  obtain ⟨c0, c1, c2, c3⟩ := c
  obtain ⟨d0, d1, d2, d3⟩ := d
  unfold s4q
  rw [run_equalIn_agg w 9999 _ _ _ (by simp [Program.fieldsOf, Tryz.underlying39]) Tryz.stoodInHeld39]
  by_cases h0 : c0 = d0
  · by_cases h1 : c1 = d1
    · by_cases h2 : c2 = d2
      · by_cases h3 : c3 = d3
        · simp [Program.fieldsOf, Tryz.underlying39, Op.eqFields, part, go_sem, h0, h1, h2, h3]
        · simp [Program.fieldsOf, Tryz.underlying39, Op.eqFields, part, go_sem, h0, h1, h2, h3]
      · simp [Program.fieldsOf, Tryz.underlying39, Op.eqFields, part, go_sem, h0, h1, h2]
    · simp [Program.fieldsOf, Tryz.underlying39, Op.eqFields, part, go_sem, h0, h1]
  · simp [Program.fieldsOf, Tryz.underlying39, Op.eqFields, part, go_sem, h0]
theorem eql_segQ (w : World) (c d : M.S4) : (binOp .eql 39 (.agg (s4q c)) (.agg (s4q d))).run Tryz.prog w = .ok (.bool (decide (c = d))) w := by
  rw [run_eql_struct, eq_segQ]; rfl
theorem wpl_cmpS {ops : Array Oper} {rest : List Oper} {o : Oper} {a : Act} {w : World} {Q : Exit → Act → World → Prop} (hw : Region.wanted o (yielded ops a.tmps) = true) (x y : Operand) (ho : o.op = .binOp .eql 39 x y 39)
    (c d : M.S4) (r : Bool) (hr : decide (c = d) = r) (hx : a.eval x = .agg (s4q c)) (hy : a.eval y = .agg (s4q d))
    (hh : wpList Tryz.prog ops Q rest (a.put o.dst (.bool r)) w) : wpList Tryz.prog ops Q (o :: rest) a w := by
  subst hr
  refine wpList_step fun K hK => ?_
  rw [if_pos hw]
  have hrun : (execOp a.eval o).run Tryz.prog w = .ok (.value (.bool (decide (c = d)))) w := by
    unfold execOp
    simp only [ho, hx, hy]
    simp [run_eqGuard_agg, Tryz.eqGuardType39, eql_segQ, Sem.run_bind, Result.andThen_ok]
  unfold Oper.wp
  rw [hrun]
  exact hK _ _ hh
theorem rd0 : M.readM [] = some [] := by decide +kernel
theorem rd1 : M.readM [59, 69, 65, 65, 71] = some [(1, 2, 0, 3)] := by decide +kernel
set_option maxRecDepth 100000 in
set_option maxHeartbeats 4000000 in
theorem salive25_any (m : Int) (w : World) (hm : w.cell? ⟨0, 0, none⟩ = some (.int .i64 m)) : Calls Tryz.prog 5 #[] w fun e w' => e = .returned (.bool true) ∧ Below w.heap.size w w' := by
  have M0 := Lib.hid (fun w hm => smappings_any ⟨#[]⟩ [] _ m w rfl (by decide) hm rd0)
  have M1 := Lib.hid (fun w hm => smappings_any ⟨#[59, 69, 65, 65, 71]⟩ [59, 69, 65, 65, 71] _ m w rfl (by decide) hm rd1)
  have HM := Lib.hid hm
  clear hm
  go_enter Tryz.func5, Tryz.ntmps5
  go_wp2_with fail
  refine (M0.out _ HM.out).mono ?_
  rintro e w1 ⟨v1, rfl, hs1, hn1, hb1⟩
  have HM1 := Lib.hid (keepM HM.out hb1)
  obtain ⟨a1, c1, rfl, -, -, -⟩ := hs1
  have hz1 := hb1.size
  have HB1 := Lib.hid hb1
  clear hb1
  go_wp2_with fail
  refine (M1.out _ HM1.out).mono ?_
  rintro e w2 ⟨v2, rfl, hs2, hn2, hb2⟩
  obtain ⟨a2, c2, rfl, h21, h22, h23⟩ := s4At_of hs2
  obtain ⟨b, off, rfl, hb, hc⟩ := h23 (by simp)
  obtain ⟨x0, x1, x2, x3⟩ := hc 0 (by simp)
  simp only [Option.getD_some, Nat.zero_mul, Nat.add_zero, List.getElem_cons_zero] at x0 x1 x2 x3
  have HB2 := Lib.hid (HB1.out.trans (hb2.mono hz1))
  clear hb2 hs2 hc h23
  go_wp2_with (refine wpl_cmpS (by rfl) _ _ rfl (1, 2, 0, 3) (1, 2, 0, 3) true (by decide) rfl rfl ?_)
  go_wp2
  go_ret
  exact ⟨rfl, HB2.out⟩
end Go.Proofs.YtlobinjdgcidmaaGreatDoor
/- The walk of SreadCuts. -/
namespace Go.Proofs.YtlobinjdgcidmaaGreatDoor
open Go.RowKit
set_option linter.unusedVariables false
set_option linter.unusedSimpArgs false

theorem sbelow_drewN {B : Nat} {a w : World} (h : Below B a w) (n : Nat) : Below B a (w.drewN n) := ⟨h.os, h.tape, h.output, h.size, h.block⟩
set_option maxRecDepth 100000 in
set_option maxHeartbeats 4000000 in
theorem ssame_any (B C : Nat) (v u : Value) (l : List M.S4) (w : World) (hv : S4At B w v l) (hu : S4At C w u l) (hl : l.length ≤ 4294967296) :
    Calls Tryz.prog 12 #[v, u] w fun e w' => e = .returned (.bool true) ∧ Below w.heap.size w w' := by
  obtain ⟨a, cap, rfl, -⟩ := id hv
  obtain ⟨a', cap', rfl, -⟩ := id hu
  obtain ⟨n, hn⟩ : ∃ n, l.length = n := ⟨_, rfl⟩
  rw [hn] at hl hv hu ⊢
  have HN := Lib.hid hn
  have HV := Lib.hid hv
  have HU := Lib.hid hu
  clear hv hu hn
  go_enter Tryz.func12, Tryz.ntmps12
  go_wp2
  go_loopw [5] (fun iv wr => ∃ m q : Nat, iv = .int .i64 m ∧ m ≤ n ∧ wr = w.drewN q) (fun iv _ => n - (intOf iv).toNat)
  case atStart => exact ⟨0, 0, rfl, by omega, rfl⟩
  case round =>
    obtain ⟨m, q, rfl, hm, rfl⟩ := hrel
    by_cases hlt : m < n
    · obtain ⟨b, off, rfl, hb, c0, c1, c2, c3⟩ := s4At_get HV.out m (by rw [HN.out]; exact hlt)
      obtain ⟨b', off', rfl, hb', d0, d1, d2, d3⟩ := s4At_get HU.out m (by rw [HN.out]; exact hlt)
      obtain ⟨x, hx⟩ : ∃ x, (l[m]'(by rw [HN.out]; exact hlt)) = x := ⟨_, rfl⟩
      obtain ⟨x0, x1, x2, x3⟩ := x
      simp only [hx] at c0 c1 c2 c3 d0 d1 d2 d3
      have i1 : (0 : Int) ≤ m := by omega
      have i2 : (m : Int) < n := by omega
      clear hx
      go_wp2
      go_quiet (fail)
      go_wp2
      go_roundw
      case rel => exact ⟨m + 1, _, by go_num, by omega, rfl⟩
      case measure => simp [intOf]; omega
    · obtain rfl : m = n := by omega
      clear hlt
      go_wp2
      go_ret
      exact ⟨rfl, sbelow_drewN (Below.refl _ _) _⟩
end Go.Proofs.YtlobinjdgcidmaaGreatDoor
