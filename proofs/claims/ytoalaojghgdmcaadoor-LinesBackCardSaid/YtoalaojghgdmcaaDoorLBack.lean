/- lines.Back, where the place is there. -/
import Derived.Test.YtoalaojghgdmcaaDoorLines
import Derived.Test.YtoalaojghgdmcaaDoorLMath3
namespace Go.Proofs.YtoalaojghgdmcaaDoor
open Go.RowKit

theorem isat_any (o k c x y : Nat) (r : Bool) (w : World) (hr : (k == x && c == y) = r) :
    Calls Tryd.prog 45 #[.agg #[.int .i64 (o : Int), .int .i64 (k : Int), .int .i64 (c : Int)], .int .i64 (x : Int), .int .i64 (y : Int)] w fun e w' => e = .returned (.bool r) ∧ Below w.heap.size w w' := by
  subst hr
  by_cases h1 : k = x
  · by_cases h2 : c = y
    · subst h1 h2
      go_enter Tryd.func45, Tryd.ntmps45
      go_wp2
      go_ret
      exact ⟨by simp, (Below.refl _ _).alloc (Nat.le_refl _) _⟩
    · subst h1
      have e2 : ((c : Int) == y) = false := by rw [beq_eq_false_iff_ne]; omega
      have e3 : (c == y) = false := by rw [beq_eq_false_iff_ne]; exact h2
      rw [e3]
      clear h2 e3
      go_enter Tryd.func45, Tryd.ntmps45
      go_wp2
      go_ret
      exact ⟨by simp, (Below.refl _ _).alloc (Nat.le_refl _) _⟩
  · have e2 : ((k : Int) == x) = false := by rw [beq_eq_false_iff_ne]; omega
    have e3 : (k == x) = false := by rw [beq_eq_false_iff_ne]; exact h1
    rw [e3]
    clear h1 e3
    go_enter Tryd.func45, Tryd.ntmps45
    go_wp2
    go_ret
    exact ⟨by simp, (Below.refl _ _).alloc (Nat.le_refl _) _⟩

set_option maxHeartbeats 1000000 in
theorem back_any (v : Value) (l : List UInt8) (x y n : Nat) (w : World) (hT : Tabs w) (hv : Bs w v l) (hl : l.length ≤ 1048576) (hr : M.backP l x y l.length (0, 0, 0) = (n, x, y)) :
    Calls Tryd.prog 28 #[v, .int .i64 (x : Int), .int .i64 (y : Int)] w fun e w' => e = .returned (.tuple #[.int .i64 (n : Int), .bool true]) ∧ Below w.heap.size w w' := by
  have hv2 := hv
  obtain ⟨a, cap, rfl, h1, h2, h3⟩ := hv2
  have HT := Lib.hid hT
  have Hv := Lib.hid hv
  have Hr := Lib.hid hr
  clear hT hv h3 hr
  obtain ⟨W, hW⟩ : ∃ W, w.alloc (.cells #[.int .i64 0, .int .i64 0, .int .i64 0] 62) = W := ⟨_, rfl⟩
  have hb1 : Below w.heap.size w W := by rw [← hW]; exact (Below.refl _ _).alloc (Nat.le_refl _) _
  have hsz : W.heap.size = w.heap.size + 1 := by rw [← hW]; simp
  have g0 : W.cell? ⟨w.heap.size, 0, none⟩ = some (.int .i64 0) := by rw [← hW, World.cell?_alloc_at _ _ _ _ rfl]; rfl
  have g1 : W.cell? ⟨w.heap.size, 1, none⟩ = some (.int .i64 0) := by rw [← hW, World.cell?_alloc_at _ _ _ _ rfl]; rfl
  have g2 : W.cell? ⟨w.heap.size, 2, none⟩ = some (.int .i64 0) := by rw [← hW, World.cell?_alloc_at _ _ _ _ rfl]; rfl
  have z : ∀ j, W.frozen? ⟨w.heap.size, j, none⟩ = false := by intro j; rw [← hW]; exact World.frozen?_alloc_at _ _ _ _ rfl
  have HW := Lib.hid hW
  have Z := Lib.hid z
  clear hW z
  go_enter Tryd.func28, Tryd.ntmps28
  go_wp2_with fail
  rw [HW.out]
  go_loopw [10] (fun _ wr => ∃ (f o k c : Nat), o ≤ l.length ∧ l.length ≤ o + f ∧ k ≤ o ∧ c ≤ 2 * o ∧ M.backP l x y f (o, k, c) = (n, x, y) ∧ Below w.heap.size w wr ∧ w.heap.size < wr.heap.size ∧ wr.cell? ⟨w.heap.size, 0, none⟩ = some (.int .i64 (o : Int)) ∧ wr.cell? ⟨w.heap.size, 1, none⟩ = some (.int .i64 (k : Int)) ∧ wr.cell? ⟨w.heap.size, 2, none⟩ = some (.int .i64 (c : Int)) ∧ (∀ j, wr.frozen? ⟨w.heap.size, j, none⟩ = false))
    (fun _ wr => match wr.cell? ⟨w.heap.size, 0, none⟩ with | some (.int _ o) => l.length - o.toNat | _ => 0)
  case atStart => exact ⟨l.length, 0, 0, 0, by omega, by omega, by omega, by omega, Hr.out, hb1, by omega, g0, g1, g2, Z.out⟩
  case round =>
    clear g0 g1 g2
    obtain ⟨f, o, k, c, ho, hf, hk, hc, hg, hb, hs, g0, g1, g2, z⟩ := hrel
    have Z2 := Lib.hid z
    clear z
    have keep : ∀ w1, Below wr.heap.size wr w1 → w1.cell? ⟨w.heap.size, 0, none⟩ = some (.int .i64 (o : Int)) ∧ w1.cell? ⟨w.heap.size, 1, none⟩ = some (.int .i64 (k : Int)) ∧ w1.cell? ⟨w.heap.size, 2, none⟩ = some (.int .i64 (c : Int)) ∧ (∀ j, w1.frozen? ⟨w.heap.size, j, none⟩ = false) := by
      intro w1 hw1
      obtain ⟨hcc, hff⟩ := bcell hw1
      exact ⟨by rw [hcc _ _ hs]; exact g0, by rw [hcc _ _ hs]; exact g1, by rw [hcc _ _ hs]; exact g2, fun j => by rw [hff _ _ hs]; exact Z2.out j⟩
    have Keep := Lib.hid keep
    clear keep
    by_cases hfound : k = x ∧ c = y
    · rw [M.backP_stop l x y f (o, k, c) (.inr hfound)] at hg
      have Hg := Lib.hid hg
      have hyes : (k == x && c == y) = true := by simp [hfound]
      have Hyes := Lib.hid hyes
      clear hg hyes hfound
      by_cases hlt : o < l.length
      · go_wp2_with fail
        refine (isat_any o k c x y true _ Hyes.out).mono ?_
        rintro e w1 ⟨rfl, hw1⟩
        obtain ⟨f0, f1, f2, _⟩ := Keep.out w1 hw1
        have hb2 := hb.trans (hw1.mono (by omega))
        clear hw1 hb g0 g1 g2
        go_wp2_with fail
        refine (isat_any o k c x y true _ Hyes.out).mono ?_
        rintro e w2 ⟨rfl, hw2⟩
        have hb3 := hb2.trans (hw2.mono hb2.size)
        have f3 : w2.cell? ⟨w.heap.size, 0, none⟩ = some (.int .i64 (o : Int)) := by
          rw [hw2.cell (p := ⟨w.heap.size, 0, none⟩) (World.block_lt_of_cell? w1 _ f0)]; exact f0
        clear hw2 hb2 f0 f1 f2
        go_wp2
        go_ret2
        have := Hg.out
        simp only [Prod.mk.injEq] at this
        exact ⟨by rw [← this.1]; rfl, hb3⟩
      · go_wp2_with fail
        refine (isat_any o k c x y true _ Hyes.out).mono ?_
        rintro e w1 ⟨rfl, hw1⟩
        obtain ⟨f0, f1, f2, _⟩ := Keep.out w1 hw1
        have hb2 := hb.trans (hw1.mono (by omega))
        clear hw1 hb g0 g1 g2
        go_wp2
        go_ret2
        have := Hg.out
        simp only [Prod.mk.injEq] at this
        exact ⟨by rw [← this.1]; rfl, hb2⟩
    · have hlt : o < l.length := by
        by_cases h : o < l.length
        · exact h
        · rw [M.backP_stop l x y f (o, k, c) (.inl (by simp only; omega))] at hg
          simp only [Prod.mk.injEq] at hg
          exact absurd ⟨hg.2.1, hg.2.2⟩ hfound
      rw [M.backP_step l x y f (o, k, c) hlt hfound (by omega)] at hg
      have hno : (k == x && c == y) = false := by
        rw [Bool.and_eq_false_iff, beq_eq_false_iff_ne, beq_eq_false_iff_ne]; omega
      have Hno := Lib.hid hno
      have hbo := M.stepP_le l (o, k, c) (by simp only; omega)
      have hbo2 := M.stepP_off l (o, k, c)
      obtain ⟨o2, k2, c2, hst⟩ : ∃ o2 k2 c2, M.stepP l (o, k, c) = (o2, k2, c2) := ⟨_, _, _, rfl⟩
      have hk2 : k2 ≤ o2 ∧ c2 ≤ 2 * o2 := by
        have hw := (M.dec_width (l.drop o)).1
        have hu : M.unitsOf (M.dec (l.drop o)).1 ≤ 2 := by unfold M.unitsOf; split <;> omega
        unfold M.stepP at hst
        split at hst <;> (simp only [Prod.mk.injEq] at hst; omega)
      rw [hst] at hbo hbo2 hg
      simp only at hbo hbo2
      have Hst := Lib.hid hst
      have Hg2 := Lib.hid hg
      have G0 := Lib.hid g0
      clear hst hg hno hfound
      go_wp2_with fail
      refine (isat_any o k c x y false _ Hno.out).mono ?_
      rintro e w1 ⟨rfl, hw1⟩
      obtain ⟨f0, f1, f2, z1⟩ := Keep.out w1 hw1
      have hb2 := hb.trans (hw1.mono (by omega))
      have hs1 : w.heap.size < w1.heap.size := Nat.lt_of_lt_of_le hs hw1.size
      have Z1 := Lib.hid z1
      clear hw1 hb g0 g1 g2 z1
      go_wp2_with fail
      refine (pnext_any _ l o k c _ w1 (HT.out.keep hb2) (Hv.out.keep hb2) (by omega) (by omega) (by omega) (by omega) Hst.out).mono ?_
      rintro e w2 ⟨rfl, hw2⟩
      unfold plc
      obtain ⟨hcc, hff⟩ := bcell hw2
      have g3 : w2.cell? ⟨w.heap.size, 0, none⟩ = some (.int .i64 (o : Int)) := by rw [hcc _ _ hs1]; exact f0
      have g4 : w2.cell? ⟨w.heap.size, 1, none⟩ = some (.int .i64 (k : Int)) := by rw [hcc _ _ hs1]; exact f1
      have g5 : w2.cell? ⟨w.heap.size, 2, none⟩ = some (.int .i64 (c : Int)) := by rw [hcc _ _ hs1]; exact f2
      have z3 : ∀ j, w2.frozen? ⟨w.heap.size, j, none⟩ = false := by intro j; rw [hff _ _ hs1]; exact Z1.out j
      have z4 := z3 0
      have z5 := z3 1
      have z6 := z3 2
      have hb3 := hb2.trans (hw2.mono hb2.size)
      have hs3 : w.heap.size < w2.heap.size := Nat.lt_of_lt_of_le hs1 hw2.size
      have Z3 := Lib.hid z3
      clear hcc hff f0 f1 f2 hb2 hw2 z3
      have n0 : ((((w2.setCell ⟨w.heap.size, 0, none⟩ (.int .i64 (o2 : Int))).setCell ⟨w.heap.size, 1, none⟩ (.int .i64 (k2 : Int))).setCell ⟨w.heap.size, 2, none⟩ (.int .i64 (c2 : Int)))).cell? ⟨w.heap.size, 0, none⟩ = some (.int .i64 (o2 : Int)) := by
        rw [World.cell?_setCell_other _ _ _ _ (by simp), World.cell?_setCell_other _ _ _ _ (by simp), World.cell?_setCell_same _ _ _ g3]
      have n1 : ((((w2.setCell ⟨w.heap.size, 0, none⟩ (.int .i64 (o2 : Int))).setCell ⟨w.heap.size, 1, none⟩ (.int .i64 (k2 : Int))).setCell ⟨w.heap.size, 2, none⟩ (.int .i64 (c2 : Int)))).cell? ⟨w.heap.size, 1, none⟩ = some (.int .i64 (k2 : Int)) := by
        rw [World.cell?_setCell_other _ _ _ _ (by simp), World.cell?_setCell_same _ _ _ ((World.cell?_setCell_other _ _ _ _ (by simp)).trans g4)]
      have n2 : ((((w2.setCell ⟨w.heap.size, 0, none⟩ (.int .i64 (o2 : Int))).setCell ⟨w.heap.size, 1, none⟩ (.int .i64 (k2 : Int))).setCell ⟨w.heap.size, 2, none⟩ (.int .i64 (c2 : Int)))).cell? ⟨w.heap.size, 2, none⟩ = some (.int .i64 (c2 : Int)) := by
        rw [World.cell?_setCell_same _ _ _ ((World.cell?_setCell_other _ _ _ _ (by simp)).trans ((World.cell?_setCell_other _ _ _ _ (by simp)).trans g5))]
      have N0 := Lib.hid n0
      have N1 := Lib.hid n1
      have N2 := Lib.hid n2
      clear n0 n1 n2
      go_wp2
      go_roundw
      case rel =>
        refine ⟨f - 1, o2, k2, c2, by omega, by omega, hk2.1, hk2.2, Hg2.out, ((hb3.setCell (by simp) _).setCell (by simp) _).setCell (by simp) _, by simpa using hs3, N0.out, N1.out, N2.out, fun j => ?_⟩
        rw [World.frozen?_setCell, World.frozen?_setCell, World.frozen?_setCell]
        exact Z3.out j
      case measure =>
        rw [N0.out, G0.out]
        simp
        omega
end Go.Proofs.YtoalaojghgdmcaaDoor
