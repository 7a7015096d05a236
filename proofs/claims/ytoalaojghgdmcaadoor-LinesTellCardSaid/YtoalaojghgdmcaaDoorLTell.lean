/- Places found again: abridgerref1.Back and Count; lines.Back where nothing is found; the two agree. -/
import Derived.Test.YtoalaojghgdmcaaDoorLRef
import Derived.Test.YtoalaojghgdmcaaDoorLBack
namespace Go.Proofs.YtoalaojghgdmcaaDoor
open Go.RowKit
set_option linter.unusedVariables false

theorem refcount_any (v : Value) (l : List UInt8) (k c : Nat) (w : World) (hv : Bs w v l) (hl : l.length ≤ 1048576) (hr : M.atP l l.length = (k, c)) :
    Calls Tryd.prog 31 #[v] w fun e w' => e = .returned (.int .i64 ((k : Int) + 1)) ∧ w = w' := by
  have hsm := M.goP_small l l.length l.length (0, 0, 0) (by simp) (by simp) (by simp) (by simp)
  have hk : k ≤ l.length := by
    have : (M.atP l l.length).1 ≤ l.length := hsm.1
    rw [hr] at this
    exact this
  have hv2 := hv
  obtain ⟨a, cap, rfl, h1, h2, h3⟩ := hv2
  clear h3
  have Hv := Lib.hid hv
  have Hr := Lib.hid hr
  clear hv hr hsm
  go_enter Tryd.func31, Tryd.ntmps31
  go_wp2_with fail
  refine (refat_any _ l l.length _ _ Hv.out hl (Nat.le_refl _) (.inl rfl) _ Hr.out).mono ?_
  rintro e w1 ⟨rfl, rfl⟩
  go_wp2
  go_ret
  exact ⟨rfl, rfl⟩

def two (r : Int × Bool) : Value := .tuple #[.int .i64 r.1, .bool r.2]
set_option maxHeartbeats 1000000 in
theorem refback_any (v : Value) (l : List UInt8) (x y : Int) (res : Int × Bool) (w : World) (hv : Bs w v l) (hl : l.length ≤ 1048576) (hr : M.found l x y = res) :
    Calls Tryd.prog 29 #[v, .int .i64 x, .int .i64 y] w fun e w' => e = .returned (two res) ∧ w = w' := by
  have hv2 := hv
  obtain ⟨a, cap, rfl, h1, h2, h3⟩ := hv2
  clear h3
  have Hv := Lib.hid hv
  have Hr := Lib.hid hr
  clear hv hr
  go_enter Tryd.func29, Tryd.ntmps29
  go_wp2
  go_loop [8, 9, 10] (fun iv _ _ => ∃ z : Int, iv = .int .i64 z ∧ -1 ≤ z ∧ z ≤ l.length ∧ ((0 ≤ z ∧ M.seek l x y z.toNat = res) ∨ (z = -1 ∧ res = (0, false)))) (fun iv _ _ => (intOf iv + 1).toNat)
  case atStart => exact ⟨l.length, rfl, by omega, by omega, .inl ⟨by omega, by rw [Int.toNat_natCast]; exact Hr.out⟩⟩
  case round =>
    obtain ⟨z, rfl, hz0, hz1, hz⟩ := hrel
    rcases hz with ⟨hz2, hs⟩ | ⟨rfl, hs⟩
    · obtain ⟨k, rfl⟩ : ∃ k : Nat, z = k := ⟨z.toNat, by omega⟩
      rw [Int.toNat_natCast] at hs
      have hk : k ≤ l.length := by omega
      obtain ⟨p, q, hpq⟩ : ∃ p q, M.atP l k = (p, q) := ⟨_, _, rfl⟩
      have hat := refat_any _ l k (k : Int) w Hv.out hl hk (.inl rfl) _ hpq
      have Hat := Lib.hid hat
      by_cases hhit : (p : Int) = x ∧ (q : Int) = y
      · have hh := M.seek_hit l x y k (by rw [hpq]; exact hhit)
        rw [hs] at hh
        obtain ⟨hx, hy⟩ := hhit
        have q1 : ((p : Int) == x) = true := by rw [beq_iff_eq]; exact hx
        have q2 : ((q : Int) == y) = true := by rw [beq_iff_eq]; exact hy
        have Hh := Lib.hid hh
        clear hat hpq hs hh hx hy Hr
        go_wp2_with fail
        refine Hat.out.mono ?_
        rintro e w' ⟨rfl, rfl⟩
        go_wp2
        go_ret2
        exact ⟨by rw [Hh.out]; rfl, rfl⟩
      · have hnext : (0 ≤ (k : Int) - 1 ∧ M.seek l x y ((k : Int) - 1).toNat = res) ∨ ((k : Int) - 1 = -1 ∧ res = (0, false)) := by
          cases k with
          | zero =>
            right
            refine ⟨by omega, ?_⟩
            rw [← hs]
            simp only [M.seek]
            rw [if_neg (by rw [hpq]; exact hhit)]
          | succ k =>
            left
            refine ⟨by omega, ?_⟩
            rw [M.seek_miss l x y k (by rw [hpq]; exact hhit)] at hs
            rw [show (((k + 1 : Nat) : Int) - 1).toNat = k by omega]
            exact hs
        have Hnext := Lib.hid hnext
        clear hnext hat hs hpq Hr
        by_cases hx : (p : Int) = x
        · have q1 : ((p : Int) == x) = true := by rw [beq_iff_eq]; exact hx
          have q2 : ((q : Int) == y) = false := by rw [beq_eq_false_iff_ne]; exact fun h => hhit ⟨hx, h⟩
          clear hhit hx
          go_wp2_with fail
          refine Hat.out.mono ?_
          rintro e w' ⟨rfl, rfl⟩
          go_wp2
          go_round
          case rel => exact ⟨(k : Int) - 1, by go_num, by omega, by omega, Hnext.out⟩
          case measure => simp [intOf] <;> omega
        · have q1 : ((p : Int) == x) = false := by rw [beq_eq_false_iff_ne]; exact hx
          clear hhit hx
          go_wp2_with fail
          refine Hat.out.mono ?_
          rintro e w' ⟨rfl, rfl⟩
          go_wp2
          go_round
          case rel => exact ⟨(k : Int) - 1, by go_num, by omega, by omega, Hnext.out⟩
          case measure => simp [intOf] <;> omega
    · subst hs
      go_wp2
      go_ret2
      exact ⟨rfl, rfl⟩

theorem isat_no (o k c : Nat) (x y : Int) (w : World) (h : ¬ ((k : Int) = x ∧ (c : Int) = y)) :
    Calls Tryd.prog 45 #[.agg #[.int .i64 (o : Int), .int .i64 (k : Int), .int .i64 (c : Int)], .int .i64 x, .int .i64 y] w fun e w' => e = .returned (.bool false) ∧ Below w.heap.size w w' := by
  by_cases h1 : (k : Int) = x
  · have e1 : ((k : Int) == x) = true := by rw [beq_iff_eq]; exact h1
    have e2 : ((c : Int) == y) = false := by rw [beq_eq_false_iff_ne]; exact fun hh => h ⟨h1, hh⟩
    clear h h1
    go_enter Tryd.func45, Tryd.ntmps45
    go_wp2
    go_ret
    exact ⟨by simp, (Below.refl _ _).alloc (Nat.le_refl _) _⟩
  · have e2 : ((k : Int) == x) = false := by rw [beq_eq_false_iff_ne]; exact h1
    clear h h1
    go_enter Tryd.func45, Tryd.ntmps45
    go_wp2
    go_ret
    exact ⟨by simp, (Below.refl _ _).alloc (Nat.le_refl _) _⟩

/-- The reading stands there. -/
def Reach (l : List UInt8) (f o k c : Nat) : Prop := l.length ≤ o + f ∧ ∀ t, o ≤ t → M.goP l l.length t (0, 0, 0) = M.goP l f t (o, k, c)
theorem Reach.at {l : List UInt8} {f o k c : Nat} (h : Reach l f o k c) : M.atP l o = (k, c) := by
  unfold M.atP
  rw [h.2 o (Nat.le_refl _), M.goP_stop l f o (o, k, c) (Nat.le_refl _)]
theorem Reach.step {l : List UInt8} {f o k c o2 k2 c2 : Nat} (h : Reach l f o k c) (ho : o < l.length) (hs : M.stepP l (o, k, c) = (o2, k2, c2)) : Reach l (f - 1) o2 k2 c2 := by
  have h1 := M.stepP_off l (o, k, c)
  rw [hs] at h1
  simp only at h1
  have h2 := h.1
  refine ⟨by omega, fun t ht => ?_⟩
  rw [h.2 t (by omega), M.goP_step l f t (o, k, c) (by simp only; omega) (by omega), hs]

set_option maxHeartbeats 1000000 in
theorem back_none (v : Value) (l : List UInt8) (x y : Int) (w : World) (hT : Tabs w) (hv : Bs w v l) (hl : l.length ≤ 1048576) (hr : ∀ t, t ≤ l.length → ¬ (((M.atP l t).1 : Int) = x ∧ ((M.atP l t).2 : Int) = y)) :
    Calls Tryd.prog 28 #[v, .int .i64 x, .int .i64 y] w fun e w' => e = .returned (two (0, false)) ∧ Below w.heap.size w w' := by
  have hv2 := hv
  obtain ⟨a, cap, rfl, h1, h2, h3⟩ := hv2
  have HT := Lib.hid hT
  have Hv := Lib.hid hv
  have Hr := Lib.hid hr
  clear hT hv h3 hr
  obtain ⟨W, hW⟩ : ∃ W, w.alloc (.cells #[.int .i64 0, .int .i64 0, .int .i64 0] 62) = W := ⟨_, rfl⟩
  have hb1 : Below w.heap.size w W := by rw [← hW]; exact (Below.refl _ _).alloc (Nat.le_refl _) _
  have hsz : W.heap.size = w.heap.size + 1 := by rw [← hW]; simp
  have g0 : W.cell? ⟨w.heap.size, 0, none⟩ = some (.int .i64 0) := by rw [← hW, World.cell?_alloc_at _ _ _ _ rfl]; rfl
  have g1 : W.cell? ⟨w.heap.size, 1, none⟩ = some (.int .i64 0) := by rw [← hW, World.cell?_alloc_at _ _ _ _ rfl]; rfl
  have g2 : W.cell? ⟨w.heap.size, 2, none⟩ = some (.int .i64 0) := by rw [← hW, World.cell?_alloc_at _ _ _ _ rfl]; rfl
  have z : ∀ j, W.frozen? ⟨w.heap.size, j, none⟩ = false := by intro j; rw [← hW]; exact World.frozen?_alloc_at _ _ _ _ rfl
  have HW := Lib.hid hW
  have Z := Lib.hid z
  clear hW z
  go_enter Tryd.func28, Tryd.ntmps28
  go_wp2_with fail
  rw [HW.out]
  go_loopw [10] (fun _ wr => ∃ (f o k c : Nat), o ≤ l.length ∧ k ≤ o ∧ c ≤ 2 * o ∧ Reach l f o k c ∧ Below w.heap.size w wr ∧ w.heap.size < wr.heap.size ∧ wr.cell? ⟨w.heap.size, 0, none⟩ = some (.int .i64 (o : Int)) ∧ wr.cell? ⟨w.heap.size, 1, none⟩ = some (.int .i64 (k : Int)) ∧ wr.cell? ⟨w.heap.size, 2, none⟩ = some (.int .i64 (c : Int)) ∧ (∀ j, wr.frozen? ⟨w.heap.size, j, none⟩ = false))
    (fun _ wr => match wr.cell? ⟨w.heap.size, 0, none⟩ with | some (.int _ o) => l.length - o.toNat | _ => 0)
  case atStart => exact ⟨l.length, 0, 0, 0, by omega, by omega, by omega, ⟨by omega, fun _ _ => rfl⟩, hb1, by omega, g0, g1, g2, Z.out⟩
  case round =>
    clear g0 g1 g2
    obtain ⟨f, o, k, c, ho, hk, hc, hg, hb, hs, g0, g1, g2, z⟩ := hrel
    have Z2 := Lib.hid z
    clear z
    have keep : ∀ w1, Below wr.heap.size wr w1 → w1.cell? ⟨w.heap.size, 0, none⟩ = some (.int .i64 (o : Int)) ∧ w1.cell? ⟨w.heap.size, 1, none⟩ = some (.int .i64 (k : Int)) ∧ w1.cell? ⟨w.heap.size, 2, none⟩ = some (.int .i64 (c : Int)) ∧ (∀ j, w1.frozen? ⟨w.heap.size, j, none⟩ = false) := by
      intro w1 hw1
      obtain ⟨hcc, hff⟩ := bcell hw1
      exact ⟨by rw [hcc _ _ hs]; exact g0, by rw [hcc _ _ hs]; exact g1, by rw [hcc _ _ hs]; exact g2, fun j => by rw [hff _ _ hs]; exact Z2.out j⟩
    have Keep := Lib.hid keep
    have hno : ¬ ((k : Int) = x ∧ (c : Int) = y) := by
      have := Hr.out o ho
      rw [hg.at] at this
      exact this
    have hna := fun W => isat_no o k c x y W hno
    have Hna := Lib.hid hna
    have Hg := Lib.hid hg
    clear keep hno hna hg
    by_cases hlt : o < l.length
    · have hbo := M.stepP_le l (o, k, c) (by simp only; omega)
      have hbo2 := M.stepP_off l (o, k, c)
      obtain ⟨o2, k2, c2, hst⟩ : ∃ o2 k2 c2, M.stepP l (o, k, c) = (o2, k2, c2) := ⟨_, _, _, rfl⟩
      have hk2 : k2 ≤ o2 ∧ c2 ≤ 2 * o2 := by
        have hw := (M.dec_width (l.drop o)).1
        have hu : M.unitsOf (M.dec (l.drop o)).1 ≤ 2 := by unfold M.unitsOf; split <;> omega
        unfold M.stepP at hst
        split at hst <;> (simp only [Prod.mk.injEq] at hst; omega)
      rw [hst] at hbo hbo2
      simp only at hbo hbo2
      have hg2 := Hg.out.step hlt hst
      have Hst := Lib.hid hst
      have Hg2 := Lib.hid hg2
      have G0 := Lib.hid g0
      clear hst hg2
      go_wp2_with fail
      refine (Hna.out _).mono ?_
      rintro e w1 ⟨rfl, hw1⟩
      obtain ⟨f0, f1, f2, z1⟩ := Keep.out w1 hw1
      have hb2 := hb.trans (hw1.mono (by omega))
      have hs1 : w.heap.size < w1.heap.size := Nat.lt_of_lt_of_le hs hw1.size
      have Z1 := Lib.hid z1
      clear hw1 hb g0 g1 g2 z1
      go_wp2_with fail
      refine (pnext_any _ l o k c _ w1 (HT.out.keep hb2) (Hv.out.keep hb2) (by omega) (by omega) (by omega) (by omega) Hst.out).mono ?_
      rintro e w2 ⟨rfl, hw2⟩
      unfold plc
      obtain ⟨hcc, hff⟩ := bcell hw2
      have g3 : w2.cell? ⟨w.heap.size, 0, none⟩ = some (.int .i64 (o : Int)) := by rw [hcc _ _ hs1]; exact f0
      have g4 : w2.cell? ⟨w.heap.size, 1, none⟩ = some (.int .i64 (k : Int)) := by rw [hcc _ _ hs1]; exact f1
      have g5 : w2.cell? ⟨w.heap.size, 2, none⟩ = some (.int .i64 (c : Int)) := by rw [hcc _ _ hs1]; exact f2
      have z3 : ∀ j, w2.frozen? ⟨w.heap.size, j, none⟩ = false := by intro j; rw [hff _ _ hs1]; exact Z1.out j
      have z4 := z3 0
      have z5 := z3 1
      have z6 := z3 2
      have hb3 := hb2.trans (hw2.mono hb2.size)
      have hs3 : w.heap.size < w2.heap.size := Nat.lt_of_lt_of_le hs1 hw2.size
      have Z3 := Lib.hid z3
      clear hcc hff f0 f1 f2 hb2 hw2 z3
      have n0 : ((((w2.setCell ⟨w.heap.size, 0, none⟩ (.int .i64 (o2 : Int))).setCell ⟨w.heap.size, 1, none⟩ (.int .i64 (k2 : Int))).setCell ⟨w.heap.size, 2, none⟩ (.int .i64 (c2 : Int)))).cell? ⟨w.heap.size, 0, none⟩ = some (.int .i64 (o2 : Int)) := by
        rw [World.cell?_setCell_other _ _ _ _ (by simp), World.cell?_setCell_other _ _ _ _ (by simp), World.cell?_setCell_same _ _ _ g3]
      have n1 : ((((w2.setCell ⟨w.heap.size, 0, none⟩ (.int .i64 (o2 : Int))).setCell ⟨w.heap.size, 1, none⟩ (.int .i64 (k2 : Int))).setCell ⟨w.heap.size, 2, none⟩ (.int .i64 (c2 : Int)))).cell? ⟨w.heap.size, 1, none⟩ = some (.int .i64 (k2 : Int)) := by
        rw [World.cell?_setCell_other _ _ _ _ (by simp), World.cell?_setCell_same _ _ _ ((World.cell?_setCell_other _ _ _ _ (by simp)).trans g4)]
      have n2 : ((((w2.setCell ⟨w.heap.size, 0, none⟩ (.int .i64 (o2 : Int))).setCell ⟨w.heap.size, 1, none⟩ (.int .i64 (k2 : Int))).setCell ⟨w.heap.size, 2, none⟩ (.int .i64 (c2 : Int)))).cell? ⟨w.heap.size, 2, none⟩ = some (.int .i64 (c2 : Int)) := by
        rw [World.cell?_setCell_same _ _ _ ((World.cell?_setCell_other _ _ _ _ (by simp)).trans ((World.cell?_setCell_other _ _ _ _ (by simp)).trans g5))]
      have N0 := Lib.hid n0
      have N1 := Lib.hid n1
      have N2 := Lib.hid n2
      clear n0 n1 n2
      go_wp2
      go_roundw
      case rel =>
        refine ⟨f - 1, o2, k2, c2, by omega, hk2.1, hk2.2, Hg2.out, ((hb3.setCell (by simp) _).setCell (by simp) _).setCell (by simp) _, by simpa using hs3, N0.out, N1.out, N2.out, fun j => ?_⟩
        rw [World.frozen?_setCell, World.frozen?_setCell, World.frozen?_setCell]
        exact Z3.out j
      case measure =>
        rw [N0.out, G0.out]
        simp
        omega
    · go_wp2_with fail
      refine (Hna.out _).mono ?_
      rintro e w1 ⟨rfl, hw1⟩
      have hb2 := hb.trans (hw1.mono (by omega))
      clear hw1 hb g0 g1 g2
      go_wp2
      go_ret2
      exact ⟨rfl, hb2⟩

/-- lines.Back finds what the reference finds. -/
theorem back_all (v : Value) (l : List UInt8) (x y : Int) (w : World) (hT : Tabs w) (hv : Bs w v l) (hl : l.length ≤ 1048576) (res : Int × Bool) (hr : M.found l x y = res) :
    Calls Tryd.prog 28 #[v, .int .i64 x, .int .i64 y] w fun e w' => e = .returned (two res) ∧ Below w.heap.size w w' := by
  by_cases h : ∃ t, t ≤ l.length ∧ ((M.atP l t).1 : Int) = x ∧ ((M.atP l t).2 : Int) = y
  · obtain ⟨t, ht, rfl, rfl⟩ := h
    obtain ⟨e1, e2⟩ := M.found_some l (M.atP l t).1 (M.atP l t).2 t ht rfl
    rw [e1] at hr
    subst hr
    exact back_any v l _ _ _ w hT hv hl e2
  · have hno : ∀ t, t ≤ l.length → ¬ (((M.atP l t).1 : Int) = x ∧ ((M.atP l t).2 : Int) = y) := fun t ht hh => h ⟨t, ht, hh⟩
    rw [M.found_none l x y hno] at hr
    subst hr
    exact back_none v l x y w hT hv hl hno
end Go.Proofs.YtoalaojghgdmcaaDoor
