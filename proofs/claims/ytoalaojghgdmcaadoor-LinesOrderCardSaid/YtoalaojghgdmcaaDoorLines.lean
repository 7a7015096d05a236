/- Lines and columns: what places.Next, lines.At and lines.Count return, for any bytes. -/
import Derived.Test.YtoalaojghgdmcaaDoorUAlive
import Derived.Test.YtoalaojghgdmcaaDoorLMath
import Derived.StillTailTactics
import Derived.Deep.QuietTactic
import Derived.BigQuiet
import Derived.WalkSmall
import Derived.Lib.SlBytesConst
namespace Go.Proofs.YtoalaojghgdmcaaDoor
open Go.RowKit

theorem bs_at {w : World} {b off : Nat} {l : List UInt8} (h : ∀ j (h : j < l.length), w.cell? ⟨b, off + j, none⟩ = some (.int .u8 (l[j].toNat : Int))) (p : Nat) (hp : p < l.length) :
    w.cell? ⟨b, off + p, none⟩ = some (.int .u8 (M.byte l p : Int)) := by
  rw [h p hp]; unfold M.byte; simp [hp]

theorem ends_any (v : Value) (l : List UInt8) (p : Nat) (r : Bool) (w : World) (hv : Bs w v l) (hp : p < l.length) (hl : l.length ≤ 4294967296) (hr : M.endsAt l p = r) :
    Calls Tryd.prog 52 #[v, .int .i64 (p : Int)] w fun e w' => e = .returned (.bool r) ∧ w = w' := by
  subst hr
  obtain ⟨a, cap, rfl, h1, h2, h3⟩ := hv
  obtain ⟨b, off, rfl, hb, hc⟩ := h3 (by omega)
  have hc0 := bs_at hc p hp
  unfold M.endsAt
  have i1 : (0 : Int) ≤ p := by omega
  have i2 : (p : Int) < l.length := by omega
  by_cases h13 : M.byte l p = 13
  · rw [if_pos h13]
    have q1 : ((M.byte l p : Int) == 13) = true := by rw [beq_iff_eq]; omega
    by_cases he : p + 1 = l.length
    · have q2 : ((p : Int) + 1 == l.length) = true := by rw [beq_iff_eq]; omega
      have hres : (p + 1 == l.length || M.byte l (p + 1) != 10) = true := by simp [he]
      rw [hres]
      generalize M.byte l p = c at *
      clear h3 hc h13 he hres
      go_enter Tryd.func52, Tryd.ntmps52
      go_wp2
      go_ret
      exact ⟨by simp, rfl⟩
    · have q2 : ((p : Int) + 1 == l.length) = false := by rw [beq_eq_false_iff_ne]; omega
      have hc1 := bs_at hc (p + 1) (by omega)
      have hres : (p + 1 == l.length || M.byte l (p + 1) != 10) = (((M.byte l (p + 1) : Nat) : Int) != 10) := by
        have : (p + 1 == l.length) = false := by simp [he]
        rw [this, Bool.false_or]
        rw [Bool.eq_iff_iff]; simp; omega
      rw [hres]
      have i3 : (p : Int) + 1 < l.length := by omega
      generalize M.byte l (p + 1) = d at *
      generalize M.byte l p = c at *
      clear h3 hc h13 he hres
      go_enter Tryd.func52, Tryd.ntmps52
      go_wp2
      go_ret
      exact ⟨by simp, rfl⟩
  · rw [if_neg h13]
    have q1 : ((M.byte l p : Int) == 13) = false := by rw [beq_eq_false_iff_ne]; omega
    have hres : (M.byte l p == 10) = (((M.byte l p : Nat) : Int) == 10) := by rw [Bool.eq_iff_iff]; simp; omega
    rw [hres]
    generalize M.byte l p = c at *
    clear h3 hc h13 hres
    go_enter Tryd.func52, Tryd.ntmps52
    go_wp2
    go_ret
    exact ⟨rfl, rfl⟩

theorem bcell {W w1 : World} (hb : Below W.heap.size W w1) : (∀ b o, b < W.heap.size → w1.cell? ⟨b, o, none⟩ = W.cell? ⟨b, o, none⟩) ∧ (∀ b o, b < W.heap.size → w1.frozen? ⟨b, o, none⟩ = W.frozen? ⟨b, o, none⟩) :=
  ⟨fun b o h => hb.cell (p := ⟨b, o, none⟩) h, fun b o h => hb.frozen (p := ⟨b, o, none⟩) h⟩
/-- A place as a value. -/
def plc (s : Nat × Nat × Nat) : Value := .agg #[.int .i64 (s.1 : Int), .int .i64 (s.2.1 : Int), .int .i64 (s.2.2 : Int)]
set_option maxHeartbeats 1000000 in
theorem pnext_any (v : Value) (l : List UInt8) (o k c : Nat) (s' : Nat × Nat × Nat) (w : World) (hT : Tabs w) (hv : Bs w v l) (ho : o < l.length) (hl : l.length ≤ 4294967296) (hk : k ≤ 4294967296) (hc : c ≤ 8589934592) (hr : M.stepP l (o, k, c) = s') :
    Calls Tryd.prog 42 #[v, .agg #[.int .i64 (o : Int), .int .i64 (k : Int), .int .i64 (c : Int)]] w fun e w' => e = .returned (plc s') ∧ Below w.heap.size w w' := by
  subst hr
  have hw := M.dec_width (l.drop o)
  have hru := M.dec_rune (l.drop o)
  obtain ⟨R, K, hRK⟩ : ∃ R K, M.dec (l.drop o) = (R, K) := ⟨_, _, rfl⟩
  obtain ⟨okk, hnx⟩ : ∃ ok, M.nextAt l o = ((R : Int), (K : Int), ok) := by
    unfold M.nextAt
    rw [if_neg (by omega), Int.toNat_natCast]
    unfold M.nx
    rw [hRK]
    by_cases hb : (R, K) = (65533, 1)
    · rw [if_pos hb]; simp only [Prod.mk.injEq] at hb; rw [hb.1, hb.2]; exact ⟨_, rfl⟩
    · rw [if_neg hb]; exact ⟨_, rfl⟩
  have hst : M.stepP l (o, k, c) = if M.endsAt l o then (o + K, k + 1, 0) else (o + K, k, c + M.unitsOf R) := by unfold M.stepP; simp only [hRK]
  rw [hst]
  rw [hRK] at hw hru
  simp only at hw hru
  obtain ⟨r, hE⟩ : ∃ r, M.endsAt l o = r := ⟨_, rfl⟩
  rw [hE]
  have hu : (if 65536 ≤ (R : Int) then (2 : Int) else 1) = (M.unitsOf R : Int) := by
    unfold M.unitsOf
    by_cases h : 65536 ≤ R
    · rw [if_pos h, if_pos (by omega)]; rfl
    · rw [if_neg h, if_neg (by omega)]; rfl
  have hu2 : M.unitsOf R ≤ 2 := by unfold M.unitsOf; split <;> omega
  have hcU : ∀ W, Calls Tryd.prog 23 #[.int .i64 (R : Int)] W fun e w' => e = .returned (.int .i64 (M.unitsOf R : Int)) ∧ w' = W := fun W =>
    (units_any R W).mono fun _ _ ⟨h1, h2⟩ => ⟨by rw [h1, hu], h2.symm⟩
  clear hu
  generalize M.unitsOf R = u at *
  have HcU := Lib.hid hcU
  clear hcU
  have HE := Lib.hid hE
  have Hnx := Lib.hid hnx
  have HT := Lib.hid hT
  have Hv := Lib.hid hv
  clear hRK hst hE hnx hT hv
  obtain ⟨W, hW⟩ : ∃ W, (w.alloc (.cells #[.int .i64 (o : Int), .int .i64 (k : Int), .int .i64 (c : Int)] 62)).alloc (.cells #[.int .i64 0, .int .i64 0, .int .i64 0] 62) = W := ⟨_, rfl⟩
  have hb1 : Below w.heap.size w W := by rw [← hW]; exact ((Below.refl _ _).alloc (Nat.le_refl _) _).alloc (by simp) _
  have hsz : W.heap.size = w.heap.size + 2 := by rw [← hW]; simp
  have f0 : W.cell? ⟨w.heap.size, 0, none⟩ = some (.int .i64 (o : Int)) := by rw [← hW, World.cell?_alloc_past _ _ _ (by simp), World.cell?_alloc_at _ _ _ _ rfl]; rfl
  have f1 : W.cell? ⟨w.heap.size, 1, none⟩ = some (.int .i64 (k : Int)) := by rw [← hW, World.cell?_alloc_past _ _ _ (by simp), World.cell?_alloc_at _ _ _ _ rfl]; rfl
  have f2 : W.cell? ⟨w.heap.size, 2, none⟩ = some (.int .i64 (c : Int)) := by rw [← hW, World.cell?_alloc_past _ _ _ (by simp), World.cell?_alloc_at _ _ _ _ rfl]; rfl
  have g0 : W.cell? ⟨w.heap.size + 1, 0, none⟩ = some (.int .i64 0) := by rw [← hW, World.cell?_alloc_at _ _ _ _ (by simp)]; rfl
  have g1 : W.cell? ⟨w.heap.size + 1, 1, none⟩ = some (.int .i64 0) := by rw [← hW, World.cell?_alloc_at _ _ _ _ (by simp)]; rfl
  have g2 : W.cell? ⟨w.heap.size + 1, 2, none⟩ = some (.int .i64 0) := by rw [← hW, World.cell?_alloc_at _ _ _ _ (by simp)]; rfl
  have z0 : W.frozen? ⟨w.heap.size + 1, 0, none⟩ = false := by rw [← hW]; exact World.frozen?_alloc_at _ _ _ _ (by simp)
  have z1 : W.frozen? ⟨w.heap.size + 1, 1, none⟩ = false := by rw [← hW]; exact World.frozen?_alloc_at _ _ _ _ (by simp)
  have z2 : W.frozen? ⟨w.heap.size + 1, 2, none⟩ = false := by rw [← hW]; exact World.frozen?_alloc_at _ _ _ _ (by simp)
  have HW := Lib.hid hW
  clear hW
  /- what the reading of the code point leaves -/
  have keep : ∀ w1, Below W.heap.size W w1 → (w1.cell? ⟨w.heap.size, 0, none⟩ = some (.int .i64 (o : Int)) ∧ w1.cell? ⟨w.heap.size, 1, none⟩ = some (.int .i64 (k : Int)) ∧ w1.cell? ⟨w.heap.size, 2, none⟩ = some (.int .i64 (c : Int))) ∧
      (w1.cell? ⟨w.heap.size + 1, 0, none⟩ = some (.int .i64 0) ∧ w1.cell? ⟨w.heap.size + 1, 1, none⟩ = some (.int .i64 0) ∧ w1.cell? ⟨w.heap.size + 1, 2, none⟩ = some (.int .i64 0)) ∧
      (w1.frozen? ⟨w.heap.size + 1, 0, none⟩ = false ∧ w1.frozen? ⟨w.heap.size + 1, 1, none⟩ = false ∧ w1.frozen? ⟨w.heap.size + 1, 2, none⟩ = false) := by
    intro w1 h
    obtain ⟨hc, hf⟩ := bcell h
    refine ⟨⟨?_, ?_, ?_⟩, ⟨?_, ?_, ?_⟩, ⟨?_, ?_, ?_⟩⟩
    · rw [hc _ _ (by omega)]; exact f0
    · rw [hc _ _ (by omega)]; exact f1
    · rw [hc _ _ (by omega)]; exact f2
    · rw [hc _ _ (by omega)]; exact g0
    · rw [hc _ _ (by omega)]; exact g1
    · rw [hc _ _ (by omega)]; exact g2
    · rw [hf _ _ (by omega)]; exact z0
    · rw [hf _ _ (by omega)]; exact z1
    · rw [hf _ _ (by omega)]; exact z2
  have Keep := Lib.hid keep
  clear keep f0 f1 f2 g0 g1 g2 z0 z1 z2
  have HTW := Lib.hid (HT.out.keep hb1)
  have HvW := Lib.hid (Hv.out.keep hb1)
  clear HT Hv
  cases r with
  | true =>
    go_enter Tryd.func42, Tryd.ntmps42
    go_wp2_with fail
    rw [HW.out]
    refine (next_any v l o _ W HTW.out HvW.out hl Hnx.out).mono ?_
    rintro e w1 ⟨rfl, hb2⟩
    unfold tri
    obtain ⟨⟨f0, f1, f2⟩, ⟨g0, g1, g2⟩, ⟨z0, z1, z2⟩⟩ := Keep.out w1 hb2
    have hb3 := hb1.trans (hb2.mono (by omega))
    have hv1 := HvW.out.keep hb2
    clear hb1 hb2
    have Hv1 := Lib.hid hv1
    clear hv1
    go_wp2_with fail
    refine (ends_any v l o true _ Hv1.out ho hl HE.out).mono ?_
    rintro e w2 ⟨rfl, rfl⟩
    have hs1 := hb3.size
    go_wp2
    refine bodyPost_ret (v := plc (o + K, k + 1, 0)) ?_ rfl ⟨rfl, ((hb3.setCell (by simp) _).setCell (by simp) _).setCell (by simp) _⟩
    simp [results, Tryd.results42, go_sem, g0, g1, g2, plc]
  | false =>
    go_enter Tryd.func42, Tryd.ntmps42
    go_wp2_with fail
    rw [HW.out]
    refine (next_any v l o _ W HTW.out HvW.out hl Hnx.out).mono ?_
    rintro e w1 ⟨rfl, hb2⟩
    unfold tri
    obtain ⟨⟨f0, f1, f2⟩, ⟨g0, g1, g2⟩, ⟨z0, z1, z2⟩⟩ := Keep.out w1 hb2
    have hb3 := hb1.trans (hb2.mono (by omega))
    have hv1 := HvW.out.keep hb2
    clear hb1 hb2
    have Hv1 := Lib.hid hv1
    clear hv1
    go_wp2_with fail
    refine (ends_any v l o false _ Hv1.out ho hl HE.out).mono ?_
    rintro e w2 ⟨rfl, rfl⟩
    go_wp2_with fail
    refine wp_region_still_tail 12 (by kernel_rfl) (by kernel_rfl) ?_
    simp only [List.take_succ_cons, List.take_zero, List.drop_succ_cons, List.drop_zero]
    repeat still_step
    still_call (HcU.out _)
    repeat still_step
    refine wpStill_nil ?_
    change wpList _ _ _ _ _ w1.drew
    have hs1 := hb3.size
    have hb4 : Below w.heap.size w w1.drew := hb3.drew
    go_wp2
    refine bodyPost_ret (v := plc (o + K, k, c + u)) ?_ rfl ⟨rfl, ?_⟩
    · simp [results, Tryd.results42, go_sem, g0, g1, g2, plc]
    · first | exact ((hb4.setCell (by simp) _).setCell (by simp) _).setCell (by simp) _ | exact (((hb3.setCell (by simp) _).setCell (by simp) _).setCell (by simp) _).drew

set_option maxHeartbeats 1000000 in
theorem at_any (v : Value) (l : List UInt8) (t : Nat) (i : Int) (w : World) (hT : Tabs w) (hv : Bs w v l) (hl : l.length ≤ 1048576) (ht : t ≤ l.length) (hi : (i = t) ∨ (i < 0 ∧ t = 0) ∨ ((l.length : Int) ≤ i ∧ t = l.length)) (r : Nat × Nat) (hr : M.atP l t = r) :
    Calls Tryd.prog 26 #[v, .int .i64 i] w fun e w' => e = .returned (.tuple #[.int .i64 (r.1 : Int), .int .i64 (r.2 : Int)]) ∧ Below w.heap.size w w' := by
  subst hr
  have hv2 := hv
  obtain ⟨a, cap, rfl, h1, h2, h3⟩ := hv2
  have hyes : ∀ o : Nat, o < t → decide ((o : Int) < min i (l.length : Int)) = true := fun o h => decide_eq_true (by rw [Int.lt_min]; omega)
  have hno : ∀ o : Nat, t ≤ o → decide ((o : Int) < min i (l.length : Int)) = false := fun o h => decide_eq_false (by rw [Int.lt_min]; omega)
  have Hyes := Lib.hid hyes
  have Hno := Lib.hid hno
  have HT := Lib.hid hT
  have Hv := Lib.hid hv
  clear hT hv h3 hi hyes hno
  obtain ⟨W, hW⟩ : ∃ W, w.alloc (.cells #[.int .i64 0, .int .i64 0, .int .i64 0] 62) = W := ⟨_, rfl⟩
  have hb1 : Below w.heap.size w W := by rw [← hW]; exact (Below.refl _ _).alloc (Nat.le_refl _) _
  have hsz : W.heap.size = w.heap.size + 1 := by rw [← hW]; simp
  have g0 : W.cell? ⟨w.heap.size, 0, none⟩ = some (.int .i64 0) := by rw [← hW, World.cell?_alloc_at _ _ _ _ rfl]; rfl
  have g1 : W.cell? ⟨w.heap.size, 1, none⟩ = some (.int .i64 0) := by rw [← hW, World.cell?_alloc_at _ _ _ _ rfl]; rfl
  have g2 : W.cell? ⟨w.heap.size, 2, none⟩ = some (.int .i64 0) := by rw [← hW, World.cell?_alloc_at _ _ _ _ rfl]; rfl
  have z : ∀ j, W.frozen? ⟨w.heap.size, j, none⟩ = false := by intro j; rw [← hW]; exact World.frozen?_alloc_at _ _ _ _ rfl
  have HW := Lib.hid hW
  have Z := Lib.hid z
  clear hW z
  go_enter Tryd.func26, Tryd.ntmps26
  go_wp2_with fail
  rw [HW.out]
  go_loopw [8] (fun _ wr => ∃ (f o k c : Nat), o ≤ l.length ∧ l.length ≤ o + f ∧ k ≤ o ∧ c ≤ 2 * o ∧ (M.goP l f t (o, k, c)).2 = M.atP l t ∧ Below w.heap.size w wr ∧ w.heap.size < wr.heap.size ∧ wr.cell? ⟨w.heap.size, 0, none⟩ = some (.int .i64 (o : Int)) ∧ wr.cell? ⟨w.heap.size, 1, none⟩ = some (.int .i64 (k : Int)) ∧ wr.cell? ⟨w.heap.size, 2, none⟩ = some (.int .i64 (c : Int)) ∧ (∀ j, wr.frozen? ⟨w.heap.size, j, none⟩ = false))
    (fun _ wr => match wr.cell? ⟨w.heap.size, 0, none⟩ with | some (.int _ o) => l.length - o.toNat | _ => 0)
  case atStart => exact ⟨l.length, 0, 0, 0, by omega, by omega, by omega, by omega, rfl, hb1, by omega, g0, g1, g2, Z.out⟩
  case round =>
    clear g0 g1 g2
    obtain ⟨f, o, k, c, ho, hf, hk, hc, hg, hb, hs, g0, g1, g2, z⟩ := hrel
    have Hg := Lib.hid hg
    have Z2 := Lib.hid z
    clear hg z
    by_cases hlt : o < t
    · have q := Hyes.out o hlt
      have hbo := M.stepP_le l (o, k, c) (by simp only; omega)
      have hbo2 := M.stepP_off l (o, k, c)
      obtain ⟨o2, k2, c2, hst⟩ : ∃ o2 k2 c2, M.stepP l (o, k, c) = (o2, k2, c2) := ⟨_, _, _, rfl⟩
      have hk2 : k2 ≤ o2 ∧ c2 ≤ 2 * o2 := by
        have hw := (M.dec_width (l.drop o)).1
        have hu : M.unitsOf (M.dec (l.drop o)).1 ≤ 2 := by unfold M.unitsOf; split <;> omega
        unfold M.stepP at hst
        split at hst <;> (simp only [Prod.mk.injEq] at hst; omega)
      rw [hst] at hbo hbo2
      simp only at hbo hbo2
      have hg2 : (M.goP l (f - 1) t (o2, k2, c2)).2 = M.atP l t := by
        rw [← Hg.out, M.goP_step l f t (o, k, c) hlt (by omega), hst]
      have Hst := Lib.hid hst
      have Hg2 := Lib.hid hg2
      clear hst hg2
      go_wp2_with fail
      refine (pnext_any _ l o k c _ wr (HT.out.keep hb) (Hv.out.keep hb) (by omega) (by omega) (by omega) (by omega) Hst.out).mono ?_
      rintro e w2 ⟨rfl, hb2⟩
      unfold plc
      obtain ⟨hcc, hff⟩ := bcell hb2
      have g3 : w2.cell? ⟨w.heap.size, 0, none⟩ = some (.int .i64 (o : Int)) := by rw [hcc _ _ hs]; exact g0
      have g4 : w2.cell? ⟨w.heap.size, 1, none⟩ = some (.int .i64 (k : Int)) := by rw [hcc _ _ hs]; exact g1
      have g5 : w2.cell? ⟨w.heap.size, 2, none⟩ = some (.int .i64 (c : Int)) := by rw [hcc _ _ hs]; exact g2
      have z3 : ∀ j, w2.frozen? ⟨w.heap.size, j, none⟩ = false := by intro j; rw [hff _ _ hs]; exact Z2.out j
      have z4 := z3 0
      have z5 := z3 1
      have z6 := z3 2
      have hb3 := hb.trans (hb2.mono (by omega))
      have hs3 : w.heap.size < w2.heap.size := Nat.lt_of_lt_of_le hs hb2.size
      have Z3 := Lib.hid z3
      have G0 := Lib.hid g0
      clear hcc hff g0 g1 g2 hb hb2 z3
      have n0 : ((((w2.setCell ⟨w.heap.size, 0, none⟩ (.int .i64 (o2 : Int))).setCell ⟨w.heap.size, 1, none⟩ (.int .i64 (k2 : Int))).setCell ⟨w.heap.size, 2, none⟩ (.int .i64 (c2 : Int)))).cell? ⟨w.heap.size, 0, none⟩ = some (.int .i64 (o2 : Int)) := by
        rw [World.cell?_setCell_other _ _ _ _ (by simp), World.cell?_setCell_other _ _ _ _ (by simp), World.cell?_setCell_same _ _ _ g3]
      have n1 : ((((w2.setCell ⟨w.heap.size, 0, none⟩ (.int .i64 (o2 : Int))).setCell ⟨w.heap.size, 1, none⟩ (.int .i64 (k2 : Int))).setCell ⟨w.heap.size, 2, none⟩ (.int .i64 (c2 : Int)))).cell? ⟨w.heap.size, 1, none⟩ = some (.int .i64 (k2 : Int)) := by
        rw [World.cell?_setCell_other _ _ _ _ (by simp), World.cell?_setCell_same _ _ _ ((World.cell?_setCell_other _ _ _ _ (by simp)).trans g4)]
      have n2 : ((((w2.setCell ⟨w.heap.size, 0, none⟩ (.int .i64 (o2 : Int))).setCell ⟨w.heap.size, 1, none⟩ (.int .i64 (k2 : Int))).setCell ⟨w.heap.size, 2, none⟩ (.int .i64 (c2 : Int)))).cell? ⟨w.heap.size, 2, none⟩ = some (.int .i64 (c2 : Int)) := by
        rw [World.cell?_setCell_same _ _ _ ((World.cell?_setCell_other _ _ _ _ (by simp)).trans ((World.cell?_setCell_other _ _ _ _ (by simp)).trans g5))]
      have N0 := Lib.hid n0
      have N1 := Lib.hid n1
      have N2 := Lib.hid n2
      clear n0 n1 n2
      go_wp2
      go_roundw
      case rel =>
        refine ⟨f - 1, o2, k2, c2, by omega, by omega, hk2.1, hk2.2, Hg2.out, ((hb3.setCell (by simp) _).setCell (by simp) _).setCell (by simp) _, by simpa using hs3, N0.out, N1.out, N2.out, fun j => ?_⟩
        rw [World.frozen?_setCell, World.frozen?_setCell, World.frozen?_setCell]
        exact Z3.out j
      case measure =>
        rw [N0.out, G0.out]
        simp
        omega
    · have q := Hno.out o (by omega)
      rw [M.goP_stop l f t (o, k, c) (by simp only; omega)] at Hg
      go_wp2
      go_quiet (fail)
      go_wp2
      go_ret2
      exact ⟨by rw [← Hg.out]; rfl, below_drewN hb _⟩

theorem count_any (v : Value) (l : List UInt8) (k c : Nat) (w : World) (hT : Tabs w) (hv : Bs w v l) (hl : l.length ≤ 1048576) (hr : M.atP l l.length = (k, c)) :
    Calls Tryd.prog 30 #[v] w fun e w' => e = .returned (.int .i64 ((k : Int) + 1)) ∧ Below w.heap.size w w' := by
  have hsm := M.goP_small l l.length l.length (0, 0, 0) (by simp) (by simp) (by simp) (by simp)
  have hk : k ≤ l.length := by
    have : (M.atP l l.length).1 ≤ l.length := hsm.1
    rw [hr] at this
    exact this
  have hv2 := hv
  obtain ⟨a, cap, rfl, h1, h2, h3⟩ := hv2
  have HT := Lib.hid hT
  have Hv := Lib.hid hv
  have Hr := Lib.hid hr
  clear hT hv h3 hr hsm
  go_enter Tryd.func30, Tryd.ntmps30
  go_wp2_with fail
  refine (at_any _ l l.length _ _ HT.out Hv.out hl (Nat.le_refl _) (.inl rfl) _ Hr.out).mono ?_
  rintro e w1 ⟨rfl, hb⟩
  go_wp2
  go_ret
  exact ⟨rfl, hb⟩

set_option maxHeartbeats 400000 in
theorem lalive_any (w : World) (hT : Tabs w) : Calls Tryd.prog 25 #[] w fun e w' => e = .returned (.bool true) ∧ Below w.heap.size w w' := by
  have hn : ∀ W : World, Bs (W.alloc (.cells #[.int .u8 97, .int .u8 10, .int .u8 98] 5 (3, 4))) (.slice (some ⟨W.heap.size, 0, none⟩) 3 3) [97, 10, 98] := fun W => bs_newm W [97, 10, 98] (3, 4) (by decide)
  have hm : ∀ W : World, Bs (W.alloc (.cells #[.int .u8 97, .int .u8 10, .int .u8 98, .int .u8 99] 5 (4, 5))) (.slice (some ⟨W.heap.size, 0, none⟩) 4 4) [97, 10, 98, 99] := fun W => bs_newm W [97, 10, 98, 99] (4, 5) (by decide)
  have hbn : ∀ (W : World) (o : Obj), Below w.heap.size w W → Below w.heap.size w (W.alloc o) := fun W o h => h.alloc h.size o
  have HT := Lib.hid hT
  have Hn := Lib.hid hn
  have Hm := Lib.hid hm
  have Hbn := Lib.hid hbn
  have kc := fun (w : World) (C : Array Value) (n c : Nat) => Lib.run_convert_bytes_const (P := Tryd.prog) w 22 5 C n c Tryd.underlying22 Tryd.underlying5
  clear hT hn hm hbn
  go_enter Tryd.func25, Tryd.ntmps25
  go_wp2_with fail
  have b0 := Hbn.out w (.cells #[.int .u8 97, .int .u8 10, .int .u8 98] 5 (3, 4)) (Below.refl _ _)
  refine (at_any _ [97, 10, 98] 0 0 _ (HT.out.keep b0) (Hn.out _) (by decide) (by decide) (.inl rfl) (0, 0) (by decide +kernel)).mono ?_
  rintro e w1 ⟨rfl, hb1⟩
  have b1 := b0.trans (hb1.mono b0.size)
  clear b0 hb1
  go_wp2_with fail
  have b2 := Hbn.out w1 (.cells #[.int .u8 97, .int .u8 10, .int .u8 98, .int .u8 99] 5 (4, 5)) b1
  refine (at_any _ [97, 10, 98, 99] 3 3 _ (HT.out.keep b2) (Hm.out _) (by decide) (by decide) (.inl rfl) (1, 1) (by decide +kernel)).mono ?_
  rintro e w2 ⟨rfl, hb2⟩
  have b3 := b2.trans (hb2.mono b2.size)
  clear b1 b2 hb2
  go_wp2_with fail
  have b4 := Hbn.out w2 (.cells #[.int .u8 97, .int .u8 10, .int .u8 98] 5 (3, 4)) b3
  refine (count_any _ [97, 10, 98] 1 1 _ (HT.out.keep b4) (Hn.out _) (by decide) (by decide +kernel)).mono ?_
  rintro e w3 ⟨rfl, hb3⟩
  have b5 := b4.trans (hb3.mono b4.size)
  clear b3 b4 hb3
  go_wp2
  go_ret
  exact ⟨rfl, b5⟩
end Go.Proofs.YtoalaojghgdmcaaDoor
