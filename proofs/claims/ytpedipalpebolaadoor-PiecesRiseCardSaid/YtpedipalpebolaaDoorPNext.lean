/- Places: what utf.Units, places.endsLine and places.Next return, for any bytes. -/
import Derived.Test.YtpedipalpebolaaDoorUNx
import Derived.Test.YtpedipalpebolaaDoorLMath
import Derived.StillTailTactics
import Derived.Deep.QuietTactic
import Derived.BigQuiet
import Derived.WalkSmall
import Derived.Lib.SlBytesConst
namespace Go.Proofs.YtpedipalpebolaaDoor
open Go.RowKit

theorem units_any (r : Int) (w : World) : Calls Tryd.prog 25 #[.int .i64 r] w fun e w' => e = .returned (.int .i64 (if 65536 ≤ r then 2 else 1)) ∧ w = w' := by
  by_cases h : 65536 ≤ r
  · rw [if_pos h]
    go_enter Tryd.func25, Tryd.ntmps25
    go_wp2
    go_ret
    exact ⟨rfl, rfl⟩
  · rw [if_neg h]
    go_enter Tryd.func25, Tryd.ntmps25
    go_wp2
    go_ret
    exact ⟨rfl, rfl⟩

theorem bs_at {w : World} {b off : Nat} {l : List UInt8} (h : ∀ j (h : j < l.length), w.cell? ⟨b, off + j, none⟩ = some (.int .u8 (l[j].toNat : Int))) (p : Nat) (hp : p < l.length) :
    w.cell? ⟨b, off + p, none⟩ = some (.int .u8 (M.byte l p : Int)) := by
  rw [h p hp]; unfold M.byte; simp [hp]

theorem ends_any (v : Value) (l : List UInt8) (p : Nat) (r : Bool) (w : World) (hv : Bs w v l) (hp : p < l.length) (hl : l.length ≤ 4294967296) (hr : M.endsAt l p = r) :
    Calls Tryd.prog 24 #[v, .int .i64 (p : Int)] w fun e w' => e = .returned (.bool r) ∧ w = w' := by
  subst hr
  obtain ⟨a, cap, rfl, h1, h2, h3⟩ := hv
  obtain ⟨b, off, rfl, hb, hc⟩ := h3 (by omega)
  have hc0 := bs_at hc p hp
  unfold M.endsAt
  have i1 : (0 : Int) ≤ p := by omega
  have i2 : (p : Int) < l.length := by omega
  by_cases h13 : M.byte l p = 13
  · rw [if_pos h13]
    have q1 : ((M.byte l p : Int) == 13) = true := by rw [beq_iff_eq]; omega
    by_cases he : p + 1 = l.length
    · have q2 : ((p : Int) + 1 == l.length) = true := by rw [beq_iff_eq]; omega
      have hres : (p + 1 == l.length || M.byte l (p + 1) != 10) = true := by simp [he]
      rw [hres]
      generalize M.byte l p = c at *
      clear h3 hc h13 he hres
      go_enter Tryd.func24, Tryd.ntmps24
      go_wp2
      go_ret
      exact ⟨by simp, rfl⟩
    · have q2 : ((p : Int) + 1 == l.length) = false := by rw [beq_eq_false_iff_ne]; omega
      have hc1 := bs_at hc (p + 1) (by omega)
      have hres : (p + 1 == l.length || M.byte l (p + 1) != 10) = (((M.byte l (p + 1) : Nat) : Int) != 10) := by
        have : (p + 1 == l.length) = false := by simp [he]
        rw [this, Bool.false_or]
        rw [Bool.eq_iff_iff]; simp; omega
      rw [hres]
      have i3 : (p : Int) + 1 < l.length := by omega
      generalize M.byte l (p + 1) = d at *
      generalize M.byte l p = c at *
      clear h3 hc h13 he hres
      go_enter Tryd.func24, Tryd.ntmps24
      go_wp2
      go_ret
      exact ⟨by simp, rfl⟩
  · rw [if_neg h13]
    have q1 : ((M.byte l p : Int) == 13) = false := by rw [beq_eq_false_iff_ne]; omega
    have hres : (M.byte l p == 10) = (((M.byte l p : Nat) : Int) == 10) := by rw [Bool.eq_iff_iff]; simp; omega
    rw [hres]
    generalize M.byte l p = c at *
    clear h3 hc h13 hres
    go_enter Tryd.func24, Tryd.ntmps24
    go_wp2
    go_ret
    exact ⟨rfl, rfl⟩

theorem bcell {W w1 : World} (hb : Below W.heap.size W w1) : (∀ b o, b < W.heap.size → w1.cell? ⟨b, o, none⟩ = W.cell? ⟨b, o, none⟩) ∧ (∀ b o, b < W.heap.size → w1.frozen? ⟨b, o, none⟩ = W.frozen? ⟨b, o, none⟩) :=
  ⟨fun b o h => hb.cell (p := ⟨b, o, none⟩) h, fun b o h => hb.frozen (p := ⟨b, o, none⟩) h⟩
/-- A place as a value. -/
def plc (s : Nat × Nat × Nat) : Value := .agg #[.int .i64 (s.1 : Int), .int .i64 (s.2.1 : Int), .int .i64 (s.2.2 : Int)]
set_option maxHeartbeats 1000000 in
theorem pnext_any (v : Value) (l : List UInt8) (o k c : Nat) (s' : Nat × Nat × Nat) (w : World) (hT : Tabs w) (hv : Bs w v l) (ho : o < l.length) (hl : l.length ≤ 4294967296) (hk : k ≤ 4294967296) (hc : c ≤ 8589934592) (hr : M.stepP l (o, k, c) = s') :
    Calls Tryd.prog 16 #[v, .agg #[.int .i64 (o : Int), .int .i64 (k : Int), .int .i64 (c : Int)]] w fun e w' => e = .returned (plc s') ∧ Below w.heap.size w w' := by
  subst hr
  have hw := M.dec_width (l.drop o)
  have hru := M.dec_rune (l.drop o)
  obtain ⟨R, K, hRK⟩ : ∃ R K, M.dec (l.drop o) = (R, K) := ⟨_, _, rfl⟩
  obtain ⟨okk, hnx⟩ : ∃ ok, M.nextAt l o = ((R : Int), (K : Int), ok) := by
    unfold M.nextAt
    rw [if_neg (by omega), Int.toNat_natCast]
    unfold M.nx
    rw [hRK]
    by_cases hb : (R, K) = (65533, 1)
    · rw [if_pos hb]; simp only [Prod.mk.injEq] at hb; rw [hb.1, hb.2]; exact ⟨_, rfl⟩
    · rw [if_neg hb]; exact ⟨_, rfl⟩
  have hst : M.stepP l (o, k, c) = if M.endsAt l o then (o + K, k + 1, 0) else (o + K, k, c + M.unitsOf R) := by unfold M.stepP; simp only [hRK]
  rw [hst]
  rw [hRK] at hw hru
  simp only at hw hru
  obtain ⟨r, hE⟩ : ∃ r, M.endsAt l o = r := ⟨_, rfl⟩
  rw [hE]
  have hu : (if 65536 ≤ (R : Int) then (2 : Int) else 1) = (M.unitsOf R : Int) := by
    unfold M.unitsOf
    by_cases h : 65536 ≤ R
    · rw [if_pos h, if_pos (by omega)]; rfl
    · rw [if_neg h, if_neg (by omega)]; rfl
  have hu2 : M.unitsOf R ≤ 2 := by unfold M.unitsOf; split <;> omega
  have hcU : ∀ W, Calls Tryd.prog 25 #[.int .i64 (R : Int)] W fun e w' => e = .returned (.int .i64 (M.unitsOf R : Int)) ∧ w' = W := fun W =>
    (units_any R W).mono fun _ _ ⟨h1, h2⟩ => ⟨by rw [h1, hu], h2.symm⟩
  clear hu
  generalize M.unitsOf R = u at *
  have HcU := Lib.hid hcU
  clear hcU
  have HE := Lib.hid hE
  have Hnx := Lib.hid hnx
  have HT := Lib.hid hT
  have Hv := Lib.hid hv
  clear hRK hst hE hnx hT hv
  obtain ⟨W, hW⟩ : ∃ W, (w.alloc (.cells #[.int .i64 (o : Int), .int .i64 (k : Int), .int .i64 (c : Int)] 43)).alloc (.cells #[.int .i64 0, .int .i64 0, .int .i64 0] 43) = W := ⟨_, rfl⟩
  have hb1 : Below w.heap.size w W := by rw [← hW]; exact ((Below.refl _ _).alloc (Nat.le_refl _) _).alloc (by simp) _
  have hsz : W.heap.size = w.heap.size + 2 := by rw [← hW]; simp
  have f0 : W.cell? ⟨w.heap.size, 0, none⟩ = some (.int .i64 (o : Int)) := by rw [← hW, World.cell?_alloc_past _ _ _ (by simp), World.cell?_alloc_at _ _ _ _ rfl]; rfl
  have f1 : W.cell? ⟨w.heap.size, 1, none⟩ = some (.int .i64 (k : Int)) := by rw [← hW, World.cell?_alloc_past _ _ _ (by simp), World.cell?_alloc_at _ _ _ _ rfl]; rfl
  have f2 : W.cell? ⟨w.heap.size, 2, none⟩ = some (.int .i64 (c : Int)) := by rw [← hW, World.cell?_alloc_past _ _ _ (by simp), World.cell?_alloc_at _ _ _ _ rfl]; rfl
  have g0 : W.cell? ⟨w.heap.size + 1, 0, none⟩ = some (.int .i64 0) := by rw [← hW, World.cell?_alloc_at _ _ _ _ (by simp)]; rfl
  have g1 : W.cell? ⟨w.heap.size + 1, 1, none⟩ = some (.int .i64 0) := by rw [← hW, World.cell?_alloc_at _ _ _ _ (by simp)]; rfl
  have g2 : W.cell? ⟨w.heap.size + 1, 2, none⟩ = some (.int .i64 0) := by rw [← hW, World.cell?_alloc_at _ _ _ _ (by simp)]; rfl
  have z0 : W.frozen? ⟨w.heap.size + 1, 0, none⟩ = false := by rw [← hW]; exact World.frozen?_alloc_at _ _ _ _ (by simp)
  have z1 : W.frozen? ⟨w.heap.size + 1, 1, none⟩ = false := by rw [← hW]; exact World.frozen?_alloc_at _ _ _ _ (by simp)
  have z2 : W.frozen? ⟨w.heap.size + 1, 2, none⟩ = false := by rw [← hW]; exact World.frozen?_alloc_at _ _ _ _ (by simp)
  have HW := Lib.hid hW
  clear hW
  /- what the reading of the code point leaves -/
  have keep : ∀ w1, Below W.heap.size W w1 → (w1.cell? ⟨w.heap.size, 0, none⟩ = some (.int .i64 (o : Int)) ∧ w1.cell? ⟨w.heap.size, 1, none⟩ = some (.int .i64 (k : Int)) ∧ w1.cell? ⟨w.heap.size, 2, none⟩ = some (.int .i64 (c : Int))) ∧
      (w1.cell? ⟨w.heap.size + 1, 0, none⟩ = some (.int .i64 0) ∧ w1.cell? ⟨w.heap.size + 1, 1, none⟩ = some (.int .i64 0) ∧ w1.cell? ⟨w.heap.size + 1, 2, none⟩ = some (.int .i64 0)) ∧
      (w1.frozen? ⟨w.heap.size + 1, 0, none⟩ = false ∧ w1.frozen? ⟨w.heap.size + 1, 1, none⟩ = false ∧ w1.frozen? ⟨w.heap.size + 1, 2, none⟩ = false) := by
    intro w1 h
    obtain ⟨hc, hf⟩ := bcell h
    refine ⟨⟨?_, ?_, ?_⟩, ⟨?_, ?_, ?_⟩, ⟨?_, ?_, ?_⟩⟩
    · rw [hc _ _ (by omega)]; exact f0
    · rw [hc _ _ (by omega)]; exact f1
    · rw [hc _ _ (by omega)]; exact f2
    · rw [hc _ _ (by omega)]; exact g0
    · rw [hc _ _ (by omega)]; exact g1
    · rw [hc _ _ (by omega)]; exact g2
    · rw [hf _ _ (by omega)]; exact z0
    · rw [hf _ _ (by omega)]; exact z1
    · rw [hf _ _ (by omega)]; exact z2
  have Keep := Lib.hid keep
  clear keep f0 f1 f2 g0 g1 g2 z0 z1 z2
  have HTW := Lib.hid (HT.out.keep hb1)
  have HvW := Lib.hid (Hv.out.keep hb1)
  clear HT Hv
  cases r with
  | true =>
    go_enter Tryd.func16, Tryd.ntmps16
    go_wp2_with fail
    rw [HW.out]
    refine (next_any v l o _ W HTW.out HvW.out hl Hnx.out).mono ?_
    rintro e w1 ⟨rfl, hb2⟩
    unfold tri
    obtain ⟨⟨f0, f1, f2⟩, ⟨g0, g1, g2⟩, ⟨z0, z1, z2⟩⟩ := Keep.out w1 hb2
    have hb3 := hb1.trans (hb2.mono (by omega))
    have hv1 := HvW.out.keep hb2
    clear hb1 hb2
    have Hv1 := Lib.hid hv1
    clear hv1
    go_wp2_with fail
    refine (ends_any v l o true _ Hv1.out ho hl HE.out).mono ?_
    rintro e w2 ⟨rfl, rfl⟩
    have hs1 := hb3.size
    go_wp2
    refine bodyPost_ret (v := plc (o + K, k + 1, 0)) ?_ rfl ⟨rfl, ((hb3.setCell (by simp) _).setCell (by simp) _).setCell (by simp) _⟩
    simp [results, Tryd.results16, go_sem, g0, g1, g2, plc]
  | false =>
    go_enter Tryd.func16, Tryd.ntmps16
    go_wp2_with fail
    rw [HW.out]
    refine (next_any v l o _ W HTW.out HvW.out hl Hnx.out).mono ?_
    rintro e w1 ⟨rfl, hb2⟩
    unfold tri
    obtain ⟨⟨f0, f1, f2⟩, ⟨g0, g1, g2⟩, ⟨z0, z1, z2⟩⟩ := Keep.out w1 hb2
    have hb3 := hb1.trans (hb2.mono (by omega))
    have hv1 := HvW.out.keep hb2
    clear hb1 hb2
    have Hv1 := Lib.hid hv1
    clear hv1
    go_wp2_with fail
    refine (ends_any v l o false _ Hv1.out ho hl HE.out).mono ?_
    rintro e w2 ⟨rfl, rfl⟩
    go_wp2_with fail
    refine wp_region_still_tail 12 (by kernel_rfl) (by kernel_rfl) ?_
    simp only [List.take_succ_cons, List.take_zero, List.drop_succ_cons, List.drop_zero]
    repeat still_step
    still_call (HcU.out _)
    repeat still_step
    refine wpStill_nil ?_
    change wpList _ _ _ _ _ w1.drew
    have hs1 := hb3.size
    have hb4 : Below w.heap.size w w1.drew := hb3.drew
    go_wp2
    refine bodyPost_ret (v := plc (o + K, k, c + u)) ?_ rfl ⟨rfl, ?_⟩
    · simp [results, Tryd.results16, go_sem, g0, g1, g2, plc]
    · first | exact ((hb4.setCell (by simp) _).setCell (by simp) _).setCell (by simp) _ | exact (((hb3.setCell (by simp) _).setCell (by simp) _).setCell (by simp) _).drew

end Go.Proofs.YtpedipalpebolaaDoor
