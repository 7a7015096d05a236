/- Colours: which names a colour has. -/
import Derived.Test.YtilndlifmpbfnaaDoorCoEq
import Derived.Test.YtilndlifmpbfnaaDoorWTk
import Derived.OrdersHeld
import Derived.Deep.RegionHeld3
namespace Go.Proofs.YtilndlifmpbfnaaDoor
open Go.RowKit
set_option linter.unusedVariables false
set_option linter.unusedSimpArgs false

def nofL (c : M.C4) (j : Nat) : List (List UInt8) := ((M.ceT.take j).filter fun e => decide (M.colE e = c)).map fun e => e.1
theorem nof_end (c : M.C4) : nofL c 38 = M.namesC c := by
  unfold nofL M.namesC
  rw [show M.ceT.take 38 = M.ceT from by decide +kernel]
theorem nof_step (c : M.C4) (j : Nat) (hj : j < 38) : nofL c (j + 1) = if M.colE (M.ceT.getD j zE) = c then nofL c j ++ [(M.ceT.getD j zE).1] else nofL c j := by
  have hl := M.ce_len
  unfold nofL
  rw [List.take_add_one, List.getElem?_eq_getElem (by omega), List.getD_eq_getElem?_getD, List.getElem?_eq_getElem (by omega)]
  simp only [Option.toList_some, Option.getD_some, List.filter_append, List.map_append]
  split
  · rename_i h; simp [h]
  · rename_i h; simp [h]
theorem nof_len (c : M.C4) (j : Nat) : (nofL c j).length ≤ 1000 := by
  have hl := M.ce_len
  unfold nofL
  rw [List.length_map]
  have := List.length_filter_le (fun e => decide (M.colE e = c)) (M.ceT.take j)
  rw [List.length_take] at this
  omega
/-- What the comparing of one entry wants of the world that it is in. -/
def NofS (WA : World) (B b e : Nat) (d1 d2 d3 d4 : Int) (S : ByteArray) (E1 E2 E3 : Int) (V : World) : Prop :=
  V.cell? ⟨b, 0, none⟩ = some (.int .i64 d1) ∧ V.cell? ⟨b, 1, none⟩ = some (.int .i64 d2) ∧ V.cell? ⟨b, 2, none⟩ = some (.int .i64 d3) ∧ V.cell? ⟨b, 3, none⟩ = some (.int .i64 d4) ∧ V.cell? ⟨e, 0, none⟩ = some (.string S) ∧ V.cell? ⟨e, 1, none⟩ = some (.int .i64 E1) ∧ V.cell? ⟨e, 2, none⟩ = some (.int .i64 E2) ∧ V.cell? ⟨e, 3, none⟩ = some (.int .i64 E3) ∧ Below B WA V ∧ B ≤ V.heap.size
theorem keepc {w w' : World} {b k : Nat} {v : Value} (h : w.cell? ⟨b, k, none⟩ = some v) (hb : Below w.heap.size w w') : w'.cell? ⟨b, k, none⟩ = some v := (hb.cell (block_lt_of_cell h)).trans h
theorem NofS.keep {WA : World} {B b e : Nat} {d1 d2 d3 d4 : Int} {S : ByteArray} {E1 E2 E3 : Int} {V V' : World} (h : NofS WA B b e d1 d2 d3 d4 S E1 E2 E3 V) (hb : Below V.heap.size V V') : NofS WA B b e d1 d2 d3 d4 S E1 E2 E3 V' := by
  obtain ⟨h0, h1, h2, h3, h4, h5, h6, h7, h8, h9⟩ := h
  exact ⟨keepc h0 hb, keepc h1 hb, keepc h2 hb, keepc h3 hb, keepc h4 hb, keepc h5 hb, keepc h6 hb, keepc h7 hb, h8.trans (hb.mono h9), Nat.le_trans h9 hb.size⟩
set_option maxRecDepth 100000 in
set_option maxHeartbeats 4000000 in
theorem namesof_any (c : M.C4) (w : World) : Calls Tryd.prog 10 #[arrV c] w fun e w' => ∃ v, e = .returned v ∧ SsC w' v (M.namesC c) ∧ NNv v ∧ Below w.heap.size w w' := by
  have TB := Lib.hid table_any
  have CC := Lib.hid cecol_any
  have NE := Lib.hid (nof_end c)
  have NS := Lib.hid (nof_step c)
  have a0 := AB.new w c
  have b0 := (Below.refl w.heap.size w).alloc (Nat.le_refl _) (.cells (arrC c) 22)
  have z0 : (w.alloc (.cells (arrC c) 22)).heap.size = w.heap.size + 1 := by simp
  obtain ⟨W0, hW0⟩ : ∃ x, w.alloc (.cells (arrC c) 22) = x := ⟨_, rfl⟩
  rw [hW0] at a0 b0 z0
  obtain ⟨d1, d2, d3, d4⟩ := c
  have EXP := Lib.hid (show arrC (d1, d2, d3, d4) = #[.int .i64 d1, .int .i64 d2, .int .i64 d3, .int .i64 d4] from rfl)
  rw [EXP.out] at hW0
  have X := Lib.hid (ceAt_new W0)
  have b1 := b0.alloc (by omega) (.cells ceCells 51)
  have a1 := a0.keep ((Below.refl W0.heap.size W0).alloc (Nat.le_refl _) (.cells ceCells 51)) (by omega)
  have z1 : (W0.alloc (.cells ceCells 51)).heap.size = W0.heap.size + 1 := by simp
  obtain ⟨W1, hW1⟩ : ∃ x, W0.alloc (.cells ceCells 51) = x := ⟨_, rfl⟩
  rw [hW1] at X a1 b1 z1
  have HW0 := Lib.hid hW0
  have HW1 := Lib.hid hW1
  have A1 := Lib.hid a1
  have B1 := Lib.hid b1
  have z0a : w.heap.size + 1 ≤ W0.heap.size := by omega
  clear a0 b0 a1 b1 hW0 hW1 z0
  unfold arrV
  rw [EXP.out]
  go_enter Tryd.func10, Tryd.ntmps10
  go_wp2_with fail
  rw [HW0.out]
  refine (TB.out _).mono ?_
  rintro e w' ⟨rfl, rfl⟩
  rw [HW1.out]
  go_wp2
  go_loopw [3, 8] (fun ov iv wr => ∃ j : Nat, iv = .int .i64 (j : Int) ∧ j ≤ 38 ∧ OwnSC (W0.heap.size + 1) wr ov (nofL (d1, d2, d3, d4) j) ∧ Below (W0.heap.size + 1) W1 wr) (fun _ iv _ => 38 - (intOf iv).toNat)
  case atStart => exact ⟨0, rfl, by omega, ownV_nil _ _ _ _, Below.refl _ _⟩
  case round =>
    obtain ⟨j, rfl, hj, ho, hb⟩ := hrel
    have hz := hb.size
    by_cases hj2 : j < 38
    · obtain ⟨c0, c1, c2, c3⟩ := X.out.keep hb (by omega) j hj2
      have ns := NS.out j hj2
      have j1 : (j : Int) < 38 := by omega
      obtain ⟨E, hE⟩ : ∃ E, M.ceT.getD j zE = E := ⟨_, rfl⟩
      have hE' : M.ceT.getD j ([], 0, 0, 0) = E := hE
      rw [hE'] at c0 c1 c2 c3
      rw [hE] at ns
      obtain ⟨E0, E1, E2, E3⟩ := E
      obtain ⟨S, hS⟩ : ∃ S, bytes E0 = S := ⟨_, rfl⟩
      simp only at c0 c1 c2 c3
      rw [hS] at c0
      have a4 := A1.out.keep hb (by omega)
      have a5 : AB (wr.alloc (.cells #[.string S, .int .i64 E1, .int .i64 E2, .int .i64 E3] 51)) w.heap.size (d1, d2, d3, d4) := a4.keep ((Below.refl _ _).alloc (Nat.le_refl _) _) a4.lt
      have g0 := cell_of_row _ _ 0 _ _ _ a5
      have g1 := cell_of_row _ _ 1 _ _ _ a5
      have g2 := cell_of_row _ _ 2 _ _ _ a5
      have g3 := cell_of_row _ _ 3 _ _ _ a5
      simp only [arrC] at g0 g1 g2 g3
      have HS := Lib.hid hS
      have HO := Lib.hid ho
      have HB := Lib.hid hb
      have A4 := Lib.hid a4
      have NX := Lib.hid ns
      clear hS ho hb a4 a5 ns hE hE'
      go_upto_region 5 with (fail)
      refine wp_region_noPanic ?_
      refine wp_region_held_drew (S := NofS (wr.alloc (.cells #[.string S, .int .i64 E1, .int .i64 E2, .int .i64 E3] 51)) (wr.heap.size + 1) w.heap.size wr.heap.size d1 d2 d3 d4 S E1 E2 E3) (by kernel_rfl) ⟨g0, g1, g2, g3, by simp [World.cell?_alloc_at], by simp [World.cell?_alloc_at], by simp [World.cell?_alloc_at], by simp [World.cell?_alloc_at], (Below.refl _ _).drew, by simp⟩ (fun hS => ?_)
      refine wpAnyH_take (i := 0) (oi := _) (v := ?_) (List.getElem?_toArray.trans (by simp only [List.getElem?_cons_succ, List.getElem?_cons_zero]; exact rfl)) (by kernel_rfl) (by kernel_rfl) (by kernel_rfl) (fun _ _ _ h => h) (Or.inl ⟨by rfl, ?_⟩) (by assumption) ?_
      rotate_left
      · (intro V hSV; (try dsimp only at hSV); (try obtain ⟨s0, s1, s2, s3, s4, s5, s6, s7, s8, s9⟩ := hSV); go_simp; (try rw [if_neg (by omega)]); (try with_reducible rfl))
      try simp only [List.getElem_toArray, List.getElem_cons_succ, List.getElem_cons_zero, Act.put, List.setIfInBounds_toArray, List.set_cons_zero, List.set_cons_succ]
      refine wpAnyH_take (i := 2) (oi := _) (v := ?_) (List.getElem?_toArray.trans (by simp only [List.getElem?_cons_succ, List.getElem?_cons_zero]; exact rfl)) (by kernel_rfl) (by kernel_rfl) (by kernel_rfl) (fun _ _ _ h => h) (Or.inl ⟨by rfl, ?_⟩) (by assumption) ?_
      rotate_left
      · (intro V hSV; (try dsimp only at hSV); (try obtain ⟨s0, s1, s2, s3, s4, s5, s6, s7, s8, s9⟩ := hSV); go_simp; (try rw [if_neg (by omega)]); (try with_reducible rfl))
      try simp only [List.getElem_toArray, List.getElem_cons_succ, List.getElem_cons_zero, Act.put, List.setIfInBounds_toArray, List.set_cons_zero, List.set_cons_succ]
      refine wpAnyH_ready (rs := [1]) (by kernel_rfl) (by simp) ?_
      refine AllReadyH.cons rfl (fun K hK => ?_) AllReadyH.nil
      go_simp
      refine (CC.out S E1 E2 E3 _).mono ?_
      rintro e w3 ⟨rfl, hb3⟩
      refine hK.out _ _ (NofS.keep hS hb3) (fun hS => ?_)
      clear hK K
      have hb4 := HB.out.trans ((((Below.refl _ _).alloc (Nat.le_refl _) (.cells #[.string S, .int .i64 E1, .int .i64 E2, .int .i64 E3] 51)).trans (hS.2.2.2.2.2.2.2.2.1.mono (by simp))).mono (by omega))
      have e0 : w3.cell? ⟨wr.heap.size, 0, none⟩ = some (.string S) := hS.2.2.2.2.1
      have z3 : wr.heap.size + 1 ≤ w3.heap.size := hS.2.2.2.2.2.2.2.2.2
      have k3 := ((Below.refl wr.heap.size wr).alloc (Nat.le_refl _) (.cells #[.string S, .int .i64 E1, .int .i64 E2, .int .i64 E3] 51)).trans (hS.2.2.2.2.2.2.2.2.1.mono (by omega))
      have HB4 := Lib.hid hb4
      have K3 := Lib.hid k3
      clear hb3 hb4 k3
      by_cases heq : M.colE (E0, E1, E2, E3) = (d1, d2, d3, d4)
      · refine rtk (v := .bool true) 3 (hy := yields_cmpA (by rfl) _ _ rfl (E1, E2, E3, 255) (d1, d2, d3, d4) rfl rfl true (by simpa [M.colE] using heq)) ?_
        refine wpAnyH_done (by kernel_rfl) ?_ _
        refine NoPanic.normal ?_
        clear hS
        have nx := NX.out
        rw [if_pos heq] at nx
        have NY := Lib.hid nx
        clear nx heq
        go_wp2_with (at_builtin; refine wpl_appSC rfl _ _ rfl (W0.heap.size + 1) _ (.slice (some ⟨w3.heap.size, 0, none⟩) 1 1) (nofL (d1, d2, d3, d4) j) _ [E0] rfl (OwnSC.keep HO.out (K3.out.alloc (by omega) _)) rfl (one_sC' _ _ _ HS.out _ (by simp)) (nnv_some _ _ _) (nof_len _ j) (one_ln _) (by simp; omega) NY.out.symm ?_)
        intro v6 w6 ho6 hb6
        have hb7 := (HB4.out.alloc (by omega) (.cells #[.string S] 9)).trans hb6
        clear hb6
        go_wp2
        go_roundw
        case rel => exact ⟨j + 1, by go_num, by omega, ho6, hb7⟩
        case measure => simp [intOf]; omega
      · refine rtk (v := .bool false) 3 (hy := yields_cmpA (by rfl) _ _ rfl (E1, E2, E3, 255) (d1, d2, d3, d4) rfl rfl false (by simpa [M.colE] using heq)) ?_
        refine wpAnyH_done (by kernel_rfl) ?_ _
        refine NoPanic.normal ?_
        clear hS
        have nx := NX.out
        rw [if_neg heq] at nx
        have NY := Lib.hid nx
        clear nx heq
        go_wp2
        go_roundw
        case rel => exact ⟨j + 1, by go_num, by omega, by rw [NY.out]; exact HO.out.keep K3.out, HB4.out⟩
        case measure => simp [intOf]; omega
    · obtain rfl : j = 38 := by omega
      have HO := Lib.hid ho
      have HB := Lib.hid hb
      clear ho hb
      go_wp2
      go_ret
      exact ⟨_, rfl, by have := HO.out.ss; rwa [NE.out] at this, OwnV.nn HO.out, B1.out.trans (HB.out.mono (by omega))⟩
end Go.Proofs.YtilndlifmpbfnaaDoor
