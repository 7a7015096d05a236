/- Texts of ours in one: SProg PBuildF. -/
import Derived.Test.YtlobinjdgcidmaaDoorQj20
import Derived.Outline
/- smap's small functions: inRange, isBefore, segment: for any segments. -/
namespace Go.Proofs.YtlobinjdgcidmaaDoor
open Go.RowKit
set_option linter.unusedVariables false
set_option linter.unusedSimpArgs false

def s4a (x : M.S4) : Value := .agg #[.int .i64 x.1, .int .i64 x.2.1, .int .i64 x.2.2.1, .int .i64 x.2.2.2]
theorem vbytes (l : List UInt8) : V.bytes l = bytes l := rfl
theorem bytes_join (k l : List UInt8) : bytes k ++ V.bytes l = bytes (k ++ l) := by
  rw [vbytes]; unfold bytes; rw [ByteArray.mk_append_mk]
def inB (n : Int) : Bool := decide (0 ≤ n) && decide (n ≤ 1073741824)
set_option maxRecDepth 100000 in
set_option maxHeartbeats 1000000 in
theorem sinrange_any (x : M.S4) (r : Bool) (w : World) (hr : M.okS x = r) :
    Calls Tryd.prog 24 #[s4a x] w fun e w' => e = .returned (.bool r) ∧ Below w.heap.size w w' := by
  obtain ⟨a, b, c, d⟩ := x
  have hok := M.okS_iff (a, b, c, d)
  rw [hr] at hok
  simp only at hok
  unfold s4a
  obtain ⟨W, hW⟩ : ∃ W, (w.alloc (.cells #[.int .i64 a, .int .i64 b, .int .i64 c, .int .i64 d] 47)).alloc (.cells #[.int .i64 a, .int .i64 b, .int .i64 c, .int .i64 d] 3) = W := ⟨_, rfl⟩
  have hb2 : Below w.heap.size w W := by rw [← hW]; exact ((Below.refl _ _).alloc (Nat.le_refl _) _).alloc (by simp) _
  have hc0 : W.cell? ⟨w.heap.size, 0, none⟩ = some (.int .i64 a) := by
    rw [← hW, World.cell?_alloc_past _ _ _ (by simp), World.cell?_alloc_at _ _ _ _ rfl]; rfl
  have hcs : ∀ i, i < 4 → W.cell? ⟨w.heap.size + 1, i, none⟩ = some (.int .i64 ([a, b, c, d].getD i 0)) := by
    intro i hi
    rw [← hW, World.cell?_alloc_at _ _ _ _ (by simp)]
    have : i = 0 ∨ i = 1 ∨ i = 2 ∨ i = 3 := by omega
    rcases this with rfl | rfl | rfl | rfl <;> rfl
  have HB2 := Lib.hid hb2
  have HOK := Lib.hid hok
  have HW := Lib.hid hW
  have HCS := Lib.hid hcs
  have H0 := Lib.hid hc0
  have HR := Lib.hid hr
  clear hok hb2 hr hW hcs hc0
  go_enter Tryd.func24, Tryd.ntmps24
  go_wp2
  rw [HW.out]
  go_loop [15] (fun iv => ∃ i : Nat, iv = .int .i64 (i : Int) ∧ i ≤ 4 ∧ ∀ j, j < i → inB ([a, b, c, d].getD j 0) = true) (fun iv => 4 - (intOf iv).toNat)
  case atStart => exact ⟨0, rfl, by omega, fun j h => by omega⟩
  case round =>
    obtain ⟨i, rfl, hi, hall⟩ := hrel
    have HA := Lib.hid hall
    clear hall
    by_cases hlt : i < 4
    · have ci := HCS.out i hlt
      obtain ⟨q, hq⟩ : ∃ q, [a, b, c, d].getD i 0 = q := ⟨_, rfl⟩
      rw [hq] at ci
      have HQ := Lib.hid hq
      have i1 : (i : Int) < 4 := by omega
      clear hq
      by_cases hbad : q < 0 ∨ 1073741824 < q
      · obtain rfl : r = false := by
          cases r with
          | false => rfl
          | true =>
            have h := HOK.out.1 rfl
            have hq := HQ.out
            have : i = 0 ∨ i = 1 ∨ i = 2 ∨ i = 3 := by omega
            rcases this with rfl | rfl | rfl | rfl <;> (simp at hq; omega)
        by_cases hneg : q < 0
        · clear hbad
          go_wp2
          go_ret
          exact ⟨rfl, HB2.out⟩
        · have hbig : 1073741824 < q := by omega
          clear hbad
          go_wp2
          go_ret
          exact ⟨rfl, HB2.out⟩
      · have q0 : ¬ q < 0 := by omega
        have q1 : ¬ 1073741824 < q := by omega
        clear hbad
        go_wp2
        go_round
        case rel =>
          refine ⟨i + 1, by go_num, by omega, fun j hj => ?_⟩
          by_cases hji : j < i
          · exact HA.out j hji
          · obtain rfl : j = i := by omega
            rw [HQ.out]; simp [inB]; omega
        case measure => simp [intOf]; omega
    · obtain rfl : i = 4 := by omega
      have h0 := HA.out 0 (by omega)
      have h1 := HA.out 1 (by omega)
      have h2 := HA.out 2 (by omega)
      have h3 := HA.out 3 (by omega)
      simp [inB] at h0 h1 h2 h3
      have ha := H0.out
      clear hlt
      by_cases hbig : a ≤ 100000
      · obtain rfl : r = true := HOK.out.2 ⟨by omega, hbig, by omega, by omega, by omega, by omega, by omega, by omega⟩
        clear h0 h1 h2 h3
        go_wp2
        go_ret
        exact ⟨rfl, HB2.out⟩
      · obtain rfl : r = false := by
          cases r with
          | false => rfl
          | true => have h := HOK.out.1 rfl; omega
        clear h0 h1 h2 h3
        go_wp2
        go_ret
        exact ⟨rfl, HB2.out⟩
set_option maxRecDepth 100000 in
set_option maxHeartbeats 1000000 in
theorem sbefore_any (x y : M.S4) (r : Bool) (w : World) (hr : M.befS x y = r) :
    Calls Tryd.prog 25 #[s4a x, s4a y] w fun e w' => e = .returned (.bool r) ∧ Below w.heap.size w w' := by
  obtain ⟨a, b, c, d⟩ := x
  obtain ⟨a', b', c', d'⟩ := y
  have hbf := M.befS_iff (a, b, c, d) (a', b', c', d')
  rw [hr] at hbf
  simp only at hbf
  unfold s4a
  have hb2 : Below w.heap.size w ((w.alloc (.cells #[.int .i64 a, .int .i64 b, .int .i64 c, .int .i64 d] 47)).alloc (.cells #[.int .i64 a', .int .i64 b', .int .i64 c', .int .i64 d'] 47)) := ((Below.refl _ _).alloc (Nat.le_refl _) _).alloc (by simp) _
  have HB2 := Lib.hid hb2
  have HBF := Lib.hid hbf
  clear hb2 hbf hr
  have hw : (a < a' ∧ r = true) ∨ (a = a' ∧ b < b' ∧ r = true) ∨ (a = a' ∧ ¬ b < b' ∧ r = false) ∨ (a' < a ∧ r = false) := by
    cases r with
    | true => have h := HBF.out.1 rfl; rcases h with h | ⟨h, h2⟩ <;> simp <;> omega
    | false =>
      have h : ¬ (a < a' ∨ a = a' ∧ b < b') := fun h => by have := HBF.out.2 h; simp at this
      simp; omega
  rcases hw with ⟨h1, rfl⟩ | ⟨rfl, h1, rfl⟩ | ⟨rfl, h1, rfl⟩ | ⟨h1, rfl⟩
  · go_enter Tryd.func25, Tryd.ntmps25
    go_wp2
    go_ret
    exact ⟨rfl, HB2.out⟩
  · have h0 : ¬ a < a := by omega
    go_enter Tryd.func25, Tryd.ntmps25
    go_wp2
    go_ret
    exact ⟨rfl, HB2.out⟩
  · have h0 : ¬ a < a := by omega
    go_enter Tryd.func25, Tryd.ntmps25
    go_wp2
    go_ret
    exact ⟨rfl, HB2.out⟩
  · have h0 : ¬ a < a' := by omega
    have h2 : (a == a') = false := by rw [beq_eq_false_iff_ne]; omega
    go_enter Tryd.func25, Tryd.ntmps25
    go_wp2
    go_ret
    exact ⟨rfl, HB2.out⟩
set_option maxRecDepth 100000 in
set_option maxHeartbeats 1000000 in
theorem segment_any (x y : M.S4) (T : ByteArray) (w : World) (hx : M.okS x = true) (hy0 : 0 ≤ y.2.1 ∧ y.2.1 ≤ 1073741824 ∧ 0 ≤ y.2.2.1 ∧ y.2.2.1 ≤ 1073741824 ∧ 0 ≤ y.2.2.2 ∧ y.2.2.2 ≤ 1073741824)
    (hT : bytes (M.four (x.2.1 - y.2.1) (x.2.2.1 - y.2.2.1) (x.2.2.2 - y.2.2.2)) = T) :
    Calls Tryd.prog 28 #[s4a x, s4a y] w fun e w' => e = .returned (.string T) ∧ Below w.heap.size w w' := by
  obtain ⟨a, b, c, d⟩ := x
  obtain ⟨a', b', c', d'⟩ := y
  have hok := (M.okS_iff (a, b, c, d)).1 hx
  simp only at hok hy0 hT
  obtain ⟨o1, o2, o3, o4, o5, o6, o7, o8⟩ := hok
  obtain ⟨g1, g2, g3, g4, g5, g6⟩ := hy0
  unfold s4a
  obtain ⟨W, hW⟩ : ∃ W, (w.alloc (.cells #[.int .i64 a, .int .i64 b, .int .i64 c, .int .i64 d] 47)).alloc (.cells #[.int .i64 a', .int .i64 b', .int .i64 c', .int .i64 d'] 47) = W := ⟨_, rfl⟩
  have hb2 : Below w.heap.size w W := by rw [← hW]; exact ((Below.refl _ _).alloc (Nat.le_refl _) _).alloc (by simp) _
  have hz : W.heap.size = w.heap.size + 2 := by rw [← hW]; simp
  have cx : ∀ i, i < 4 → W.cell? ⟨w.heap.size, i, none⟩ = some (.int .i64 ([a, b, c, d].getD i 0)) := by
    intro i hi
    rw [← hW, World.cell?_alloc_past _ _ _ (by simp), World.cell?_alloc_at _ _ _ _ rfl]
    have : i = 0 ∨ i = 1 ∨ i = 2 ∨ i = 3 := by omega
    rcases this with rfl | rfl | rfl | rfl <;> rfl
  have cy : ∀ i, i < 4 → W.cell? ⟨w.heap.size + 1, i, none⟩ = some (.int .i64 ([a', b', c', d'].getD i 0)) := by
    intro i hi
    rw [← hW, World.cell?_alloc_at _ _ _ _ (by simp)]
    have : i = 0 ∨ i = 1 ∨ i = 2 ∨ i = 3 := by omega
    rcases this with rfl | rfl | rfl | rfl <;> rfl
  have keep : ∀ V, Below W.heap.size W V → (V.cell? ⟨w.heap.size, 2, none⟩ = some (.int .i64 c) ∧ V.cell? ⟨w.heap.size, 3, none⟩ = some (.int .i64 d) ∧ V.cell? ⟨w.heap.size + 1, 2, none⟩ = some (.int .i64 c') ∧ V.cell? ⟨w.heap.size + 1, 3, none⟩ = some (.int .i64 d')) := fun V h =>
    ⟨(h.cell (p := ⟨w.heap.size, 2, none⟩) (by show w.heap.size < _; omega)).trans (cx 2 (by omega)), (h.cell (p := ⟨w.heap.size, 3, none⟩) (by show w.heap.size < _; omega)).trans (cx 3 (by omega)),
     (h.cell (p := ⟨w.heap.size + 1, 2, none⟩) (by show w.heap.size + 1 < _; omega)).trans (cy 2 (by omega)), (h.cell (p := ⟨w.heap.size + 1, 3, none⟩) (by show w.heap.size + 1 < _; omega)).trans (cy 3 (by omega))⟩
  obtain ⟨T1, hT1⟩ : ∃ T, bytes (V.text (b - b')) = T := ⟨_, rfl⟩
  obtain ⟨T2, hT2⟩ : ∃ T, bytes (V.text (b - b') ++ V.text 0) = T := ⟨_, rfl⟩
  obtain ⟨T3, hT3⟩ : ∃ T, bytes (V.text (b - b') ++ V.text 0 ++ V.text (c - c')) = T := ⟨_, rfl⟩
  have l1 := V.text_len (b - b')
  have l2 := V.text_len 0
  have l3 := V.text_len (c - c')
  have P1 := Lib.hid (fun W => vq_put_to ⟨#[]⟩ T1 (b - b') W (by omega) (by omega) (by decide) (by rw [vq_empty_bytes, ← hT1]; rfl))
  have P2 := Lib.hid (fun W => vq_put_to T1 T2 0 W (by omega) (by omega) (by rw [← hT1, bytes_size]; omega) (by rw [← hT1, ← hT2, bytes_join]))
  have P3 := Lib.hid (fun W => vq_put_to T2 T3 (c - c') W (by omega) (by omega) (by rw [← hT2, bytes_size, List.length_append]; omega) (by rw [← hT2, ← hT3, bytes_join]))
  have P4 := Lib.hid (fun W => vq_put_to T3 T (d - d') W (by omega) (by omega) (by rw [← hT3, bytes_size, List.length_append, List.length_append]; omega) (by rw [← hT3, ← hT, bytes_join]; rfl))
  have HB2 := Lib.hid hb2
  have HW := Lib.hid hW
  have HZ := Lib.hid hz
  have KP := Lib.hid keep
  have x1 := cx 1 (by omega)
  have y1 := cy 1 (by omega)
  simp only [List.getD_cons_succ, List.getD_cons_zero] at x1 y1
  clear hT hT1 hT2 hT3 hW hz hb2 cx cy keep l1 l2 l3 hx
  go_enter Tryd.func28, Tryd.ntmps28
  go_wp2_with fail
  rw [HW.out]
  refine (P1.out _).mono ?_
  rintro e w1 ⟨rfl, hb1⟩
  have HX1 := Lib.hid hb1
  clear hb1 x1 y1
  go_wp2_with fail
  refine (P2.out _).mono ?_
  rintro e w2 ⟨rfl, hb2⟩
  have hx2 := HX1.out.trans (hb2.mono HX1.out.size)
  obtain ⟨k1, -, k3, -⟩ := KP.out w2 hx2
  have HX2 := Lib.hid hx2
  clear hb2 hx2
  go_wp2_with fail
  refine (P3.out _).mono ?_
  rintro e w3 ⟨rfl, hb3⟩
  have hx3 := HX2.out.trans (hb3.mono HX2.out.size)
  obtain ⟨-, k2, -, k4⟩ := KP.out w3 hx3
  have HX3 := Lib.hid hx3
  clear hb3 hx3 k1 k3
  go_wp2_with fail
  refine (P4.out _).mono ?_
  rintro e w4 ⟨rfl, hb4⟩
  have hx4 := HX3.out.trans (hb4.mono HX3.out.size)
  have hf := HB2.out.trans (hx4.mono HB2.out.size)
  clear hb4 hx4 k2 k4
  go_wp2
  go_ret
  exact ⟨rfl, hf⟩
end Go.Proofs.YtlobinjdgcidmaaDoor
/- WriteString once more, with word of the blocks that stay as they were. -/
namespace Go.Proofs.YtlobinjdgcidmaaDoor
open Go.RowKit
set_option linter.unusedVariables false
set_option linter.unusedSimpArgs false

def Apt (b : Nat) (w w' : World) : Prop := ∀ (j : Nat) (cs : Array Value) (T : TypeId) (fr : Nat × Nat), j < w.heap.size → j ≠ b → w.heap[j]? = some (.cells cs T fr) → T ≠ 5 → w'.heap[j]? = w.heap[j]?
theorem bcheckF_any (B b : Nat) (l : List UInt8) (w : World) (h : Bd B b l w) :
    Calls Tryd.prog 49 #[.pointer (some ⟨b, 0, none⟩)] w fun e w' => e = .returned (.tuple #[]) ∧ Lib.BuilderAt 67 5 B b (.pointer (some ⟨b, 0, none⟩)) (bcells l) w' ∧ Below B w w' ∧ Apt b w w' := by
  rcases h with h | h
  · refine (bcheck_fresh b w h.cell0 h.shape h.frozen0).mono ?_
    rintro e w' ⟨rfl, rfl⟩
    exact ⟨rfl, h.used _, (Below.refl B w).setCell (p := ⟨b, 0, none⟩) h.1 _, fun j cs T fr _ hjb _ _ => Below.heap_setCell _ _ _ _ (fun e => hjb e)⟩
  · refine (bcheck_used b w h.cell0).mono ?_
    rintro e w' ⟨rfl, rfl⟩
    exact ⟨rfl, h, Below.refl B _, fun j cs T fr _ _ _ _ => rfl⟩
set_option maxRecDepth 100000 in
set_option maxHeartbeats 2000000 in
theorem bwriteF_any (B b : Nat) (l k t : List UInt8) (S : ByteArray) (hS : bytes k = S) (w : World) (h : Bd B b l w) (hl : l.length + k.length ≤ 4294967296) (hB : B ≤ w.heap.size) (ht : l ++ k = t) :
    Calls Tryd.prog 26 #[.pointer (some ⟨b, 0, none⟩), .string S] w fun e w' => e = .returned (.tuple #[.int .i64 (S.size : Int), .nilIface]) ∧ Bd B b t w' ∧ Below B w w' ∧ Apt b w w' := by
  have CK := Lib.hid (bcheckF_any B b l w h)
  have HS := Lib.hid hS
  have HT := Lib.hid ht
  clear hS h ht
  go_enter Tryd.func26, Tryd.ntmps26
  go_wp2_with fail
  refine CK.out.mono ?_
  rintro e w1 ⟨rfl, ⟨hBb, vv, hbk, hown, hne⟩, hb1, hap1⟩
  have HAP1 := Lib.hid hap1
  have HRAW := Lib.hid hown
  have hlt : b < w1.heap.size := Array.getElem?_eq_some_iff.1 hbk |>.1
  have c0 : w1.cell? ⟨b, 0, none⟩ = some (.pointer (some ⟨b, 0, none⟩)) := by rw [Lib.cell_of_heap hbk]; rfl
  have c1 : w1.cell? ⟨b, 1, none⟩ = some vv := by rw [Lib.cell_of_heap hbk]; rfl
  have hbz := hb1.size
  have hown2 : OwnB B w1 vv l := by unfold OwnB; rw [bcells_len] at hown; exact hown
  have HK := Lib.hid hbk
  have HNE := Lib.hid hne
  have Hb1 := Lib.hid hb1
  have HO := Lib.hid hown2
  have hB1 : B ≤ w1.heap.size := by omega
  clear hbk hne hb1 hown hown2 hap1
  go_wp2_with (at_builtin; refine wpl_append_strG rfl _ _ rfl B _ l k t S HS.out rfl HO.out rfl hl hB1 HT.out ?_)
  intro v' w2 hown' hbw hgrow
  have hb2 : w2.heap[b]? = some (.cells #[.pointer (some ⟨b, 0, none⟩), vv] 67 (0, 0)) := by
    rw [hgrow b hlt (fun e => HNE.out e.symm)]
    exact HK.out
  have d0 : w2.cell? ⟨b, 0, none⟩ = some (.pointer (some ⟨b, 0, none⟩)) := by rw [Lib.cell_of_heap hb2]; rfl
  have d1 : w2.cell? ⟨b, 1, none⟩ = some vv := by rw [Lib.cell_of_heap hb2]; rfl
  have f1 : w2.frozen? ⟨b, 1, none⟩ = false := Lib.frozen_of_heap hb2 1
  obtain ⟨ao, n', cap, rfl⟩ : ∃ ao n' cap, v' = .slice ao n' cap := by
    rcases hown'.2 with ⟨hv, _⟩ | ⟨g, cap, cur, hv, _⟩
    · exact ⟨_, _, _, hv⟩
    · exact ⟨_, _, _, hv⟩
  have HB2 := Lib.hid hb2
  have HO2 := Lib.hid hown'
  have HBW := Lib.hid hbw
  have HGR := Lib.hid hgrow
  clear hb2 hown' hgrow c0 c1 hbw
  go_wp2
  go_ret2
  refine ⟨rfl, .inr ?_, ?_, ?_⟩
  · refine Lib.BuilderAt.put hBb HB2.out ?_ (by decide)
    have h := HO2.out
    unfold OwnB at h
    rw [bcells_len]
    exact h
  · exact (Hb1.out.trans HBW.out).setCell (p := ⟨b, 1, none⟩) hBb _
  · intro j cs T fr hj hjb hcs hT
    have h1 := HAP1.out j cs T fr hj hjb hcs hT
    have h2 : w1.heap[j]? = some (.cells cs T fr) := h1.trans hcs
    have h3 : vv.ownBlock ≠ some j := Lib.ownBlock_ne HRAW.out h2 hT
    have hj1 : j < w1.heap.size := (Array.getElem?_eq_some_iff.1 h2).1
    rw [Below.heap_setCell _ _ _ _ (fun e => hjb e), HGR.out j hj1 (fun e => h3 e.symm), h1]
end Go.Proofs.YtlobinjdgcidmaaDoor
