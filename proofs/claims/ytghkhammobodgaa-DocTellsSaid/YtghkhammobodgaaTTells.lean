/- The walk of DocTells. -/
import Derived.Test.YtghkhammobodgaaTJoins
import Derived.Test.YtghkhammobodgaaTSame
import Derived.Test.YtghkhammobodgaaTWide2
namespace Go.Proofs.Ytghkhammobodgaa
open Go.RowKit
set_option linter.unusedVariables false
set_option linter.unusedSimpArgs false

theorem four_keep {V V' : World} {b : Nat} {c0 c1 c2 c3 : Value} (h : V.cell? ⟨b, 0, none⟩ = some c0 ∧ V.cell? ⟨b, 1, none⟩ = some c1 ∧ V.cell? ⟨b, 2, none⟩ = some c2 ∧ V.cell? ⟨b, 3, none⟩ = some c3) (hb : Below V.heap.size V V') :
    V'.cell? ⟨b, 0, none⟩ = some c0 ∧ V'.cell? ⟨b, 1, none⟩ = some c1 ∧ V'.cell? ⟨b, 2, none⟩ = some c2 ∧ V'.cell? ⟨b, 3, none⟩ = some c3 := by
  obtain ⟨a1, a2, a3, a4⟩ := h
  have hlt : b < V.heap.size := World.block_lt_of_cell? V _ a1
  exact ⟨(hb.cell (p := ⟨b, 0, none⟩) hlt).trans a1, (hb.cell (p := ⟨b, 1, none⟩) hlt).trans a2, (hb.cell (p := ⟨b, 2, none⟩) hlt).trans a3, (hb.cell (p := ⟨b, 3, none⟩) hlt).trans a4⟩
set_option maxRecDepth 100000 in
set_option maxHeartbeats 16000000 in
theorem dtells_walk (k0 f0 : Int) (s0 : ByteArray) (v0 : Value) (L0 : Fo) (S : ByteArray) (from' kind : Int) (w : World) (hv0 : FoS w v0 L0) :
    Calls Try.prog 3 #[.agg (dv k0 f0 s0 v0), .string S, .int .i64 from', .int .i64 kind] w fun e w' => e = .returned (.bool true) ∧ Below w.heap.size w w' := by
  obtain ⟨x0, y0, h0s⟩ := hv0.slice
  obtain ⟨n0, hn0⟩ : ∃ n, L0.len = n := ⟨_, rfl⟩
  rw [hn0] at h0s
  subst h0s
  have b0 := Lib.hid ((Below.refl w.heap.size w).alloc (Nat.le_refl _) (.cells #[.int .i64 k0, .int .i64 f0, .string s0, .slice x0 n0 y0] 24))
  have dA0 := Lib.hid (DB.new w #[.int .i64 k0, .int .i64 f0, .string s0, .slice x0 n0 y0])
  obtain ⟨W0, hW0⟩ : ∃ W, w.alloc (.cells #[.int .i64 k0, .int .i64 f0, .string s0, .slice x0 n0 y0] 24) = W := ⟨_, rfl⟩
  rw [hW0] at b0 dA0
  have HW0 := Lib.hid hW0
  have AL := Lib.hid (alive_any W0)
  have FA := Lib.hid (fun W (h : Below w.heap.size w W) => few_any k0 f0 s0 L0 _ W (hv0.keep h))
  have FS0 := Lib.hid (fun W (h : Below w.heap.size w W) => hv0.keep h)
  clear hv0 hn0 hW0
  unfold dv at FA ⊢
  by_cases c0 : sizeD s0 L0 0 ≤ 300
  case neg =>
    rw [decide_eq_false c0] at FA
    go_enter Try.func3, Try.ntmps3
    go_upto_region 1 with fail
    rw [HW0.out]
    go_wp2_with fail
    refine (AL.out).mono ?_
    rintro e w1 ⟨rfl, hb1⟩
    have d1 := b0.out.trans (hb1.mono b0.out.size)
    obtain ⟨g0, g1, g2, g3⟩ := (dA0.out.keep hb1 dA0.out.lt).four
    go_wp2_with fail
    refine (FA.out _ d1).mono ?_
    rintro e w2 ⟨rfl, hb2⟩
    have d2 := d1.trans (hb2.mono d1.size)
    clear hb1 hb2 d1
    go_wp2
    go_ret
    exact ⟨rfl, d2⟩
  rw [decide_eq_true c0] at FA
  by_cases cs : 200 < S.size
  case pos =>
    have cs2 : (200 : Int) < S.size := by omega
    go_enter Try.func3, Try.ntmps3
    go_upto_region 1 with fail
    rw [HW0.out]
    go_wp2_with fail
    refine (AL.out).mono ?_
    rintro e w1 ⟨rfl, hb1⟩
    have d1 := b0.out.trans (hb1.mono b0.out.size)
    obtain ⟨g0, g1, g2, g3⟩ := (dA0.out.keep hb1 dA0.out.lt).four
    go_wp2_with fail
    refine (FA.out _ d1).mono ?_
    rintro e w2 ⟨rfl, hb2⟩
    have d2 := d1.trans (hb2.mono d1.size)
    clear hb1 hb2 d1
    go_wp2
    go_ret
    exact ⟨rfl, d2⟩
  have cs2 : ¬ (200 : Int) < S.size := by omega
  obtain ⟨e0, e1, e2⟩ := few_small c0
  have XA := Lib.hid (fun W (h : Below w.heap.size w W) => flatT_any k0 f0 s0 L0 _ W (FS0.out W h) (by omega))
  have XB := Lib.hid (fun W (h : Below w.heap.size w W) => refflat_any k0 f0 s0 L0 _ W (FS0.out W h) (by omega))
  obtain ⟨P, hP⟩ : ∃ P, Fo.two k0 f0 s0 L0 k0 f0 s0 L0 = P := ⟨_, rfl⟩
  have PF := Lib.hid (fun W (h : Below w.heap.size w W) => pair_fos (k0 := k0) (f0 := f0) (k1 := k0) (f1 := f0) (FS0.out W h) (FS0.out W h) e2 e2)
  have hPN : FoN P ≤ 1000 := by rw [← hP]; simp only [Fo.two, FoN]; omega
  rw [hP] at PF
  have CT := Lib.hid (fun v W (h : FoS W v P) => catT kind v P W h hPN)
  have SC := Lib.hid (fun v v' W (h : FoS W v P) (h' : FoS W v' P) => sm_any kind 0 ⟨#[]⟩ P W v v' h h')
  have RT := Lib.hid (fun W (h : Below w.heap.size w W) => rightT_any k0 f0 s0 L0 _ W (FS0.out W h))
  have RR := Lib.hid (fun W (h : Below w.heap.size w W) => refright_any k0 f0 s0 L0 _ W (FS0.out W h))
  obtain ⟨N, hN⟩ : ∃ N, Lib.runeCount S = N := ⟨_, rfl⟩
  have eS : bytes S.data.toList = S := by simp [bytes]
  have WD := Lib.hid (fun W => wide_any S N W (by omega) hN)
  have WR := Lib.hid (fun W => refwide_any S.data.toList N W (by have : S.data.toList.length = S.size := Array.length_toList; omega) (by rw [eS]; exact hN))
  have TX := Lib.hid (fun W => text_any S from' W)
  have nilF : ∀ W, FoS W (.slice none 0 0) .nil := fun W => ⟨none, 0, rfl, Nat.le_refl _, by decide, fun _ => rfl, fun h => by simp [Fo.len] at h⟩
  have ST := Lib.hid (fun W => sm_any 1 from' S .nil W _ _ (nilF W) (nilF W))
  unfold dv at XA XB CT SC RT RR TX ST
  rw [eS] at WR
  obtain ⟨R, hR⟩ : ∃ x, rightD k0 f0 s0 L0 200 = x := ⟨_, rfl⟩
  rw [hR] at RT RR
  obtain ⟨RA, hRA⟩ : ∃ x, flatV k0 f0 s0 L0 = x := ⟨_, rfl⟩
  have WA := flatV_ways k0 f0 s0 L0
  rw [hRA] at XA XB WA
  obtain ⟨xs, xb, hxx⟩ : ∃ xs xb, RA = .tuple #[.string xs, .bool xb] := by rcases WA with ⟨t, h, -⟩ | ⟨h, -⟩ <;> exact ⟨_, _, h⟩
  rw [hxx] at XA XB
  have t5 : (xs.toList == xs.toList) = true := by simp
  clear c0 cs e0 e1 e2 hP hPN WA hRA hxx hR hN eS nilF
  go_enter Try.func3, Try.ntmps3
  go_upto_region 1 with fail
  rw [HW0.out]
  go_wp2_with fail
  refine (AL.out).mono ?_
  rintro e w1 ⟨rfl, hb1⟩
  have d1 := b0.out.trans (hb1.mono b0.out.size)
  have dA1 := dA0.out.keep hb1 dA0.out.lt
  obtain ⟨g0, g1, g2, g3⟩ := dA1.four
  go_wp2_with fail
  refine (FA.out _ d1).mono ?_
  rintro e w2 ⟨rfl, hb2⟩
  have d2 := d1.trans (hb2.mono d1.size)
  have dA2 := dA1.keep hb2 dA1.lt
  clear hb1 d1 dA1 g0 g1 g2 g3 hb2
  obtain ⟨g0, g1, g2, g3⟩ := dA2.four
  go_wp2_with fail
  refine (XA.out _ d2).mono ?_
  rintro e w3 ⟨rfl, hb3⟩
  have d3 := d2.trans (hb3.mono d2.size)
  have dA3 := dA2.keep hb3 dA2.lt
  clear hb3 d2 dA2 g0 g1 g2 g3
  obtain ⟨g0, g1, g2, g3⟩ := dA3.four
  go_wp2_with fail
  refine (XB.out _ d3).mono ?_
  rintro e w4 ⟨rfl, hb4⟩
  have d4 := d3.trans (hb4.mono d3.size)
  have dA4 := dA3.keep hb4 dA3.lt
  clear hb4 d3 dA3 g0 g1 g2 g3
  obtain ⟨g0, g1, g2, g3⟩ := dA4.four
  have B4 := Lib.hid d4.drew
  clear d4 dA4
  go_upto_region 6 with (fail)
  refine wp_region_noPanic ?_
  refine wp_region_held_drew (S := fun V : World => V.cell? ⟨w.heap.size, 0, none⟩ = some (.int .i64 k0) ∧ V.cell? ⟨w.heap.size, 1, none⟩ = some (.int .i64 f0) ∧ V.cell? ⟨w.heap.size, 2, none⟩ = some (.string s0) ∧ V.cell? ⟨w.heap.size, 3, none⟩ = some (.slice x0 n0 y0)) (by kernel_rfl) ⟨g0, g1, g2, g3⟩ (fun hS => ?_)
  refine wpAnyH_take (i := 0) (oi := _) (v := ?_) (List.getElem?_toArray.trans (by simp only [List.getElem?_cons_succ, List.getElem?_cons_zero]; exact rfl)) (by kernel_rfl) (by kernel_rfl) (by kernel_rfl) (fun _ _ _ h => h) (Or.inl ⟨by rfl, ?_⟩) (by assumption) ?_
  rotate_left
  · (intro V hSV; (try dsimp only at hSV); (try obtain ⟨s0', s1', s2', s3'⟩ := hSV); go_simp; (try rw [if_neg (by omega)]); (try with_reducible rfl))
  try simp only [List.getElem_toArray, List.getElem_cons_succ, List.getElem_cons_zero, Act.put, List.setIfInBounds_toArray, List.set_cons_zero, List.set_cons_succ]
  refine wpAnyH_take (i := 2) (oi := _) (v := ?_) (List.getElem?_toArray.trans (by simp only [List.getElem?_cons_succ, List.getElem?_cons_zero]; exact rfl)) (by kernel_rfl) (by kernel_rfl) (by kernel_rfl) (fun _ _ _ h => h) (Or.inl ⟨by rfl, ?_⟩) (by assumption) ?_
  rotate_left
  · (intro V hSV; (try dsimp only at hSV); (try obtain ⟨s0', s1', s2', s3'⟩ := hSV); go_simp; (try rw [if_neg (by omega)]); (try with_reducible rfl))
  try simp only [List.getElem_toArray, List.getElem_cons_succ, List.getElem_cons_zero, Act.put, List.setIfInBounds_toArray, List.set_cons_zero, List.set_cons_succ]
  refine wpAnyH_ready (rs := [1]) (by kernel_rfl) (by simp) ?_
  refine AllReadyH.cons rfl (fun K hK => ?_) AllReadyH.nil
  go_simp
  refine (RT.out _ B4.out).mono ?_
  rintro e w5 ⟨rfl, hb5⟩
  refine hK.out _ _ (four_keep hS hb5) (fun hS => ?_)
  clear hK K
  have B5 := Lib.hid (B4.out.trans (hb5.mono B4.out.size))
  clear hb5
  refine wpAnyH_ready (rs := [3]) (by kernel_rfl) (by simp) ?_
  refine AllReadyH.cons rfl (fun K hK => ?_) AllReadyH.nil
  go_simp
  refine (RR.out _ B5.out).mono ?_
  rintro e w6 ⟨rfl, hb6⟩
  refine hK.out _ _ (four_keep hS hb6) (fun hS => ?_)
  clear hK K
  have B6 := Lib.hid (B5.out.trans (hb6.mono B5.out.size))
  clear hb6
  refine wpAnyH_take (i := 4) (oi := _) (v := ?_) (List.getElem?_toArray.trans (by simp only [List.getElem?_cons_succ, List.getElem?_cons_zero]; exact rfl)) (by kernel_rfl) (by kernel_rfl) (by kernel_rfl) (fun _ _ _ h => h) (Or.inl ⟨by rfl, ?_⟩) (by assumption) ?_
  rotate_left
  · (intro V hSV; (try dsimp only at hSV); (try obtain ⟨s0', s1', s2', s3'⟩ := hSV); go_simp; (try rw [if_neg (by omega)]); (try with_reducible rfl))
  try simp only [List.getElem_toArray, List.getElem_cons_succ, List.getElem_cons_zero, Act.put, List.setIfInBounds_toArray, List.set_cons_zero, List.set_cons_succ]
  refine wpAnyH_take (i := 5) (oi := _) (v := ?_) (List.getElem?_toArray.trans (by simp only [List.getElem?_cons_succ, List.getElem?_cons_zero]; exact rfl)) (by kernel_rfl) (by kernel_rfl) (by kernel_rfl) (fun _ _ _ h => h) (Or.inl ⟨by rfl, ?_⟩) (by assumption) ?_
  rotate_left
  · (intro V hSV; (try dsimp only at hSV); (try obtain ⟨s0', s1', s2', s3'⟩ := hSV); go_simp; (try rw [if_neg (by omega)]); (try with_reducible rfl))
  try simp only [List.getElem_toArray, List.getElem_cons_succ, List.getElem_cons_zero, Act.put, List.setIfInBounds_toArray, List.set_cons_zero, List.set_cons_succ]
  refine wpAnyH_take (i := 6) (oi := _) (v := ?_) (List.getElem?_toArray.trans (by simp only [List.getElem?_cons_succ, List.getElem?_cons_zero]; exact rfl)) (by kernel_rfl) (by kernel_rfl) (by kernel_rfl) (fun _ _ _ h => h) (Or.inl ⟨by rfl, ?_⟩) (by assumption) ?_
  rotate_left
  · (intro V hSV; (try dsimp only at hSV); (try obtain ⟨s0', s1', s2', s3'⟩ := hSV); go_simp; (try rw [if_neg (by omega)]); (try with_reducible rfl))
  try simp only [List.getElem_toArray, List.getElem_cons_succ, List.getElem_cons_zero, Act.put, List.setIfInBounds_toArray, List.set_cons_zero, List.set_cons_succ]
  refine wpAnyH_take (i := 7) (oi := _) (v := ?_) (List.getElem?_toArray.trans (by simp only [List.getElem?_cons_succ, List.getElem?_cons_zero]; exact rfl)) (by kernel_rfl) (by kernel_rfl) (by kernel_rfl) (fun _ _ _ h => h) (Or.inl ⟨by rfl, ?_⟩) (by assumption) ?_
  rotate_left
  · (intro V hSV; (try dsimp only at hSV); (try obtain ⟨s0', s1', s2', s3'⟩ := hSV); go_simp; (try rw [if_neg (by omega)]); (try with_reducible rfl))
  try simp only [List.getElem_toArray, List.getElem_cons_succ, List.getElem_cons_zero, Act.put, List.setIfInBounds_toArray, List.set_cons_zero, List.set_cons_succ]
  refine wpAnyH_take (i := 8) (oi := _) (v := ?_) (List.getElem?_toArray.trans (by simp only [List.getElem?_cons_succ, List.getElem?_cons_zero]; exact rfl)) (by kernel_rfl) (by kernel_rfl) (by kernel_rfl) (fun _ _ _ h => h) (Or.inl ⟨by rfl, ?_⟩) (by assumption) ?_
  rotate_left
  · (intro V hSV; (try dsimp only at hSV); (try obtain ⟨s0', s1', s2', s3'⟩ := hSV); go_simp; (try rw [if_neg (by omega)]); (try with_reducible rfl))
  try simp only [List.getElem_toArray, List.getElem_cons_succ, List.getElem_cons_zero, Act.put, List.setIfInBounds_toArray, List.set_cons_zero, List.set_cons_succ]
  refine wpAnyH_take (i := 9) (oi := _) (v := ?_) (List.getElem?_toArray.trans (by simp only [List.getElem?_cons_succ, List.getElem?_cons_zero]; exact rfl)) (by kernel_rfl) (by kernel_rfl) (by kernel_rfl) (fun _ _ _ h => h) (Or.inl ⟨by rfl, ?_⟩) (by assumption) ?_
  rotate_left
  · (intro V hSV; (try dsimp only at hSV); (try obtain ⟨s0', s1', s2', s3'⟩ := hSV); go_simp; (try rw [if_neg (by omega)]); (try with_reducible rfl))
  try simp only [List.getElem_toArray, List.getElem_cons_succ, List.getElem_cons_zero, Act.put, List.setIfInBounds_toArray, List.set_cons_zero, List.set_cons_succ]
  refine wpAnyH_take (i := 10) (oi := _) (v := ?_) (List.getElem?_toArray.trans (by simp only [List.getElem?_cons_succ, List.getElem?_cons_zero]; exact rfl)) (by kernel_rfl) (by kernel_rfl) (by kernel_rfl) (fun _ _ _ h => h) (Or.inl ⟨by rfl, ?_⟩) (by assumption) ?_
  rotate_left
  · (intro V hSV; (try dsimp only at hSV); (try obtain ⟨s0', s1', s2', s3'⟩ := hSV); go_simp; (try rw [if_neg (by omega)]); (try with_reducible rfl))
  try simp only [List.getElem_toArray, List.getElem_cons_succ, List.getElem_cons_zero, Act.put, List.setIfInBounds_toArray, List.set_cons_zero, List.set_cons_succ]
  refine wpAnyH_take (i := 11) (oi := _) (v := ?_) (List.getElem?_toArray.trans (by simp only [List.getElem?_cons_succ, List.getElem?_cons_zero]; exact rfl)) (by kernel_rfl) (by kernel_rfl) (by kernel_rfl) (fun _ _ _ h => h) (Or.inl ⟨by rfl, ?_⟩) (by assumption) ?_
  rotate_left
  · (intro V hSV; (try dsimp only at hSV); (try obtain ⟨s0', s1', s2', s3'⟩ := hSV); go_simp; (try rw [if_neg (by omega)]); (try with_reducible rfl))
  try simp only [List.getElem_toArray, List.getElem_cons_succ, List.getElem_cons_zero, Act.put, List.setIfInBounds_toArray, List.set_cons_zero, List.set_cons_succ]
  refine wpAnyH_take (i := 12) (oi := _) (v := ?_) (List.getElem?_toArray.trans (by simp only [List.getElem?_cons_succ, List.getElem?_cons_zero]; exact rfl)) (by kernel_rfl) (by kernel_rfl) (by kernel_rfl) (fun _ _ _ h => h) (Or.inl ⟨by rfl, ?_⟩) (by assumption) ?_
  rotate_left
  · (intro V hSV; (try dsimp only at hSV); (try obtain ⟨s0', s1', s2', s3'⟩ := hSV); go_simp; (try rw [if_neg (by omega)]); (try with_reducible rfl))
  try simp only [List.getElem_toArray, List.getElem_cons_succ, List.getElem_cons_zero, Act.put, List.setIfInBounds_toArray, List.set_cons_zero, List.set_cons_succ]
  refine wpAnyH_take (i := 13) (oi := _) (v := ?_) (List.getElem?_toArray.trans (by simp only [List.getElem?_cons_succ, List.getElem?_cons_zero]; exact rfl)) (by kernel_rfl) (by kernel_rfl) (by kernel_rfl) (fun _ _ _ h => h) (Or.inl ⟨by rfl, ?_⟩) (by assumption) ?_
  rotate_left
  · (intro V hSV; (try dsimp only at hSV); (try obtain ⟨s0', s1', s2', s3'⟩ := hSV); go_simp; (try rw [if_neg (by omega)]); (try with_reducible rfl))
  try simp only [List.getElem_toArray, List.getElem_cons_succ, List.getElem_cons_zero, Act.put, List.setIfInBounds_toArray, List.set_cons_zero, List.set_cons_succ]
  refine wpAnyH_take (i := 14) (oi := _) (v := ?_) (List.getElem?_toArray.trans (by simp only [List.getElem?_cons_succ, List.getElem?_cons_zero]; exact rfl)) (by kernel_rfl) (by kernel_rfl) (by kernel_rfl) (fun _ _ _ h => h) (Or.inl ⟨by rfl, ?_⟩) (by assumption) ?_
  rotate_left
  · (intro V hSV; (try dsimp only at hSV); (try obtain ⟨s0', s1', s2', s3'⟩ := hSV); go_simp; (try rw [if_neg (by omega)]); (try with_reducible rfl))
  try simp only [List.getElem_toArray, List.getElem_cons_succ, List.getElem_cons_zero, Act.put, List.setIfInBounds_toArray, List.set_cons_zero, List.set_cons_succ]
  refine wpAnyH_take (i := 15) (oi := _) (v := ?_) (List.getElem?_toArray.trans (by simp only [List.getElem?_cons_succ, List.getElem?_cons_zero]; exact rfl)) (by kernel_rfl) (by kernel_rfl) (by kernel_rfl) (fun _ _ _ h => h) (Or.inl ⟨by rfl, ?_⟩) (by assumption) ?_
  rotate_left
  · (intro V hSV; (try dsimp only at hSV); (try obtain ⟨s0', s1', s2', s3'⟩ := hSV); go_simp; (try rw [if_neg (by omega)]); (try with_reducible rfl))
  try simp only [List.getElem_toArray, List.getElem_cons_succ, List.getElem_cons_zero, Act.put, List.setIfInBounds_toArray, List.set_cons_zero, List.set_cons_succ]
  refine wpAnyH_take (i := 16) (oi := _) (v := ?_) (List.getElem?_toArray.trans (by simp only [List.getElem?_cons_succ, List.getElem?_cons_zero]; exact rfl)) (by kernel_rfl) (by kernel_rfl) (by kernel_rfl) (fun _ _ _ h => h) (Or.inl ⟨by rfl, ?_⟩) (by assumption) ?_
  rotate_left
  · (intro V hSV; (try dsimp only at hSV); (try obtain ⟨s0', s1', s2', s3'⟩ := hSV); go_simp; (try rw [if_neg (by omega)]); (try with_reducible rfl))
  try simp only [List.getElem_toArray, List.getElem_cons_succ, List.getElem_cons_zero, Act.put, List.setIfInBounds_toArray, List.set_cons_zero, List.set_cons_succ]
  refine wpAnyH_take (i := 18) (oi := _) (v := ?_) (List.getElem?_toArray.trans (by simp only [List.getElem?_cons_succ, List.getElem?_cons_zero]; exact rfl)) (by kernel_rfl) (by kernel_rfl) (by kernel_rfl) (fun _ _ _ h => h) (Or.inl ⟨by rfl, ?_⟩) (by assumption) ?_
  rotate_left
  · (intro V hSV; (try dsimp only at hSV); (try obtain ⟨s0', s1', s2', s3'⟩ := hSV); go_simp; (try rw [if_neg (by omega)]); (try with_reducible rfl))
  try simp only [List.getElem_toArray, List.getElem_cons_succ, List.getElem_cons_zero, Act.put, List.setIfInBounds_toArray, List.set_cons_zero, List.set_cons_succ]
  refine wpAnyH_ready (rs := [17]) (by kernel_rfl) (by simp) ?_
  refine AllReadyH.cons rfl (fun K hK => ?_) AllReadyH.nil
  go_simp
  refine (WD.out _).mono ?_
  rintro e w7 ⟨rfl, hb7⟩
  refine hK.out _ _ (four_keep hS hb7) (fun hS => ?_)
  clear hK K
  have B7 := Lib.hid (B6.out.trans (hb7.mono B6.out.size))
  clear hb7
  refine wpAnyH_ready (rs := [19]) (by kernel_rfl) (by simp) ?_
  refine AllReadyH.cons rfl (fun K hK => ?_) AllReadyH.nil
  go_simp
  refine (WR.out _).mono ?_
  rintro e w8 ⟨rfl, hb8⟩
  refine hK.out _ _ (four_keep hS hb8) (fun hS => ?_)
  clear hK K
  have B8 := Lib.hid (B7.out.trans (hb8.mono B7.out.size))
  clear hb8
  refine wpAnyH_take (i := 20) (oi := _) (v := ?_) (List.getElem?_toArray.trans (by simp only [List.getElem?_cons_succ, List.getElem?_cons_zero]; exact rfl)) (by kernel_rfl) (by kernel_rfl) (by kernel_rfl) (fun _ _ _ h => h) (Or.inl ⟨by rfl, ?_⟩) (by assumption) ?_
  rotate_left
  · (intro V hSV; (try dsimp only at hSV); (try obtain ⟨s0', s1', s2', s3'⟩ := hSV); go_simp; (try rw [if_neg (by omega)]); (try with_reducible rfl))
  try simp only [List.getElem_toArray, List.getElem_cons_succ, List.getElem_cons_zero, Act.put, List.setIfInBounds_toArray, List.set_cons_zero, List.set_cons_succ]
  refine wpAnyH_take (i := 21) (oi := _) (v := ?_) (List.getElem?_toArray.trans (by simp only [List.getElem?_cons_succ, List.getElem?_cons_zero]; exact rfl)) (by kernel_rfl) (by kernel_rfl) (by kernel_rfl) (fun _ _ _ h => h) (Or.inl ⟨by rfl, ?_⟩) (by assumption) ?_
  rotate_left
  · (intro V hSV; (try dsimp only at hSV); (try obtain ⟨s0', s1', s2', s3'⟩ := hSV); go_simp; (try rw [if_neg (by omega)]); (try with_reducible rfl))
  try simp only [List.getElem_toArray, List.getElem_cons_succ, List.getElem_cons_zero, Act.put, List.setIfInBounds_toArray, List.set_cons_zero, List.set_cons_succ]
  refine wpAnyH_take (i := 22) (oi := _) (v := ?_) (List.getElem?_toArray.trans (by simp only [List.getElem?_cons_succ, List.getElem?_cons_zero]; exact rfl)) (by kernel_rfl) (by kernel_rfl) (by kernel_rfl) (fun _ _ _ h => h) (Or.inl ⟨by rfl, ?_⟩) (by assumption) ?_
  rotate_left
  · (intro V hSV; (try dsimp only at hSV); (try obtain ⟨s0', s1', s2', s3'⟩ := hSV); go_simp; (try rw [if_neg (by omega)]); (try with_reducible rfl))
  try simp only [List.getElem_toArray, List.getElem_cons_succ, List.getElem_cons_zero, Act.put, List.setIfInBounds_toArray, List.set_cons_zero, List.set_cons_succ]
  refine wpAnyH_take (i := 23) (oi := _) (v := ?_) (List.getElem?_toArray.trans (by simp only [List.getElem?_cons_succ, List.getElem?_cons_zero]; exact rfl)) (by kernel_rfl) (by kernel_rfl) (by kernel_rfl) (fun _ _ _ h => h) (Or.inl ⟨by rfl, ?_⟩) (by assumption) ?_
  rotate_left
  · (intro V hSV; (try dsimp only at hSV); (try obtain ⟨s0', s1', s2', s3'⟩ := hSV); go_simp; (try rw [if_neg (by omega)]); (try with_reducible rfl))
  try simp only [List.getElem_toArray, List.getElem_cons_succ, List.getElem_cons_zero, Act.put, List.setIfInBounds_toArray, List.set_cons_zero, List.set_cons_succ]
  refine wpAnyH_take (i := 24) (oi := _) (v := ?_) (List.getElem?_toArray.trans (by simp only [List.getElem?_cons_succ, List.getElem?_cons_zero]; exact rfl)) (by kernel_rfl) (by kernel_rfl) (by kernel_rfl) (fun _ _ _ h => h) (Or.inl ⟨by rfl, ?_⟩) (by assumption) ?_
  rotate_left
  · (intro V hSV; (try dsimp only at hSV); (try obtain ⟨s0', s1', s2', s3'⟩ := hSV); go_simp; (try rw [if_neg (by omega)]); (try with_reducible rfl))
  try simp only [List.getElem_toArray, List.getElem_cons_succ, List.getElem_cons_zero, Act.put, List.setIfInBounds_toArray, List.set_cons_zero, List.set_cons_succ]
  refine wpAnyH_take (i := 26) (oi := _) (v := ?_) (List.getElem?_toArray.trans (by simp only [List.getElem?_cons_succ, List.getElem?_cons_zero]; exact rfl)) (by kernel_rfl) (by kernel_rfl) (by kernel_rfl) (fun _ _ _ h => h) (Or.inl ⟨by rfl, ?_⟩) (by assumption) ?_
  rotate_left
  · (intro V hSV; (try dsimp only at hSV); (try obtain ⟨s0', s1', s2', s3'⟩ := hSV); go_simp; (try rw [if_neg (by omega)]); (try with_reducible rfl))
  try simp only [List.getElem_toArray, List.getElem_cons_succ, List.getElem_cons_zero, Act.put, List.setIfInBounds_toArray, List.set_cons_zero, List.set_cons_succ]
  refine wpAnyH_take (i := 27) (oi := _) (v := ?_) (List.getElem?_toArray.trans (by simp only [List.getElem?_cons_succ, List.getElem?_cons_zero]; exact rfl)) (by kernel_rfl) (by kernel_rfl) (by kernel_rfl) (fun _ _ _ h => h) (Or.inl ⟨by rfl, ?_⟩) (by assumption) ?_
  rotate_left
  · (intro V hSV; (try dsimp only at hSV); (try obtain ⟨s0', s1', s2', s3'⟩ := hSV); go_simp; (try rw [if_neg (by omega)]); (try with_reducible rfl))
  try simp only [List.getElem_toArray, List.getElem_cons_succ, List.getElem_cons_zero, Act.put, List.setIfInBounds_toArray, List.set_cons_zero, List.set_cons_succ]
  refine wpAnyH_take (i := 28) (oi := _) (v := ?_) (List.getElem?_toArray.trans (by simp only [List.getElem?_cons_succ, List.getElem?_cons_zero]; exact rfl)) (by kernel_rfl) (by kernel_rfl) (by kernel_rfl) (fun _ _ _ h => h) (Or.inl ⟨by rfl, ?_⟩) (by assumption) ?_
  rotate_left
  · (intro V hSV; (try dsimp only at hSV); (try obtain ⟨s0', s1', s2', s3'⟩ := hSV); go_simp; (try rw [if_neg (by omega)]); (try with_reducible rfl))
  try simp only [List.getElem_toArray, List.getElem_cons_succ, List.getElem_cons_zero, Act.put, List.setIfInBounds_toArray, List.set_cons_zero, List.set_cons_succ]
  refine wpAnyH_ready (rs := [25]) (by kernel_rfl) (by simp) ?_
  refine AllReadyH.cons rfl (fun K hK => ?_) AllReadyH.nil
  go_simp
  refine (TX.out _).mono ?_
  rintro e w9 ⟨rfl, hb9⟩
  refine hK.out _ _ (four_keep hS hb9) (fun hS => ?_)
  clear hK K
  have B9 := Lib.hid (B8.out.trans (hb9.mono B8.out.size))
  clear hb9
  refine wpAnyH_ready (rs := [29]) (by kernel_rfl) (by simp) ?_
  refine AllReadyH.cons rfl (fun K hK => ?_) AllReadyH.nil
  go_simp
  refine (ST.out _).mono ?_
  rintro e w10 ⟨rfl, hb10⟩
  refine hK.out _ _ (four_keep hS hb10) (fun hS => ?_)
  clear hK K
  have B10 := Lib.hid (B9.out.trans (hb10.mono B9.out.size))
  clear hb10
  refine wpAnyH_take (i := 30) (oi := _) (v := ?_) (List.getElem?_toArray.trans (by simp only [List.getElem?_cons_succ, List.getElem?_cons_zero]; exact rfl)) (by kernel_rfl) (by kernel_rfl) (by kernel_rfl) (fun _ _ _ h => h) (Or.inl ⟨by rfl, ?_⟩) (by assumption) ?_
  rotate_left
  · (intro V hSV; (try dsimp only at hSV); (try obtain ⟨s0', s1', s2', s3'⟩ := hSV); go_simp; (try rw [if_neg (by omega)]); (try with_reducible rfl))
  try simp only [List.getElem_toArray, List.getElem_cons_succ, List.getElem_cons_zero, Act.put, List.setIfInBounds_toArray, List.set_cons_zero, List.set_cons_succ]
  refine wpAnyH_take (i := 31) (oi := _) (v := ?_) (List.getElem?_toArray.trans (by simp only [List.getElem?_cons_succ, List.getElem?_cons_zero]; exact rfl)) (by kernel_rfl) (by kernel_rfl) (by kernel_rfl) (fun _ _ _ h => h) (Or.inl ⟨by rfl, ?_⟩) (by assumption) ?_
  rotate_left
  · (intro V hSV; (try dsimp only at hSV); (try obtain ⟨s0', s1', s2', s3'⟩ := hSV); go_simp; (try rw [if_neg (by omega)]); (try with_reducible rfl))
  try simp only [List.getElem_toArray, List.getElem_cons_succ, List.getElem_cons_zero, Act.put, List.setIfInBounds_toArray, List.set_cons_zero, List.set_cons_succ]
  refine wpAnyH_take (i := 32) (oi := _) (v := ?_) (List.getElem?_toArray.trans (by simp only [List.getElem?_cons_succ, List.getElem?_cons_zero]; exact rfl)) (by kernel_rfl) (by kernel_rfl) (by kernel_rfl) (fun _ _ _ h => h) (Or.inl ⟨by rfl, ?_⟩) (by assumption) ?_
  rotate_left
  · (intro V hSV; (try dsimp only at hSV); (try obtain ⟨s0', s1', s2', s3'⟩ := hSV); go_simp; (try rw [if_neg (by omega)]); (try with_reducible rfl))
  try simp only [List.getElem_toArray, List.getElem_cons_succ, List.getElem_cons_zero, Act.put, List.setIfInBounds_toArray, List.set_cons_zero, List.set_cons_succ]
  refine wpAnyH_take (i := 33) (oi := _) (v := ?_) (List.getElem?_toArray.trans (by simp only [List.getElem?_cons_succ, List.getElem?_cons_zero]; exact rfl)) (by kernel_rfl) (by kernel_rfl) (by kernel_rfl) (fun _ _ _ h => h) (Or.inl ⟨by rfl, ?_⟩) (by assumption) ?_
  rotate_left
  · (intro V hSV; (try dsimp only at hSV); (try obtain ⟨s0', s1', s2', s3'⟩ := hSV); go_simp; (try rw [if_neg (by omega)]); (try with_reducible rfl))
  try simp only [List.getElem_toArray, List.getElem_cons_succ, List.getElem_cons_zero, Act.put, List.setIfInBounds_toArray, List.set_cons_zero, List.set_cons_succ]
  refine wpAnyH_take (i := 34) (oi := _) (v := ?_) (List.getElem?_toArray.trans (by simp only [List.getElem?_cons_succ, List.getElem?_cons_zero]; exact rfl)) (by kernel_rfl) (by kernel_rfl) (by kernel_rfl) (fun _ _ _ h => h) (Or.inl ⟨by rfl, ?_⟩) (by assumption) ?_
  rotate_left
  · (intro V hSV; (try dsimp only at hSV); (try obtain ⟨s0', s1', s2', s3'⟩ := hSV); go_simp; (try rw [if_neg (by omega)]); (try with_reducible rfl))
  try simp only [List.getElem_toArray, List.getElem_cons_succ, List.getElem_cons_zero, Act.put, List.setIfInBounds_toArray, List.set_cons_zero, List.set_cons_succ]
  refine wpAnyH_take (i := 37) (oi := _) (v := ?_) (List.getElem?_toArray.trans (by simp only [List.getElem?_cons_succ, List.getElem?_cons_zero]; exact rfl)) (by kernel_rfl) (by kernel_rfl) (by kernel_rfl) (fun _ _ _ h => h) (Or.inl ⟨by rfl, ?_⟩) (by assumption) ?_
  rotate_left
  · (intro V hSV; (try dsimp only at hSV); (try obtain ⟨s0', s1', s2', s3'⟩ := hSV); go_simp; (try rw [if_neg (by omega)]); (try with_reducible rfl))
  try simp only [List.getElem_toArray, List.getElem_cons_succ, List.getElem_cons_zero, Act.put, List.setIfInBounds_toArray, List.set_cons_zero, List.set_cons_succ]
  refine wpAnyH_take (i := 38) (oi := _) (v := ?_) (List.getElem?_toArray.trans (by simp only [List.getElem?_cons_succ, List.getElem?_cons_zero]; exact rfl)) (by kernel_rfl) (by kernel_rfl) (by kernel_rfl) (fun _ _ _ h => h) (Or.inl ⟨by rfl, ?_⟩) (by assumption) ?_
  rotate_left
  · (intro V hSV; (try dsimp only at hSV); (try obtain ⟨s0', s1', s2', s3'⟩ := hSV); go_simp; (try rw [if_neg (by omega)]); (try with_reducible rfl))
  try simp only [List.getElem_toArray, List.getElem_cons_succ, List.getElem_cons_zero, Act.put, List.setIfInBounds_toArray, List.set_cons_zero, List.set_cons_succ]
  refine wpAnyH_take (i := 39) (oi := _) (v := ?_) (List.getElem?_toArray.trans (by simp only [List.getElem?_cons_succ, List.getElem?_cons_zero]; exact rfl)) (by kernel_rfl) (by kernel_rfl) (by kernel_rfl) (fun _ _ _ h => h) (Or.inl ⟨by rfl, ?_⟩) (by assumption) ?_
  rotate_left
  · (intro V hSV; (try dsimp only at hSV); (try obtain ⟨s0', s1', s2', s3'⟩ := hSV); go_simp; (try rw [if_neg (by omega)]); (try with_reducible rfl))
  try simp only [List.getElem_toArray, List.getElem_cons_succ, List.getElem_cons_zero, Act.put, List.setIfInBounds_toArray, List.set_cons_zero, List.set_cons_succ]
  refine wpAnyH_ready (rs := [35, 40]) (by kernel_rfl) (by simp) ?_
  refine AllReadyH.cons rfl (fun K hK => ?_) (AllReadyH.cons rfl (fun K hK => ?_) AllReadyH.nil)
  · go_simp
    refine hK.out _ _ (four_keep (V := w10) hS ((Below.refl _ _).alloc (Nat.le_refl _) _)) (fun hS => ?_)
    clear hK K
    have F35 := Lib.hid (PF.out w10 B10.out)
    have B11 := Lib.hid (B10.out.alloc B10.out.size (.cells #[.int .i64 k0, .int .i64 f0, .string s0, .slice x0 n0 y0, .int .i64 k0, .int .i64 f0, .string s0, .slice x0 n0 y0] 24))
    refine wpAnyH_ready (rs := [36, 40]) (by kernel_rfl) (by simp) ?_
    refine AllReadyH.cons rfl (fun K hK => ?_) (AllReadyH.cons rfl (fun K hK => ?_) AllReadyH.nil)
    · go_simp
      refine (CT.out _ _ F35.out).mono ?_
      rintro e w12 ⟨v12, rfl, hv12, hb12⟩
      refine hK.out _ _ (four_keep hS hb12) (fun hS => ?_)
      clear hK K
      have B12 := Lib.hid (B11.out.trans (hb12.mono B11.out.size))
      clear hb12
      refine wpAnyH_ready (rs := [40]) (by kernel_rfl) (by simp) ?_
      refine AllReadyH.cons rfl (fun K hK => ?_) AllReadyH.nil
      go_simp
      refine hK.out _ _ (four_keep (V := w12) hS ((Below.refl _ _).alloc (Nat.le_refl _) _)) (fun hS => ?_)
      clear hK K
      have F40 := Lib.hid (PF.out w12 B12.out)
      have HV := Lib.hid (hv12.keep ((Below.refl w12.heap.size w12).alloc (Nat.le_refl _) (.cells #[.int .i64 k0, .int .i64 f0, .string s0, .slice x0 n0 y0, .int .i64 k0, .int .i64 f0, .string s0, .slice x0 n0 y0] 24)))
      have B13 := Lib.hid (B12.out.alloc B12.out.size (.cells #[.int .i64 k0, .int .i64 f0, .string s0, .slice x0 n0 y0, .int .i64 k0, .int .i64 f0, .string s0, .slice x0 n0 y0] 24))
      refine wpAnyH_take (i := 41) (oi := _) (v := ?_) (List.getElem?_toArray.trans (by simp only [List.getElem?_cons_succ, List.getElem?_cons_zero]; exact rfl)) (by kernel_rfl) (by kernel_rfl) (by kernel_rfl) (fun _ _ _ h => h) (Or.inl ⟨by rfl, ?_⟩) (by assumption) ?_
      rotate_left
      · (intro V hSV; (try dsimp only at hSV); (try obtain ⟨s0', s1', s2', s3'⟩ := hSV); go_simp; (try rw [if_neg (by omega)]); (try with_reducible rfl))
      try simp only [List.getElem_toArray, List.getElem_cons_succ, List.getElem_cons_zero, Act.put, List.setIfInBounds_toArray, List.set_cons_zero, List.set_cons_succ]
      refine wpAnyH_ready (rs := [42]) (by kernel_rfl) (by simp) ?_
      refine AllReadyH.cons rfl (fun K hK => ?_) AllReadyH.nil
      go_simp
      refine (SC.out _ _ _ HV.out F40.out).mono ?_
      rintro e w14 ⟨rfl, hb14⟩
      refine hK.out _ _ (four_keep hS hb14) (fun hS => ?_)
      clear hK K
      have B14 := Lib.hid (B13.out.trans (hb14.mono B13.out.size))
      clear hb14
      refine wpAnyH_take (i := 43) (oi := _) (v := ?_) (List.getElem?_toArray.trans (by simp only [List.getElem?_cons_succ, List.getElem?_cons_zero]; exact rfl)) (by kernel_rfl) (by kernel_rfl) (by kernel_rfl) (fun _ _ _ h => h) (Or.inl ⟨by rfl, ?_⟩) (by assumption) ?_
      rotate_left
      · (intro V hSV; (try dsimp only at hSV); (try obtain ⟨s0', s1', s2', s3'⟩ := hSV); go_simp; (try rw [if_neg (by omega)]); (try with_reducible rfl))
      try simp only [List.getElem_toArray, List.getElem_cons_succ, List.getElem_cons_zero, Act.put, List.setIfInBounds_toArray, List.set_cons_zero, List.set_cons_succ]
      refine wpAnyH_take (i := 44) (oi := _) (v := ?_) (List.getElem?_toArray.trans (by simp only [List.getElem?_cons_succ, List.getElem?_cons_zero]; exact rfl)) (by kernel_rfl) (by kernel_rfl) (by kernel_rfl) (fun _ _ _ h => h) (Or.inl ⟨by rfl, ?_⟩) (by assumption) ?_
      rotate_left
      · (intro V hSV; (try dsimp only at hSV); (try obtain ⟨s0', s1', s2', s3'⟩ := hSV); go_simp; (try rw [if_neg (by omega)]); (try with_reducible rfl))
      try simp only [List.getElem_toArray, List.getElem_cons_succ, List.getElem_cons_zero, Act.put, List.setIfInBounds_toArray, List.set_cons_zero, List.set_cons_succ]
      refine wpAnyH_done (by kernel_rfl) ?_ _
      refine NoPanic.normal ?_
      go_wp2
      go_ret
      exact ⟨rfl, B14.out⟩
    · go_simp
      refine hK.out _ _ (four_keep (V := w10.alloc (.cells #[.int .i64 k0, .int .i64 f0, .string s0, .slice x0 n0 y0, .int .i64 k0, .int .i64 f0, .string s0, .slice x0 n0 y0] 24)) hS ((Below.refl _ _).alloc (Nat.le_refl _) _)) (fun hS => ?_)
      clear hK K
      have F40 := Lib.hid (PF.out _ B11.out)
      rw [show (w10.alloc (.cells #[.int .i64 k0, .int .i64 f0, .string s0, .slice x0 n0 y0, .int .i64 k0, .int .i64 f0, .string s0, .slice x0 n0 y0] 24)).heap.size = w10.heap.size + 1 by simp] at F40
      have F35' := Lib.hid (F35.out.keep ((Below.refl _ _).alloc (Nat.le_refl _) (.cells #[.int .i64 k0, .int .i64 f0, .string s0, .slice x0 n0 y0, .int .i64 k0, .int .i64 f0, .string s0, .slice x0 n0 y0] 24)))
      have B12 := Lib.hid (B11.out.alloc B11.out.size (.cells #[.int .i64 k0, .int .i64 f0, .string s0, .slice x0 n0 y0, .int .i64 k0, .int .i64 f0, .string s0, .slice x0 n0 y0] 24))
      refine wpAnyH_take (i := 41) (oi := _) (v := ?_) (List.getElem?_toArray.trans (by simp only [List.getElem?_cons_succ, List.getElem?_cons_zero]; exact rfl)) (by kernel_rfl) (by kernel_rfl) (by kernel_rfl) (fun _ _ _ h => h) (Or.inl ⟨by rfl, ?_⟩) (by assumption) ?_
      rotate_left
      · (intro V hSV; (try dsimp only at hSV); (try obtain ⟨s0', s1', s2', s3'⟩ := hSV); go_simp; (try rw [if_neg (by omega)]); (try with_reducible rfl))
      try simp only [List.getElem_toArray, List.getElem_cons_succ, List.getElem_cons_zero, Act.put, List.setIfInBounds_toArray, List.set_cons_zero, List.set_cons_succ]
      refine wpAnyH_ready (rs := [36]) (by kernel_rfl) (by simp) ?_
      refine AllReadyH.cons rfl (fun K hK => ?_) AllReadyH.nil
      go_simp
      refine (CT.out _ _ F35'.out).mono ?_
      rintro e w13 ⟨v13, rfl, hv13, hb13⟩
      refine hK.out _ _ (four_keep hS hb13) (fun hS => ?_)
      clear hK K
      have HV := Lib.hid (F40.out.keep hb13)
      have B13 := Lib.hid (B12.out.trans (hb13.mono B12.out.size))
      clear hb13
      refine wpAnyH_ready (rs := [42]) (by kernel_rfl) (by simp) ?_
      refine AllReadyH.cons rfl (fun K hK => ?_) AllReadyH.nil
      go_simp
      refine (SC.out _ _ _ hv13 HV.out).mono ?_
      rintro e w14 ⟨rfl, hb14⟩
      refine hK.out _ _ (four_keep hS hb14) (fun hS => ?_)
      clear hK K
      have B14 := Lib.hid (B13.out.trans (hb14.mono B13.out.size))
      clear hb14
      refine wpAnyH_take (i := 43) (oi := _) (v := ?_) (List.getElem?_toArray.trans (by simp only [List.getElem?_cons_succ, List.getElem?_cons_zero]; exact rfl)) (by kernel_rfl) (by kernel_rfl) (by kernel_rfl) (fun _ _ _ h => h) (Or.inl ⟨by rfl, ?_⟩) (by assumption) ?_
      rotate_left
      · (intro V hSV; (try dsimp only at hSV); (try obtain ⟨s0', s1', s2', s3'⟩ := hSV); go_simp; (try rw [if_neg (by omega)]); (try with_reducible rfl))
      try simp only [List.getElem_toArray, List.getElem_cons_succ, List.getElem_cons_zero, Act.put, List.setIfInBounds_toArray, List.set_cons_zero, List.set_cons_succ]
      refine wpAnyH_take (i := 44) (oi := _) (v := ?_) (List.getElem?_toArray.trans (by simp only [List.getElem?_cons_succ, List.getElem?_cons_zero]; exact rfl)) (by kernel_rfl) (by kernel_rfl) (by kernel_rfl) (fun _ _ _ h => h) (Or.inl ⟨by rfl, ?_⟩) (by assumption) ?_
      rotate_left
      · (intro V hSV; (try dsimp only at hSV); (try obtain ⟨s0', s1', s2', s3'⟩ := hSV); go_simp; (try rw [if_neg (by omega)]); (try with_reducible rfl))
      try simp only [List.getElem_toArray, List.getElem_cons_succ, List.getElem_cons_zero, Act.put, List.setIfInBounds_toArray, List.set_cons_zero, List.set_cons_succ]
      refine wpAnyH_done (by kernel_rfl) ?_ _
      refine NoPanic.normal ?_
      go_wp2
      go_ret
      exact ⟨rfl, B14.out⟩
  · go_simp
    refine hK.out _ _ (four_keep (V := w10) hS ((Below.refl _ _).alloc (Nat.le_refl _) _)) (fun hS => ?_)
    clear hK K
    have F40 := Lib.hid (PF.out w10 B10.out)
    have B11 := Lib.hid (B10.out.alloc B10.out.size (.cells #[.int .i64 k0, .int .i64 f0, .string s0, .slice x0 n0 y0, .int .i64 k0, .int .i64 f0, .string s0, .slice x0 n0 y0] 24))
    refine wpAnyH_take (i := 41) (oi := _) (v := ?_) (List.getElem?_toArray.trans (by simp only [List.getElem?_cons_succ, List.getElem?_cons_zero]; exact rfl)) (by kernel_rfl) (by kernel_rfl) (by kernel_rfl) (fun _ _ _ h => h) (Or.inl ⟨by rfl, ?_⟩) (by assumption) ?_
    rotate_left
    · (intro V hSV; (try dsimp only at hSV); (try obtain ⟨s0', s1', s2', s3'⟩ := hSV); go_simp; (try rw [if_neg (by omega)]); (try with_reducible rfl))
    try simp only [List.getElem_toArray, List.getElem_cons_succ, List.getElem_cons_zero, Act.put, List.setIfInBounds_toArray, List.set_cons_zero, List.set_cons_succ]
    refine wpAnyH_ready (rs := [35]) (by kernel_rfl) (by simp) ?_
    refine AllReadyH.cons rfl (fun K hK => ?_) AllReadyH.nil
    go_simp
    refine hK.out _ _ (four_keep (V := w10.alloc (.cells #[.int .i64 k0, .int .i64 f0, .string s0, .slice x0 n0 y0, .int .i64 k0, .int .i64 f0, .string s0, .slice x0 n0 y0] 24)) hS ((Below.refl _ _).alloc (Nat.le_refl _) _)) (fun hS => ?_)
    clear hK K
    have F35 := Lib.hid (PF.out _ B11.out)
    rw [show (w10.alloc (.cells #[.int .i64 k0, .int .i64 f0, .string s0, .slice x0 n0 y0, .int .i64 k0, .int .i64 f0, .string s0, .slice x0 n0 y0] 24)).heap.size = w10.heap.size + 1 by simp] at F35
    have F40' := Lib.hid (F40.out.keep ((Below.refl _ _).alloc (Nat.le_refl _) (.cells #[.int .i64 k0, .int .i64 f0, .string s0, .slice x0 n0 y0, .int .i64 k0, .int .i64 f0, .string s0, .slice x0 n0 y0] 24)))
    have B12 := Lib.hid (B11.out.alloc B11.out.size (.cells #[.int .i64 k0, .int .i64 f0, .string s0, .slice x0 n0 y0, .int .i64 k0, .int .i64 f0, .string s0, .slice x0 n0 y0] 24))
    refine wpAnyH_ready (rs := [36]) (by kernel_rfl) (by simp) ?_
    refine AllReadyH.cons rfl (fun K hK => ?_) AllReadyH.nil
    go_simp
    refine (CT.out _ _ F35.out).mono ?_
    rintro e w13 ⟨v13, rfl, hv13, hb13⟩
    refine hK.out _ _ (four_keep hS hb13) (fun hS => ?_)
    clear hK K
    have HV := Lib.hid (F40'.out.keep hb13)
    have B13 := Lib.hid (B12.out.trans (hb13.mono B12.out.size))
    clear hb13
    refine wpAnyH_ready (rs := [42]) (by kernel_rfl) (by simp) ?_
    refine AllReadyH.cons rfl (fun K hK => ?_) AllReadyH.nil
    go_simp
    refine (SC.out _ _ _ hv13 HV.out).mono ?_
    rintro e w14 ⟨rfl, hb14⟩
    refine hK.out _ _ (four_keep hS hb14) (fun hS => ?_)
    clear hK K
    have B14 := Lib.hid (B13.out.trans (hb14.mono B13.out.size))
    clear hb14
    refine wpAnyH_take (i := 43) (oi := _) (v := ?_) (List.getElem?_toArray.trans (by simp only [List.getElem?_cons_succ, List.getElem?_cons_zero]; exact rfl)) (by kernel_rfl) (by kernel_rfl) (by kernel_rfl) (fun _ _ _ h => h) (Or.inl ⟨by rfl, ?_⟩) (by assumption) ?_
    rotate_left
    · (intro V hSV; (try dsimp only at hSV); (try obtain ⟨s0', s1', s2', s3'⟩ := hSV); go_simp; (try rw [if_neg (by omega)]); (try with_reducible rfl))
    try simp only [List.getElem_toArray, List.getElem_cons_succ, List.getElem_cons_zero, Act.put, List.setIfInBounds_toArray, List.set_cons_zero, List.set_cons_succ]
    refine wpAnyH_take (i := 44) (oi := _) (v := ?_) (List.getElem?_toArray.trans (by simp only [List.getElem?_cons_succ, List.getElem?_cons_zero]; exact rfl)) (by kernel_rfl) (by kernel_rfl) (by kernel_rfl) (fun _ _ _ h => h) (Or.inl ⟨by rfl, ?_⟩) (by assumption) ?_
    rotate_left
    · (intro V hSV; (try dsimp only at hSV); (try obtain ⟨s0', s1', s2', s3'⟩ := hSV); go_simp; (try rw [if_neg (by omega)]); (try with_reducible rfl))
    try simp only [List.getElem_toArray, List.getElem_cons_succ, List.getElem_cons_zero, Act.put, List.setIfInBounds_toArray, List.set_cons_zero, List.set_cons_succ]
    refine wpAnyH_done (by kernel_rfl) ?_ _
    refine NoPanic.normal ?_
    go_wp2
    go_ret
    exact ⟨rfl, B14.out⟩
end Go.Proofs.Ytghkhammobodgaa
