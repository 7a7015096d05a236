/- Documents of any shape: chapter 10's own same, of a document and itself; the page's Wide. -/
import Derived.Test.YtghkhammobodgaaTCatM
import Derived.Test.YtghkhammobodgaaTRef2
import Derived.Deep.DeepCutAuto
import Derived.Deep.QuietTactic
import Derived.BigQuiet
import Derived.OrdersHeld
import Derived.Deep.RegionHeld3
namespace Go.Proofs.Ytghkhammobodgaa
open Go.RowKit
set_option linter.unusedVariables false
set_option linter.unusedSimpArgs false

def SM (k f : Int) (s : ByteArray) (K : Fo) : Prop :=
  ∀ (w : World) (v1 v2 : Value), FoS w v1 K → FoS w v2 K → Calls Try.prog 20 #[.agg (dv k f s v1), .agg (dv k f s v2)] w fun e w' => e = .returned (.bool true) ∧ Below w.heap.size w w'
theorem ten_keep {w w' : World} {B b1 b2 b3 b4 : Nat} {o3 o4 : Nat} {u1 u2 c0 c1 c2 c3 e0 e1 e2 e3 : Value} (hb : Below B w w') (h1 : b1 < B) (h2 : b2 < B) (h3 : b3 < B) (h4 : b4 < B)
    (h : w.cell? ⟨b1, 3, none⟩ = some u1 ∧ w.cell? ⟨b2, 3, none⟩ = some u2 ∧ w.cell? ⟨b3, o3, none⟩ = some c0 ∧ w.cell? ⟨b3, o3 + 1, none⟩ = some c1 ∧ w.cell? ⟨b3, o3 + 2, none⟩ = some c2 ∧ w.cell? ⟨b3, o3 + 3, none⟩ = some c3 ∧ w.cell? ⟨b4, o4, none⟩ = some e0 ∧ w.cell? ⟨b4, o4 + 1, none⟩ = some e1 ∧ w.cell? ⟨b4, o4 + 2, none⟩ = some e2 ∧ w.cell? ⟨b4, o4 + 3, none⟩ = some e3) :
    w'.cell? ⟨b1, 3, none⟩ = some u1 ∧ w'.cell? ⟨b2, 3, none⟩ = some u2 ∧ w'.cell? ⟨b3, o3, none⟩ = some c0 ∧ w'.cell? ⟨b3, o3 + 1, none⟩ = some c1 ∧ w'.cell? ⟨b3, o3 + 2, none⟩ = some c2 ∧ w'.cell? ⟨b3, o3 + 3, none⟩ = some c3 ∧ w'.cell? ⟨b4, o4, none⟩ = some e0 ∧ w'.cell? ⟨b4, o4 + 1, none⟩ = some e1 ∧ w'.cell? ⟨b4, o4 + 2, none⟩ = some e2 ∧ w'.cell? ⟨b4, o4 + 3, none⟩ = some e3 := by
  obtain ⟨a1, a2, a3, a4, a5, a6, a7, a8, a9, a10⟩ := h
  exact ⟨(hb.cell (p := ⟨b1, 3, none⟩) h1).trans a1, (hb.cell (p := ⟨b2, 3, none⟩) h2).trans a2, (hb.cell (p := ⟨b3, o3, none⟩) h3).trans a3, (hb.cell (p := ⟨b3, o3 + 1, none⟩) h3).trans a4, (hb.cell (p := ⟨b3, o3 + 2, none⟩) h3).trans a5, (hb.cell (p := ⟨b3, o3 + 3, none⟩) h3).trans a6, (hb.cell (p := ⟨b4, o4, none⟩) h4).trans a7, (hb.cell (p := ⟨b4, o4 + 1, none⟩) h4).trans a8, (hb.cell (p := ⟨b4, o4 + 2, none⟩) h4).trans a9, (hb.cell (p := ⟨b4, o4 + 3, none⟩) h4).trans a10⟩
set_option maxRecDepth 100000 in
set_option maxHeartbeats 8000000 in
theorem sm_one (k f : Int) (S : ByteArray) (L : Fo) (SM0 : ∀ j k f s kids, L.at? j = some (k, f, s, kids) → SM k f s kids) : SM k f S L := by
  intro w v1 v2 hv1 hv2
  obtain ⟨a, cap, rfl, h1, h2, h3, h4⟩ := hv1
  obtain ⟨a', cap', rfl, h1', h2', h3', h4'⟩ := hv2
  obtain ⟨n, hn⟩ : ∃ n, L.len = n := ⟨_, rfl⟩
  have hll : n ≤ maxLen := by rw [← hn]; exact Nat.le_trans h1 h2
  have HR := Lib.hid SM0
  have HN := Lib.hid hn
  have HS := Lib.hid (fun j hj => Fo.at_some L j hj)
  rw [hn] at h4 h4'
  have H4 := Lib.hid h4
  have H4' := Lib.hid h4'
  unfold maxLen at hll
  rw [hn]
  have b0 := Lib.hid (((Below.refl w.heap.size w).alloc (Nat.le_refl _) (.cells #[.int .i64 k, .int .i64 f, .string S, .slice a n cap] 24)).alloc (by simp) (.cells #[.int .i64 k, .int .i64 f, .string S, .slice a' n cap'] 24))
  have dA := Lib.hid (DB.keep (DB.new w #[.int .i64 k, .int .i64 f, .string S, .slice a n cap]) ((Below.refl _ _).alloc (Nat.le_refl _) (.cells #[.int .i64 k, .int .i64 f, .string S, .slice a' n cap'] 24)) (by simp : w.heap.size < (w.alloc (.cells #[.int .i64 k, .int .i64 f, .string S, .slice a n cap] 24)).heap.size))
  have dB := Lib.hid (DB.new (w.alloc (.cells #[.int .i64 k, .int .i64 f, .string S, .slice a n cap] 24)) #[.int .i64 k, .int .i64 f, .string S, .slice a' n cap'])
  obtain ⟨W1, hW1⟩ : ∃ W, (w.alloc (.cells #[.int .i64 k, .int .i64 f, .string S, .slice a n cap] 24)).alloc (.cells #[.int .i64 k, .int .i64 f, .string S, .slice a' n cap'] 24) = W := ⟨_, rfl⟩
  have hz : (w.alloc (.cells #[.int .i64 k, .int .i64 f, .string S, .slice a n cap] 24)).heap.size = w.heap.size + 1 := by simp
  have z1 := Lib.hid (show W1.heap.size = w.heap.size + 2 by rw [← hW1]; simp)
  rw [hz] at dB
  rw [hW1] at b0 dA dB
  have HW1 := Lib.hid hW1
  have t5 : (S.toList == S.toList) = true := by simp
  obtain ⟨g0, g1, g2, g3⟩ := And.intro (dA.out.cell 0) (And.intro (dA.out.cell 1) (And.intro (dA.out.cell 2) (dA.out.cell 3)))
  obtain ⟨g4, g5, g6, g7⟩ := And.intro (dB.out.cell 0) (And.intro (dB.out.cell 1) (And.intro (dB.out.cell 2) (dB.out.cell 3)))
  have g0 : W1.cell? ⟨w.heap.size, 0, none⟩ = some (.int .i64 k) := g0
  have g1 : W1.cell? ⟨w.heap.size, 1, none⟩ = some (.int .i64 f) := g1
  have g2 : W1.cell? ⟨w.heap.size, 2, none⟩ = some (.string S) := g2
  have g3 : W1.cell? ⟨w.heap.size, 3, none⟩ = some (.slice a n cap) := g3
  have g4 : W1.cell? ⟨w.heap.size + 1, 0, none⟩ = some (.int .i64 k) := g4
  have g5 : W1.cell? ⟨w.heap.size + 1, 1, none⟩ = some (.int .i64 f) := g5
  have g6 : W1.cell? ⟨w.heap.size + 1, 2, none⟩ = some (.string S) := g6
  have g7 : W1.cell? ⟨w.heap.size + 1, 3, none⟩ = some (.slice a' n cap') := g7
  have G3 := Lib.hid g3
  have G7 := Lib.hid g7
  clear hn SM0 h1 h2 h3 h4 h1' h2' h3' h4' hW1 hz
  unfold dv
  go_enter Try.func20, Try.ntmps20
  go_upto_region 1 with fail
  rw [HW1.out]
  go_wp2
  go_loopw [5] (fun iv wr => ∃ j : Nat, iv = .int .i64 (j : Int) ∧ j ≤ n ∧ Below W1.heap.size W1 wr) (fun iv _ => n - (intOf iv).toNat)
  case atStart => exact ⟨0, rfl, by omega, Below.refl _ _⟩
  case round =>
    obtain ⟨j, rfl, hj, hb⟩ := hrel
    have HB := Lib.hid (b0.out.trans (hb.mono b0.out.size))
    have HBR := Lib.hid hb
    have q3 := (hb.cell (p := ⟨w.heap.size, 3, none⟩) (by have := z1.out; simp; omega)).trans G3.out
    have q7 := (hb.cell (p := ⟨w.heap.size + 1, 3, none⟩) (by have := z1.out; simp; omega)).trans G7.out
    clear hb
    clear g0 g1 g2 g3 g4 g5 g6 g7
    by_cases hlt : j < n
    · obtain ⟨x0, x1, X, kids, hat⟩ := HS.out j (by rw [HN.out]; exact hlt)
      obtain ⟨b, off, rfl, hbk, hfo⟩ := H4.out (by omega)
      obtain ⟨b', off', rfl, hbk', hfo'⟩ := H4'.out (by omega)
      obtain ⟨-, p0, p1, p2, u, p3, hu⟩ := foAt_get L b off j x0 x1 X kids hfo hat
      obtain ⟨-, p4, p5, p6, u', p7, hu'⟩ := foAt_get L b' off' j x0 x1 X kids hfo' hat
      have R1 := Lib.hid (HR.out j x0 x1 X kids hat wr.drew u u' (hu.keep HB.out.drew) (hu'.keep HB.out.drew))
      obtain ⟨ua, ucap, hus⟩ := hu.slice
      obtain ⟨ua', ucap', hus'⟩ := hu'.slice
      obtain ⟨un, hun⟩ : ∃ m, kids.len = m := ⟨_, rfl⟩
      rw [hun] at hus hus'
      subst hus
      subst hus'
      have r0 := (HB.out.cell (p := ⟨b, off + j * 4, none⟩) hbk).trans p0
      have r1 := (HB.out.cell (p := ⟨b, off + j * 4 + 1, none⟩) hbk).trans p1
      have r2 := (HB.out.cell (p := ⟨b, off + j * 4 + 2, none⟩) hbk).trans p2
      have r3 := (HB.out.cell (p := ⟨b, off + j * 4 + 3, none⟩) hbk).trans p3
      have r4 := (HB.out.cell (p := ⟨b', off' + j * 4, none⟩) hbk').trans p4
      have r5 := (HB.out.cell (p := ⟨b', off' + j * 4 + 1, none⟩) hbk').trans p5
      have r6 := (HB.out.cell (p := ⟨b', off' + j * 4 + 2, none⟩) hbk').trans p6
      have r7 := (HB.out.cell (p := ⟨b', off' + j * 4 + 3, none⟩) hbk').trans p7
      have j0 : (0 : Int) ≤ j := by omega
      have j1 : (j : Int) < n := by omega
      have y1 : w.heap.size < wr.heap.size := by have := z1.out; have := HBR.out.size; omega
      have y2 : w.heap.size + 1 < wr.heap.size := by have := z1.out; have := HBR.out.size; omega
      have y3 : b < wr.heap.size := by have := HB.out.size; omega
      have y4 : b' < wr.heap.size := by have := HB.out.size; omega
      unfold dv at R1
      clear p0 p1 p2 p3 p4 p5 p6 p7 hat hfo hfo' hu hu' hun
      go_upto_region 6 with (fail)
      refine wp_region_noPanic ?_
      refine wp_region_held_drew (S := fun V : World => V.cell? ⟨w.heap.size, 3, none⟩ = some (.slice (some ⟨b, off, none⟩) n cap) ∧ V.cell? ⟨w.heap.size + 1, 3, none⟩ = some (.slice (some ⟨b', off', none⟩) n cap') ∧ V.cell? ⟨b, off + j * 4, none⟩ = some (.int .i64 x0) ∧ V.cell? ⟨b, off + j * 4 + 1, none⟩ = some (.int .i64 x1) ∧ V.cell? ⟨b, off + j * 4 + 2, none⟩ = some (.string X) ∧ V.cell? ⟨b, off + j * 4 + 3, none⟩ = some (.slice ua un ucap) ∧ V.cell? ⟨b', off' + j * 4, none⟩ = some (.int .i64 x0) ∧ V.cell? ⟨b', off' + j * 4 + 1, none⟩ = some (.int .i64 x1) ∧ V.cell? ⟨b', off' + j * 4 + 2, none⟩ = some (.string X) ∧ V.cell? ⟨b', off' + j * 4 + 3, none⟩ = some (.slice ua' un ucap')) (by kernel_rfl) ⟨q3, q7, r0, r1, r2, r3, r4, r5, r6, r7⟩ (fun hS => ?_)
      refine wpAnyH_take (i := 0) (oi := _) (v := ?_) (List.getElem?_toArray.trans (by simp only [List.getElem?_cons_succ, List.getElem?_cons_zero]; exact rfl)) (by kernel_rfl) (by kernel_rfl) (by kernel_rfl) (fun _ _ _ h => h) (Or.inl ⟨by rfl, ?_⟩) (by assumption) ?_
      rotate_left
      · (intro V hSV; (try dsimp only at hSV); (try obtain ⟨s0, s1, s2, s3, s4, s5, s6, s7, s8, s9⟩ := hSV); go_simp; (try rw [if_neg (by omega)]); (try with_reducible rfl))
      try simp only [List.getElem_toArray, List.getElem_cons_succ, List.getElem_cons_zero, Act.put, List.setIfInBounds_toArray, List.set_cons_zero, List.set_cons_succ]
      refine wpAnyH_take (i := 1) (oi := _) (v := ?_) (List.getElem?_toArray.trans (by simp only [List.getElem?_cons_succ, List.getElem?_cons_zero]; exact rfl)) (by kernel_rfl) (by kernel_rfl) (by kernel_rfl) (fun _ _ _ h => h) (Or.inl ⟨by rfl, ?_⟩) (by assumption) ?_
      rotate_left
      · (intro V hSV; (try dsimp only at hSV); (try obtain ⟨s0, s1, s2, s3, s4, s5, s6, s7, s8, s9⟩ := hSV); go_simp; (try rw [if_neg (by omega)]); (try with_reducible rfl))
      try simp only [List.getElem_toArray, List.getElem_cons_succ, List.getElem_cons_zero, Act.put, List.setIfInBounds_toArray, List.set_cons_zero, List.set_cons_succ]
      refine wpAnyH_take (i := 2) (oi := _) (v := ?_) (List.getElem?_toArray.trans (by simp only [List.getElem?_cons_succ, List.getElem?_cons_zero]; exact rfl)) (by kernel_rfl) (by kernel_rfl) (by kernel_rfl) (fun _ _ _ h => h) (Or.inl ⟨by rfl, ?_⟩) (by assumption) ?_
      rotate_left
      · (intro V hSV; (try dsimp only at hSV); (try obtain ⟨s0, s1, s2, s3, s4, s5, s6, s7, s8, s9⟩ := hSV); go_simp; (try rw [if_neg (by omega)]); (try with_reducible rfl))
      try simp only [List.getElem_toArray, List.getElem_cons_succ, List.getElem_cons_zero, Act.put, List.setIfInBounds_toArray, List.set_cons_zero, List.set_cons_succ]
      refine wpAnyH_take (i := 3) (oi := _) (v := ?_) (List.getElem?_toArray.trans (by simp only [List.getElem?_cons_succ, List.getElem?_cons_zero]; exact rfl)) (by kernel_rfl) (by kernel_rfl) (by kernel_rfl) (fun _ _ _ h => h) (Or.inl ⟨by rfl, ?_⟩) (by assumption) ?_
      rotate_left
      · (intro V hSV; (try dsimp only at hSV); (try obtain ⟨s0, s1, s2, s3, s4, s5, s6, s7, s8, s9⟩ := hSV); go_simp; (try rw [if_neg (by omega)]); (try with_reducible rfl))
      try simp only [List.getElem_toArray, List.getElem_cons_succ, List.getElem_cons_zero, Act.put, List.setIfInBounds_toArray, List.set_cons_zero, List.set_cons_succ]
      refine wpAnyH_take (i := 4) (oi := _) (v := ?_) (List.getElem?_toArray.trans (by simp only [List.getElem?_cons_succ, List.getElem?_cons_zero]; exact rfl)) (by kernel_rfl) (by kernel_rfl) (by kernel_rfl) (fun _ _ _ h => h) (Or.inl ⟨by rfl, ?_⟩) (by assumption) ?_
      rotate_left
      · (intro V hSV; (try dsimp only at hSV); (try obtain ⟨s0, s1, s2, s3, s4, s5, s6, s7, s8, s9⟩ := hSV); go_simp; (try rw [if_neg (by omega)]); (try with_reducible rfl))
      try simp only [List.getElem_toArray, List.getElem_cons_succ, List.getElem_cons_zero, Act.put, List.setIfInBounds_toArray, List.set_cons_zero, List.set_cons_succ]
      refine wpAnyH_take (i := 5) (oi := _) (v := ?_) (List.getElem?_toArray.trans (by simp only [List.getElem?_cons_succ, List.getElem?_cons_zero]; exact rfl)) (by kernel_rfl) (by kernel_rfl) (by kernel_rfl) (fun _ _ _ h => h) (Or.inl ⟨by rfl, ?_⟩) (by assumption) ?_
      rotate_left
      · (intro V hSV; (try dsimp only at hSV); (try obtain ⟨s0, s1, s2, s3, s4, s5, s6, s7, s8, s9⟩ := hSV); go_simp; (try rw [if_neg (by omega)]); (try with_reducible rfl))
      try simp only [List.getElem_toArray, List.getElem_cons_succ, List.getElem_cons_zero, Act.put, List.setIfInBounds_toArray, List.set_cons_zero, List.set_cons_succ]
      refine wpAnyH_take (i := 6) (oi := _) (v := ?_) (List.getElem?_toArray.trans (by simp only [List.getElem?_cons_succ, List.getElem?_cons_zero]; exact rfl)) (by kernel_rfl) (by kernel_rfl) (by kernel_rfl) (fun _ _ _ h => h) (Or.inl ⟨by rfl, ?_⟩) (by assumption) ?_
      rotate_left
      · (intro V hSV; (try dsimp only at hSV); (try obtain ⟨s0, s1, s2, s3, s4, s5, s6, s7, s8, s9⟩ := hSV); go_simp; (try rw [if_neg (by omega)]); (try with_reducible rfl))
      try simp only [List.getElem_toArray, List.getElem_cons_succ, List.getElem_cons_zero, Act.put, List.setIfInBounds_toArray, List.set_cons_zero, List.set_cons_succ]
      refine wpAnyH_take (i := 7) (oi := _) (v := ?_) (List.getElem?_toArray.trans (by simp only [List.getElem?_cons_succ, List.getElem?_cons_zero]; exact rfl)) (by kernel_rfl) (by kernel_rfl) (by kernel_rfl) (fun _ _ _ h => h) (Or.inl ⟨by rfl, ?_⟩) (by assumption) ?_
      rotate_left
      · (intro V hSV; (try dsimp only at hSV); (try obtain ⟨s0, s1, s2, s3, s4, s5, s6, s7, s8, s9⟩ := hSV); go_simp; (try rw [if_neg (by omega)]); (try with_reducible rfl))
      try simp only [List.getElem_toArray, List.getElem_cons_succ, List.getElem_cons_zero, Act.put, List.setIfInBounds_toArray, List.set_cons_zero, List.set_cons_succ]
      refine wpAnyH_take (i := 8) (oi := _) (v := ?_) (List.getElem?_toArray.trans (by simp only [List.getElem?_cons_succ, List.getElem?_cons_zero]; exact rfl)) (by kernel_rfl) (by kernel_rfl) (by kernel_rfl) (fun _ _ _ h => h) (Or.inl ⟨by rfl, ?_⟩) (by assumption) ?_
      rotate_left
      · (intro V hSV; (try dsimp only at hSV); (try obtain ⟨s0, s1, s2, s3, s4, s5, s6, s7, s8, s9⟩ := hSV); go_simp; (try rw [if_neg (by omega)]); (try with_reducible rfl))
      try simp only [List.getElem_toArray, List.getElem_cons_succ, List.getElem_cons_zero, Act.put, List.setIfInBounds_toArray, List.set_cons_zero, List.set_cons_succ]
      refine wpAnyH_take (i := 9) (oi := _) (v := ?_) (List.getElem?_toArray.trans (by simp only [List.getElem?_cons_succ, List.getElem?_cons_zero]; exact rfl)) (by kernel_rfl) (by kernel_rfl) (by kernel_rfl) (fun _ _ _ h => h) (Or.inl ⟨by rfl, ?_⟩) (by assumption) ?_
      rotate_left
      · (intro V hSV; (try dsimp only at hSV); (try obtain ⟨s0, s1, s2, s3, s4, s5, s6, s7, s8, s9⟩ := hSV); go_simp; (try rw [if_neg (by omega)]); (try with_reducible rfl))
      try simp only [List.getElem_toArray, List.getElem_cons_succ, List.getElem_cons_zero, Act.put, List.setIfInBounds_toArray, List.set_cons_zero, List.set_cons_succ]
      refine wpAnyH_ready (rs := [10]) (by kernel_rfl) (by simp) ?_
      refine AllReadyH.cons rfl (fun K hK => ?_) AllReadyH.nil
      go_simp
      refine R1.out.mono ?_
      rintro e w5 ⟨rfl, hb5⟩
      refine hK.out _ _ (ten_keep hb5 y1 y2 y3 y4 hS) (fun hS => ?_)
      clear hK K
      refine wpAnyH_take (i := 11) (oi := _) (v := ?_) (List.getElem?_toArray.trans (by simp only [List.getElem?_cons_succ, List.getElem?_cons_zero]; exact rfl)) (by kernel_rfl) (by kernel_rfl) (by kernel_rfl) (fun _ _ _ h => h) (Or.inl ⟨by rfl, ?_⟩) (by assumption) ?_
      rotate_left
      · (intro V hSV; (try dsimp only at hSV); (try obtain ⟨s0, s1, s2, s3, s4, s5, s6, s7, s8, s9⟩ := hSV); go_simp; (try rw [if_neg (by omega)]); (try with_reducible rfl))
      try simp only [List.getElem_toArray, List.getElem_cons_succ, List.getElem_cons_zero, Act.put, List.setIfInBounds_toArray, List.set_cons_zero, List.set_cons_succ]
      refine wpAnyH_done (by kernel_rfl) ?_ _
      refine NoPanic.normal ?_
      have e5 := HBR.out.drew.trans (hb5.mono HBR.out.drew.size)
      clear hb5 hS
      go_wp2
      go_roundw
      case rel => exact ⟨j + 1, by go_num, by omega, e5⟩
      case measure => simp [intOf]; omega
    · obtain rfl : j = n := by omega
      have t1 : decide ((j : Int) < j) = false := by simp
      clear hlt
      as_aux_lemma =>
        go_wp2
        go_ret
        exact ⟨rfl, HB.out⟩
theorem sm_list (L : Fo) : ∀ j k f s kids, L.at? j = some (k, f, s, kids) → SM k f s kids := by
  induction L with
  | nil => intro j k f s kids h; simp [Fo.at?] at h
  | cons k0 f0 s0 kids0 rest ih1 ih2 =>
    intro j k f s kids h
    cases j with
    | zero =>
      simp only [Fo.at?, Option.some.injEq, Prod.mk.injEq] at h
      obtain ⟨rfl, rfl, rfl, rfl⟩ := h
      exact sm_one k0 f0 s0 kids0 ih1
    | succ j => exact ih2 j k f s kids h
/-- A document is the same as itself, wherever it lies. -/
theorem sm_any (k f : Int) (s : ByteArray) (kids : Fo) : SM k f s kids := sm_one k f s kids (sm_list kids)
end Go.Proofs.Ytghkhammobodgaa
