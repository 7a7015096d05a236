import Derived.Test.YtimjbjppmhdjnaaGreatDoorWTk
import Derived.Test.YtimjbjppmhdjnaaGreatDoorWRight3
set_option maxHeartbeats 4000000
set_option maxRecDepth 100000
namespace Go.Proofs.YtimjbjppmhdjnaaGreatDoor
open Go.RowKit
set_option linter.unusedVariables false
set_option linter.unusedSimpArgs false
theorem cright_any (g : GT) (r : Bool) (w : World) (hT : Tabs w) (hs : Small g.1) (hl : (M.spellT g.1).length <= 39000) (hr : rightG g = r) :
  Calls Tryz.prog 8 #[.agg (gtv g)] w fun e w' => e = .returned (.bool r) /\ Below w.heap.size w w' := by
 unfold rightG at hr
 by_cases h : (decide (0 <= g.2.2) && M.cleanS g.1.text && M.cleanS g.1.unit && decide (g = (M.onlyT g.1, z4, g.2.2))) = true
 ·rw [h, Bool.true_and] at hr
  rw [Bool.and_eq_true, Bool.and_eq_true, Bool.and_eq_true] at h
  exact right_good g r w hT hs hl hr (of_decide_eq_true h.1.1.1) h.1.1.2 h.1.2 (of_decide_eq_true h.2)
 ·have h2 := Bool.eq_false_iff.mpr h
  rw [h2] at hr
  obtain rfl : false = r := by rw [<- hr]; rfl
  exact right_bad g w hT hs h2
theorem readsG_T (s : List UInt8) (l : List (M.CT × Int)) : readsG s (l.map fun x => (x.1, z4, x.2)) = M.readsT s (l.map Prod.fst) := by
 unfold readsG M.readsT
 rw [List.map_map]
 have e1 : (Prod.fst ∘ fun x : M.CT × Int => ((x.1, z4, x.2) : GT)) = Prod.fst := rfl
 rw [e1, List.map_map]
 have e2 : (keyG ∘ fun x : M.CT × Int => ((x.1, z4, x.2) : GT)) = (fun t => ((t, z4) : M.CT × C4)) ∘ Prod.fst := rfl
 rw [e2, <- List.map_map, <- List.map_append]
 have e3 : (fun x : M.CT × Int => ((x.1, z4) : M.CT × C4)) = (fun t => ((t, z4) : M.CT × C4)) ∘ Prod.fst := rfl
 rw [e3, <- List.map_map]
 rw [Bool.eq_iff_iff, decide_eq_true_iff, decide_eq_true_iff]
 constructor
 ·intro h
  exact (List.map_inj_right (fun a b hab => (Prod.mk.inj hab).1)).mp h
 ·intro h; rw [h]
theorem readsG_one (t : M.CT) (z : Int) : readsG (M.spellT t) [(t, z4, z)] = M.backT t := readsG_T (M.spellT t) [(t, z)]
theorem numG_T (t : M.CT) (z : Int) : numG (t, z4, z) = M.numOk t := by
 unfold numG M.numOk
 simp only [readsG_one]
theorem rightG_T (t : M.CT) (z : Int) (hz : 0 <= z) : rightG (t, z4, z) = M.rightT t := by
 unfold rightG M.rightT kindG M.rightK
 simp only [readsG_one, numG_T, decide_eq_true hz, Bool.true_and]
 congr 2
 rw [Bool.eq_iff_iff, decide_eq_true_iff, decide_eq_true_iff]
 constructor
 ·intro h; exact (Prod.mk.inj h).1
 ·intro h; rw [<- h]
def spellG (g : GT) : List UInt8 := if rightG g then M.spellT g.1 else []
theorem cspell_any (g : GT) (t : List UInt8) (w : World) (hT : Tabs w) (hs : Small g.1) (hl : (M.spellT g.1).length <= 39000) (ht : spellG g = t) :
  Calls Tryz.prog 9 #[.agg (gtv g)] w fun e w' => e = .returned (.string (bytes t)) /\ Below w.heap.size w w' := by
 have HT := Lib.hid hT
 obtain ⟨q, hq⟩ : ∃ q, rightG g = q := ⟨_, rfl⟩
 have R1 := Lib.hid (fun W hW => cright_any g q W hW hs hl hq)
 unfold spellG at ht
 rw [hq] at ht
 have S1 := Lib.hid (fun W hW => strip_StP' (spellt_any g (M.spellT g.1) W hW hs rfl))
 obtain ⟨S, hS⟩ : ∃ S, bytes (M.spellT g.1) = S := ⟨_, rfl⟩
 have HTT : bytes t = if q then S else ⟨#[]⟩ := by rw [<- ht, <- hS]; split <;> rfl
 rw [hS] at S1
 rw [HTT]
 obtain ⟨⟨k, text, unit, ⟨n0, n1, n2⟩, flag, sign⟩, ⟨c0, c1, c2, c3⟩, z⟩ := g
 have e1 := gtv_lit k text unit n0 n1 n2 flag sign c0 c1 c2 c3 z
 rw [e1] at R1 S1 ⊢
 obtain ⟨TB, hTB⟩ : ∃ S, bytes text = S := ⟨_, rfl⟩
 obtain ⟨UB, hUB⟩ : ∃ S, bytes unit = S := ⟨_, rfl⟩
 obtain ⟨N1, hN1⟩ : ∃ S, bytes n1 = S := ⟨_, rfl⟩
 obtain ⟨N2, hN2⟩ : ∃ S, bytes n2 = S := ⟨_, rfl⟩
 rw [hTB, hUB, hN1, hN2] at R1 S1 ⊢
 obtain ⟨W0, hW0⟩ : ∃ W, w.alloc (.cells #[.int .i64 k, .string TB, .string UB, .bool n0, .string N1, .string N2, .bool flag, .bool sign, .int .i64 c0, .int .i64 c1, .int .i64 c2, .int .i64 c3, .int .i64 z] 33) = W := ⟨_, rfl⟩
 have hcs : CB W0 w.heap.size #[.int .i64 k, .string TB, .string UB, .bool n0, .string N1, .string N2, .bool flag, .bool sign, .int .i64 c0, .int .i64 c1, .int .i64 c2, .int .i64 c3, .int .i64 z] := by rw [<- hW0]; exact CB.new _ _
 have B1 : Hid (Below w.heap.size w W0) := Lib.hid (by rw [<- hW0]; exact (Below.refl _ _).alloc (Nat.le_refl _) _)
 have HW0 := Lib.hid hW0
 clear hW0
 clear hT hs hl e1 hTB hUB hN1 hN2 hq ht hS HTT
 cases q with
 | false =>
  go_enter Tryz.func9, Tryz.ntmps9
  go_upto_region 1 with (fail)
  rw [HW0.out]
  have hs0 : Is13 w.heap.size (.int .i64 k) (.string TB) (.string UB) (.bool n0) (.string N1) (.string N2) (.bool flag) (.bool sign) (.int .i64 c0) (.int .i64 c1) (.int .i64 c2) (.int .i64 c3) (.int .i64 z) W0 := ⟨hcs.cell 0, hcs.cell 1, hcs.cell 2, hcs.cell 3, hcs.cell 4, hcs.cell 5, hcs.cell 6, hcs.cell 7, hcs.cell 8, hcs.cell 9, hcs.cell 10, hcs.cell 11, hcs.cell 12⟩
  obtain ⟨s0, s1, s2, s3, s4, s5, s6, s7, s8, s9, s10, s11, s12⟩ := hs0
  clear hcs HW0
  go_wp2_with fail
  refine (R1.out _ (HT.out.keep B1.out)).mono ?_
  rintro e w1 ⟨rfl, hb1⟩
  have HF := Lib.hid (B1.out.trans (hb1.mono B1.out.size))
  clear hb1 s0 s1 s2 s3 s4 s5 s6 s7 s8 s9 s10 s11 s12
  go_wp2
  go_ret
  exact ⟨rfl, HF.out⟩
 | true =>
  go_enter Tryz.func9, Tryz.ntmps9
  go_upto_region 1 with (fail)
  rw [HW0.out]
  have hs0 : Is13 w.heap.size (.int .i64 k) (.string TB) (.string UB) (.bool n0) (.string N1) (.string N2) (.bool flag) (.bool sign) (.int .i64 c0) (.int .i64 c1) (.int .i64 c2) (.int .i64 c3) (.int .i64 z) W0 := ⟨hcs.cell 0, hcs.cell 1, hcs.cell 2, hcs.cell 3, hcs.cell 4, hcs.cell 5, hcs.cell 6, hcs.cell 7, hcs.cell 8, hcs.cell 9, hcs.cell 10, hcs.cell 11, hcs.cell 12⟩
  obtain ⟨s0, s1, s2, s3, s4, s5, s6, s7, s8, s9, s10, s11, s12⟩ := hs0
  have hI : Is13 w.heap.size (.int .i64 k) (.string TB) (.string UB) (.bool n0) (.string N1) (.string N2) (.bool flag) (.bool sign) (.int .i64 c0) (.int .i64 c1) (.int .i64 c2) (.int .i64 c3) (.int .i64 z) W0 := ⟨s0, s1, s2, s3, s4, s5, s6, s7, s8, s9, s10, s11, s12⟩
  have HI := Lib.hid hI
  clear hcs HW0 hI
  go_wp2_with fail
  refine (R1.out _ (HT.out.keep B1.out)).mono ?_
  rintro e w1 ⟨rfl, hb1⟩
  have HI1 := Lib.hid (HI.out.keep hb1)
  have HB1 := Lib.hid (B1.out.trans (hb1.mono B1.out.size))
  clear hb1 s0 s1 s2 s3 s4 s5 s6 s7 s8 s9 s10 s11 s12
  obtain ⟨s0, s1, s2, s3, s4, s5, s6, s7, s8, s9, s10, s11, s12⟩ := HI1.out
  go_wp2_with fail
  refine (S1.out _ (HT.out.keep HB1.out)).mono ?_
  rintro e w2 ⟨rfl, hb2⟩
  have HF := Lib.hid (HB1.out.trans (hb2.mono HB1.out.size))
  clear hb2 s0 s1 s2 s3 s4 s5 s6 s7 s8 s9 s10 s11 s12
  go_wp2
  go_ret
  exact ⟨rfl, HF.out⟩
end Go.Proofs.YtimjbjppmhdjnaaGreatDoor
