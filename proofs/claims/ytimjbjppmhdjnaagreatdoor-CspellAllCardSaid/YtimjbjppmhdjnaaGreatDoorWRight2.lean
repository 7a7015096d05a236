import Derived.Test.YtimjbjppmhdjnaaGreatDoorWRight
set_option maxHeartbeats 4000000
set_option maxRecDepth 100000
namespace Go.Proofs.YtimjbjppmhdjnaaGreatDoor
open Go.RowKit
set_option linter.unusedVariables false
set_option linter.unusedSimpArgs false
def numG (g : GT) : Bool := decide (M.numS g.1.num g.1.flag g.1.sign ≠ []) && !(g.1.sign && g.1.num.1) && readsG (M.spellT g.1) [g]
theorem spellT_len (t : M.CT) (hs : Small t) : (M.spellT t).length <= 39000 \/ t.kind = 12 := by
 obtain ⟨h1, h2, h3, h4⟩ := hs
 have hn := names_len t.text h1
 have hS := numS_len t.num t.flag t.sign h3 h4
 by_cases hk : t.kind = 12
 ·exact .inr hk
 left
 unfold M.spellT
 have hp := M.pn_len t.text t.text.length 0 (by omega)
 have hR := spR_bytes_len (M.pn t.text 0)
 have hq : (M.qText (M.pn t.text 0)).length <= 38000 := by
  have : ∀ q : Int, (M.encZs (M.qF q (M.pn t.text 0))).length <= 38000 := by
   intro q
   have h5 := (M.encZs_len (M.qF q (M.pn t.text 0))).2
   have h6 := M.qacc_len q (M.pn t.text 0) (M.pn t.text 0).length
   rw [M.qacc_full] at h6
   have h7 : (M.qF q (M.pn t.text 0)).length = (M.qB q (M.pn t.text 0)).length + 2 := by simp [M.qF]
   omega
  unfold M.qText
  split
  ·exact this 39
  ·exact this 34
 have hu : (M.urlS t.text).length <= 38000 := by
  have := M.accU_len t.text t.text.length
  unfold M.accU at this
  rw [List.take_length] at this
  unfold M.urlS
  simp at this ⊢
  omega
 have hsg : (M.sigS t.kind).length <= 4 := by
  unfold M.sigS
  repeat' split
  all_goals simp
 by_cases k1 : t.kind = 1
 ·rw [if_pos k1]; omega
 rw [if_neg k1]
 by_cases k2 : t.kind = 2
 ·rw [if_pos k2]; rw [List.length_append]; simp only [List.length_cons, List.length_nil]; omega
 rw [if_neg k2]
 by_cases k3 : t.kind = 3
 ·rw [if_pos k3]; rw [List.length_cons]; omega
 rw [if_neg k3]
 by_cases k4 : t.kind = 4
 ·rw [if_pos k4]; unfold M.hashS; rw [List.length_cons]; split <;> omega
 rw [if_neg k4]
 by_cases k5 : t.kind = 5
 ·rw [if_pos k5]; omega
 rw [if_neg k5]
 by_cases k7 : t.kind = 7
 ·rw [if_pos k7]; omega
 rw [if_neg k7]
 by_cases k10 : t.kind = 10
 ·rw [if_pos k10]; omega
 rw [if_neg k10]
 by_cases k11 : t.kind = 11
 ·rw [if_pos k11]; rw [List.length_append]; simp only [List.length_cons, List.length_nil]; omega
 rw [if_neg k11]
 rw [if_neg hk]
 by_cases kr : t.kind = 6 \/ t.kind = 8 \/ t.kind = 9 \/ t.kind = 13
 ·rw [if_pos kr]; omega
 rw [if_neg kr]
 by_cases k25 : t.kind = 25
 ·rw [if_pos k25, List.length_cons, List.length_cons, List.length_append]; simp only [List.length_cons, List.length_nil]; omega
 rw [if_neg k25]; omega
theorem rightnum_any (g : GT) (r : Bool) (w : World) (hT : Tabs w) (hs : Small g.1) (hl : (M.spellT g.1).length <= 39000) (hr : numG g = r) :
  Calls Tryz.prog 17 #[.agg (gtv g)] w fun e w' => e = .returned (.bool r) /\ Below w.heap.size w w' := by
 have HT := Lib.hid hT
 obtain ⟨q, hq⟩ : ∃ q, readsG (M.spellT g.1) [g] = q := ⟨_, rfl⟩
 have R1 := Lib.hid (fun W hW => readsback_any g q W hW hs hq hl)
 unfold numG at hr
 rw [hq] at hr
 obtain ⟨⟨k, text, unit, ⟨n0, n1, n2⟩, flag, sign⟩, ⟨c0, c1, c2, c3⟩, z⟩ := g
 obtain ⟨x, hx⟩ : ∃ x, M.numS (n0, n1, n2) flag sign = x := ⟨_, rfl⟩
 have S1 := Lib.hid (fun W hW => number_any (n0, n1, n2) flag sign x W hW hs.2.2.1 hs.2.2.2 hx)
 simp only at hr
 rw [hx] at hr
 have e1 := gtv_lit k text unit n0 n1 n2 flag sign c0 c1 c2 c3 z
 unfold numV at S1
 simp only at S1
 rw [e1] at R1 ⊢
 obtain ⟨TB, hTB⟩ : ∃ S, bytes text = S := ⟨_, rfl⟩
 obtain ⟨UB, hUB⟩ : ∃ S, bytes unit = S := ⟨_, rfl⟩
 obtain ⟨N1, hN1⟩ : ∃ S, bytes n1 = S := ⟨_, rfl⟩
 obtain ⟨N2, hN2⟩ : ∃ S, bytes n2 = S := ⟨_, rfl⟩
 rw [hN1, hN2] at S1
 rw [hTB, hUB, hN1, hN2] at R1 ⊢
 have hway : (∃ X, bytes x = X /\ X.toList.isEmpty = true /\ r = false) \/ (∃ X, bytes x = X /\ X.toList.isEmpty = false /\ ((sign = true /\ n0 = true /\ r = false) \/ (sign = true /\ n0 = false /\ r = q) \/ (sign = false /\ r = q))) := by
  by_cases h : x = []
  ·left; exact ⟨_, rfl, (str_nil _ x rfl h).2.1, by rw [<- hr, h]; simp⟩
  ·right; refine ⟨_, rfl, (str_ne _ x rfl h).1, ?_⟩
   cases sign with
   | false => exact .inr (.inr ⟨rfl, by rw [<- hr]; simp [h]⟩)
   | true =>
    cases n0 with
    | true => exact .inl ⟨rfl, rfl, by rw [<- hr]; simp⟩
    | false => exact .inr (.inl ⟨rfl, rfl, by rw [<- hr]; simp [h]⟩)
 obtain ⟨W0, hW0⟩ : ∃ W, w.alloc (.cells #[.int .i64 k, .string TB, .string UB, .bool n0, .string N1, .string N2, .bool flag, .bool sign, .int .i64 c0, .int .i64 c1, .int .i64 c2, .int .i64 c3, .int .i64 z] 33) = W := ⟨_, rfl⟩
 have hcs : CB W0 w.heap.size #[.int .i64 k, .string TB, .string UB, .bool n0, .string N1, .string N2, .bool flag, .bool sign, .int .i64 c0, .int .i64 c1, .int .i64 c2, .int .i64 c3, .int .i64 z] := by rw [<- hW0]; exact CB.new _ _
 have B1 : Hid (Below w.heap.size w W0) := Lib.hid (by rw [<- hW0]; exact (Below.refl _ _).alloc (Nat.le_refl _) _)
 have HW0 := Lib.hid hW0
 clear hW0
 clear hT hs e1 hTB hUB hN1 hN2 hr hl hx hq
 rcases hway with ⟨X, hX, he, rfl⟩ | ⟨X, hX, he, hway⟩
 ·rw [hX] at S1
  clear hX
  go_enter Tryz.func17, Tryz.ntmps17
  go_upto_region 1 with (fail)
  rw [HW0.out]
  have hs0 : Is13 w.heap.size (.int .i64 k) (.string TB) (.string UB) (.bool n0) (.string N1) (.string N2) (.bool flag) (.bool sign) (.int .i64 c0) (.int .i64 c1) (.int .i64 c2) (.int .i64 c3) (.int .i64 z) W0 := ⟨hcs.cell 0, hcs.cell 1, hcs.cell 2, hcs.cell 3, hcs.cell 4, hcs.cell 5, hcs.cell 6, hcs.cell 7, hcs.cell 8, hcs.cell 9, hcs.cell 10, hcs.cell 11, hcs.cell 12⟩
  obtain ⟨s0, s1, s2, s3, s4, s5, s6, s7, s8, s9, s10, s11, s12⟩ := hs0
  have hI : Is13 w.heap.size (.int .i64 k) (.string TB) (.string UB) (.bool n0) (.string N1) (.string N2) (.bool flag) (.bool sign) (.int .i64 c0) (.int .i64 c1) (.int .i64 c2) (.int .i64 c3) (.int .i64 z) W0 := ⟨s0, s1, s2, s3, s4, s5, s6, s7, s8, s9, s10, s11, s12⟩
  have HI := Lib.hid hI
  clear hcs HW0 hI
  go_wp2_with fail
  refine (S1.out _ (HT.out.keep B1.out)).mono ?_
  rintro e w1 ⟨rfl, hb1⟩
  have HI1 := Lib.hid (HI.out.keep hb1)
  have HB1 := Lib.hid (B1.out.trans (hb1.mono B1.out.size))
  clear hb1 s0 s1 s2 s3 s4 s5 s6 s7 s8 s9 s10 s11 s12
  obtain ⟨s0, s1, s2, s3, s4, s5, s6, s7, s8, s9, s10, s11, s12⟩ := HI1.out
  go_wp2
  go_ret
  exact ⟨rfl, HB1.out⟩
 ·rw [hX] at S1
  have he2 : (!X.toList.isEmpty) = true := by rw [he]; rfl
  clear hX
  rcases hway with ⟨rfl, rfl, rfl⟩ | ⟨rfl, rfl, rfl⟩ | ⟨rfl, rfl⟩
  ·go_enter Tryz.func17, Tryz.ntmps17
   go_upto_region 1 with (fail)
   rw [HW0.out]
   have hs0 : Is13 w.heap.size (.int .i64 k) (.string TB) (.string UB) (.bool true) (.string N1) (.string N2) (.bool flag) (.bool true) (.int .i64 c0) (.int .i64 c1) (.int .i64 c2) (.int .i64 c3) (.int .i64 z) W0 := ⟨hcs.cell 0, hcs.cell 1, hcs.cell 2, hcs.cell 3, hcs.cell 4, hcs.cell 5, hcs.cell 6, hcs.cell 7, hcs.cell 8, hcs.cell 9, hcs.cell 10, hcs.cell 11, hcs.cell 12⟩
   obtain ⟨s0, s1, s2, s3, s4, s5, s6, s7, s8, s9, s10, s11, s12⟩ := hs0
   have hI : Is13 w.heap.size (.int .i64 k) (.string TB) (.string UB) (.bool true) (.string N1) (.string N2) (.bool flag) (.bool true) (.int .i64 c0) (.int .i64 c1) (.int .i64 c2) (.int .i64 c3) (.int .i64 z) W0 := ⟨s0, s1, s2, s3, s4, s5, s6, s7, s8, s9, s10, s11, s12⟩
   have HI := Lib.hid hI
   clear hcs HW0 hI
   go_wp2_with fail
   refine (S1.out _ (HT.out.keep B1.out)).mono ?_
   rintro e w1 ⟨rfl, hb1⟩
   have HI1 := Lib.hid (HI.out.keep hb1)
   have HB1 := Lib.hid (B1.out.trans (hb1.mono B1.out.size))
   clear hb1 s0 s1 s2 s3 s4 s5 s6 s7 s8 s9 s10 s11 s12
   obtain ⟨s0, s1, s2, s3, s4, s5, s6, s7, s8, s9, s10, s11, s12⟩ := HI1.out
   go_wp2
   go_ret
   exact ⟨rfl, HB1.out⟩
  ·go_enter Tryz.func17, Tryz.ntmps17
   go_upto_region 1 with (fail)
   rw [HW0.out]
   have hs0 : Is13 w.heap.size (.int .i64 k) (.string TB) (.string UB) (.bool false) (.string N1) (.string N2) (.bool flag) (.bool true) (.int .i64 c0) (.int .i64 c1) (.int .i64 c2) (.int .i64 c3) (.int .i64 z) W0 := ⟨hcs.cell 0, hcs.cell 1, hcs.cell 2, hcs.cell 3, hcs.cell 4, hcs.cell 5, hcs.cell 6, hcs.cell 7, hcs.cell 8, hcs.cell 9, hcs.cell 10, hcs.cell 11, hcs.cell 12⟩
   obtain ⟨s0, s1, s2, s3, s4, s5, s6, s7, s8, s9, s10, s11, s12⟩ := hs0
   have hI : Is13 w.heap.size (.int .i64 k) (.string TB) (.string UB) (.bool false) (.string N1) (.string N2) (.bool flag) (.bool true) (.int .i64 c0) (.int .i64 c1) (.int .i64 c2) (.int .i64 c3) (.int .i64 z) W0 := ⟨s0, s1, s2, s3, s4, s5, s6, s7, s8, s9, s10, s11, s12⟩
   have HI := Lib.hid hI
   clear hcs HW0 hI
   go_wp2_with fail
   refine (S1.out _ (HT.out.keep B1.out)).mono ?_
   rintro e w1 ⟨rfl, hb1⟩
   have HI1 := Lib.hid (HI.out.keep hb1)
   have HB1 := Lib.hid (B1.out.trans (hb1.mono B1.out.size))
   clear hb1 s0 s1 s2 s3 s4 s5 s6 s7 s8 s9 s10 s11 s12
   obtain ⟨s0, s1, s2, s3, s4, s5, s6, s7, s8, s9, s10, s11, s12⟩ := HI1.out
   go_wp2_with fail
   refine (R1.out _ (HT.out.keep HB1.out)).mono ?_
   rintro e w2 ⟨rfl, hb2⟩
   have HF := Lib.hid (HB1.out.trans (hb2.mono HB1.out.size))
   clear hb2 s0 s1 s2 s3 s4 s5 s6 s7 s8 s9 s10 s11 s12
   go_wp2
   go_ret
   exact ⟨rfl, HF.out⟩
  ·go_enter Tryz.func17, Tryz.ntmps17
   go_upto_region 1 with (fail)
   rw [HW0.out]
   have hs0 : Is13 w.heap.size (.int .i64 k) (.string TB) (.string UB) (.bool n0) (.string N1) (.string N2) (.bool flag) (.bool false) (.int .i64 c0) (.int .i64 c1) (.int .i64 c2) (.int .i64 c3) (.int .i64 z) W0 := ⟨hcs.cell 0, hcs.cell 1, hcs.cell 2, hcs.cell 3, hcs.cell 4, hcs.cell 5, hcs.cell 6, hcs.cell 7, hcs.cell 8, hcs.cell 9, hcs.cell 10, hcs.cell 11, hcs.cell 12⟩
   obtain ⟨s0, s1, s2, s3, s4, s5, s6, s7, s8, s9, s10, s11, s12⟩ := hs0
   have hI : Is13 w.heap.size (.int .i64 k) (.string TB) (.string UB) (.bool n0) (.string N1) (.string N2) (.bool flag) (.bool false) (.int .i64 c0) (.int .i64 c1) (.int .i64 c2) (.int .i64 c3) (.int .i64 z) W0 := ⟨s0, s1, s2, s3, s4, s5, s6, s7, s8, s9, s10, s11, s12⟩
   have HI := Lib.hid hI
   clear hcs HW0 hI
   go_wp2_with fail
   refine (S1.out _ (HT.out.keep B1.out)).mono ?_
   rintro e w1 ⟨rfl, hb1⟩
   have HI1 := Lib.hid (HI.out.keep hb1)
   have HB1 := Lib.hid (B1.out.trans (hb1.mono B1.out.size))
   clear hb1 s0 s1 s2 s3 s4 s5 s6 s7 s8 s9 s10 s11 s12
   obtain ⟨s0, s1, s2, s3, s4, s5, s6, s7, s8, s9, s10, s11, s12⟩ := HI1.out
   go_wp2_with fail
   refine (R1.out _ (HT.out.keep HB1.out)).mono ?_
   rintro e w2 ⟨rfl, hb2⟩
   have HF := Lib.hid (HB1.out.trans (hb2.mono HB1.out.size))
   clear hb2 s0 s1 s2 s3 s4 s5 s6 s7 s8 s9 s10 s11 s12
   go_wp2
   go_ret
   exact ⟨rfl, HF.out⟩
end Go.Proofs.YtimjbjppmhdjnaaGreatDoor
