/- The walk of NumberTells. -/
import Derived.Test.YtmfcfkmkmlcepaaGreatDoorNRPlain
import Derived.Test.YtmfcfkmkmlcepaaGreatDoorNRNum
namespace Go.Proofs.YtmfcfkmkmlcepaaGreatDoor
open Go.RowKit
set_option linter.unusedVariables false
set_option linter.unusedSimpArgs false

theorem plain_three' (ng : Bool) (D E : List UInt8) : (M.plainN ng D E).length ≤ 3 := by
  unfold M.plainN M.plain1 M.plain3
  split
  · split
    · simp
    · simp only [List.length_append]
      split <;> split <;> simp
  · simp
theorem unsc_len' (d : List UInt8) (x : Int) : (M.unsc d x).length ≤ d.length + 22 := by
  unfold M.unsc
  split
  · simp; omega
  · split
    · simp; omega
    · split
      · simp; omega
      · simp
theorem plain_len' (ng : Bool) (D E : List UInt8) (h1 : D.length ≤ 300) (h2 : E.length ≤ 300) : ∀ t ∈ M.plainN ng D E, t.length ≤ 1000 := by
  intro t ht
  have hs := M.sgl_len ng
  have hs1 : (M.sgl ng).length ≤ 1 := by rw [hs]; split <;> omega
  unfold M.plainN at ht
  split at ht
  case isFalse => simp at ht
  rename_i hr
  split at ht
  · simp only [List.mem_singleton] at ht; subst ht; rw [List.length_append]; simp; omega
  · rename_i h0
    rcases List.mem_append.1 ht with ht | ht
    · unfold M.plain1 at ht
      split at ht
      · simp only [List.mem_singleton] at ht; subst ht; have := unsc_len' D (M.intD E).1; rw [List.length_append]; omega
      · simp at ht
    · rcases List.mem_append.1 ht with ht | ht
      · simp only [List.mem_singleton] at ht; subst ht; simp only [List.length_append, List.length_cons]; omega
      · unfold M.plain3 at ht
        split at ht
        · have hrE : M.rightD E = true := by
            rw [M.right_prog D E h0] at hr
            simp only [Bool.and_eq_true] at hr
            exact hr.2
          have := upE_le D E hrE h1 h2
          simp only [List.mem_singleton] at ht; subst ht; simp only [List.length_append, List.length_cons, List.length_take, List.length_drop]; omega
        · simp at ht
set_option maxRecDepth 100000 in
set_option maxHeartbeats 16000000 in
theorem ntells_walk (s0 : ByteArray) (ng : Bool) (s1 s2 : ByteArray) (w : World) (m0 : s0.size ≤ maxLen) (hT : Tabs w) :
    Calls Tryz.prog 3 #[.string s0, .agg #[.bool ng, .string s1, .string s2]] w fun e w' => e = .returned (.bool true) ∧ Below w.heap.size w w' := by
  obtain ⟨l, hl⟩ : ∃ D, bytes D = s0 := ⟨s0.data.toList, bytes_of s0⟩
  obtain ⟨D, hD⟩ : ∃ D, bytes D = s1 := ⟨s1.data.toList, bytes_of s1⟩
  obtain ⟨E, hE⟩ : ∃ D, bytes D = s2 := ⟨s2.data.toList, bytes_of s2⟩
  have zl := bytes_size l
  have zD := bytes_size D
  have zE := bytes_size E
  rw [hl] at zl
  rw [hD] at zD
  rw [hE] at zE
  have B0 : Hid (Below w.heap.size w (w.alloc (.cells #[.bool ng, .string s1, .string s2] 23))) := Lib.hid ((Below.refl _ _).alloc (Nat.le_refl _) _)
  have al := Lib.hid (alive_any _ (hT.keep B0.out))
  have HT := Lib.hid hT
  clear hT m0
  have hway : ((300 < s0.size) ∨ (s0.size ≤ 300 ∧ 300 < s1.size) ∨ (s0.size ≤ 300 ∧ s1.size ≤ 300 ∧ 300 < s2.size)) ∨ (s0.size ≤ 300 ∧ s1.size ≤ 300 ∧ s2.size ≤ 300) := by omega
  rcases hway with hout | ⟨c0, c1, c2⟩
  · clear hl hD hE zl zD zE
    rcases hout with h | ⟨h0, h⟩ | ⟨h0, h1, h⟩
    · have q : (300 : Int) < s0.size := by omega
      go_enter Tryz.func3, Tryz.ntmps3
      go_wp2_with fail
      refine al.out.mono ?_
      rintro e w1 ⟨rfl, hb1⟩
      obtain ⟨⟨g0, g1, g2⟩, -, hs1, hb0⟩ := keep3 hb1
      clear hb1
      go_wp2
      go_ret
      exact ⟨rfl, hb0⟩
    · have q0 : ¬ (300 : Int) < s0.size := by omega
      have q : (300 : Int) < s1.size := by omega
      go_enter Tryz.func3, Tryz.ntmps3
      go_wp2_with fail
      refine al.out.mono ?_
      rintro e w1 ⟨rfl, hb1⟩
      obtain ⟨⟨g0, g1, g2⟩, -, hs1, hb0⟩ := keep3 hb1
      clear hb1
      go_wp2
      go_ret
      exact ⟨rfl, hb0⟩
    · have q0 : ¬ (300 : Int) < s0.size := by omega
      have q1 : ¬ (300 : Int) < s1.size := by omega
      have q : (300 : Int) < s2.size := by omega
      go_enter Tryz.func3, Tryz.ntmps3
      go_wp2_with fail
      refine al.out.mono ?_
      rintro e w1 ⟨rfl, hb1⟩
      obtain ⟨⟨g0, g1, g2⟩, -, hs1, hb0⟩ := keep3 hb1
      clear hb1
      go_wp2
      go_ret
      exact ⟨rfl, hb0⟩
  obtain ⟨⟨rg, rD, rE⟩, ok, hr⟩ : ∃ r o, M.readN l = (r, o) := ⟨_, _, rfl⟩
  obtain ⟨rt, hrt⟩ : ∃ r, M.rightN D E = r := ⟨_, rfl⟩
  obtain ⟨pl, hpl⟩ : ∃ r, M.plainN ng D E = r := ⟨_, rfl⟩
  obtain ⟨sh, hsh⟩ : ∃ r, M.shortN pl = r := ⟨_, rfl⟩
  have hp3 : pl.length ≤ 3 := by rw [← hpl]; exact plain_three' ng D E
  have hpl2 : ∀ t ∈ pl, t.length ≤ 1000 := by rw [← hpl]; exact plain_len' ng D E (by omega) (by omega)
  have RD := Lib.hid (fun w hw => read_any l (rg, rD, rE) ok w hw (by omega) hr)
  have RR := Lib.hid (fun w => refread_any l (rg, rD, rE) ok w (by omega) hr)
  have G1 := Lib.hid (fun w => rightn_any ng D E rt w (by omega) (by omega) hrt)
  have G2 := Lib.hid (fun w => refrightn_any ng D E rt w (by omega) (by omega) hrt)
  have P1 := Lib.hid (fun w hw => plain_any ng D E pl w hw (by omega) (by omega) hpl)
  have P2 := Lib.hid (fun w => refplain_any ng D E pl w (by omega) (by omega) hpl)
  have S1 := Lib.hid (fun w hw => short_any ng D E sh w hw (by omega) (by omega) (by rw [hpl]; exact hsh))
  have S2 := Lib.hid (fun v w hv => refshort_any pl v sh w hv (by omega) hsh (fun t ht => by have := hpl2 t ht; omega))
  have SM := Lib.hid (fun u v w hu hv => same_any pl u v w hu hv (by omega))
  unfold numV at RD RR G1 G2 P1 P2 S1
  simp only [hl, hD, hE] at RD RR G1 G2 P1 P2 S1
  obtain ⟨SRD, hSRD⟩ : ∃ S, bytes rD = S := ⟨_, rfl⟩
  obtain ⟨SRE, hSRE⟩ : ∃ S, bytes rE = S := ⟨_, rfl⟩
  obtain ⟨SH, hSH⟩ : ∃ S, bytes sh = S := ⟨_, rfl⟩
  simp only [hSRD, hSRE] at RD RR
  rw [hSH] at S1 S2
  have q0 : ¬ (300 : Int) < s0.size := by omega
  have q1 : ¬ (300 : Int) < s1.size := by omega
  have q2 : ¬ (300 : Int) < s2.size := by omega
  clear hl hD hE zl zD zE hr hrt hpl hsh hp3 hpl2 hSRD hSRE hSH
  go_enter Tryz.func3, Tryz.ntmps3
  go_wp2_with fail
  refine al.out.mono ?_
  rintro e w1 ⟨rfl, hb1⟩
  obtain ⟨⟨g0, g1, g2⟩, -, hs1, hb0⟩ := keep3 hb1
  have GP := Lib.hid (show Box w.heap.size (.bool ng) (.string s1) (.string s2) w1 from ⟨g0, g1, g2⟩)
  clear hb1
  go_wp2_with fail
  refine (RD.out _ (HT.out.keep hb0)).mono ?_
  rintro e w2 ⟨rfl, hb2⟩
  have hb3 := hb0.trans (hb2.mono hb0.size)
  have gp2 := box_keep GP.out hb2 hs1
  have y2 := hb2.size
  obtain ⟨W3, hW3⟩ : ∃ W, w2.alloc (.cells #[.bool rg, .string SRD, .string SRE] 23) = W := ⟨_, rfl⟩
  have d3 : Below w2.heap.size w2 W3 := by rw [← hW3]; exact (Below.refl _ _).alloc (Nat.le_refl _) _
  have z3 : W3.heap.size = w2.heap.size + 1 := by rw [← hW3]; simp
  have gx : Box w2.heap.size (.bool rg) (.string SRD) (.string SRE) W3 := by
    rw [← hW3]; exact ⟨by rw [World.cell?_alloc_at _ _ _ _ rfl]; rfl, by rw [World.cell?_alloc_at _ _ _ _ rfl]; rfl, by rw [World.cell?_alloc_at _ _ _ _ rfl]; rfl⟩
  have gp3 := box_keep gp2 d3 (by omega)
  have hb4 := hb3.trans (d3.mono hb3.size)
  have HW3 := Lib.hid hW3
  have GP3 := Lib.hid gp3
  have GX3 := Lib.hid gx
  clear g0 g1 g2 hb0 hb2 hb3 gp2 hW3 d3 gx gp3 GP
  go_wp2_with fail
  rw [HW3.out]
  clear HW3
  refine (RR.out _).mono ?_
  rintro e w4 ⟨rfl, hb5⟩
  have hb6 := hb4.trans (hb5.mono hb4.size)
  have gp4 := box_keep GP3.out hb5 (by omega)
  have gx4 := box_keep GX3.out hb5 (by omega)
  have y4 := hb5.size
  obtain ⟨W5, hW5⟩ : ∃ W, w4.alloc (.cells #[.bool rg, .string SRD, .string SRE] 23) = W := ⟨_, rfl⟩
  have d5 : Below w4.heap.size w4 W5 := by rw [← hW5]; exact (Below.refl _ _).alloc (Nat.le_refl _) _
  have z5 : W5.heap.size = w4.heap.size + 1 := by rw [← hW5]; simp
  have gy : Box w4.heap.size (.bool rg) (.string SRD) (.string SRE) W5 := by
    rw [← hW5]; exact ⟨by rw [World.cell?_alloc_at _ _ _ _ rfl]; rfl, by rw [World.cell?_alloc_at _ _ _ _ rfl]; rfl, by rw [World.cell?_alloc_at _ _ _ _ rfl]; rfl⟩
  have gp5 := box_keep gp4 d5 (by omega)
  have gx5 := box_keep gx4 d5 (by omega)
  have hb7 := hb6.trans (d5.mono hb6.size)
  have HW5 := Lib.hid hW5
  have HB7 := Lib.hid hb7
  have HK : Hid (∀ W, Below W5.heap.size W5 W → (W.cell? ⟨w.heap.size, 0, none⟩ = some (.bool ng) ∧ W.cell? ⟨w.heap.size, 1, none⟩ = some (.string s1) ∧ W.cell? ⟨w.heap.size, 2, none⟩ = some (.string s2) ∧ W.cell? ⟨w2.heap.size, 0, none⟩ = some (.bool rg) ∧ W.cell? ⟨w2.heap.size, 1, none⟩ = some (.string SRD) ∧ W.cell? ⟨w2.heap.size, 2, none⟩ = some (.string SRE) ∧ W.cell? ⟨w4.heap.size, 0, none⟩ = some (.bool rg) ∧ W.cell? ⟨w4.heap.size, 1, none⟩ = some (.string SRD) ∧ W.cell? ⟨w4.heap.size, 2, none⟩ = some (.string SRE))) := Lib.hid (fun W h => by
    obtain ⟨a0, a1, a2⟩ := box_keep gp5 h (by omega)
    obtain ⟨b0, b1, b2⟩ := box_keep gx5 h (by omega)
    obtain ⟨c0, c1, c2⟩ := box_keep gy h (by omega)
    exact ⟨a0, a1, a2, b0, b1, b2, c0, c1, c2⟩)
  have TB : Hid (∀ W, Below W5.heap.size W5 W → Tabs W) := Lib.hid (fun W h => HT.out.keep (HB7.out.trans (h.mono HB7.out.size)))
  have BD : Hid (Below W5.heap.size W5 W5.drew) := Lib.hid (Below.refl _ _).drew
  clear hb4 hb5 hb6 gp4 gx4 hW5 d5 gy gp5 gx5 hb7 GP3 GX3
  go_wp2_with fail
  rw [HW5.out]
  clear HW5
  go_region_held3 (fun W : World => W.cell? ⟨w.heap.size, 0, none⟩ = some (.bool ng) ∧ W.cell? ⟨w.heap.size, 1, none⟩ = some (.string s1) ∧ W.cell? ⟨w.heap.size, 2, none⟩ = some (.string s2) ∧ W.cell? ⟨w2.heap.size, 0, none⟩ = some (.bool rg) ∧ W.cell? ⟨w2.heap.size, 1, none⟩ = some (.string SRD) ∧ W.cell? ⟨w2.heap.size, 2, none⟩ = some (.string SRE) ∧ W.cell? ⟨w4.heap.size, 0, none⟩ = some (.bool rg) ∧ W.cell? ⟨w4.heap.size, 1, none⟩ = some (.string SRD) ∧ W.cell? ⟨w4.heap.size, 2, none⟩ = some (.string SRE))
    (first
      | with_reducible exact HK.out _ BD.out
      | with_reducible exact HK.out _ HBa.out
      | with_reducible exact HK.out _ HBb.out
      | with_reducible exact HK.out _ HBc.out
      | with_reducible exact HK.out _ HBd.out
      | with_reducible exact HK.out _ HBs.out
      | with_reducible exact HK.out _ HBe.out
      | with_reducible exact HK.out _ HBf.out)
    (first
      | (go_at_call 8; refine (G1.out _).mono ?_; rintro e wa ⟨rfl, hba⟩; have HBa := Lib.hid (BD.out.trans (hba.mono BD.out.size)); clear hba)
      | (go_at_call 9; refine (G2.out _).mono ?_; rintro e wb ⟨rfl, hwb⟩; have HBb := Lib.hid (show Below W5.heap.size W5 wb by rw [hwb]; exact HBa.out.alloc HBa.out.size _); clear hwb)
      | (go_at_call 11; refine (P1.out _ (TB.out _ HBb.out)).mono ?_; rintro e wc ⟨v1, rfl, hs1, hbc⟩; have HBc := Lib.hid (HBb.out.trans (hbc.mono HBb.out.size)); have HS1 := Lib.hid hs1; clear hbc hs1)
      | (go_at_call 12; have _q := HBe; refine (P2.out _).mono ?_; rintro e wf ⟨v3, rfl, hs3, hbf⟩; have HBf := Lib.hid (HBe.out.trans (hbf.mono HBe.out.size)); have HS3 := Lib.hid hs3; clear hbf hs3)
      | (go_at_call 12; refine (P2.out _).mono ?_; rintro e wd ⟨v2, rfl, hs2, hbd⟩; have HBd := Lib.hid (HBc.out.trans (hbd.mono HBc.out.size)); have HS2 := Lib.hid hs2; have HS1d := Lib.hid (show Ss wd v1 pl from Vs.keep HS1.out hbd); clear hbd hs2)
      | (go_at_call 10; refine (SM.out v1 v2 wd HS1d.out HS2.out).mono ?_; rintro e ws ⟨rfl, qs, hws⟩; have HBs := Lib.hid (show Below W5.heap.size W5 ws by rw [hws]; exact below_drewN HBd.out qs); clear hws)
      | (go_at_call 13; refine (S1.out _ (TB.out _ HBs.out)).mono ?_; rintro e we ⟨rfl, hbe⟩; have HBe := Lib.hid (HBs.out.trans (hbe.mono HBs.out.size)); clear hbe)
      | (go_at_call 14; refine (S2.out v3 wf HS3.out).mono ?_; rintro e wg ⟨rfl, rfl⟩))
  all_goals
    have hb9 := HB7.out.trans (HBf.out.mono HB7.out.size)
    clear HBa HBb HBc HBd HBs HBe HBf
    go_wp2
    go_ret
    exact ⟨by first | rfl | simp, hb9⟩
end Go.Proofs.YtmfcfkmkmlcepaaGreatDoor
