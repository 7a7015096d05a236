/- Layouts: RenderSame's walk, given what render.Pieces and alive do. -/
import Derived.Test.YtehofomfblfhaaaYSmall
import Derived.Test.YtehofomfblfhaaaTSize
import Derived.Test.YtehofomfblfhaaaTJoins
namespace Go.Proofs.Ytehofomfblfhaaa
open Go.RowKit
set_option linter.unusedVariables false
set_option linter.unusedSimpArgs false

/-- What is wanted of render.Pieces: the page's own pieces. -/
def PieC : Prop := ∀ (k f : Int) (s : ByteArray) (kids : Fo) (v : Value) (zw zi : Int) (width indent : Nat) (w : World), FoS w v kids → s.size + 1 + FoSz kids ≤ 100000 → FoN kids ≤ 99000 → capZ zw 1 1000 = (width : Int) → capZ zi 0 16 = (indent : Int) →
  Calls Try.prog 12 #[.agg (dv k f s v), .int .i64 zw, .int .i64 zi] w (RnP w (renP k f s kids width indent))
def AliveC : Prop := ∀ w, Calls Try.prog 10 #[] w fun e w' => e = .returned (.bool true) ∧ Below w.heap.size w w'
theorem cap_nat (z a b : Int) (ha : 0 ≤ a) (hab : a ≤ b) : ∃ n : Nat, capZ z a b = (n : Int) ∧ (n : Int) ≤ b := by
  unfold capZ
  split
  · exact ⟨a.toNat, by omega, by omega⟩
  · split
    · exact ⟨b.toNat, by omega, by omega⟩
    · exact ⟨z.toNat, by omega, by omega⟩
theorem same_renP (k f : Int) (s : ByteArray) (kids : Fo) (w i w' i' : Nat) : notBk (renP k f s kids w i) = notBk (renP k f s kids w' i') := by
  unfold renP
  split
  · exact same_texts w i w' i' k f s kids
  · rfl
set_option maxRecDepth 100000 in
set_option maxHeartbeats 8000000 in
theorem rsame_walk (PC : PieC) (AC : AliveC) (k0 f0 : Int) (s0 : ByteArray) (v0 : Value) (L0 : Fo) (a b i k : Int) (w : World) (hv0 : FoS w v0 L0) :
    Calls Try.prog 5 #[.agg (dv k0 f0 s0 v0), .int .i64 a, .int .i64 b, .int .i64 i, .int .i64 k] w fun e w' => e = .returned (.bool true) ∧ Below w.heap.size w w' := by
  obtain ⟨x0, y0, h0s⟩ := hv0.slice
  obtain ⟨n0, hn0⟩ : ∃ n, L0.len = n := ⟨_, rfl⟩
  rw [hn0] at h0s
  subst h0s
  have b0 := Lib.hid ((Below.refl w.heap.size w).alloc (Nat.le_refl _) (.cells #[.int .i64 k0, .int .i64 f0, .string s0, .slice x0 n0 y0] 24))
  have dA0 := Lib.hid (DB.new w #[.int .i64 k0, .int .i64 f0, .string s0, .slice x0 n0 y0])
  obtain ⟨W0, hW0⟩ : ∃ W, w.alloc (.cells #[.int .i64 k0, .int .i64 f0, .string s0, .slice x0 n0 y0] 24) = W := ⟨_, rfl⟩
  rw [hW0] at b0 dA0
  have HW0 := Lib.hid hW0
  have AL := Lib.hid (AC W0)
  have FA := Lib.hid (fun W (h : Below w.heap.size w W) => few_any k0 f0 s0 L0 _ W (hv0.keep h))
  have FS0 := Lib.hid (fun W (h : Below w.heap.size w W) => hv0.keep h)
  have HPC := Lib.hid PC
  clear hv0 hn0 hW0 PC AC
  unfold dv at FA ⊢
  by_cases c0 : sizeD s0 L0 0 ≤ 300
  case neg =>
    rw [decide_eq_false c0] at FA
    go_enter Try.func5, Try.ntmps5
    go_upto_region 1 with fail
    rw [HW0.out]
    go_wp2_with fail
    refine (AL.out).mono ?_
    rintro e w1 ⟨rfl, hb1⟩
    have d1 := b0.out.trans (hb1.mono b0.out.size)
    obtain ⟨g0, g1, g2, g3⟩ := (dA0.out.keep hb1 dA0.out.lt).four
    go_wp2_with fail
    refine (FA.out _ d1).mono ?_
    rintro e w2 ⟨rfl, hb2⟩
    have d2 := d1.trans (hb2.mono d1.size)
    clear hb1 hb2 d1
    go_wp2
    go_ret
    exact ⟨rfl, d2⟩
  rw [decide_eq_true c0] at FA
  obtain ⟨e0, e1, e2⟩ := few_small c0
  obtain ⟨na, ea, -⟩ := cap_nat a 1 1000 (by omega) (by omega)
  obtain ⟨nb, eb, -⟩ := cap_nat b 1 1000 (by omega) (by omega)
  obtain ⟨ni, ei, hi⟩ := cap_nat i 0 16 (by omega) (by omega)
  obtain ⟨nk, ek, hk⟩ := cap_nat k 0 16 (by omega) (by omega)
  have PA := Lib.hid (fun W (h : Below w.heap.size w W) => HPC.out k0 f0 s0 L0 _ a i na ni W (FS0.out W h) (by omega) (by omega) ea ei)
  have PB := Lib.hid (fun W (h : Below w.heap.size w W) => HPC.out k0 f0 s0 L0 _ b k nb nk W (FS0.out W h) (by omega) (by omega) eb ek)
  obtain ⟨sa1, sa2⟩ := renP_small k0 f0 s0 L0 na ni (by omega) (by omega) (by omega)
  obtain ⟨sb1, sb2⟩ := renP_small k0 f0 s0 L0 nb nk (by omega) (by omega) (by omega)
  have EQ := Lib.hid (same_renP k0 f0 s0 L0 na ni nb nk)
  obtain ⟨la, hla⟩ : ∃ l, renP k0 f0 s0 L0 na ni = l := ⟨_, rfl⟩
  obtain ⟨lb, hlb⟩ : ∃ l, renP k0 f0 s0 L0 nb nk = l := ⟨_, rfl⟩
  rw [hla] at PA sa1 sa2 EQ
  rw [hlb] at PB sb1 sb2 EQ
  have SA1 := Lib.hid sa1
  have SA2 := Lib.hid sa2
  have SB1 := Lib.hid sb1
  have SB2 := Lib.hid sb2
  clear hla hlb sa1 sa2 sb1 sb2 ea eb ei ek hi hk e0 e1 e2
  unfold dv at PA PB
  go_enter Try.func5, Try.ntmps5
  go_upto_region 1 with fail
  rw [HW0.out]
  go_wp2_with fail
  refine (AL.out).mono ?_
  rintro e w1 ⟨rfl, hb1⟩
  have d1 := b0.out.trans (hb1.mono b0.out.size)
  have dA1 := Lib.hid (dA0.out.keep hb1 dA0.out.lt)
  obtain ⟨g0, g1, g2, g3⟩ := dA1.out.four
  go_wp2_with fail
  refine (FA.out _ d1).mono ?_
  rintro e w2 ⟨rfl, hb2⟩
  have d2 := d1.trans (hb2.mono d1.size)
  have dA2 := Lib.hid (dA1.out.keep hb2 dA1.out.lt)
  clear g0 g1 g2 g3
  obtain ⟨g0, g1, g2, g3⟩ := dA2.out.four
  go_wp2_with fail
  refine (PA.out _ d2).mono ?_
  rintro e w3 ⟨u3, rfl, hu3, hb3⟩
  have d3 := d2.trans (hb3.mono d2.size)
  have dA3 := Lib.hid (dA2.out.keep hb3 dA2.out.lt)
  clear g0 g1 g2 g3
  obtain ⟨g0, g1, g2, g3⟩ := dA3.out.four
  go_wp2_with fail
  refine (texts_any la u3 w3 hu3.vs SA1.out SA2.out).mono ?_
  rintro e w4 ⟨u4, rfl, hu4, hb4⟩
  have d4 := d3.trans (hb4.mono d3.size)
  have dA4 := Lib.hid (dA3.out.keep hb4 dA3.out.lt)
  clear g0 g1 g2 g3
  obtain ⟨g0, g1, g2, g3⟩ := dA4.out.four
  go_wp2_with fail
  refine (PB.out _ d4).mono ?_
  rintro e w5 ⟨u5, rfl, hu5, hb5⟩
  have d5 := d4.trans (hb5.mono d4.size)
  have hu45 := hu4.keep hb5
  go_wp2_with fail
  refine (texts_any lb u5 w5 hu5.vs SB1.out SB2.out).mono ?_
  rintro e w6 ⟨u6, rfl, hu6, hb6⟩
  have d6 := d5.trans (hb6.mono d5.size)
  have hu46 := hu45.keep hb6
  rw [← EQ.out] at hu6
  go_wp2_with fail
  refine (samep_any _ u4 u6 w6 hu46 hu6).mono ?_
  rintro e w7 ⟨rfl, hb7⟩
  have d7 := d6.trans (hb7.mono d6.size)
  go_wp2
  go_ret
  exact ⟨rfl, d7⟩
end Go.Proofs.Ytehofomfblfhaaa
