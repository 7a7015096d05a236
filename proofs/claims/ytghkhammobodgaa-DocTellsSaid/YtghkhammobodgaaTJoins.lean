/- The walk of DocJoins. -/
import Derived.Test.YtghkhammobodgaaTCat2
import Derived.Test.YtghkhammobodgaaTDoc6
import Derived.Test.YtghkhammobodgaaTRef2
import Derived.Test.YtghkhammobodgaaTSize
namespace Go.Proofs.Ytghkhammobodgaa
open Go.RowKit
set_option linter.unusedVariables false
set_option linter.unusedSimpArgs false

theorem DB.four {w : World} {b : Nat} {c0 c1 c2 c3 : Value} (h : DB w b #[c0, c1, c2, c3]) : w.cell? ⟨b, 0, none⟩ = some c0 ∧ w.cell? ⟨b, 1, none⟩ = some c1 ∧ w.cell? ⟨b, 2, none⟩ = some c2 ∧ w.cell? ⟨b, 3, none⟩ = some c3 :=
  ⟨h.cell 0, h.cell 1, h.cell 2, h.cell 3⟩
/-- Two documents. -/
def Fo.two (k0 f0 : Int) (s0 : ByteArray) (L0 : Fo) (k1 f1 : Int) (s1 : ByteArray) (L1 : Fo) : Fo := .cons k0 f0 s0 L0 (.cons k1 f1 s1 L1 .nil)
theorem pair_fos {W : World} {k0 f0 k1 f1 : Int} {s0 s1 : ByteArray} {v0 v1 : Value} {L0 L1 : Fo} (h0 : FoS W v0 L0) (h1 : FoS W v1 L1) (z0 : s0.size ≤ 100) (z1 : s1.size ≤ 100) :
    FoS (W.alloc (.cells #[.int .i64 k0, .int .i64 f0, .string s0, v0, .int .i64 k1, .int .i64 f1, .string s1, v1] 24)) (.slice (some ⟨W.heap.size, 0, none⟩) 2 2) (Fo.two k0 f0 s0 L0 k1 f1 s1 L1) := by
  have b := (Below.refl W.heap.size W).alloc (Nat.le_refl _) (.cells #[.int .i64 k0, .int .i64 f0, .string s0, v0, .int .i64 k1, .int .i64 f1, .string s1, v1] 24)
  have g0 := h0.keep b
  have g1 := h1.keep b
  refine ⟨_, 2, rfl, (by show 2 ≤ 2; omega), by decide, by simp, fun _ => ⟨W.heap.size, 0, rfl, by simp, ?_⟩⟩
  have hc : ∀ j, (W.alloc (.cells #[.int .i64 k0, .int .i64 f0, .string s0, v0, .int .i64 k1, .int .i64 f1, .string s1, v1] 24)).cell? ⟨W.heap.size, j, none⟩ = #[.int .i64 k0, .int .i64 f0, .string s0, v0, .int .i64 k1, .int .i64 f1, .string s1, v1][j]? := fun j => World.cell?_alloc_at _ _ _ _ rfl
  obtain ⟨a0, c0, rfl, p1, p2, p3, p4⟩ := g0
  obtain ⟨a1, c1, rfl, q1, q2, q3, q4⟩ := g1
  exact ⟨⟨by unfold maxLen; omega, hc 0, hc 1, hc 2, a0, c0, hc 3, p1, p2, p3, p4⟩, ⟨by unfold maxLen; omega, hc 4, hc 5, hc 6, a1, c1, hc 7, q1, q2, q3, q4⟩, trivial⟩
/-- What doc.Flat gives, by its two ways. -/
theorem flatV_ways (k f : Int) (s : ByteArray) (L : Fo) : (∃ t, flatV k f s L = .tuple #[.string (bytes t), .bool true] ∧ flatD k s L = (t, true) ∧ rightD k f s L 200 = true) ∨ (flatV k f s L = .tuple #[.string ⟨#[]⟩, .bool false] ∧ ¬ (rightD k f s L 200 = true ∧ (flatD k s L).2 = true)) := by
  unfold flatV
  by_cases h : rightD k f s L 200 = true ∧ (flatD k s L).2 = true
  · rw [if_pos h]
    exact .inl ⟨_, rfl, Prod.ext rfl h.2, h.1⟩
  · rw [if_neg h]
    exact .inr ⟨rfl, h⟩
theorem flat_two (k0 f0 : Int) (s0 : ByteArray) (L0 : Fo) (k1 f1 : Int) (s1 : ByteArray) (L1 : Fo) (t0 t1 : List UInt8) (h0 : flatD k0 s0 L0 = (t0, true)) (h1 : flatD k1 s1 L1 = (t1, true)) : flatF (Fo.two k0 f0 s0 L0 k1 f1 s1 L1) = (t0 ++ t1, true) := by
  unfold Fo.two
  rw [flatF_cons, h0, if_pos rfl, flatF_cons, h1, if_pos rfl]
  simp [flatF]
theorem kid_flat (kind : Int) (hk : 5 ≤ kind) (P : Fo) : flatD kind ⟨#[]⟩ P = flatF P := by
  unfold flatD; rw [if_neg (by omega), if_neg (by omega), if_neg (by omega)]
set_option maxRecDepth 100000 in
set_option maxHeartbeats 8000000 in
theorem djoins_walk (k0 f0 : Int) (s0 : ByteArray) (v0 : Value) (L0 : Fo) (k1 f1 : Int) (s1 : ByteArray) (v1 : Value) (L1 : Fo) (kind : Int) (w : World) (hv0 : FoS w v0 L0) (hv1 : FoS w v1 L1) :
    Calls Try.prog 4 #[.agg (dv k0 f0 s0 v0), .agg (dv k1 f1 s1 v1), .int .i64 kind] w fun e w' => e = .returned (.bool true) ∧ Below w.heap.size w w' := by
  obtain ⟨x0, y0, h0s⟩ := hv0.slice
  obtain ⟨x1, y1, h1s⟩ := hv1.slice
  obtain ⟨n0, hn0⟩ : ∃ n, L0.len = n := ⟨_, rfl⟩
  obtain ⟨n1, hn1⟩ : ∃ n, L1.len = n := ⟨_, rfl⟩
  rw [hn0] at h0s
  rw [hn1] at h1s
  subst h0s
  subst h1s
  have b0 := Lib.hid (((Below.refl w.heap.size w).alloc (Nat.le_refl _) (.cells #[.int .i64 k0, .int .i64 f0, .string s0, .slice x0 n0 y0] 24)).alloc (by simp) (.cells #[.int .i64 k1, .int .i64 f1, .string s1, .slice x1 n1 y1] 24))
  have dA0 := Lib.hid (DB.keep (DB.new w #[.int .i64 k0, .int .i64 f0, .string s0, .slice x0 n0 y0]) ((Below.refl _ _).alloc (Nat.le_refl _) (.cells #[.int .i64 k1, .int .i64 f1, .string s1, .slice x1 n1 y1] 24)) (by simp : w.heap.size < (w.alloc (.cells #[.int .i64 k0, .int .i64 f0, .string s0, .slice x0 n0 y0] 24)).heap.size))
  have dB0 := Lib.hid (DB.new (w.alloc (.cells #[.int .i64 k0, .int .i64 f0, .string s0, .slice x0 n0 y0] 24)) #[.int .i64 k1, .int .i64 f1, .string s1, .slice x1 n1 y1])
  obtain ⟨W0, hW0⟩ : ∃ W, (w.alloc (.cells #[.int .i64 k0, .int .i64 f0, .string s0, .slice x0 n0 y0] 24)).alloc (.cells #[.int .i64 k1, .int .i64 f1, .string s1, .slice x1 n1 y1] 24) = W := ⟨_, rfl⟩
  have hz : (w.alloc (.cells #[.int .i64 k0, .int .i64 f0, .string s0, .slice x0 n0 y0] 24)).heap.size = w.heap.size + 1 := by simp
  have z0 := Lib.hid (show W0.heap.size = w.heap.size + 2 by rw [← hW0]; simp)
  rw [hz] at dB0
  rw [hW0] at b0 dA0 dB0
  have HW0 := Lib.hid hW0
  have AL := Lib.hid (alive_any W0)
  have FA := Lib.hid (fun W (h : Below w.heap.size w W) => few_any k0 f0 s0 L0 _ W (hv0.keep h))
  have FB := Lib.hid (fun W (h : Below w.heap.size w W) => few_any k1 f1 s1 L1 _ W (hv1.keep h))
  have FS0 := Lib.hid (fun W (h : Below w.heap.size w W) => hv0.keep h)
  have FS1 := Lib.hid (fun W (h : Below w.heap.size w W) => hv1.keep h)
  clear hv0 hv1 hn0 hn1 hW0 hz
  unfold dv at FA FB ⊢
  by_cases c0 : sizeD s0 L0 0 ≤ 300
  case neg =>
    rw [decide_eq_false c0] at FA
    go_enter Try.func4, Try.ntmps4
    go_upto_region 1 with fail
    rw [HW0.out]
    go_wp2_with fail
    refine (AL.out).mono ?_
    rintro e w1 ⟨rfl, hb1⟩
    have d1 := b0.out.trans (hb1.mono b0.out.size)
    obtain ⟨g0, g1, g2, g3⟩ := (dA0.out.keep hb1 (by have := z0.out; omega)).four
    go_wp2_with fail
    refine (FA.out _ d1).mono ?_
    rintro e w2 ⟨rfl, hb2⟩
    have d2 := d1.trans (hb2.mono d1.size)
    clear hb1 hb2 d1
    go_wp2
    go_ret
    exact ⟨rfl, d2⟩
  rw [decide_eq_true c0] at FA
  by_cases c1 : sizeD s1 L1 0 ≤ 300
  case neg =>
    rw [decide_eq_false c1] at FB
    go_enter Try.func4, Try.ntmps4
    go_upto_region 1 with fail
    rw [HW0.out]
    go_wp2_with fail
    refine (AL.out).mono ?_
    rintro e w1 ⟨rfl, hb1⟩
    have d1 := b0.out.trans (hb1.mono b0.out.size)
    have dA1 := dA0.out.keep hb1 (by have := z0.out; omega)
    have dB1 := dB0.out.keep hb1 (by have := z0.out; omega)
    obtain ⟨g0, g1, g2, g3⟩ := dA1.four
    go_wp2_with fail
    refine (FA.out _ d1).mono ?_
    rintro e w2 ⟨rfl, hb2⟩
    have d2 := d1.trans (hb2.mono d1.size)
    obtain ⟨g4, g5, g6, g7⟩ := (dB1.keep hb2 dB1.lt).four
    go_wp2_with fail
    refine (FB.out _ d2).mono ?_
    rintro e w3 ⟨rfl, hb3⟩
    have d3 := d2.trans (hb3.mono d2.size)
    clear hb1 hb2 hb3 d1 d2
    go_wp2
    go_ret
    exact ⟨rfl, d3⟩
  rw [decide_eq_true c1] at FB
  by_cases ck : kind < 5 ∨ 7 < kind
  case pos =>
    by_cases ck1 : kind < 5
    all_goals (
      go_enter Try.func4, Try.ntmps4
      go_upto_region 1 with fail
      rw [HW0.out]
      go_wp2_with fail
      refine (AL.out).mono ?_
      rintro e w1 ⟨rfl, hb1⟩
      have d1 := b0.out.trans (hb1.mono b0.out.size)
      have dA1 := dA0.out.keep hb1 (by have := z0.out; omega)
      have dB1 := dB0.out.keep hb1 (by have := z0.out; omega)
      obtain ⟨g0, g1, g2, g3⟩ := dA1.four
      go_wp2_with fail
      refine (FA.out _ d1).mono ?_
      rintro e w2 ⟨rfl, hb2⟩
      have d2 := d1.trans (hb2.mono d1.size)
      obtain ⟨g4, g5, g6, g7⟩ := (dB1.keep hb2 dB1.lt).four
      go_wp2_with fail
      refine (FB.out _ d2).mono ?_
      rintro e w3 ⟨rfl, hb3⟩
      have d3 := d2.trans (hb3.mono d2.size)
      clear hb1 hb2 hb3 d1 d2
      have ck2 : 7 < kind ∨ kind < 5 := ck.symm
      (try have ck3 : 7 < kind := by omega)
      clear ck ck2
      go_wp2
      go_ret
      exact ⟨rfl, d3⟩)
  have ck1 : ¬ kind < 5 := by omega
  have ck2 : ¬ 7 < kind := by omega
  have HK := Lib.hid (show 5 ≤ kind by omega)
  obtain ⟨e0, e1, e2⟩ := few_small c0
  obtain ⟨e3, e4, e5⟩ := few_small c1
  have XA := Lib.hid (fun W (h : Below w.heap.size w W) => flatT_any k0 f0 s0 L0 _ W (FS0.out W h) (by omega))
  have XB := Lib.hid (fun W (h : Below w.heap.size w W) => flatT_any k1 f1 s1 L1 _ W (FS1.out W h) (by omega))
  obtain ⟨P, hP⟩ : ∃ P, Fo.two k0 f0 s0 L0 k1 f1 s1 L1 = P := ⟨_, rfl⟩
  have PF := Lib.hid (fun W (h : Below w.heap.size w W) => pair_fos (k0 := k0) (f0 := f0) (k1 := k1) (f1 := f1) (FS0.out W h) (FS1.out W h) e2 e5)
  have hPN : FoN P ≤ 1000 := by rw [← hP]; simp only [Fo.two, FoN]; omega
  have hPS : (⟨#[]⟩ : ByteArray).size + 1 + FoSz P ≤ 1000000 := by rw [← hP]; simp only [Fo.two, FoSz]; have : (⟨#[]⟩ : ByteArray).size = 0 := rfl; omega
  rw [hP] at PF
  have CT := Lib.hid (fun v W (h : FoS W v P) => catT kind v P W h hPN)
  have XC := Lib.hid (fun v W (h : FoS W v P) => flatT_any kind 0 ⟨#[]⟩ P v W h hPS)
  have RR := Lib.hid (fun v W (h : FoS W v P) => refright_any kind 0 ⟨#[]⟩ P v W h)
  have HSA : Hid (∀ t, flatD k0 s0 L0 = (t, true) → (bytes t).size ≤ 30300) := Lib.hid fun t h => by have := flatD_len k0 s0 L0; rw [h] at this; rw [bytes_size]; simp only at this; omega
  have HSB : Hid (∀ t, flatD k1 s1 L1 = (t, true) → (bytes t).size ≤ 30300) := Lib.hid fun t h => by have := flatD_len k1 s1 L1; rw [h] at this; rw [bytes_size]; simp only at this; omega
  have HTW := Lib.hid (fun t0 t1 (h0 : flatD k0 s0 L0 = (t0, true)) (h1 : flatD k1 s1 L1 = (t1, true)) => hP ▸ flat_two k0 f0 s0 L0 k1 f1 s1 L1 t0 t1 h0 h1)
  have WA := flatV_ways k0 f0 s0 L0
  have WB := flatV_ways k1 f1 s1 L1
  have WC := flatV_ways kind 0 ⟨#[]⟩ P
  rw [kid_flat kind HK.out P] at WC
  unfold dv at XA XB CT XC RR
  obtain ⟨RA, hRA⟩ : ∃ x, flatV k0 f0 s0 L0 = x := ⟨_, rfl⟩
  obtain ⟨RB, hRB⟩ : ∃ x, flatV k1 f1 s1 L1 = x := ⟨_, rfl⟩
  obtain ⟨RC, hRC⟩ : ∃ x, flatV kind 0 ⟨#[]⟩ P = x := ⟨_, rfl⟩
  rw [hRA] at XA WA
  rw [hRB] at XB WB
  rw [hRC] at XC WC
  obtain ⟨xs, xb, hxx⟩ : ∃ xs xb, RA = .tuple #[.string xs, .bool xb] := by rcases WA with ⟨t, h, -⟩ | ⟨h, -⟩ <;> exact ⟨_, _, h⟩
  obtain ⟨ys, yb, hyy⟩ : ∃ xs xb, RB = .tuple #[.string xs, .bool xb] := by rcases WB with ⟨t, h, -⟩ | ⟨h, -⟩ <;> exact ⟨_, _, h⟩
  obtain ⟨zs, zb, hzz⟩ : ∃ xs xb, RC = .tuple #[.string xs, .bool xb] := by rcases WC with ⟨t, h, -⟩ | ⟨h, -⟩ <;> exact ⟨_, _, h⟩
  rw [hxx] at XA WA
  rw [hyy] at XB WB
  rw [hzz] at XC WC
  obtain ⟨rb, hrb⟩ : ∃ b, rightD kind 0 ⟨#[]⟩ P 200 = b := ⟨_, rfl⟩
  rw [hrb] at RR WC
  have HWA := Lib.hid WA
  have HWB := Lib.hid WB
  have HWC := Lib.hid WC
  clear c0 c1 ck e0 e1 e2 e3 e4 e5 hP hPN hPS WA WB WC hRA hRB hRC hxx hyy hzz hrb
  go_enter Try.func4, Try.ntmps4
  go_upto_region 1 with fail
  rw [HW0.out]
  go_wp2_with fail
  refine (AL.out).mono ?_
  rintro e w1 ⟨rfl, hb1⟩
  have d1 := b0.out.trans (hb1.mono b0.out.size)
  have dA1 := dA0.out.keep hb1 (by have := z0.out; omega)
  have dB1 := dB0.out.keep hb1 (by have := z0.out; omega)
  obtain ⟨g0, g1, g2, g3⟩ := dA1.four
  go_wp2_with fail
  refine (FA.out _ d1).mono ?_
  rintro e w2 ⟨rfl, hb2⟩
  have d2 := d1.trans (hb2.mono d1.size)
  have dA2 := dA1.keep hb2 dA1.lt
  have dB2 := dB1.keep hb2 dB1.lt
  obtain ⟨g4, g5, g6, g7⟩ := dB2.four
  clear hb1 d1 dA1 dB1 g0 g1 g2 g3
  go_wp2_with fail
  refine (FB.out _ d2).mono ?_
  rintro e w3 ⟨rfl, hb3⟩
  have d3 := d2.trans (hb3.mono d2.size)
  have dA3 := dA2.keep hb3 dA2.lt
  have dB3 := dB2.keep hb3 dB2.lt
  obtain ⟨g0, g1, g2, g3⟩ := dA3.four
  clear hb2 d2 dA2 dB2 g4 g5 g6 g7 hb3
  go_wp2_with fail
  refine (XA.out _ d3).mono ?_
  rintro e w4 ⟨rfl, hb4⟩
  have d4 := d3.trans (hb4.mono d3.size)
  have dA4 := dA3.keep hb4 dA3.lt
  have dB4 := dB3.keep hb4 dB3.lt
  obtain ⟨g4, g5, g6, g7⟩ := dB4.four
  clear d3 dA3 dB3 g0 g1 g2 g3 hb4
  go_wp2_with fail
  refine (XB.out _ d4).mono ?_
  rintro e w5 ⟨rfl, hb5⟩
  have d5 := d4.trans (hb5.mono d4.size)
  have dA5 := dA4.keep hb5 dA4.lt
  have dB5 := dB4.keep hb5 dB4.lt
  obtain ⟨g0, g1, g2, g3⟩ := dA5.four
  obtain ⟨p4, p5, p6, p7⟩ := dB5.four
  have q5 := d5.alloc d5.size (.cells #[.int .i64 k0, .int .i64 f0, .string s0, .slice x0 n0 y0, .int .i64 k1, .int .i64 f1, .string s1, .slice x1 n1 y1] 24)
  have Q5 := Lib.hid q5
  have DA5 := Lib.hid dA5
  have DB5 := Lib.hid dB5
  have PF5 := Lib.hid (PF.out _ d5)
  have B5 := Lib.hid ((Below.refl w5.heap.size w5).alloc (Nat.le_refl _) (.cells #[.int .i64 k0, .int .i64 f0, .string s0, .slice x0 n0 y0, .int .i64 k1, .int .i64 f1, .string s1, .slice x1 n1 y1] 24))
  clear d4 dA4 dB4 g4 g5 g6 g7 hb5 q5 d5 dA5 dB5
  go_wp2_with fail
  refine (CT.out _ _ PF5.out).mono ?_
  rintro e w6 ⟨v6, rfl, hv6, hb6⟩
  have d6 := Lib.hid (Q5.out.trans (hb6.mono Q5.out.size))
  have dA6 := Lib.hid ((DA5.out.keep B5.out DA5.out.lt).keep hb6 (Nat.lt_of_lt_of_le DA5.out.lt B5.out.size))
  have dB6 := Lib.hid ((DB5.out.keep B5.out DB5.out.lt).keep hb6 (Nat.lt_of_lt_of_le DB5.out.lt B5.out.size))
  clear hb6
  go_wp2_with fail
  refine (XC.out _ _ hv6).mono ?_
  rintro e w7 ⟨rfl, hb7⟩
  have d7 := d6.out.trans (hb7.mono d6.out.size)
  have dA7 := dA6.out.keep hb7 dA6.out.lt
  have dB7 := dB6.out.keep hb7 dB6.out.lt
  obtain ⟨r0, r1, r2, r3⟩ := dA7.four
  obtain ⟨r4, r5, r6, r7⟩ := dB7.four
  have q7 := d7.alloc d7.size (.cells #[.int .i64 k0, .int .i64 f0, .string s0, .slice x0 n0 y0, .int .i64 k1, .int .i64 f1, .string s1, .slice x1 n1 y1] 24)
  have Q7 := Lib.hid q7
  have D7 := Lib.hid d7
  have PF7 := Lib.hid (PF.out _ d7)
  clear hb7 hv6 d7 dA7 dB7 q7 g0 g1 g2 g3 p4 p5 p6 p7
  rcases HWA.out with ⟨t0, ha1, ha2, ha3⟩ | ⟨ha1, -⟩
  · obtain ⟨rfl, rfl⟩ : xs = bytes t0 ∧ xb = true := by simpa using ha1
    rcases HWB.out with ⟨t1, hb1, hb2, hb3⟩ | ⟨hb1, -⟩
    · obtain ⟨rfl, rfl⟩ : ys = bytes t1 ∧ yb = true := by simpa using hb1
      have HF := Lib.hid (HTW.out t0 t1 ha2 hb2)
      have sz0 : (bytes t0).size ≤ 30300 := HSA.out t0 ha2
      have sz1 : (bytes t1).size ≤ 30300 := HSB.out t1 hb2
      have PA := fun W => run_string_add_sum (P := Try.prog) W (bytes t0) (bytes t1) (by omega)
      rw [bytes_addT] at PA
      cases rb with
      | true =>
        rcases HWC.out with ⟨t, hc1, hc2, -⟩ | ⟨-, hc2⟩
        · have ht : t = t0 ++ t1 := by rw [HF.out] at hc2; exact (congrArg Prod.fst hc2).symm
          subst ht
          obtain ⟨rfl, rfl⟩ : zs = bytes (t0 ++ t1) ∧ zb = true := by simpa using hc1
          obtain ⟨A0, hA0⟩ : ∃ A, bytes t0 = A := ⟨_, rfl⟩
          obtain ⟨A1, hA1⟩ : ∃ A, bytes t1 = A := ⟨_, rfl⟩
          obtain ⟨Z, hZ⟩ : ∃ A, bytes (t0 ++ t1) = A := ⟨_, rfl⟩
          rw [hA0, hA1, hZ] at PA
          rw [hA0, hA1, hZ]
          have t5 : (Z.toList == Z.toList) = true := by simp
          clear HF HTW HWA HWB HWC HSA HSB ha1 ha2 ha3 hb1 hb2 hb3 hc1 hc2 hA0 hA1 hZ sz0 sz1
          go_wp2_with fail
          refine (RR.out _ _ PF7.out).mono ?_
          rintro e w8 ⟨rfl, hb8⟩
          have d8 := Q7.out.trans (hb8.mono Q7.out.size)
          clear hb8
          go_wp2
          go_ret
          exact ⟨rfl, d8⟩
        · exact absurd ⟨rfl, by rw [HF.out]⟩ hc2
      | false =>
        rcases HWC.out with ⟨t, -, -, hc⟩ | ⟨hc1, -⟩
        · exact absurd hc (by simp)
        · obtain ⟨rfl, rfl⟩ : zs = ⟨#[]⟩ ∧ zb = false := by simpa using hc1
          clear HF HTW HWA HWB HWC HSA HSB ha1 ha2 ha3 hb1 hb2 hb3 hc1 sz0 sz1 PA
          go_wp2_with fail
          refine (RR.out _ _ PF7.out).mono ?_
          rintro e w8 ⟨rfl, hb8⟩
          have d8 := Q7.out.trans (hb8.mono Q7.out.size)
          clear hb8
          go_wp2
          go_ret
          exact ⟨rfl, d8⟩
    · obtain ⟨rfl, rfl⟩ : ys = ⟨#[]⟩ ∧ yb = false := by simpa using hb1
      obtain ⟨A0, hA0⟩ : ∃ A, bytes t0 = A := ⟨_, rfl⟩
      rw [hA0]
      clear ha1 ha2 ha3 hb1 hA0
      by_cases hs : A0.size = 0
      · have t5 : ((A0.size : Int) == 0) = true := by simp [hs]
        clear hs
        as_aux_lemma =>
          go_wp2
          go_ret
          exact ⟨rfl, D7.out⟩
      · have t5 : ((A0.size : Int) == 0) = false := beq_eq_false_iff_ne.2 (by omega)
        clear hs
        as_aux_lemma =>
          go_wp2
          go_ret
          exact ⟨rfl, D7.out⟩
  · obtain ⟨rfl, rfl⟩ : xs = ⟨#[]⟩ ∧ xb = false := by simpa using ha1
    clear ha1
    as_aux_lemma =>
      go_wp2
      go_ret
      exact ⟨rfl, D7.out⟩
end Go.Proofs.Ytghkhammobodgaa
