/- Several texts of ours in one: YNest YNestW. -/
import Derived.Test.YtehofomfblfhaaaYSmall
import Derived.Test.YtehofomfblfhaaaYSame
import Derived.Test.YtehofomfblfhaaaYAlive
/- Layouts: RenderNest, plain. -/
namespace Go.Proofs.Ytehofomfblfhaaa
open Go.RowKit
set_option linter.unusedVariables false
set_option linter.unusedSimpArgs false

theorem rightF_one (k f : Int) (s : ByteArray) (kids : Fo) (d : Nat) : rightF (Fo.one k f s kids) d = rightD k f s kids d := rfl
theorem rightF_up (L : Fo) : ∀ d, rightF L d = true → rightF L (d + 1) = true := by
  induction L with
  | nil => intros; rfl
  | cons k f s kids rest ih1 ih2 =>
    intro d h
    have split1 : ∀ d, rightF (.cons k f s kids rest) d = (rightD k f s kids d && rightF rest d) := by
      intro d; rw [rightD_is]; rfl
    rw [split1] at h ⊢
    obtain ⟨h1, h2⟩ := Bool.and_eq_true_iff.1 h
    refine Bool.and_eq_true_iff.2 ⟨?_, ih2 d h2⟩
    rw [rightD_is] at h1 ⊢
    split
    · rename_i e; rw [if_pos e] at h1; exact h1
    · rename_i e
      rw [if_neg e] at h1
      split
      · rename_i e2; rw [if_pos e2] at h1; exact h1
      · rename_i e2
        rw [if_neg e2] at h1
        split
        · rename_i e3
          rw [if_pos e3] at h1
          obtain ⟨h3, h4⟩ := Bool.and_eq_true_iff.1 h1
          obtain ⟨h5, h6⟩ := Bool.and_eq_true_iff.1 h3
          have hd : 0 < d := by simpa using h6
          have := ih1 (d - 1) h4
          rw [show d - 1 + 1 = d + 1 - 1 by omega] at this
          exact Bool.and_eq_true_iff.2 ⟨Bool.and_eq_true_iff.2 ⟨h5, by simp⟩, this⟩
        · rename_i e3; rw [if_neg e3] at h1; exact h1
theorem right_six (k : Int) (hk : k = 6 ∨ k = 7) (L : Fo) (d : Nat) : rightD k 0 ⟨#[]⟩ L (d + 1) = rightF L d := by
  rw [rightD_is, if_neg (by omega), if_neg (by omega), if_pos (by omega)]
  simp
/-- RenderNest, plain. -/
theorem nest_plain (k f : Int) (s : ByteArray) (kids : Fo) (t : List UInt8) (ind : Nat) (hr : rightD 7 0 ⟨#[]⟩ (Fo.one 6 0 ⟨#[]⟩ (Fo.one k f s kids)) 200 = true) (ht : flatD k s kids = (t, true)) (hw : wd (bytes t) ≤ 1000) :
    renP 7 0 ⟨#[]⟩ (Fo.one 6 0 ⟨#[]⟩ (Fo.one k f s kids)) 1000 ind = renP 6 0 ⟨#[]⟩ (Fo.one k f s kids) 1000 ind ∧ ptext (renP 6 0 ⟨#[]⟩ (Fo.one k f s kids) 1000 ind) = t := by
  have h1 := hr
  rw [right_six 7 (.inr rfl) _ 199, rightF_one, right_six 6 (.inl rfl) _ 198] at h1
  have h2 : rightD 6 0 ⟨#[]⟩ (Fo.one k f s kids) 200 = true := by
    rw [right_six 6 (.inl rfl) _ 199]
    exact rightF_up _ 198 h1
  have hF : flatF (Fo.one k f s kids) = (t, true) := by rw [flatF_one _ _ _ _ (by rw [ht]), ht]
  have g6 : layD 1000 ind 6 0 ⟨#[]⟩ (Fo.one k f s kids) = flatP (Fo.one k f s kids) := group_fits 1000 ind _ 0 (by rw [hF]) (by rw [hF]; exact hw)
  have g7 : layD 1000 ind 7 0 ⟨#[]⟩ (Fo.one 6 0 ⟨#[]⟩ (Fo.one k f s kids)) = flatP (Fo.one k f s kids) := nest_group 1000 ind _ (by rw [hF]) (by rw [hF]; exact hw)
  unfold renP
  rw [if_pos hr, if_pos h2, g6, g7]
  refine ⟨rfl, ?_⟩
  rw [flat_text _ 198 h1 (by rw [hF]), hF]
/-- RenderCat, plain. -/
theorem cat_plain (a b c : Int × Int × ByteArray × Fo) (w i : Nat) (hx : rightD 5 0 ⟨#[]⟩ (Fo.pair a (5, 0, ⟨#[]⟩, Fo.pair b c)) 200 = true) (hy : rightD 5 0 ⟨#[]⟩ (Fo.pair (5, 0, ⟨#[]⟩, Fo.pair a b) c) 200 = true)
    (hz : rightD 5 0 ⟨#[]⟩ (.cons a.1 a.2.1 a.2.2.1 a.2.2.2 (Fo.pair b c)) 200 = true) :
    renP 5 0 ⟨#[]⟩ (Fo.pair (5, 0, ⟨#[]⟩, Fo.pair a b) c) w i = renP 5 0 ⟨#[]⟩ (Fo.pair a (5, 0, ⟨#[]⟩, Fo.pair b c)) w i ∧ renP 5 0 ⟨#[]⟩ (.cons a.1 a.2.1 a.2.2.1 a.2.2.2 (Fo.pair b c)) w i = renP 5 0 ⟨#[]⟩ (Fo.pair a (5, 0, ⟨#[]⟩, Fo.pair b c)) w i := by
  unfold renP
  rw [if_pos hx, if_pos hy, if_pos hz, cat_left, cat_right, cat_three]
  exact ⟨rfl, rfl⟩
end Go.Proofs.Ytehofomfblfhaaa

/- Layouts: RenderNest's walk, given what render.Pieces and alive do. -/
namespace Go.Proofs.Ytehofomfblfhaaa
open Go.RowKit
set_option linter.unusedVariables false
set_option linter.unusedSimpArgs false

theorem one_fos {W : World} {k0 f0 : Int} {s0 : ByteArray} {v0 : Value} {L0 : Fo} (h0 : FoS W v0 L0) (z0 : s0.size ≤ 100) :
    FoS (W.alloc (.cells #[.int .i64 k0, .int .i64 f0, .string s0, v0] 24)) (.slice (some ⟨W.heap.size, 0, none⟩) 1 1) (Fo.one k0 f0 s0 L0) := by
  have b := (Below.refl W.heap.size W).alloc (Nat.le_refl _) (.cells #[.int .i64 k0, .int .i64 f0, .string s0, v0] 24)
  have g0 := h0.keep b
  refine ⟨_, 1, rfl, (by show 1 ≤ 1; omega), by decide, by simp, fun _ => ⟨W.heap.size, 0, rfl, by simp, ?_⟩⟩
  have hc : ∀ j, (W.alloc (.cells #[.int .i64 k0, .int .i64 f0, .string s0, v0] 24)).cell? ⟨W.heap.size, j, none⟩ = #[.int .i64 k0, .int .i64 f0, .string s0, v0][j]? := fun j => World.cell?_alloc_at _ _ _ _ rfl
  obtain ⟨a0, c0, rfl, p1, p2, p3, p4⟩ := g0
  exact ⟨⟨by unfold maxLen; omega, hc 0, hc 1, hc 2, a0, c0, hc 3, p1, p2, p3, p4⟩, trivial⟩
/-- A document in a new block of its own. -/
def onW (W : World) (k : Int) (f : Int) (s : ByteArray) (v : Value) : World := W.alloc (.cells #[.int .i64 k, .int .i64 f, .string s, v] 24)
theorem onW_below (W : World) (k : Int) (f : Int) (s : ByteArray) (v : Value) : Below W.heap.size W (onW W k f s v) := (Below.refl _ _).alloc (Nat.le_refl _) _
theorem onW_size (W : World) (k : Int) (f : Int) (s : ByteArray) (v : Value) : (onW W k f s v).heap.size = W.heap.size + 1 := by unfold onW; simp
set_option maxRecDepth 100000 in
set_option maxHeartbeats 8000000 in
theorem rnest_walk (PC : PieC) (AC : AliveC) (k0 f0 : Int) (s0 : ByteArray) (v0 : Value) (L0 : Fo) (i : Int) (w : World) (hv0 : FoS w v0 L0) (hsz : s0.size + 1 + FoSz L0 ≤ 1048576) :
    Calls Try.prog 9 #[.agg (dv k0 f0 s0 v0), .int .i64 i] w fun e w' => e = .returned (.bool true) ∧ Below w.heap.size w w' := by
  obtain ⟨x0, y0, h0s⟩ := hv0.slice
  obtain ⟨n0, hn0⟩ : ∃ n, L0.len = n := ⟨_, rfl⟩
  rw [hn0] at h0s
  subst h0s
  have b0 := Lib.hid ((Below.refl w.heap.size w).alloc (Nat.le_refl _) (.cells #[.int .i64 k0, .int .i64 f0, .string s0, .slice x0 n0 y0] 24))
  have dA0 := Lib.hid (DB.new w #[.int .i64 k0, .int .i64 f0, .string s0, .slice x0 n0 y0])
  obtain ⟨W0, hW0⟩ : ∃ W, w.alloc (.cells #[.int .i64 k0, .int .i64 f0, .string s0, .slice x0 n0 y0] 24) = W := ⟨_, rfl⟩
  rw [hW0] at b0 dA0
  have HW0 := Lib.hid hW0
  have AL := Lib.hid (AC W0)
  have FA := Lib.hid (fun W (h : Below w.heap.size w W) => few_any k0 f0 s0 L0 _ W (hv0.keep h))
  have FL := Lib.hid (fun W (h : Below w.heap.size w W) => refflat_any k0 f0 s0 L0 _ W (hv0.keep h) hsz)
  have FS0 := Lib.hid (fun W (h : Below w.heap.size w W) => hv0.keep h)
  have HPC := Lib.hid PC
  clear hv0 hn0 hW0 PC AC
  unfold dv at FA FL ⊢
  by_cases c0 : sizeD s0 L0 0 ≤ 300
  case neg =>
    rw [decide_eq_false c0] at FA
    rcases flatV_ways k0 f0 s0 L0 with ⟨t, ef, _, _⟩ | ⟨ef, _⟩
    all_goals
      rw [ef] at FL
      go_enter Try.func9, Try.ntmps9
      go_upto_region 1 with fail
      rw [HW0.out]
      go_wp2_with fail
      refine (AL.out).mono ?_
      rintro e w1 ⟨rfl, hb1⟩
      have d1 := b0.out.trans (hb1.mono b0.out.size)
      have dA1 := Lib.hid (dA0.out.keep hb1 dA0.out.lt)
      obtain ⟨g0, g1, g2, g3⟩ := dA1.out.four
      go_wp2_with fail
      refine (FL.out _ d1).mono ?_
      rintro e w2 ⟨rfl, hb2⟩
      have d2 := d1.trans (hb2.mono d1.size)
      have dA2 := Lib.hid (dA1.out.keep hb2 dA1.out.lt)
      clear g0 g1 g2 g3
      obtain ⟨g0, g1, g2, g3⟩ := dA2.out.four
      go_wp2_with fail
      refine (FA.out _ d2).mono ?_
      rintro e w3 ⟨rfl, hb3⟩
      have d3 := d2.trans (hb3.mono d2.size)
      clear hb1 hb2 hb3 d1 d2 g0 g1 g2 g3
      go_wp2
      go_ret
      exact ⟨rfl, d3⟩
  rw [decide_eq_true c0] at FA
  rcases flatV_ways k0 f0 s0 L0 with ⟨t, ef, ht, hr⟩ | ⟨ef, _⟩
  case inr =>
    rw [ef] at FL
    go_enter Try.func9, Try.ntmps9
    go_upto_region 1 with fail
    rw [HW0.out]
    go_wp2_with fail
    refine (AL.out).mono ?_
    rintro e w1 ⟨rfl, hb1⟩
    have d1 := b0.out.trans (hb1.mono b0.out.size)
    have dA1 := Lib.hid (dA0.out.keep hb1 dA0.out.lt)
    obtain ⟨g0, g1, g2, g3⟩ := dA1.out.four
    go_wp2_with fail
    refine (FL.out _ d1).mono ?_
    rintro e w2 ⟨rfl, hb2⟩
    have d2 := d1.trans (hb2.mono d1.size)
    have dA2 := Lib.hid (dA1.out.keep hb2 dA1.out.lt)
    clear g0 g1 g2 g3
    obtain ⟨g0, g1, g2, g3⟩ := dA2.out.four
    go_wp2_with fail
    refine (FA.out _ d2).mono ?_
    rintro e w3 ⟨rfl, hb3⟩
    have d3 := d2.trans (hb3.mono d2.size)
    clear hb1 hb2 hb3 d1 d2 g0 g1 g2 g3
    go_wp2
    go_ret
    exact ⟨rfl, d3⟩
  rw [ef] at FL
  obtain ⟨e0, e1, e2⟩ := few_small c0
  have htl : t.length ≤ 1000000 := by
    have := flatD_len k0 s0 L0
    rw [ht] at this
    simp only at this
    omega
  obtain ⟨n, hn⟩ : ∃ n, Lib.runeCount (bytes t) = n := ⟨_, rfl⟩
  have WD := Lib.hid (fun W => refwide_any t n W htl hn)
  have HN := Lib.hid hn
  have HT := Lib.hid ht
  clear hn ht hr
  go_enter Try.func9, Try.ntmps9
  go_upto_region 1 with fail
  rw [HW0.out]
  go_wp2_with fail
  refine (AL.out).mono ?_
  rintro e w1 ⟨rfl, hb1⟩
  have d1 := b0.out.trans (hb1.mono b0.out.size)
  have dA1 := Lib.hid (dA0.out.keep hb1 dA0.out.lt)
  obtain ⟨g0, g1, g2, g3⟩ := dA1.out.four
  go_wp2_with fail
  refine (FL.out _ d1).mono ?_
  rintro e w2 ⟨rfl, hb2⟩
  have d2 := d1.trans (hb2.mono d1.size)
  have dA2 := Lib.hid (dA1.out.keep hb2 dA1.out.lt)
  clear g0 g1 g2 g3
  obtain ⟨g0, g1, g2, g3⟩ := dA2.out.four
  go_wp2_with fail
  refine (FA.out _ d2).mono ?_
  rintro e w3 ⟨rfl, hb3⟩
  have d3 := d2.trans (hb3.mono d2.size)
  have dA3 := Lib.hid (dA2.out.keep hb3 dA2.out.lt)
  clear g0 g1 g2 g3
  obtain ⟨g0, g1, g2, g3⟩ := dA3.out.four
  go_wp2_with fail
  refine (WD.out _).mono ?_
  rintro e w4 ⟨rfl, hb4⟩
  have d4 := d3.trans (hb4.mono d3.size)
  have dA4 := Lib.hid (dA3.out.keep hb4 dA3.out.lt)
  clear g0 g1 g2 g3
  obtain ⟨g0, g1, g2, g3⟩ := dA4.out.four
  by_cases cn : 1000 < n
  · have cn2 : (1000 : Int) < n := by omega
    clear hb1 hb2 hb3 hb4 d1 d2 d3
    go_wp2
    go_ret
    exact ⟨rfl, d4⟩
  have cn2 : ¬ (1000 : Int) < n := by omega
  have cn3 := Lib.hid (show wd (bytes t) ≤ 1000 by show Lib.runeCount (bytes t) ≤ 1000; rw [HN.out]; omega)
  clear hb1 hb2 hb3 hb4 d1 d2 d3
  have F4 := one_fos (k0 := k0) (f0 := f0) (FS0.out _ d4) e2
  have F4b := one_fos (k0 := 6) (f0 := 0) (s0 := ⟨#[]⟩) F4 (by decide)
  have bA := (onW_below w4 k0 f0 s0 (.slice x0 n0 y0)).trans ((onW_below (onW w4 k0 f0 s0 (.slice x0 n0 y0)) 6 0 ⟨#[]⟩ (.slice (some ⟨w4.heap.size, 0, none⟩) 1 1)).mono (by rw [onW_size]; omega))
  have z4 : (onW w4 k0 f0 s0 (.slice x0 n0 y0)).heap.size = w4.heap.size + 1 := onW_size _ _ _ _ _
  change FoS (onW (onW w4 k0 f0 s0 (.slice x0 n0 y0)) 6 0 ⟨#[]⟩ (.slice (some ⟨w4.heap.size, 0, none⟩) 1 1)) (.slice (some ⟨(onW w4 k0 f0 s0 (.slice x0 n0 y0)).heap.size, 0, none⟩) 1 1) _ at F4b
  rw [z4] at F4b
  obtain ⟨R, hR⟩ : ∃ R, rightD 7 0 ⟨#[]⟩ (Fo.one 6 0 ⟨#[]⟩ (Fo.one k0 f0 s0 L0)) 200 = R := ⟨_, rfl⟩
  have RR := Lib.hid (refright_any 7 0 ⟨#[]⟩ _ _ _ F4b)
  rw [hR] at RR
  have HR := Lib.hid hR
  have D4 := Lib.hid d4
  have DA := Lib.hid (d4.trans (bA.mono d4.size))
  have DX := Lib.hid (dA4.out.keep bA dA4.out.lt)
  clear F4 F4b hR z4 bA d4
  go_wp2_with fail
  refine (RR.out).mono ?_
  rintro e w5 ⟨rfl, hb5⟩
  have d5 := DA.out.trans (hb5.mono DA.out.size)
  have dA5 := Lib.hid (DX.out.keep hb5 DX.out.lt)
  clear g0 g1 g2 g3
  obtain ⟨g0, g1, g2, g3⟩ := dA5.out.four
  cases R
  · clear hb5
    go_wp2
    go_ret
    exact ⟨rfl, d5⟩
  obtain ⟨ni, ei, hi⟩ := cap_nat i 0 16 (by omega) (by omega)
  have NP := Lib.hid (nest_plain k0 f0 s0 L0 t ni HR.out HT.out cn3.out)
  have hsm := renP_small 6 0 ⟨#[]⟩ (Fo.one k0 f0 s0 L0) 1000 ni (by simp only [Fo.one, FoSz, ByteArray.size]; simp; omega) (by simp only [Fo.one, FoN]; omega) (by omega)
  have FX := one_fos (k0 := k0) (f0 := f0) (FS0.out _ d5) e2
  have PX := Lib.hid (HPC.out 6 0 ⟨#[]⟩ _ _ 1000 i 1000 ni _ FX (by simp only [Fo.one, FoSz, ByteArray.size]; simp; omega) (by simp only [Fo.one, FoN]; omega) (by decide) ei)
  obtain ⟨la, hla⟩ : ∃ l, renP 6 0 ⟨#[]⟩ (Fo.one k0 f0 s0 L0) 1000 ni = l := ⟨_, rfl⟩
  rw [hla] at PX NP hsm
  have bX := onW_below w5 k0 f0 s0 (.slice x0 n0 y0)
  have D5 := Lib.hid d5
  have DB5 := Lib.hid (d5.trans (bX.mono d5.size))
  have DX5 := Lib.hid (dA5.out.keep bX dA5.out.lt)
  clear FX hla hb5 d5 bX
  unfold dv at PX
  go_wp2_with fail
  refine (PX.out).mono ?_
  rintro e w6 ⟨u6, rfl, hu6, hb6⟩
  have d6 := DB5.out.trans (hb6.mono DB5.out.size)
  have dA6 := Lib.hid (DX5.out.keep hb6 DX5.out.lt)
  have k6 := hu6.vs
  clear g0 g1 g2 g3 hu6
  obtain ⟨g0, g1, g2, g3⟩ := dA6.out.four
  have F6 := one_fos (k0 := k0) (f0 := f0) (FS0.out _ d6) e2
  have F6b := one_fos (k0 := 6) (f0 := 0) (s0 := ⟨#[]⟩) F6 (by decide)
  have bA := (onW_below w6 k0 f0 s0 (.slice x0 n0 y0)).trans ((onW_below (onW w6 k0 f0 s0 (.slice x0 n0 y0)) 6 0 ⟨#[]⟩ (.slice (some ⟨w6.heap.size, 0, none⟩) 1 1)).mono (by rw [onW_size]; omega))
  have z6 : (onW w6 k0 f0 s0 (.slice x0 n0 y0)).heap.size = w6.heap.size + 1 := onW_size _ _ _ _ _
  change FoS (onW (onW w6 k0 f0 s0 (.slice x0 n0 y0)) 6 0 ⟨#[]⟩ (.slice (some ⟨w6.heap.size, 0, none⟩) 1 1)) (.slice (some ⟨(onW w6 k0 f0 s0 (.slice x0 n0 y0)).heap.size, 0, none⟩) 1 1) _ at F6b
  rw [z6] at F6b
  have PY := Lib.hid (HPC.out 7 0 ⟨#[]⟩ _ _ 1000 i 1000 ni _ F6b (by simp only [Fo.one, FoSz, ByteArray.size]; simp; omega) (by simp only [Fo.one, FoN]; omega) (by decide) ei)
  rw [NP.out.1] at PY
  have K6 := Lib.hid (k6.keep bA)
  have DA6 := Lib.hid (d6.trans (bA.mono d6.size))
  clear F6 F6b z6 bA d6 hb6 k6
  unfold dv at PY
  go_wp2_with fail
  refine (PY.out).mono ?_
  rintro e w7 ⟨u7, rfl, hu7, hb7⟩
  have d7 := DA6.out.trans (hb7.mono DA6.out.size)
  have k67 := Lib.hid (K6.out.keep hb7)
  have k7 := hu7.vs
  clear hu7 g0 g1 g2 g3
  go_wp2_with fail
  refine (samep_any la _ _ w7 k67.out k7).mono ?_
  rintro e w8 ⟨rfl, hb8⟩
  have d8 := d7.trans (hb8.mono d7.size)
  have t5 : ((bytes t).toList == (bytes t).toList) = true := by simp
  go_wp2_with fail
  refine (reftext_any la _ t w8 (k67.out.keep hb8) NP.out.2 (by omega)).mono ?_
  rintro e w9 ⟨rfl, rfl⟩
  clear hb7 hb8 d7 k7
  go_wp2
  go_ret
  exact ⟨rfl, d8⟩
end Go.Proofs.Ytehofomfblfhaaa
