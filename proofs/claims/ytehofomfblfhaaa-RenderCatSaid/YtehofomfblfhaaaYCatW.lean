/- Layouts: RenderCat's walk. -/
import Derived.Test.YtehofomfblfhaaaYTx
import Derived.Test.YtehofomfblfhaaaYCat
import Derived.Test.YtehofomfblfhaaaMgWN
import Derived.Test.YtehofomfblfhaaaWTk
import Derived.Test.YtehofomfblfhaaaYRow
namespace Go.Proofs.Ytehofomfblfhaaa
open Go.RowKit
set_option linter.unusedVariables false
set_option linter.unusedSimpArgs false

/-- Three documents in cells of their own. -/
structure Tri (w W : World) (x0 x1 x2 : Array Value) : Prop where
  d0 : DB W w.heap.size x0
  d1 : DB W (w.heap.size + 1) x1
  d2 : DB W (w.heap.size + 1 + 1) x2
  bl : Below w.heap.size w W
theorem Tri.keep {w W W' : World} {x0 x1 x2 : Array Value} (h : Tri w W x0 x1 x2) (hb : Below W.heap.size W W') : Tri w W' x0 x1 x2 :=
  ⟨h.d0.keep hb h.d0.lt, h.d1.keep hb h.d1.lt, h.d2.keep hb h.d2.lt, h.bl.trans (hb.mono h.bl.size)⟩
theorem Tri.new (w : World) (x0 x1 x2 : Array Value) : Tri w (((w.alloc (.cells x0 24)).alloc (.cells x1 24)).alloc (.cells x2 24)) x0 x1 x2 := by
  have z1 : (w.alloc (.cells x0 24)).heap.size = w.heap.size + 1 := by simp
  have z2 : ((w.alloc (.cells x0 24)).alloc (.cells x1 24)).heap.size = w.heap.size + 1 + 1 := by simp
  have b2 := (Below.refl _ ((w.alloc (.cells x0 24)).alloc (.cells x1 24))).alloc (Nat.le_refl _) (.cells x2 24)
  have b1 := (Below.refl _ (w.alloc (.cells x0 24))).alloc (Nat.le_refl _) (.cells x1 24)
  have D0 := ((DB.new w x0).keep b1 (DB.new w x0).lt)
  have D1 := DB.new (w.alloc (.cells x0 24)) x1
  have D2 := DB.new ((w.alloc (.cells x0 24)).alloc (.cells x1 24)) x2
  have E0 := D0.keep b2 D0.lt
  have E1 := D1.keep b2 D1.lt
  rw [z1] at E1
  rw [z2] at D2
  exact ⟨E0, E1, D2, (((Below.refl _ w).alloc (Nat.le_refl _) _).alloc (by simp) _).alloc (by simp; omega) _⟩
theorem infoDC : (Try.prog.info? 24).map (·.size) = some 4 := by kernel_rfl
theorem Tri.frame {w W W' : World} {x0 x1 x2 : Array Value} (h : Tri w W x0 x1 x2) (hb : Below w.heap.size w W') (hf : ∀ j, j ≤ w.heap.size + 1 + 1 → W'.heap[j]? = W.heap[j]?) : Tri w W' x0 x1 x2 :=
  ⟨BK.frame h.d0 (hf _ (by omega)), BK.frame h.d1 (hf _ (by omega)), BK.frame h.d2 (hf _ (by omega)), hb⟩
/-- Two documents side by side, in a block of their own; what they lie in is as Q says. -/
theorem pair_fop {Q : Nat → Prop} {W : World} {k0 f0 k1 f1 : Int} {s0 s1 : ByteArray} {v0 v1 : Value} {L0 L1 : Fo} (h0 : FoP Q W v0 L0) (h1 : FoP Q W v1 L1) (hQ : ∀ b, Q b → b < W.heap.size) (z0 : s0.size ≤ 100) (z1 : s1.size ≤ 100) :
    FoP (fun b => Q b ∨ b = W.heap.size) (W.alloc (.cells #[.int .i64 k0, .int .i64 f0, .string s0, v0, .int .i64 k1, .int .i64 f1, .string s1, v1] 24)) (.slice (some ⟨W.heap.size, 0, none⟩) 2 2) (Fo.two k0 f0 s0 L0 k1 f1 s1 L1) := by
  have b := (Below.refl W.heap.size W).alloc (Nat.le_refl _) (.cells #[.int .i64 k0, .int .i64 f0, .string s0, v0, .int .i64 k1, .int .i64 f1, .string s1, v1] 24)
  have g0 := (h0.keep (w' := W.alloc (.cells #[.int .i64 k0, .int .i64 f0, .string s0, v0, .int .i64 k1, .int .i64 f1, .string s1, v1] 24)) (fun c hc => b.block c (hQ c hc))).mono (Q := fun b => Q b ∨ b = W.heap.size) fun c hc => .inl hc
  have g1 := (h1.keep (w' := W.alloc (.cells #[.int .i64 k0, .int .i64 f0, .string s0, v0, .int .i64 k1, .int .i64 f1, .string s1, v1] 24)) (fun c hc => b.block c (hQ c hc))).mono (Q := fun b => Q b ∨ b = W.heap.size) fun c hc => .inl hc
  refine ⟨_, 2, rfl, (by show 2 ≤ 2; omega), by decide, by simp, fun _ => ⟨W.heap.size, 0, rfl, .inr rfl, ?_⟩⟩
  have hc : ∀ j, (W.alloc (.cells #[.int .i64 k0, .int .i64 f0, .string s0, v0, .int .i64 k1, .int .i64 f1, .string s1, v1] 24)).cell? ⟨W.heap.size, j, none⟩ = #[.int .i64 k0, .int .i64 f0, .string s0, v0, .int .i64 k1, .int .i64 f1, .string s1, v1][j]? := fun j => World.cell?_alloc_at _ _ _ _ rfl
  obtain ⟨a0, c0, rfl, p1, p2, p3, p4⟩ := g0
  obtain ⟨a1, c1, rfl, q1, q2, q3, q4⟩ := g1
  exact ⟨⟨by unfold maxLen; omega, hc 0, hc 1, hc 2, a0, c0, hc 3, p1, p2, p3, p4⟩, ⟨by unfold maxLen; omega, hc 4, hc 5, hc 6, a1, c1, hc 7, q1, q2, q3, q4⟩, trivial⟩
set_option maxRecDepth 100000 in
set_option maxHeartbeats 4000000 in
theorem lcatP_any (Q : Nat → Prop) (k0 f0 : Int) (s0 : ByteArray) (v0 : Value) (L0 : Fo) (k1 f1 : Int) (s1 : ByteArray) (v1 : Value) (L1 : Fo) (w : World) (hv0 : FoP Q w v0 L0) (hv1 : FoP Q w v1 L1) (hQ : ∀ b, Q b → b < w.heap.size) (z0 : s0.size ≤ 100) (z1 : s1.size ≤ 100) :
    Calls Try.prog 19 #[.agg (dv k0 f0 s0 v0), .agg (dv k1 f1 s1 v1)] w fun e w' => ∃ a, e = .returned (.agg (dv 5 0 ⟨#[]⟩ (.slice (some ⟨a, 0, none⟩) 2 2))) ∧ FoP (fun b => Q b ∨ (w.heap.size ≤ b ∧ b < w'.heap.size)) w' (.slice (some ⟨a, 0, none⟩) 2 2) (Fo.two k0 f0 s0 L0 k1 f1 s1 L1) ∧ Below w.heap.size w w' := by
  obtain ⟨x0, y0, e0, -⟩ := id hv0
  obtain ⟨x1, y1, e1, -⟩ := id hv1
  subst e0 e1
  have bA := (Below.refl w.heap.size w).alloc (Nat.le_refl _) (.cells #[.int .i64 k0, .int .i64 f0, .string s0, .slice x0 L0.len y0] 24)
  have bB := bA.alloc bA.size (.cells #[.int .i64 k1, .int .i64 f1, .string s1, .slice x1 L1.len y1] 24)
  have bR := bB.alloc bB.size (.cells #[.int .i64 5, .int .i64 0, .string ⟨#[]⟩, .slice (some ⟨w.heap.size + 1 + 1 + 1, 0, none⟩) 2 2] 24)
  have P := pair_fop (k0 := k0) (f0 := f0) (k1 := k1) (f1 := f1) (hv0.keep (fun b hb => bR.block b (hQ b hb))) (hv1.keep (fun b hb => bR.block b (hQ b hb))) (fun b hb => Nat.lt_of_lt_of_le (hQ b hb) bR.size) z0 z1
  have B := Lib.hid (bR.alloc bR.size (.cells #[.int .i64 k0, .int .i64 f0, .string s0, .slice x0 L0.len y0, .int .i64 k1, .int .i64 f1, .string s1, .slice x1 L1.len y1] 24))
  have D := DB.keep (DB.new ((w.alloc (.cells #[.int .i64 k0, .int .i64 f0, .string s0, .slice x0 L0.len y0] 24)).alloc (.cells #[.int .i64 k1, .int .i64 f1, .string s1, .slice x1 L1.len y1] 24)) #[.int .i64 5, .int .i64 0, .string ⟨#[]⟩, .slice (some ⟨w.heap.size + 1 + 1 + 1, 0, none⟩) 2 2]) ((Below.refl _ _).alloc (Nat.le_refl _) (.cells #[.int .i64 k0, .int .i64 f0, .string s0, .slice x0 L0.len y0, .int .i64 k1, .int .i64 f1, .string s1, .slice x1 L1.len y1] 24)) (by simp)
  have e2 : ((w.alloc (.cells #[.int .i64 k0, .int .i64 f0, .string s0, .slice x0 L0.len y0] 24)).alloc (.cells #[.int .i64 k1, .int .i64 f1, .string s1, .slice x1 L1.len y1] 24)).heap.size = w.heap.size + 1 + 1 := by simp
  have e3 : (((w.alloc (.cells #[.int .i64 k0, .int .i64 f0, .string s0, .slice x0 L0.len y0] 24)).alloc (.cells #[.int .i64 k1, .int .i64 f1, .string s1, .slice x1 L1.len y1] 24)).alloc (.cells #[.int .i64 5, .int .i64 0, .string ⟨#[]⟩, .slice (some ⟨w.heap.size + 1 + 1 + 1, 0, none⟩) 2 2] 24)).heap.size = w.heap.size + 1 + 1 + 1 := by simp
  rw [e3] at P
  rw [e2] at D
  have HP := Lib.hid (P.mono (Q := fun b => Q b ∨ (w.heap.size ≤ b ∧ b < ((((w.alloc (.cells #[.int .i64 k0, .int .i64 f0, .string s0, .slice x0 L0.len y0] 24)).alloc (.cells #[.int .i64 k1, .int .i64 f1, .string s1, .slice x1 L1.len y1] 24)).alloc (.cells #[.int .i64 5, .int .i64 0, .string ⟨#[]⟩, .slice (some ⟨w.heap.size + 1 + 1 + 1, 0, none⟩) 2 2] 24)).alloc (.cells #[.int .i64 k0, .int .i64 f0, .string s0, .slice x0 L0.len y0, .int .i64 k1, .int .i64 f1, .string s1, .slice x1 L1.len y1] 24)).heap.size)) fun b hb => by
    rcases hb with hb | hb
    · exact .inl hb
    · exact .inr ⟨by omega, by rw [World.size_alloc, e3]; omega⟩)
  have HD := Lib.hid D
  obtain ⟨n0, hn0⟩ : ∃ n, L0.len = n := ⟨_, rfl⟩
  obtain ⟨n1, hn1⟩ : ∃ n, L1.len = n := ⟨_, rfl⟩
  rw [hn0, hn1] at HP HD B
  rw [hn0, hn1]
  clear hv0 hv1 hn0 hn1 z0 z1 P D bA bB bR e2 e3
  unfold dv
  go_enter Try.func19, Try.ntmps19
  go_wp2
  exact bodyPost_ret (res_doc rfl _ _ (w.heap.size + 1 + 1) _ rfl HD.out rfl) rfl ⟨_, rfl, HP.out, B.out⟩
/-- A document held in a cell of its own, behind the three. -/
structure Xd (w W : World) (b : Nat) (a : Nat) (F : Fo) : Prop where
  d : DB W b #[.int .i64 5, .int .i64 0, .string ⟨#[]⟩, .slice (some ⟨a, 0, none⟩) 2 2]
  f : FoS W (.slice (some ⟨a, 0, none⟩) 2 2) F
theorem Xd.keep {w W W' : World} {b a : Nat} {F : Fo} (h : Xd w W b a F) (hb : Below W.heap.size W W') : Xd w W' b a F := ⟨h.d.keep hb h.d.lt, h.f.keep hb⟩
theorem Xd.frame {w W W' : World} {b a : Nat} {F : Fo} (h : Xd w W b a F) (hz : W.heap.size ≤ W'.heap.size) (hf : ∀ j, j < W.heap.size → W'.heap[j]? = W.heap[j]?) : Xd w W' b a F :=
  ⟨BK.frame h.d (hf _ h.d.lt), FoP.to (((FoP.of h.f).keep (w' := W') hf).mono fun c hc => Nat.lt_of_lt_of_le hc hz)⟩
/-- Three documents side by side, in a block of their own. -/
theorem triple_fos {W : World} {k0 f0 k1 f1 k2 f2 : Int} {s0 s1 s2 : ByteArray} {v0 v1 v2 : Value} {L0 L1 L2 : Fo} (h0 : FoS W v0 L0) (h1 : FoS W v1 L1) (h2 : FoS W v2 L2) (z0 : s0.size ≤ 100) (z1 : s1.size ≤ 100) (z2 : s2.size ≤ 100) :
    FoS (W.alloc (.cells #[.int .i64 k0, .int .i64 f0, .string s0, v0, .int .i64 k1, .int .i64 f1, .string s1, v1, .int .i64 k2, .int .i64 f2, .string s2, v2] 24)) (.slice (some ⟨W.heap.size, 0, none⟩) 3 3) (.cons k0 f0 s0 L0 (Fo.two k1 f1 s1 L1 k2 f2 s2 L2)) := by
  have b := (Below.refl W.heap.size W).alloc (Nat.le_refl _) (.cells #[.int .i64 k0, .int .i64 f0, .string s0, v0, .int .i64 k1, .int .i64 f1, .string s1, v1, .int .i64 k2, .int .i64 f2, .string s2, v2] 24)
  have g0 := h0.keep b
  have g1 := h1.keep b
  have g2 := h2.keep b
  refine ⟨_, 3, rfl, (by show 3 ≤ 3; omega), by decide, by simp, fun _ => ⟨W.heap.size, 0, rfl, by simp, ?_⟩⟩
  have hc : ∀ j, (W.alloc (.cells #[.int .i64 k0, .int .i64 f0, .string s0, v0, .int .i64 k1, .int .i64 f1, .string s1, v1, .int .i64 k2, .int .i64 f2, .string s2, v2] 24)).cell? ⟨W.heap.size, j, none⟩ = #[.int .i64 k0, .int .i64 f0, .string s0, v0, .int .i64 k1, .int .i64 f1, .string s1, v1, .int .i64 k2, .int .i64 f2, .string s2, v2][j]? := fun j => World.cell?_alloc_at _ _ _ _ rfl
  obtain ⟨a0, c0, rfl, p1, p2, p3, p4⟩ := g0
  obtain ⟨a1, c1, rfl, q1, q2, q3, q4⟩ := g1
  obtain ⟨a2, c2, rfl, r1, r2, r3, r4⟩ := g2
  exact ⟨⟨by unfold maxLen; omega, hc 0, hc 1, hc 2, a0, c0, hc 3, p1, p2, p3, p4⟩, ⟨by unfold maxLen; omega, hc 4, hc 5, hc 6, a1, c1, hc 7, q1, q2, q3, q4⟩, ⟨by unfold maxLen; omega, hc 8, hc 9, hc 10, a2, c2, hc 11, r1, r2, r3, r4⟩, trivial⟩
/-- What is stored into a new cell of a document. -/
theorem xd_store {w W : World} {b a : Nat} {F : Fo} {x0 x1 x2 : Array Value} {cs : Array Value} (hd : DB W b cs) (hz : cs.size = 4) (hf : FoP (fun c => c < W.heap.size ∧ c ≠ b) W (.slice (some ⟨a, 0, none⟩) 2 2) F) (ht : Tri w W x0 x1 x2) (hb : w.heap.size + 1 + 1 < b) (W' : World)
    (hW : W.setCells b 0 [.int .i64 5, .int .i64 0, .string ⟨#[]⟩, .slice (some ⟨a, 0, none⟩) 2 2] = W') : Tri w W' x0 x1 x2 ∧ Xd w W' b a F ∧ (∀ j, j ≠ b → W'.heap[j]? = W.heap[j]?) ∧ W'.heap.size = W.heap.size := by
  have fr : ∀ j, j ≠ b → W'.heap[j]? = W.heap[j]? := fun j hj => by rw [← hW]; exact setCells_other b _ 0 W j hj
  have zs : W'.heap.size = W.heap.size := by rw [← hW]; exact setCells_size b _ 0 W
  have hdb : DB W' b #[.int .i64 5, .int .i64 0, .string ⟨#[]⟩, .slice (some ⟨a, 0, none⟩) 2 2] := by
    have := BK.setCells [.int .i64 5, .int .i64 0, .string ⟨#[]⟩, .slice (some ⟨a, 0, none⟩) 2 2] W cs 0 hd
    rw [hW] at this
    have e : setA cs 0 [.int .i64 5, .int .i64 0, .string ⟨#[]⟩, .slice (some ⟨a, 0, none⟩) 2 2] = #[.int .i64 5, .int .i64 0, .string ⟨#[]⟩, .slice (some ⟨a, 0, none⟩) 2 2] := by
      obtain ⟨l⟩ := cs
      match l, hz with
      | [a, b, c, d], _ => rfl
    rw [e] at this; exact this
  refine ⟨ht.frame (by rw [← hW]; exact below_setCells ht.bl (by omega) _ _) (fun j hj => fr j (by omega)), ⟨hdb, ?_⟩, fr, zs⟩
  exact FoP.to ((hf.keep (w' := W') (fun c hc => fr c hc.2)).mono fun c hc => by rw [zs]; exact hc.1)
set_option maxRecDepth 100000 in
set_option maxHeartbeats 8000000 in
theorem rcat_walk (k0 f0 : Int) (s0 : ByteArray) (v0 : Value) (L0 : Fo) (k1 f1 : Int) (s1 : ByteArray) (v1 : Value) (L1 : Fo) (k2 f2 : Int) (s2 : ByteArray) (v2 : Value) (L2 : Fo) (a i : Int) (w : World) (hv0 : FoS w v0 L0) (hv1 : FoS w v1 L1) (hv2 : FoS w v2 L2) :
    Calls Try.prog 8 #[.agg (dv k0 f0 s0 v0), .agg (dv k1 f1 s1 v1), .agg (dv k2 f2 s2 v2), .int .i64 a, .int .i64 i] w fun e w' => e = .returned (.bool true) ∧ Below w.heap.size w w' := by
  have FA0 := Lib.hid (fun W (h : Below w.heap.size w W) => few_any k0 f0 s0 L0 _ W (hv0.keep h))
  have FA1 := Lib.hid (fun W (h : Below w.heap.size w W) => few_any k1 f1 s1 L1 _ W (hv1.keep h))
  have FA2 := Lib.hid (fun W (h : Below w.heap.size w W) => few_any k2 f2 s2 L2 _ W (hv2.keep h))
  have FS0 := Lib.hid (fun W (h : Below w.heap.size w W) => hv0.keep h)
  have FS1 := Lib.hid (fun W (h : Below w.heap.size w W) => hv1.keep h)
  have FS2 := Lib.hid (fun W (h : Below w.heap.size w W) => hv2.keep h)
  obtain ⟨x0, y0, rfl⟩ := hv0.slice
  obtain ⟨x1, y1, rfl⟩ := hv1.slice
  obtain ⟨x2, y2, rfl⟩ := hv2.slice
  obtain ⟨n0, hn0⟩ : ∃ n, L0.len = n := ⟨_, rfl⟩
  obtain ⟨n1, hn1⟩ : ∃ n, L1.len = n := ⟨_, rfl⟩
  obtain ⟨n2, hn2⟩ : ∃ n, L2.len = n := ⟨_, rfl⟩
  rw [hn0] at FA0 FS0 ⊢
  rw [hn1] at FA1 FS1 ⊢
  rw [hn2] at FA2 FS2 ⊢
  unfold dv at FA0 FA1 FA2 ⊢
  have T0 := Tri.new w #[.int .i64 k0, .int .i64 f0, .string s0, .slice x0 n0 y0] #[.int .i64 k1, .int .i64 f1, .string s1, .slice x1 n1 y1] #[.int .i64 k2, .int .i64 f2, .string s2, .slice x2 n2 y2]
  obtain ⟨W0, hW0⟩ : ∃ W, ((w.alloc (.cells #[.int .i64 k0, .int .i64 f0, .string s0, .slice x0 n0 y0] 24)).alloc (.cells #[.int .i64 k1, .int .i64 f1, .string s1, .slice x1 n1 y1] 24)).alloc (.cells #[.int .i64 k2, .int .i64 f2, .string s2, .slice x2 n2 y2] 24) = W := ⟨_, rfl⟩
  rw [hW0] at T0
  have HW0 := Lib.hid hW0
  have HT0 := Lib.hid T0
  have AL := Lib.hid (alive_c W0)
  clear hv0 hv1 hv2 hn0 hn1 hn2 hW0 T0
  by_cases c0 : sizeD s0 L0 0 ≤ 300
  case neg =>
    rw [decide_eq_false c0] at FA0
    go_enter Try.func8, Try.ntmps8
    go_upto_region 1 with fail
    rw [HW0.out]
    go_wp2_with fail
    refine (AL.out).mono ?_
    rintro e w1 ⟨rfl, hb1⟩
    have T1 := Lib.hid (HT0.out.keep hb1)
    obtain ⟨g0, g1, g2, g3⟩ := T1.out.d0.four
    go_wp2_with fail
    refine (FA0.out _ T1.out.bl).mono ?_
    rintro e w2 ⟨rfl, hb2⟩
    have T2 := Lib.hid (T1.out.keep hb2)
    clear g0 g1 g2 g3
    go_wp2
    go_ret
    exact ⟨rfl, T2.out.bl⟩
  rw [decide_eq_true c0] at FA0
  by_cases c1 : sizeD s1 L1 0 ≤ 300
  case neg =>
    rw [decide_eq_false c1] at FA1
    go_enter Try.func8, Try.ntmps8
    go_upto_region 1 with fail
    rw [HW0.out]
    go_wp2_with fail
    refine (AL.out).mono ?_
    rintro e w1 ⟨rfl, hb1⟩
    have T1 := Lib.hid (HT0.out.keep hb1)
    obtain ⟨g0, g1, g2, g3⟩ := T1.out.d0.four
    go_wp2_with fail
    refine (FA0.out _ T1.out.bl).mono ?_
    rintro e w2 ⟨rfl, hb2⟩
    have T2 := Lib.hid (T1.out.keep hb2)
    clear g0 g1 g2 g3
    obtain ⟨g0, g1, g2, g3⟩ := T2.out.d1.four
    go_wp2_with fail
    refine (FA1.out _ T2.out.bl).mono ?_
    rintro e w3 ⟨rfl, hb3⟩
    have T3 := Lib.hid (T2.out.keep hb3)
    clear g0 g1 g2 g3
    go_wp2
    go_ret
    exact ⟨rfl, T3.out.bl⟩
  rw [decide_eq_true c1] at FA1
  by_cases c2 : sizeD s2 L2 0 ≤ 300
  case neg =>
    rw [decide_eq_false c2] at FA2
    go_enter Try.func8, Try.ntmps8
    go_upto_region 1 with fail
    rw [HW0.out]
    go_wp2_with fail
    refine (AL.out).mono ?_
    rintro e w1 ⟨rfl, hb1⟩
    have T1 := Lib.hid (HT0.out.keep hb1)
    obtain ⟨g0, g1, g2, g3⟩ := T1.out.d0.four
    go_wp2_with fail
    refine (FA0.out _ T1.out.bl).mono ?_
    rintro e w2 ⟨rfl, hb2⟩
    have T2 := Lib.hid (T1.out.keep hb2)
    clear g0 g1 g2 g3
    obtain ⟨g0, g1, g2, g3⟩ := T2.out.d1.four
    go_wp2_with fail
    refine (FA1.out _ T2.out.bl).mono ?_
    rintro e w3 ⟨rfl, hb3⟩
    have T3 := Lib.hid (T2.out.keep hb3)
    clear g0 g1 g2 g3
    obtain ⟨g0, g1, g2, g3⟩ := T3.out.d2.four
    go_wp2_with fail
    refine (FA2.out _ T3.out.bl).mono ?_
    rintro e w4 ⟨rfl, hb4⟩
    have T4 := Lib.hid (T3.out.keep hb4)
    clear g0 g1 g2 g3
    go_wp2
    go_ret
    exact ⟨rfl, T4.out.bl⟩
  rw [decide_eq_true c2] at FA2
  obtain ⟨e0, e0', e0''⟩ := few_small c0
  obtain ⟨e1, e1', e1''⟩ := few_small c1
  obtain ⟨e2, e2', e2''⟩ := few_small c2
  obtain ⟨na, ea, -⟩ := cap_nat a 1 1000 (by omega) (by omega)
  obtain ⟨ni, ei, -⟩ := cap_nat i 0 16 (by omega) (by omega)
  go_enter Try.func8, Try.ntmps8
  go_upto_region 1 with fail
  rw [HW0.out]
  go_wp2_with fail
  refine (AL.out).mono ?_
  rintro e w1 ⟨rfl, hb1⟩
  have T1 := Lib.hid (HT0.out.keep hb1)
  obtain ⟨g0, g1, g2, g3⟩ := T1.out.d0.four
  go_wp2_with fail
  refine (FA0.out _ T1.out.bl).mono ?_
  rintro e w2 ⟨rfl, hb2⟩
  have T2 := Lib.hid (T1.out.keep hb2)
  clear g0 g1 g2 g3
  obtain ⟨g0, g1, g2, g3⟩ := T2.out.d1.four
  go_wp2_with fail
  refine (FA1.out _ T2.out.bl).mono ?_
  rintro e w3 ⟨rfl, hb3⟩
  have T3 := Lib.hid (T2.out.keep hb3)
  clear g0 g1 g2 g3
  obtain ⟨g0, g1, g2, g3⟩ := T3.out.d2.four
  go_wp2_with fail
  refine (FA2.out _ T3.out.bl).mono ?_
  rintro e w4 ⟨rfl, hb4⟩
  have T4 := Lib.hid (T3.out.keep hb4)
  clear g0 g1 g2 g3
  have SV : ∀ V : World, Tri w V #[.int .i64 k0, .int .i64 f0, .string s0, .slice x0 n0 y0] #[.int .i64 k1, .int .i64 f1, .string s1, .slice x1 n1 y1] #[.int .i64 k2, .int .i64 f2, .string s2, .slice x2 n2 y2] → (fun V => V.rangeAt w.heap.size 0 [.int .i64 k0, .int .i64 f0, .string s0, .slice x0 n0 y0] ∧ V.rangeAt (w.heap.size + 1) 0 [.int .i64 k1, .int .i64 f1, .string s1, .slice x1 n1 y1] ∧ V.rangeAt (w.heap.size + 1 + 1) 0 [.int .i64 k2, .int .i64 f2, .string s2, .slice x2 n2 y2]) V := fun V h => ⟨BK.range h.d0 0 _ (by intro j u h; simpa using h), BK.range h.d1 0 _ (by intro j u h; simpa using h), BK.range h.d2 0 _ (by intro j u h; simpa using h)⟩
  have P0 := Lib.hid (show s0.size ≤ 100 from e0'')
  have P1 := Lib.hid (show s1.size ≤ 100 from e1'')
  have P2 := Lib.hid (show s2.size ≤ 100 from e2'')
  go_upto_region 4 with fail
  go_cut [12] (fun q wx => ∃ bx ax : Nat, q = .pointer (some ⟨bx, 0, none⟩) ∧ Tri w wx #[.int .i64 k0, .int .i64 f0, .string s0, .slice x0 n0 y0] #[.int .i64 k1, .int .i64 f1, .string s1, .slice x1 n1 y1] #[.int .i64 k2, .int .i64 f2, .string s2, .slice x2 n2 y2] ∧ w.heap.size + 1 + 1 < bx ∧ Xd w wx bx ax (Fo.two k0 f0 s0 L0 5 0 ⟨#[]⟩ (Fo.two k1 f1 s1 L1 k2 f2 s2 L2)))
  case first =>
    rename_i J K' hJ hK'
    refine wp_region_noPanic ?_
    refine wp_region_held_drew (S := fun V => V.rangeAt w.heap.size 0 [.int .i64 k0, .int .i64 f0, .string s0, .slice x0 n0 y0] ∧ V.rangeAt (w.heap.size + 1) 0 [.int .i64 k1, .int .i64 f1, .string s1, .slice x1 n1 y1] ∧ V.rangeAt (w.heap.size + 1 + 1) 0 [.int .i64 k2, .int .i64 f2, .string s2, .slice x2 n2 y2]) (by kernel_rfl) (SV _ (T4.out.keep (Below.refl _ _).drew)) (fun hS => ?_)
    have T0' := Lib.hid (T4.out.keep (Below.refl _ _).drew)
    have hz4 : w.heap.size + 1 + 1 < w4.heap.size := T4.out.d2.lt
    obtain ⟨WA, hWA⟩ : ∃ x, w4.drew = x := ⟨_, rfl⟩
    have hzA : w.heap.size + 1 + 1 < WA.heap.size := by rw [← hWA]; exact hz4
    rw [hWA] at T0' hS ⊢
    clear hWA hz4
    refine rtk (v := .agg #[.int .i64 k0, .int .i64 f0, .string s0, .slice x0 n0 y0]) 0 (hy := yieldsIf_load_mid (by rfl) 24 _ rfl w.heap.size 0 rfl [.int .i64 k0, .int .i64 f0, .string s0, .slice x0 n0 y0] _ (fun w hS => hS.1) Try.underlying24 rfl infoDC) ?_
    refine rtk (v := .agg #[.int .i64 k1, .int .i64 f1, .string s1, .slice x1 n1 y1]) 1 (hy := yieldsIf_load_mid (by rfl) 24 _ rfl (w.heap.size + 1) 0 rfl [.int .i64 k1, .int .i64 f1, .string s1, .slice x1 n1 y1] _ (fun w hS => hS.2.1) Try.underlying24 rfl infoDC) ?_
    refine rtk (v := .agg #[.int .i64 k2, .int .i64 f2, .string s2, .slice x2 n2 y2]) 2 (hy := yieldsIf_load_mid (by rfl) 24 _ rfl (w.heap.size + 1 + 1) 0 rfl [.int .i64 k2, .int .i64 f2, .string s2, .slice x2 n2 y2] _ (fun w hS => hS.2.2) Try.underlying24 rfl infoDC) ?_
    refine wpAnyH_ready (rs := [3, 5]) (by kernel_rfl) (by simp) ?_
    refine AllReadyH.cons rfl (fun K hK => ?ordA) (AllReadyH.cons rfl (fun K hK => ?ordB) AllReadyH.nil)
    case ordA =>
      go_simp
      refine (lcatP_any (fun b => b < WA.heap.size) k1 f1 s1 (.slice x1 n1 y1) L1 k2 f2 s2 (.slice x2 n2 y2) L2 WA (FoP.of (FS1.out _ T0'.out.bl)) (FoP.of (FS2.out _ T0'.out.bl)) (fun _ h => h) P1.out P2.out).mono ?_
      rintro e WB ⟨aI, rfl, fWB, bWB⟩
      have TWB' := T0'.out.keep bWB
      refine hK.out _ _ (SV _ TWB') (fun hS => ?_)
      clear hK K
      have hzB := bWB.size
      refine wpAnyH_ready (rs := [4, 5]) (by kernel_rfl) (by simp) ?_
      refine AllReadyH.cons rfl (fun K hK => ?ordAx) (AllReadyH.cons rfl (fun K hK => ?ordBx) AllReadyH.nil)
      case ordAx =>
        go_simp
        refine (lcatP_any (fun b => b < WB.heap.size) k0 f0 s0 (.slice x0 n0 y0) L0 5 0 ⟨#[]⟩ (.slice (some ⟨aI, 0, none⟩) 2 2) (Fo.two k1 f1 s1 L1 k2 f2 s2 L2) WB (FoP.of (FS0.out _ TWB'.bl)) (fWB.mono fun b hb => by omega) (fun _ h => h) P0.out (by decide : (⟨#[]⟩ : ByteArray).size ≤ 100)).mono ?_
        rintro e WC ⟨aO, rfl, fWC, bWC⟩
        have TWC' := TWB'.keep bWC
        refine hK.out _ _ (SV _ TWC') (fun hS => ?_)
        clear hK K
        have hzC := bWC.size
        refine wpAnyH_ready (rs := [5]) (by kernel_rfl) (by simp) ?_
        refine AllReadyH.cons rfl (fun K hK => ?_) AllReadyH.nil
        go_simp
        have alWD := (Below.refl WC.heap.size WC).alloc (Nat.le_refl _) (.cells #[.int .i64 0, .int .i64 0, .string ⟨#[]⟩, .slice none 0 0] 24)
        have TWD' := TWC'.keep alWD
        refine hK.out _ _ (SV _ TWD') (fun hS => ?_)
        clear hK K
        have dbWD := DB.new WC #[.int .i64 0, .int .i64 0, .string ⟨#[]⟩, .slice none 0 0]
        have szWD : (WC.alloc (.cells #[.int .i64 0, .int .i64 0, .string ⟨#[]⟩, .slice none 0 0] 24)).heap.size = WC.heap.size + 1 := World.size_alloc _ _
        obtain ⟨WD, hWD⟩ : ∃ x, WC.alloc (.cells #[.int .i64 0, .int .i64 0, .string ⟨#[]⟩, .slice none 0 0] 24) = x := ⟨_, rfl⟩
        rw [hWD] at alWD TWD' dbWD szWD hS ⊢
        clear hWD
        refine wpAnyH_ready (rs := [6]) (by kernel_rfl) (by simp) ?_
        refine AllReadyH.cons rfl (fun K hK => ?_) AllReadyH.nil
        rw [if_pos (by rfl)]
        have th := BK.there (b := WC.heap.size) dbWD 0 4 (by decide)
        obtain ⟨WZ, hWZ⟩ : ∃ x, WD.setCells WC.heap.size 0 [.int .i64 5, .int .i64 0, .string ⟨#[]⟩, .slice (some ⟨aO, 0, none⟩) 2 2] = x := ⟨_, rfl⟩
        obtain ⟨tZ, xZ, frZ, zZ⟩ := xd_store dbWD rfl ((fWC.keep (w' := WD) (fun c hc => alWD.block c (by omega))).mono fun c hc => by omega) TWD' (by omega) WZ hWZ
        refine wp_store_mid 24 _ _ rfl WC.heap.size 0 #[.int .i64 5, .int .i64 0, .string ⟨#[]⟩, .slice (some ⟨aO, 0, none⟩) 2 2] rfl rfl th infoDC (by simp [Value.oneCell']) ?_
        rw [show (#[.int .i64 5, .int .i64 0, .string ⟨#[]⟩, .slice (some ⟨aO, 0, none⟩) 2 2] : Array Value).toList = [.int .i64 5, .int .i64 0, .string ⟨#[]⟩, .slice (some ⟨aO, 0, none⟩) 2 2] from rfl, hWZ]
        refine hK.out _ _ (SV _ tZ) (fun hS => ?_)
        clear hK K
        refine wpAnyH_done (by kernel_rfl) ?_ _
        refine NoPanic.normal ?_
        try simp only [List.getElem_toArray, List.getElem_cons_succ, List.getElem_cons_zero, Act.put, List.setIfInBounds_toArray, List.set_cons_zero, List.set_cons_succ]
        refine hK' _ _ (Met.intro (hJ _ _ ?_))
        (repeat apply Exists.intro)
        refine ⟨?rel, rfl⟩
        case rel => exact ⟨WC.heap.size, aO, rfl, tZ, by omega, xZ⟩
      case ordBx =>
        go_simp
        have alWC := (Below.refl WB.heap.size WB).alloc (Nat.le_refl _) (.cells #[.int .i64 0, .int .i64 0, .string ⟨#[]⟩, .slice none 0 0] 24)
        have TWC' := TWB'.keep alWC
        refine hK.out _ _ (SV _ TWC') (fun hS => ?_)
        clear hK K
        have dbWC := DB.new WB #[.int .i64 0, .int .i64 0, .string ⟨#[]⟩, .slice none 0 0]
        have szWC : (WB.alloc (.cells #[.int .i64 0, .int .i64 0, .string ⟨#[]⟩, .slice none 0 0] 24)).heap.size = WB.heap.size + 1 := World.size_alloc _ _
        obtain ⟨WC, hWC⟩ : ∃ x, WB.alloc (.cells #[.int .i64 0, .int .i64 0, .string ⟨#[]⟩, .slice none 0 0] 24) = x := ⟨_, rfl⟩
        rw [hWC] at alWC TWC' dbWC szWC hS ⊢
        clear hWC
        refine wpAnyH_ready (rs := [4]) (by kernel_rfl) (by simp) ?_
        refine AllReadyH.cons rfl (fun K hK => ?_) AllReadyH.nil
        go_simp
        refine (lcatP_any (fun b => b < WB.heap.size) k0 f0 s0 (.slice x0 n0 y0) L0 5 0 ⟨#[]⟩ (.slice (some ⟨aI, 0, none⟩) 2 2) (Fo.two k1 f1 s1 L1 k2 f2 s2 L2) WC (((FoP.of (FS0.out _ TWB'.bl))).keep (fun c hc => alWC.block c hc)) ((fWB.mono (Q := fun b => b < WB.heap.size) fun b hb => by omega).keep (fun c hc => alWC.block c hc)) (fun _ h => by omega) P0.out (by decide : (⟨#[]⟩ : ByteArray).size ≤ 100)).mono ?_
        rintro e WD ⟨aO, rfl, fWD, bWD⟩
        have TWD' := TWC'.keep bWD
        refine hK.out _ _ (SV _ TWD') (fun hS => ?_)
        clear hK K
        have hzD := bWD.size
        have dbD := DB.keep dbWC bWD (by omega)
        refine wpAnyH_ready (rs := [6]) (by kernel_rfl) (by simp) ?_
        refine AllReadyH.cons rfl (fun K hK => ?_) AllReadyH.nil
        rw [if_pos (by rfl)]
        have th := BK.there (b := WB.heap.size) dbD 0 4 (by decide)
        obtain ⟨WZ, hWZ⟩ : ∃ x, WD.setCells WB.heap.size 0 [.int .i64 5, .int .i64 0, .string ⟨#[]⟩, .slice (some ⟨aO, 0, none⟩) 2 2] = x := ⟨_, rfl⟩
        obtain ⟨tZ, xZ, frZ, zZ⟩ := xd_store dbD rfl (fWD.mono fun c hc => by omega) TWD' (by omega) WZ hWZ
        refine wp_store_mid 24 _ _ rfl WB.heap.size 0 #[.int .i64 5, .int .i64 0, .string ⟨#[]⟩, .slice (some ⟨aO, 0, none⟩) 2 2] rfl rfl th infoDC (by simp [Value.oneCell']) ?_
        rw [show (#[.int .i64 5, .int .i64 0, .string ⟨#[]⟩, .slice (some ⟨aO, 0, none⟩) 2 2] : Array Value).toList = [.int .i64 5, .int .i64 0, .string ⟨#[]⟩, .slice (some ⟨aO, 0, none⟩) 2 2] from rfl, hWZ]
        refine hK.out _ _ (SV _ tZ) (fun hS => ?_)
        clear hK K
        refine wpAnyH_done (by kernel_rfl) ?_ _
        refine NoPanic.normal ?_
        try simp only [List.getElem_toArray, List.getElem_cons_succ, List.getElem_cons_zero, Act.put, List.setIfInBounds_toArray, List.set_cons_zero, List.set_cons_succ]
        refine hK' _ _ (Met.intro (hJ _ _ ?_))
        (repeat apply Exists.intro)
        refine ⟨?rel, rfl⟩
        case rel => exact ⟨WB.heap.size, aO, rfl, tZ, by omega, xZ⟩
    case ordB =>
      go_simp
      have alWB := (Below.refl WA.heap.size WA).alloc (Nat.le_refl _) (.cells #[.int .i64 0, .int .i64 0, .string ⟨#[]⟩, .slice none 0 0] 24)
      have TWB' := T0'.out.keep alWB
      refine hK.out _ _ (SV _ TWB') (fun hS => ?_)
      clear hK K
      have dbWB := DB.new WA #[.int .i64 0, .int .i64 0, .string ⟨#[]⟩, .slice none 0 0]
      have szWB : (WA.alloc (.cells #[.int .i64 0, .int .i64 0, .string ⟨#[]⟩, .slice none 0 0] 24)).heap.size = WA.heap.size + 1 := World.size_alloc _ _
      obtain ⟨WB, hWB⟩ : ∃ x, WA.alloc (.cells #[.int .i64 0, .int .i64 0, .string ⟨#[]⟩, .slice none 0 0] 24) = x := ⟨_, rfl⟩
      rw [hWB] at alWB TWB' dbWB szWB hS ⊢
      clear hWB
      refine wpAnyH_ready (rs := [3]) (by kernel_rfl) (by simp) ?_
      refine AllReadyH.cons rfl (fun K hK => ?_) AllReadyH.nil
      go_simp
      refine (lcatP_any (fun b => b < WA.heap.size) k1 f1 s1 (.slice x1 n1 y1) L1 k2 f2 s2 (.slice x2 n2 y2) L2 WB (((FoP.of (FS1.out _ T0'.out.bl))).keep (fun c hc => alWB.block c hc)) (((FoP.of (FS2.out _ T0'.out.bl))).keep (fun c hc => alWB.block c hc)) (fun _ h => by omega) P1.out P2.out).mono ?_
      rintro e WC ⟨aI, rfl, fWC, bWC⟩
      have TWC' := TWB'.keep bWC
      refine hK.out _ _ (SV _ TWC') (fun hS => ?_)
      clear hK K
      have hzC := bWC.size
      refine wpAnyH_ready (rs := [4]) (by kernel_rfl) (by simp) ?_
      refine AllReadyH.cons rfl (fun K hK => ?_) AllReadyH.nil
      go_simp
      refine (lcatP_any (fun b => b < WC.heap.size ∧ b ≠ WA.heap.size) k0 f0 s0 (.slice x0 n0 y0) L0 5 0 ⟨#[]⟩ (.slice (some ⟨aI, 0, none⟩) 2 2) (Fo.two k1 f1 s1 L1 k2 f2 s2 L2) WC (((((FoP.of (FS0.out _ T0'.out.bl))).keep (fun c hc => alWB.block c hc)).keep (fun c hc => bWC.block c (by omega))).mono fun c hc => by omega) (fWC.mono fun b hb => by omega) (fun _ h => h.1) P0.out (by decide : (⟨#[]⟩ : ByteArray).size ≤ 100)).mono ?_
      rintro e WD ⟨aO, rfl, fWD, bWD⟩
      have TWD' := TWC'.keep bWD
      refine hK.out _ _ (SV _ TWD') (fun hS => ?_)
      clear hK K
      have hzD := bWD.size
      have dbD := DB.keep (DB.keep dbWB bWC (by omega)) bWD (by omega)
      refine wpAnyH_ready (rs := [6]) (by kernel_rfl) (by simp) ?_
      refine AllReadyH.cons rfl (fun K hK => ?_) AllReadyH.nil
      rw [if_pos (by rfl)]
      have th := BK.there (b := WA.heap.size) dbD 0 4 (by decide)
      obtain ⟨WZ, hWZ⟩ : ∃ x, WD.setCells WA.heap.size 0 [.int .i64 5, .int .i64 0, .string ⟨#[]⟩, .slice (some ⟨aO, 0, none⟩) 2 2] = x := ⟨_, rfl⟩
      obtain ⟨tZ, xZ, frZ, zZ⟩ := xd_store dbD rfl (fWD.mono fun c hc => by omega) TWD' (by omega) WZ hWZ
      refine wp_store_mid 24 _ _ rfl WA.heap.size 0 #[.int .i64 5, .int .i64 0, .string ⟨#[]⟩, .slice (some ⟨aO, 0, none⟩) 2 2] rfl rfl th infoDC (by simp [Value.oneCell']) ?_
      rw [show (#[.int .i64 5, .int .i64 0, .string ⟨#[]⟩, .slice (some ⟨aO, 0, none⟩) 2 2] : Array Value).toList = [.int .i64 5, .int .i64 0, .string ⟨#[]⟩, .slice (some ⟨aO, 0, none⟩) 2 2] from rfl, hWZ]
      refine hK.out _ _ (SV _ tZ) (fun hS => ?_)
      clear hK K
      refine wpAnyH_done (by kernel_rfl) ?_ _
      refine NoPanic.normal ?_
      try simp only [List.getElem_toArray, List.getElem_cons_succ, List.getElem_cons_zero, Act.put, List.setIfInBounds_toArray, List.set_cons_zero, List.set_cons_succ]
      refine hK' _ _ (Met.intro (hJ _ _ ?_))
      (repeat apply Exists.intro)
      refine ⟨?rel, rfl⟩
      case rel => exact ⟨WA.heap.size, aO, rfl, tZ, by omega, xZ⟩
  case rest =>
  obtain ⟨b4, a4, rfl, t4, h4, x4⟩ := hcut
  obtain ⟨v5, rfl⟩ : ∃ x, x = wc := ⟨_, rfl⟩
  have T5 := Lib.hid t4
  have Xx := Lib.hid x4
  clear t4 x4
  go_upto_region 5 with fail
  go_cut [13] (fun q wx => ∃ bx ax : Nat, q = .pointer (some ⟨bx, 0, none⟩) ∧ Tri w wx #[.int .i64 k0, .int .i64 f0, .string s0, .slice x0 n0 y0] #[.int .i64 k1, .int .i64 f1, .string s1, .slice x1 n1 y1] #[.int .i64 k2, .int .i64 f2, .string s2, .slice x2 n2 y2] ∧ w.heap.size + 1 + 1 < bx ∧ Xd w wx bx ax (Fo.two 5 0 ⟨#[]⟩ (Fo.two k0 f0 s0 L0 k1 f1 s1 L1) k2 f2 s2 L2) ∧ Xd w wx b4 a4 (Fo.two k0 f0 s0 L0 5 0 ⟨#[]⟩ (Fo.two k1 f1 s1 L1 k2 f2 s2 L2)))
  case first =>
    rename_i J K' hJ hK'
    refine wp_region_noPanic ?_
    refine wp_region_held_drew (S := fun V => V.rangeAt w.heap.size 0 [.int .i64 k0, .int .i64 f0, .string s0, .slice x0 n0 y0] ∧ V.rangeAt (w.heap.size + 1) 0 [.int .i64 k1, .int .i64 f1, .string s1, .slice x1 n1 y1] ∧ V.rangeAt (w.heap.size + 1 + 1) 0 [.int .i64 k2, .int .i64 f2, .string s2, .slice x2 n2 y2]) (by kernel_rfl) (SV _ (T5.out.keep (Below.refl _ _).drew)) (fun hS => ?_)
    have T0' := Lib.hid (T5.out.keep (Below.refl _ _).drew)
    have Xx0 := Lib.hid (Xx.out.keep (Below.refl _ _).drew)
    have hz4 : w.heap.size + 1 + 1 < v5.heap.size := T5.out.d2.lt
    obtain ⟨WA, hWA⟩ : ∃ x, v5.drew = x := ⟨_, rfl⟩
    have hzA : w.heap.size + 1 + 1 < WA.heap.size := by rw [← hWA]; exact hz4
    rw [hWA] at T0' hS Xx0 ⊢
    clear hWA hz4
    refine rtk (v := .agg #[.int .i64 k0, .int .i64 f0, .string s0, .slice x0 n0 y0]) 0 (hy := yieldsIf_load_mid (by rfl) 24 _ rfl w.heap.size 0 rfl [.int .i64 k0, .int .i64 f0, .string s0, .slice x0 n0 y0] _ (fun w hS => hS.1) Try.underlying24 rfl infoDC) ?_
    refine rtk (v := .agg #[.int .i64 k1, .int .i64 f1, .string s1, .slice x1 n1 y1]) 1 (hy := yieldsIf_load_mid (by rfl) 24 _ rfl (w.heap.size + 1) 0 rfl [.int .i64 k1, .int .i64 f1, .string s1, .slice x1 n1 y1] _ (fun w hS => hS.2.1) Try.underlying24 rfl infoDC) ?_
    refine rtk (v := .agg #[.int .i64 k2, .int .i64 f2, .string s2, .slice x2 n2 y2]) 3 (hy := yieldsIf_load_mid (by rfl) 24 _ rfl (w.heap.size + 1 + 1) 0 rfl [.int .i64 k2, .int .i64 f2, .string s2, .slice x2 n2 y2] _ (fun w hS => hS.2.2) Try.underlying24 rfl infoDC) ?_
    refine wpAnyH_ready (rs := [2, 5]) (by kernel_rfl) (by simp) ?_
    refine AllReadyH.cons rfl (fun K hK => ?ordA) (AllReadyH.cons rfl (fun K hK => ?ordB) AllReadyH.nil)
    case ordA =>
      go_simp
      refine (lcatP_any (fun b => b < WA.heap.size) k0 f0 s0 (.slice x0 n0 y0) L0 k1 f1 s1 (.slice x1 n1 y1) L1 WA (FoP.of (FS0.out _ T0'.out.bl)) (FoP.of (FS1.out _ T0'.out.bl)) (fun _ h => h) P0.out P1.out).mono ?_
      rintro e WB ⟨aI, rfl, fWB, bWB⟩
      have TWB' := T0'.out.keep bWB
      refine hK.out _ _ (SV _ TWB') (fun hS => ?_)
      clear hK K
      have hzB := bWB.size
      refine wpAnyH_ready (rs := [4, 5]) (by kernel_rfl) (by simp) ?_
      refine AllReadyH.cons rfl (fun K hK => ?ordAx) (AllReadyH.cons rfl (fun K hK => ?ordBx) AllReadyH.nil)
      case ordAx =>
        go_simp
        refine (lcatP_any (fun b => b < WB.heap.size) 5 0 ⟨#[]⟩ (.slice (some ⟨aI, 0, none⟩) 2 2) (Fo.two k0 f0 s0 L0 k1 f1 s1 L1) k2 f2 s2 (.slice x2 n2 y2) L2 WB (fWB.mono fun b hb => by omega) (FoP.of (FS2.out _ TWB'.bl)) (fun _ h => h) (by decide : (⟨#[]⟩ : ByteArray).size ≤ 100) P2.out).mono ?_
        rintro e WC ⟨aO, rfl, fWC, bWC⟩
        have TWC' := TWB'.keep bWC
        refine hK.out _ _ (SV _ TWC') (fun hS => ?_)
        clear hK K
        have hzC := bWC.size
        refine wpAnyH_ready (rs := [5]) (by kernel_rfl) (by simp) ?_
        refine AllReadyH.cons rfl (fun K hK => ?_) AllReadyH.nil
        go_simp
        have alWD := (Below.refl WC.heap.size WC).alloc (Nat.le_refl _) (.cells #[.int .i64 0, .int .i64 0, .string ⟨#[]⟩, .slice none 0 0] 24)
        have TWD' := TWC'.keep alWD
        refine hK.out _ _ (SV _ TWD') (fun hS => ?_)
        clear hK K
        have dbWD := DB.new WC #[.int .i64 0, .int .i64 0, .string ⟨#[]⟩, .slice none 0 0]
        have szWD : (WC.alloc (.cells #[.int .i64 0, .int .i64 0, .string ⟨#[]⟩, .slice none 0 0] 24)).heap.size = WC.heap.size + 1 := World.size_alloc _ _
        obtain ⟨WD, hWD⟩ : ∃ x, WC.alloc (.cells #[.int .i64 0, .int .i64 0, .string ⟨#[]⟩, .slice none 0 0] 24) = x := ⟨_, rfl⟩
        rw [hWD] at alWD TWD' dbWD szWD hS ⊢
        clear hWD
        refine wpAnyH_ready (rs := [6]) (by kernel_rfl) (by simp) ?_
        refine AllReadyH.cons rfl (fun K hK => ?_) AllReadyH.nil
        rw [if_pos (by rfl)]
        have th := BK.there (b := WC.heap.size) dbWD 0 4 (by decide)
        obtain ⟨WZ, hWZ⟩ : ∃ x, WD.setCells WC.heap.size 0 [.int .i64 5, .int .i64 0, .string ⟨#[]⟩, .slice (some ⟨aO, 0, none⟩) 2 2] = x := ⟨_, rfl⟩
        obtain ⟨tZ, xZ, frZ, zZ⟩ := xd_store dbWD rfl ((fWC.keep (w' := WD) (fun c hc => alWD.block c (by omega))).mono fun c hc => by omega) TWD' (by omega) WZ hWZ
        refine wp_store_mid 24 _ _ rfl WC.heap.size 0 #[.int .i64 5, .int .i64 0, .string ⟨#[]⟩, .slice (some ⟨aO, 0, none⟩) 2 2] rfl rfl th infoDC (by simp [Value.oneCell']) ?_
        rw [show (#[.int .i64 5, .int .i64 0, .string ⟨#[]⟩, .slice (some ⟨aO, 0, none⟩) 2 2] : Array Value).toList = [.int .i64 5, .int .i64 0, .string ⟨#[]⟩, .slice (some ⟨aO, 0, none⟩) 2 2] from rfl, hWZ]
        refine hK.out _ _ (SV _ tZ) (fun hS => ?_)
        clear hK K
        refine wpAnyH_done (by kernel_rfl) ?_ _
        refine NoPanic.normal ?_
        try simp only [List.getElem_toArray, List.getElem_cons_succ, List.getElem_cons_zero, Act.put, List.setIfInBounds_toArray, List.set_cons_zero, List.set_cons_succ]
        refine hK' _ _ (Met.intro (hJ _ _ ?_))
        (repeat apply Exists.intro)
        refine ⟨?rel, rfl⟩
        case rel => exact ⟨WC.heap.size, aO, rfl, tZ, by omega, xZ, Xx0.out.frame (by omega) (fun j hj => (frZ j (by omega)).trans ((alWD.block j (by omega)).trans ((bWC.block j (by omega)).trans (bWB.block j hj))))⟩
      case ordBx =>
        go_simp
        have alWC := (Below.refl WB.heap.size WB).alloc (Nat.le_refl _) (.cells #[.int .i64 0, .int .i64 0, .string ⟨#[]⟩, .slice none 0 0] 24)
        have TWC' := TWB'.keep alWC
        refine hK.out _ _ (SV _ TWC') (fun hS => ?_)
        clear hK K
        have dbWC := DB.new WB #[.int .i64 0, .int .i64 0, .string ⟨#[]⟩, .slice none 0 0]
        have szWC : (WB.alloc (.cells #[.int .i64 0, .int .i64 0, .string ⟨#[]⟩, .slice none 0 0] 24)).heap.size = WB.heap.size + 1 := World.size_alloc _ _
        obtain ⟨WC, hWC⟩ : ∃ x, WB.alloc (.cells #[.int .i64 0, .int .i64 0, .string ⟨#[]⟩, .slice none 0 0] 24) = x := ⟨_, rfl⟩
        rw [hWC] at alWC TWC' dbWC szWC hS ⊢
        clear hWC
        refine wpAnyH_ready (rs := [4]) (by kernel_rfl) (by simp) ?_
        refine AllReadyH.cons rfl (fun K hK => ?_) AllReadyH.nil
        go_simp
        refine (lcatP_any (fun b => b < WB.heap.size) 5 0 ⟨#[]⟩ (.slice (some ⟨aI, 0, none⟩) 2 2) (Fo.two k0 f0 s0 L0 k1 f1 s1 L1) k2 f2 s2 (.slice x2 n2 y2) L2 WC ((fWB.mono (Q := fun b => b < WB.heap.size) fun b hb => by omega).keep (fun c hc => alWC.block c hc)) (((FoP.of (FS2.out _ TWB'.bl))).keep (fun c hc => alWC.block c hc)) (fun _ h => by omega) (by decide : (⟨#[]⟩ : ByteArray).size ≤ 100) P2.out).mono ?_
        rintro e WD ⟨aO, rfl, fWD, bWD⟩
        have TWD' := TWC'.keep bWD
        refine hK.out _ _ (SV _ TWD') (fun hS => ?_)
        clear hK K
        have hzD := bWD.size
        have dbD := DB.keep dbWC bWD (by omega)
        refine wpAnyH_ready (rs := [6]) (by kernel_rfl) (by simp) ?_
        refine AllReadyH.cons rfl (fun K hK => ?_) AllReadyH.nil
        rw [if_pos (by rfl)]
        have th := BK.there (b := WB.heap.size) dbD 0 4 (by decide)
        obtain ⟨WZ, hWZ⟩ : ∃ x, WD.setCells WB.heap.size 0 [.int .i64 5, .int .i64 0, .string ⟨#[]⟩, .slice (some ⟨aO, 0, none⟩) 2 2] = x := ⟨_, rfl⟩
        obtain ⟨tZ, xZ, frZ, zZ⟩ := xd_store dbD rfl (fWD.mono fun c hc => by omega) TWD' (by omega) WZ hWZ
        refine wp_store_mid 24 _ _ rfl WB.heap.size 0 #[.int .i64 5, .int .i64 0, .string ⟨#[]⟩, .slice (some ⟨aO, 0, none⟩) 2 2] rfl rfl th infoDC (by simp [Value.oneCell']) ?_
        rw [show (#[.int .i64 5, .int .i64 0, .string ⟨#[]⟩, .slice (some ⟨aO, 0, none⟩) 2 2] : Array Value).toList = [.int .i64 5, .int .i64 0, .string ⟨#[]⟩, .slice (some ⟨aO, 0, none⟩) 2 2] from rfl, hWZ]
        refine hK.out _ _ (SV _ tZ) (fun hS => ?_)
        clear hK K
        refine wpAnyH_done (by kernel_rfl) ?_ _
        refine NoPanic.normal ?_
        try simp only [List.getElem_toArray, List.getElem_cons_succ, List.getElem_cons_zero, Act.put, List.setIfInBounds_toArray, List.set_cons_zero, List.set_cons_succ]
        refine hK' _ _ (Met.intro (hJ _ _ ?_))
        (repeat apply Exists.intro)
        refine ⟨?rel, rfl⟩
        case rel => exact ⟨WB.heap.size, aO, rfl, tZ, by omega, xZ, Xx0.out.frame (by omega) (fun j hj => (frZ j (by omega)).trans ((bWD.block j (by omega)).trans ((alWC.block j (by omega)).trans (bWB.block j hj))))⟩
    case ordB =>
      go_simp
      have alWB := (Below.refl WA.heap.size WA).alloc (Nat.le_refl _) (.cells #[.int .i64 0, .int .i64 0, .string ⟨#[]⟩, .slice none 0 0] 24)
      have TWB' := T0'.out.keep alWB
      refine hK.out _ _ (SV _ TWB') (fun hS => ?_)
      clear hK K
      have dbWB := DB.new WA #[.int .i64 0, .int .i64 0, .string ⟨#[]⟩, .slice none 0 0]
      have szWB : (WA.alloc (.cells #[.int .i64 0, .int .i64 0, .string ⟨#[]⟩, .slice none 0 0] 24)).heap.size = WA.heap.size + 1 := World.size_alloc _ _
      obtain ⟨WB, hWB⟩ : ∃ x, WA.alloc (.cells #[.int .i64 0, .int .i64 0, .string ⟨#[]⟩, .slice none 0 0] 24) = x := ⟨_, rfl⟩
      rw [hWB] at alWB TWB' dbWB szWB hS ⊢
      clear hWB
      refine wpAnyH_ready (rs := [2]) (by kernel_rfl) (by simp) ?_
      refine AllReadyH.cons rfl (fun K hK => ?_) AllReadyH.nil
      go_simp
      refine (lcatP_any (fun b => b < WA.heap.size) k0 f0 s0 (.slice x0 n0 y0) L0 k1 f1 s1 (.slice x1 n1 y1) L1 WB (((FoP.of (FS0.out _ T0'.out.bl))).keep (fun c hc => alWB.block c hc)) (((FoP.of (FS1.out _ T0'.out.bl))).keep (fun c hc => alWB.block c hc)) (fun _ h => by omega) P0.out P1.out).mono ?_
      rintro e WC ⟨aI, rfl, fWC, bWC⟩
      have TWC' := TWB'.keep bWC
      refine hK.out _ _ (SV _ TWC') (fun hS => ?_)
      clear hK K
      have hzC := bWC.size
      refine wpAnyH_ready (rs := [4]) (by kernel_rfl) (by simp) ?_
      refine AllReadyH.cons rfl (fun K hK => ?_) AllReadyH.nil
      go_simp
      refine (lcatP_any (fun b => b < WC.heap.size ∧ b ≠ WA.heap.size) 5 0 ⟨#[]⟩ (.slice (some ⟨aI, 0, none⟩) 2 2) (Fo.two k0 f0 s0 L0 k1 f1 s1 L1) k2 f2 s2 (.slice x2 n2 y2) L2 WC (fWC.mono fun b hb => by omega) (((((FoP.of (FS2.out _ T0'.out.bl))).keep (fun c hc => alWB.block c hc)).keep (fun c hc => bWC.block c (by omega))).mono fun c hc => by omega) (fun _ h => h.1) (by decide : (⟨#[]⟩ : ByteArray).size ≤ 100) P2.out).mono ?_
      rintro e WD ⟨aO, rfl, fWD, bWD⟩
      have TWD' := TWC'.keep bWD
      refine hK.out _ _ (SV _ TWD') (fun hS => ?_)
      clear hK K
      have hzD := bWD.size
      have dbD := DB.keep (DB.keep dbWB bWC (by omega)) bWD (by omega)
      refine wpAnyH_ready (rs := [6]) (by kernel_rfl) (by simp) ?_
      refine AllReadyH.cons rfl (fun K hK => ?_) AllReadyH.nil
      rw [if_pos (by rfl)]
      have th := BK.there (b := WA.heap.size) dbD 0 4 (by decide)
      obtain ⟨WZ, hWZ⟩ : ∃ x, WD.setCells WA.heap.size 0 [.int .i64 5, .int .i64 0, .string ⟨#[]⟩, .slice (some ⟨aO, 0, none⟩) 2 2] = x := ⟨_, rfl⟩
      obtain ⟨tZ, xZ, frZ, zZ⟩ := xd_store dbD rfl (fWD.mono fun c hc => by omega) TWD' (by omega) WZ hWZ
      refine wp_store_mid 24 _ _ rfl WA.heap.size 0 #[.int .i64 5, .int .i64 0, .string ⟨#[]⟩, .slice (some ⟨aO, 0, none⟩) 2 2] rfl rfl th infoDC (by simp [Value.oneCell']) ?_
      rw [show (#[.int .i64 5, .int .i64 0, .string ⟨#[]⟩, .slice (some ⟨aO, 0, none⟩) 2 2] : Array Value).toList = [.int .i64 5, .int .i64 0, .string ⟨#[]⟩, .slice (some ⟨aO, 0, none⟩) 2 2] from rfl, hWZ]
      refine hK.out _ _ (SV _ tZ) (fun hS => ?_)
      clear hK K
      refine wpAnyH_done (by kernel_rfl) ?_ _
      refine NoPanic.normal ?_
      try simp only [List.getElem_toArray, List.getElem_cons_succ, List.getElem_cons_zero, Act.put, List.setIfInBounds_toArray, List.set_cons_zero, List.set_cons_succ]
      refine hK' _ _ (Met.intro (hJ _ _ ?_))
      (repeat apply Exists.intro)
      refine ⟨?rel, rfl⟩
      case rel => exact ⟨WA.heap.size, aO, rfl, tZ, by omega, xZ, Xx0.out.frame (by omega) (fun j hj => (frZ j (by omega)).trans ((bWD.block j (by omega)).trans ((bWC.block j (by omega)).trans (alWB.block j hj))))⟩
  case rest =>
  obtain ⟨b5, a5, rfl, t5, h5, x5, yx⟩ := hcut
  obtain ⟨v6, rfl⟩ : ∃ x, x = wc := ⟨_, rfl⟩
  have T6 := Lib.hid t5
  have X6 := Lib.hid yx
  have Y6 := Lib.hid x5
  have F0 := Lib.hid (FS0.out _ t5.bl)
  have F1 := Lib.hid (FS1.out _ t5.bl)
  have F2 := Lib.hid (FS2.out _ t5.bl)
  clear t5 x5 yx
  obtain ⟨N, hN⟩ : ∃ N, v6.heap.size = N := ⟨_, rfl⟩
  have EW : Hid (∀ W0 : World, (v6.alloc (.cells #[.int .i64 k0, .int .i64 f0, .string s0, .slice x0 n0 y0, .int .i64 k1, .int .i64 f1, .string s1, .slice x1 n1 y1, .int .i64 k2, .int .i64 f2, .string s2, .slice x2 n2 y2] 24)).alloc (.cells #[.int .i64 5, .int .i64 0, .string ⟨#[]⟩, .slice (some ⟨N, 0, none⟩) 3 3] 24) = W0 →
      DB W0 (N + 1) #[.int .i64 5, .int .i64 0, .string ⟨#[]⟩, .slice (some ⟨N, 0, none⟩) 3 3] ∧ FoS W0 (.slice (some ⟨N, 0, none⟩) 3 3) (Fo.cons k0 f0 s0 L0 (Fo.two k1 f1 s1 L1 k2 f2 s2 L2)) ∧ Below v6.heap.size v6 W0) := Lib.hid (by
    rintro W0 rfl
    subst hN
    have f := triple_fos (k0 := k0) (f0 := f0) (k1 := k1) (f1 := f1) (k2 := k2) (f2 := f2) F0.out F1.out F2.out P0.out P1.out P2.out
    have b1 := (Below.refl v6.heap.size v6).alloc (Nat.le_refl _) (.cells #[.int .i64 k0, .int .i64 f0, .string s0, .slice x0 n0 y0, .int .i64 k1, .int .i64 f1, .string s1, .slice x1 n1 y1, .int .i64 k2, .int .i64 f2, .string s2, .slice x2 n2 y2] 24)
    have d := DB.new (v6.alloc (.cells #[.int .i64 k0, .int .i64 f0, .string s0, .slice x0 n0 y0, .int .i64 k1, .int .i64 f1, .string s1, .slice x1 n1 y1, .int .i64 k2, .int .i64 f2, .string s2, .slice x2 n2 y2] 24)) #[.int .i64 5, .int .i64 0, .string ⟨#[]⟩, .slice (some ⟨v6.heap.size, 0, none⟩) 3 3]
    have z1 : (v6.alloc (.cells #[.int .i64 k0, .int .i64 f0, .string s0, .slice x0 n0 y0, .int .i64 k1, .int .i64 f1, .string s1, .slice x1 n1 y1, .int .i64 k2, .int .i64 f2, .string s2, .slice x2 n2 y2] 24)).heap.size = v6.heap.size + 1 := World.size_alloc _ _
    have b2 := (Below.refl _ (v6.alloc (.cells #[.int .i64 k0, .int .i64 f0, .string s0, .slice x0 n0 y0, .int .i64 k1, .int .i64 f1, .string s1, .slice x1 n1 y1, .int .i64 k2, .int .i64 f2, .string s2, .slice x2 n2 y2] 24))).alloc (Nat.le_refl _) (.cells #[.int .i64 5, .int .i64 0, .string ⟨#[]⟩, .slice (some ⟨v6.heap.size, 0, none⟩) 3 3] 24)
    rw [z1] at d
    exact ⟨d, f.keep b2, b1.trans (b2.mono (by omega))⟩)
  obtain ⟨g0, g1, g2, g3⟩ := T6.out.d0.four
  obtain ⟨g4, g5, g6, g7⟩ := T6.out.d1.four
  obtain ⟨g8, g9, g10, g11⟩ := T6.out.d2.four
  go_upto_region 7 with fail
  obtain ⟨W7, hW7⟩ : ∃ x, (v6.alloc (.cells #[.int .i64 k0, .int .i64 f0, .string s0, .slice x0 n0 y0, .int .i64 k1, .int .i64 f1, .string s1, .slice x1 n1 y1, .int .i64 k2, .int .i64 f2, .string s2, .slice x2 n2 y2] 24)).alloc (.cells #[.int .i64 5, .int .i64 0, .string ⟨#[]⟩, .slice (some ⟨N, 0, none⟩) 3 3] 24) = x := ⟨_, rfl⟩
  rw [hW7]
  obtain ⟨dz, fz, bz⟩ := EW.out W7 hW7
  have Dz7 := Lib.hid dz
  have Fz7 := Lib.hid fz
  have X7 := Lib.hid (X6.out.keep bz)
  have Y7 := Lib.hid (Y6.out.keep bz)
  have B7 := Lib.hid (T6.out.bl.trans (bz.mono T6.out.bl.size))
  have HN := Lib.hid hN
  have hsx : (⟨#[]⟩ : ByteArray).size + 1 + FoSz (Fo.two k0 f0 s0 L0 5 0 ⟨#[]⟩ (Fo.two k1 f1 s1 L1 k2 f2 s2 L2)) ≤ 100000 := by simp only [Fo.two, FoSz, ByteArray.size]; simp; omega
  have hnx : FoN (Fo.two k0 f0 s0 L0 5 0 ⟨#[]⟩ (Fo.two k1 f1 s1 L1 k2 f2 s2 L2)) ≤ 99000 := by simp only [Fo.two, FoN]; omega
  have hsy : (⟨#[]⟩ : ByteArray).size + 1 + FoSz (Fo.two 5 0 ⟨#[]⟩ (Fo.two k0 f0 s0 L0 k1 f1 s1 L1) k2 f2 s2 L2) ≤ 100000 := by simp only [Fo.two, FoSz, ByteArray.size]; simp; omega
  have hny : FoN (Fo.two 5 0 ⟨#[]⟩ (Fo.two k0 f0 s0 L0 k1 f1 s1 L1) k2 f2 s2 L2) ≤ 99000 := by simp only [Fo.two, FoN]; omega
  have hsz : (⟨#[]⟩ : ByteArray).size + 1 + FoSz (Fo.cons k0 f0 s0 L0 (Fo.two k1 f1 s1 L1 k2 f2 s2 L2)) ≤ 100000 := by simp only [Fo.two, FoSz, ByteArray.size]; simp; omega
  have hnz : FoN (Fo.cons k0 f0 s0 L0 (Fo.two k1 f1 s1 L1 k2 f2 s2 L2)) ≤ 99000 := by simp only [Fo.two, FoN]; omega
  have CP := cat_plain (k0, f0, s0, L0) (k1, f1, s1, L1) (k2, f2, s2, L2) na ni
  have CP2 : rightD 5 0 ⟨#[]⟩ (Fo.two k0 f0 s0 L0 5 0 ⟨#[]⟩ (Fo.two k1 f1 s1 L1 k2 f2 s2 L2)) 200 = true → rightD 5 0 ⟨#[]⟩ (Fo.two 5 0 ⟨#[]⟩ (Fo.two k0 f0 s0 L0 k1 f1 s1 L1) k2 f2 s2 L2) 200 = true → rightD 5 0 ⟨#[]⟩ (Fo.cons k0 f0 s0 L0 (Fo.two k1 f1 s1 L1 k2 f2 s2 L2)) 200 = true → renP 5 0 ⟨#[]⟩ (Fo.two 5 0 ⟨#[]⟩ (Fo.two k0 f0 s0 L0 k1 f1 s1 L1) k2 f2 s2 L2) na ni = renP 5 0 ⟨#[]⟩ (Fo.two k0 f0 s0 L0 5 0 ⟨#[]⟩ (Fo.two k1 f1 s1 L1 k2 f2 s2 L2)) na ni ∧ renP 5 0 ⟨#[]⟩ (Fo.cons k0 f0 s0 L0 (Fo.two k1 f1 s1 L1 k2 f2 s2 L2)) na ni = renP 5 0 ⟨#[]⟩ (Fo.two k0 f0 s0 L0 5 0 ⟨#[]⟩ (Fo.two k1 f1 s1 L1 k2 f2 s2 L2)) na ni := CP
  obtain ⟨GX, hGX⟩ : ∃ x, (Fo.two k0 f0 s0 L0 5 0 ⟨#[]⟩ (Fo.two k1 f1 s1 L1 k2 f2 s2 L2)) = x := ⟨_, rfl⟩
  obtain ⟨GY, hGY⟩ : ∃ x, (Fo.two 5 0 ⟨#[]⟩ (Fo.two k0 f0 s0 L0 k1 f1 s1 L1) k2 f2 s2 L2) = x := ⟨_, rfl⟩
  obtain ⟨GZ, hGZ⟩ : ∃ x, (Fo.cons k0 f0 s0 L0 (Fo.two k1 f1 s1 L1 k2 f2 s2 L2)) = x := ⟨_, rfl⟩
  rw [hGX, hGY, hGZ] at CP2
  rw [hGX] at X7 hsx hnx
  rw [hGY] at Y7 hsy hny
  rw [hGZ] at Fz7 hsz hnz
  have HCP := Lib.hid CP2
  have HSX := Lib.hid hsx
  have HNX := Lib.hid hnx
  have HSY := Lib.hid hsy
  have HNY := Lib.hid hny
  have HSZ := Lib.hid hsz
  have HNZ := Lib.hid hnz
  have EA := Lib.hid ea
  have EI := Lib.hid ei
  clear hGX hGY hGZ CP CP2 hsx hnx hsy hny hsz hnz hN hW7 dz fz bz EW g0 g1 g2 g3 g4 g5 g6 g7 g8 g9 g10 g11 X6 Y6 T6 F0 F1 F2 c0 c1 c2 e0 e0' e0'' e1 e1' e1'' e2 e2' e2'' ea ei SV FS0 FS1 FS2 FA0 FA1 FA2 P0 P1 P2
  obtain ⟨g0, g1, g2, g3⟩ := X7.out.d.four
  have RX := Lib.hid (refright_any 5 0 ⟨#[]⟩ GX _ W7 X7.out.f)
  unfold dv at RX
  go_wp2_with fail
  obtain ⟨bx, hbx⟩ : ∃ b, rightD 5 0 ⟨#[]⟩ GX 200 = b := ⟨_, rfl⟩
  rw [hbx] at RX
  refine RX.out.mono ?_
  rintro e W8 ⟨rfl, hb8⟩
  have B8 := Lib.hid (B7.out.trans (hb8.mono B7.out.size))
  have X8 := Lib.hid (X7.out.keep hb8)
  have Y8 := Lib.hid (Y7.out.keep hb8)
  have Dz8 := Lib.hid (Dz7.out.keep hb8 Dz7.out.lt)
  have Fz8 := Lib.hid (Fz7.out.keep hb8)
  clear hb8 g0 g1 g2 g3
  cases bx
  · as_aux_lemma =>
      go_wp2
      go_ret
      exact ⟨rfl, B8.out⟩
  obtain ⟨g0, g1, g2, g3⟩ := Y8.out.d.four
  have RY := Lib.hid (refright_any 5 0 ⟨#[]⟩ GY _ W8 Y8.out.f)
  unfold dv at RY
  have HBX := Lib.hid hbx
  clear hbx
  go_wp2_with fail
  obtain ⟨by', hby⟩ : ∃ b, rightD 5 0 ⟨#[]⟩ GY 200 = b := ⟨_, rfl⟩
  rw [hby] at RY
  refine RY.out.mono ?_
  rintro e W9 ⟨rfl, hb9⟩
  have B9 := Lib.hid (B8.out.trans (hb9.mono B8.out.size))
  have X9 := Lib.hid (X8.out.keep hb9)
  have Y9 := Lib.hid (Y8.out.keep hb9)
  have Dz9 := Lib.hid (Dz8.out.keep hb9 Dz8.out.lt)
  have Fz9 := Lib.hid (Fz8.out.keep hb9)
  clear hb9 g0 g1 g2 g3
  cases by'
  · as_aux_lemma =>
      go_wp2
      go_ret
      exact ⟨rfl, B9.out⟩
  obtain ⟨g0, g1, g2, g3⟩ := Dz9.out.four
  have RZ := Lib.hid (refright_any 5 0 ⟨#[]⟩ GZ _ W9 Fz9.out)
  unfold dv at RZ
  have HBY := Lib.hid hby
  clear hby
  go_wp2_with fail
  obtain ⟨bz', hbz⟩ : ∃ b, rightD 5 0 ⟨#[]⟩ GZ 200 = b := ⟨_, rfl⟩
  rw [hbz] at RZ
  refine RZ.out.mono ?_
  rintro e WA ⟨rfl, hbA⟩
  have BA := Lib.hid (B9.out.trans (hbA.mono B9.out.size))
  have XA := Lib.hid (X9.out.keep hbA)
  have YA := Lib.hid (Y9.out.keep hbA)
  have DzA := Lib.hid (Dz9.out.keep hbA Dz9.out.lt)
  have FzA := Lib.hid (Fz9.out.keep hbA)
  clear hbA g0 g1 g2 g3
  cases bz'
  · as_aux_lemma =>
      go_wp2
      go_ret
      exact ⟨rfl, BA.out⟩
  have CPX := HCP.out HBX.out HBY.out hbz
  obtain ⟨la, hla⟩ : ∃ l, renP 5 0 ⟨#[]⟩ GX na ni = l := ⟨_, rfl⟩
  rw [hla] at CPX
  have HLA := Lib.hid hla
  have HLY := Lib.hid CPX.1
  have HLZ := Lib.hid CPX.2
  clear hbz hla CPX
  obtain ⟨g0, g1, g2, g3⟩ := XA.out.d.four
  have PX := Lib.hid (pieces_any 5 0 ⟨#[]⟩ GX _ a i na ni WA XA.out.f HSX.out HNX.out EA.out EI.out)
  rw [HLA.out] at PX
  unfold dv at PX
  go_wp2_with fail
  refine PX.out.mono ?_
  rintro e WB ⟨ux, rfl, hux, hbB⟩
  have BB := Lib.hid (BA.out.trans (hbB.mono BA.out.size))
  have YB := Lib.hid (YA.out.keep hbB)
  have DzB := Lib.hid (DzA.out.keep hbB DzA.out.lt)
  have FzB := Lib.hid (FzA.out.keep hbB)
  have UX := Lib.hid (OwnV.vs hux)
  clear hbB hux g0 g1 g2 g3
  obtain ⟨g0, g1, g2, g3⟩ := YB.out.d.four
  have PY := Lib.hid (pieces_any 5 0 ⟨#[]⟩ GY _ a i na ni WB YB.out.f HSY.out HNY.out EA.out EI.out)
  rw [HLY.out] at PY
  unfold dv at PY
  go_wp2_with fail
  refine PY.out.mono ?_
  rintro e WC ⟨uy, rfl, huy, hbC⟩
  have BC := Lib.hid (BB.out.trans (hbC.mono BB.out.size))
  have DzC := Lib.hid (DzB.out.keep hbC DzB.out.lt)
  have FzC := Lib.hid (FzB.out.keep hbC)
  have UX2 := Lib.hid (UX.out.keep hbC)
  have UY := Lib.hid (OwnV.vs huy)
  clear hbC huy g0 g1 g2 g3
  go_wp2_with fail
  refine (samep_any la ux uy WC UX2.out UY.out).mono ?_
  rintro e WD ⟨rfl, hbD⟩
  have BD := Lib.hid (BC.out.trans (hbD.mono BC.out.size))
  have DzD := Lib.hid (DzC.out.keep hbD DzC.out.lt)
  have FzD := Lib.hid (FzC.out.keep hbD)
  have UX3 := Lib.hid (UX2.out.keep hbD)
  clear hbD
  obtain ⟨g0, g1, g2, g3⟩ := DzD.out.four
  have PZ := Lib.hid (pieces_any 5 0 ⟨#[]⟩ GZ _ a i na ni WD FzD.out HSZ.out HNZ.out EA.out EI.out)
  rw [HLZ.out] at PZ
  unfold dv at PZ
  go_wp2_with fail
  refine PZ.out.mono ?_
  rintro e WE ⟨uz, rfl, huz, hbE⟩
  have BE := Lib.hid (BD.out.trans (hbE.mono BD.out.size))
  have UX4 := Lib.hid (UX3.out.keep hbE)
  have UZ := Lib.hid (OwnV.vs huz)
  clear hbE huz g0 g1 g2 g3
  go_wp2_with fail
  refine (samep_any la ux uz WE UX4.out UZ.out).mono ?_
  rintro e WF ⟨rfl, hbF⟩
  have BF := Lib.hid (BE.out.trans (hbF.mono BE.out.size))
  clear hbF
  go_wp2
  go_ret
  exact ⟨rfl, BF.out⟩
end Go.Proofs.Ytehofomfblfhaaa
