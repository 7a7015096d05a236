/- Layouts: RenderTells' walk, given what render.Pieces, Text, Starts and alive do. -/
import Derived.Test.YtehofomfblfhaaaYSame
import Derived.Test.YtehofomfblfhaaaYFits
namespace Go.Proofs.Ytehofomfblfhaaa
open Go.RowKit
set_option linter.unusedVariables false
set_option linter.unusedSimpArgs false

/-- Where each piece begins. -/
def starts (l : List Pc) : List Int := (List.range l.length).map fun i => ((ptext (l.take i)).length : Int)
def TextC : Prop := ∀ (l : List Pc) (v : Value) (T : List UInt8) (w : World), Vs 2 w v (l.map pc2) → ptext l = T → T.length ≤ 100000000 → l.length ≤ 1000000 →
  Calls Try.prog 16 #[v] w fun e w' => e = .returned (.string (bytes T)) ∧ Below w.heap.size w w'
def StartsC : Prop := ∀ (l : List Pc) (v : Value) (w : World), Vs 2 w v (l.map pc2) → l.length ≤ 1000000 → (ptext l).length ≤ 100000000 →
  Calls Try.prog 14 #[v] w fun e w' => ∃ u, e = .returned u ∧ Is w' u (starts l) ∧ Below w.heap.size w w'
theorem starts_len (l : List Pc) : (starts l).length = l.length := by unfold starts; rw [List.length_map, List.length_range]
theorem starts_at (l : List Pc) (j : Nat) (h : j < (starts l).length) : (starts l)[j] = ((ptext (l.take j)).length : Int) := by
  simp [starts]
theorem ptext_len (l : List Pc) (j : Nat) (hj : j < l.length) : (ptext (l.take (j + 1))).length = (ptext (l.take j)).length + (l[j]).1.size := by
  have e := congrArg ByteArray.size (ptext_take l j hj)
  rw [ByteArray.size_append, bytes_size, bytes_size] at e
  exact e.symm
theorem ptext_le (M : Nat) (l : List Pc) (h : ∀ p ∈ l, p.1.size ≤ M) : (ptext l).length ≤ l.length * M := by
  induction l with
  | nil => simp [ptext]
  | cons p l ih =>
    have h1 := h p (List.mem_cons_self ..)
    have h2 := ih fun q hq => h q (List.mem_cons_of_mem _ hq)
    have e : p.1.data.toList.length = p.1.size := Array.length_toList
    rw [ptext_cons, List.length_append, List.length_cons, e, Nat.succ_mul]
    omega
theorem renP_text (k f : Int) (s : ByteArray) (kids : Fo) (width indent : Nat) (hs : s.size + 1 + FoSz kids ≤ 30300) (hN : FoN kids ≤ 299) (hi : indent ≤ 16) : (ptext (renP k f s kids width indent)).length ≤ 100000000 := by
  unfold renP
  split
  · unfold layD
    obtain ⟨a, b⟩ := lay_small width indent 30300 299 _ [⟨k, f, s, kids, 0, false⟩] 0 (Nat.le_refl _) (by
      intro x hx
      rw [List.mem_singleton.1 hx]
      exact ⟨by simp only; omega, by simp only; omega⟩)
    have h1 : 299 * indent ≤ 299 * 16 := Nat.mul_le_mul_left _ hi
    have h2 := ptext_le 40000 _ fun p hp => Nat.le_trans (b p hp) (by omega)
    have h3 : (lay width indent [⟨k, f, s, kids, 0, false⟩] 0).length ≤ 300 := by simp only [rowN] at a; omega
    have h4 := Nat.mul_le_mul_right 40000 h3
    omega
  · simp [ptext]
set_option maxRecDepth 100000 in
set_option maxHeartbeats 8000000 in
theorem rtells_walk (PC : PieC) (AC : AliveC) (TC : TextC) (SC : StartsC) (k0 f0 : Int) (s0 : ByteArray) (v0 : Value) (L0 : Fo) (a i : Int) (w : World) (hv0 : FoS w v0 L0) :
    Calls Try.prog 3 #[.agg (dv k0 f0 s0 v0), .int .i64 a, .int .i64 i] w fun e w' => e = .returned (.bool true) ∧ Below w.heap.size w w' := by
  obtain ⟨x0, y0, h0s⟩ := hv0.slice
  obtain ⟨n0, hn0⟩ : ∃ n, L0.len = n := ⟨_, rfl⟩
  rw [hn0] at h0s
  subst h0s
  have b0 := Lib.hid ((Below.refl w.heap.size w).alloc (Nat.le_refl _) (.cells #[.int .i64 k0, .int .i64 f0, .string s0, .slice x0 n0 y0] 24))
  have dA0 := Lib.hid (DB.new w #[.int .i64 k0, .int .i64 f0, .string s0, .slice x0 n0 y0])
  obtain ⟨W0, hW0⟩ : ∃ W, w.alloc (.cells #[.int .i64 k0, .int .i64 f0, .string s0, .slice x0 n0 y0] 24) = W := ⟨_, rfl⟩
  rw [hW0] at b0 dA0
  have HW0 := Lib.hid hW0
  have AL := Lib.hid (AC W0)
  have FA := Lib.hid (fun W (h : Below w.heap.size w W) => few_any k0 f0 s0 L0 _ W (hv0.keep h))
  have FS0 := Lib.hid (fun W (h : Below w.heap.size w W) => hv0.keep h)
  have HPC := Lib.hid PC
  have HTC := Lib.hid TC
  have HSC := Lib.hid SC
  clear hv0 hn0 hW0 PC AC TC SC
  unfold dv at FA ⊢
  by_cases c0 : sizeD s0 L0 0 ≤ 300
  case neg =>
    rw [decide_eq_false c0] at FA
    go_enter Try.func3, Try.ntmps3
    go_upto_region 1 with fail
    rw [HW0.out]
    go_wp2_with fail
    refine (AL.out).mono ?_
    rintro e w1 ⟨rfl, hb1⟩
    have d1 := b0.out.trans (hb1.mono b0.out.size)
    obtain ⟨g0, g1, g2, g3⟩ := (dA0.out.keep hb1 dA0.out.lt).four
    go_wp2_with fail
    refine (FA.out _ d1).mono ?_
    rintro e w2 ⟨rfl, hb2⟩
    have d2 := d1.trans (hb2.mono d1.size)
    clear hb1 hb2 d1
    go_wp2
    go_ret
    exact ⟨rfl, d2⟩
  rw [decide_eq_true c0] at FA
  obtain ⟨e0, e1, e2⟩ := few_small c0
  obtain ⟨na, ea, ha⟩ := cap_nat a 1 1000 (by omega) (by omega)
  obtain ⟨ni, ei, hi⟩ := cap_nat i 0 16 (by omega) (by omega)
  have PA := Lib.hid (fun W (h : Below w.heap.size w W) => HPC.out k0 f0 s0 L0 _ a i na ni W (FS0.out W h) (by omega) (by omega) ea ei)
  have PR := Lib.hid (fun W (h : Below w.heap.size w W) => render_any k0 f0 s0 L0 _ a i na ni W (FS0.out W h) (by omega) (by omega) ea ei (by omega) (by omega))
  obtain ⟨sa1, sa2⟩ := renP_small k0 f0 s0 L0 na ni (by omega) (by omega) (by omega)
  have sa3 := renP_text k0 f0 s0 L0 na ni (by omega) (by omega) (by omega)
  obtain ⟨la, hla⟩ : ∃ l, renP k0 f0 s0 L0 na ni = l := ⟨_, rfl⟩
  rw [hla] at PA PR sa1 sa2 sa3
  obtain ⟨T, hT⟩ : ∃ T, ptext la = T := ⟨_, rfl⟩
  have HT := Lib.hid hT
  have SA1 := Lib.hid sa1
  have SA3 := Lib.hid sa3
  obtain ⟨n, hn⟩ : ∃ n, la.length = n := ⟨_, rfl⟩
  have HN := Lib.hid hn
  have hn2 : n ≤ 100000 := by omega
  clear hla sa1 sa2 sa3 ea ei ha hi e0 e1 e2 hT hn
  unfold dv at PA PR
  go_enter Try.func3, Try.ntmps3
  go_upto_region 1 with fail
  rw [HW0.out]
  go_wp2_with fail
  refine (AL.out).mono ?_
  rintro e w1 ⟨rfl, hb1⟩
  have d1 := b0.out.trans (hb1.mono b0.out.size)
  have dA1 := Lib.hid (dA0.out.keep hb1 dA0.out.lt)
  obtain ⟨g0, g1, g2, g3⟩ := dA1.out.four
  go_wp2_with fail
  refine (FA.out _ d1).mono ?_
  rintro e w2 ⟨rfl, hb2⟩
  have d2 := d1.trans (hb2.mono d1.size)
  have dA2 := Lib.hid (dA1.out.keep hb2 dA1.out.lt)
  clear g0 g1 g2 g3
  obtain ⟨g0, g1, g2, g3⟩ := dA2.out.four
  go_wp2_with fail
  refine (PA.out _ d2).mono ?_
  rintro e w3 ⟨u3, rfl, hu3, hb3⟩
  have d3 := d2.trans (hb3.mono d2.size)
  have dA3 := Lib.hid (dA2.out.keep hb3 dA2.out.lt)
  clear g0 g1 g2 g3
  obtain ⟨g0, g1, g2, g3⟩ := dA3.out.four
  go_wp2_with fail
  refine (PR.out _ d3).mono ?_
  rintro e w4 ⟨u4, rfl, hu4, hb4⟩
  have d4 := d3.trans (hb4.mono d3.size)
  have k3 := hu3.vs.keep hb4
  clear g0 g1 g2 g3
  go_wp2_with fail
  refine (HSC.out la u3 w4 k3 (by have := SA1.out; omega) SA3.out).mono ?_
  rintro e w5 ⟨u5, rfl, hu5, hb5⟩
  have d5 := d4.trans (hb5.mono d4.size)
  have k35 := k3.keep hb5
  have k45 := hu4.vs.keep hb5
  clear hu4 hu3 k3
  have hu5' := hu5
  have k45' := k45
  obtain ⟨a5, c5, rfl, -, -, -⟩ := hu5'
  obtain ⟨a4, c4, rfl, -, -, -⟩ := pcs_get k45' HN.out
  have hsl : (starts la).length = n := by rw [starts_len, HN.out]
  rw [hsl] at hu5 ⊢
  clear k45'
  have K35 := Lib.hid k35
  have K45 := Lib.hid k45
  have K5 := Lib.hid hu5
  clear k35 k45 hu5
  go_wp2_with fail
  refine (samep_any la u3 _ w5 K35.out K45.out).mono ?_
  rintro e w6 ⟨rfl, hb6⟩
  have d6 := d5.trans (hb6.mono d5.size)
  go_wp2_with fail
  refine (HTC.out la u3 T w6 (K35.out.keep hb6) HT.out (by rw [← HT.out]; exact SA3.out) (by have := SA1.out; omega)).mono ?_
  rintro e w7 ⟨rfl, hb7⟩
  have d7 := d6.trans (hb7.mono d6.size)
  have M7 := (K45.out.keep hb6).keep hb7
  have S7 := (K5.out.keep hb6).keep hb7
  have t5 : ((bytes T).toList == (bytes T).toList) = true := by simp
  go_wp2_with fail
  refine (reftext_any la _ T w7 M7 HT.out (by rw [← HT.out]; exact SA3.out)).mono ?_
  rintro e w8 ⟨rfl, rfl⟩
  have HS : Hid (∀ j, j < n → ∃ b off, a5 = some ⟨b, off, none⟩ ∧ w7.cell? ⟨b, off + j, none⟩ = some (.int .i64 ((ptext (la.take j)).length : Int))) := Lib.hid (by
    intro j hj
    obtain ⟨a, cap, e, _, _, h⟩ := S7
    obtain ⟨b, off, e2, _, hc⟩ := h (by rw [hsl]; omega)
    have hj2 : j < (starts la).length := by rw [hsl]; exact hj
    simp only [Value.slice.injEq] at e
    refine ⟨b, off, e.1.trans e2, ?_⟩
    rw [← starts_at la j hj2]
    exact hc j hj2)
  have HM : Hid (∀ j (hj : j < la.length), ∃ b off, a4 = some ⟨b, off, none⟩ ∧ w7.cell? ⟨b, off + j * 2, none⟩ = some (.string (la[j]).1)) := Lib.hid (by
    intro j hj
    obtain ⟨a, cap, e, _, _, h⟩ := pcs_get M7 HN.out
    obtain ⟨b, off, e2, _, hc, _⟩ := h j hj
    simp only [Value.slice.injEq] at e
    exact ⟨b, off, e.1.trans e2, hc⟩)
  have HL := Lib.hid (fun j hj => ptext_len la j hj)
  have HU := Lib.hid (fun j => ptext_mono la j)
  have HD := Lib.hid d7
  clear S7 M7 d1 d2 d3 d4 d5 d6 d7 hb1 hb2 hb3 hb4 hb5 hb6 hb7 hsl
  go_wp2_with fail
  go_loop [11, 12] (fun av iv => ∃ j : Nat, iv = .int .i64 (j : Int) ∧ j ≤ n ∧ av = .int .i64 ((ptext (la.take j)).length : Int)) (fun _ iv => n - (intOf iv).toNat)
  case atStart => exact ⟨0, rfl, by omega, rfl⟩
  case round =>
    obtain ⟨j, rfl, hj, rfl⟩ := hrel
    by_cases hlt : j < n
    · obtain ⟨b, off, rfl, p0⟩ := HS.out j hlt
      have hjl : j < la.length := by rw [HN.out]; exact hlt
      obtain ⟨b2, off2, rfl, p1⟩ := HM.out j hjl
      have hll := HL.out j hjl
      have hu := HU.out (j + 1)
      have hu2 := SA3.out
      obtain ⟨S, hS⟩ : ∃ S, (la[j]).1 = S := ⟨_, rfl⟩
      rw [hS] at hll p1
      obtain ⟨q, hq⟩ : ∃ q, (ptext (la.take j)).length = q := ⟨_, rfl⟩
      rw [hq] at hll p0 ⊢
      have hq2 : q + S.size ≤ 100000000 := by omega
      have HLL := Lib.hid hll
      have j0 : (0 : Int) ≤ j := by omega
      have j1 : (j : Int) < n := by omega
      clear hS hq hu hu2 hll hjl
      go_wp2_with fail
      go_round
      case rel => exact ⟨j + 1, by go_num, by omega, by rw [HLL.out]; go_num⟩
      case measure => simp [intOf]; omega
    · obtain rfl : j = n := by omega
      have t1 : decide ((j : Int) < j) = false := by simp
      clear hlt
      go_wp2_with fail
      go_ret
      exact ⟨rfl, HD.out⟩
end Go.Proofs.Ytehofomfblfhaaa
