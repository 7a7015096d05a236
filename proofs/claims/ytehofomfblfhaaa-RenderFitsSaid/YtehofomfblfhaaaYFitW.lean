/- Layouts: RenderFits' walk. -/
import Derived.Test.YtehofomfblfhaaaYFitP
namespace Go.Proofs.Ytehofomfblfhaaa
open Go.RowKit
set_option linter.unusedVariables false
set_option linter.unusedSimpArgs false

theorem and7_any (z : Int) : ∃ a : Nat, bits .and .i64 z 7 = (a : Int) ∧ a < 8 := by
  refine ⟨(BitVec.ofInt 64 z &&& BitVec.ofInt 64 7).toNat, ?_, ?_⟩
  · have h : (BitVec.ofInt 64 z &&& BitVec.ofInt 64 7).toNat ≤ 7 := by
      rw [BitVec.toNat_and]
      exact Nat.le_trans Nat.and_le_right (by decide)
    show IntKind.i64.wrap ((BitVec.ofInt 64 z &&& BitVec.ofInt 64 7).toNat : Int) = _
    rw [IntKind.wrap_i64]
    omega
  · rw [BitVec.toNat_and]
    exact Nat.lt_of_le_of_lt Nat.and_le_right (by decide)
def lowS (z : Int) : Nat := (bits .and .i64 z 7).toNat
theorem lowS_is (z : Int) : bits .and .i64 z 7 = (lowS z : Int) ∧ lowS z < 8 := by
  obtain ⟨a, h1, h2⟩ := and7_any z
  unfold lowS
  rw [h1]
  exact ⟨by simp, by simpa using h2⟩
theorem xcut : ∀ t : Fin 10, (ByteArray.mk #[120, 120, 120, 120, 120, 120, 120, 120, 120]).extract 0 t.val = bytes (List.replicate t.val 120) := by decide +kernel
theorem bcut : ∀ t : Fin 17, (ByteArray.mk #[32, 32, 32, 32, 32, 32, 32, 32, 32, 32, 32, 32, 32, 32, 32, 32]).extract 0 t.val = bytes (List.replicate t.val 32) := by decide +kernel
theorem one_lf (w : World) (x : Lf) : Vs 4 (w.alloc (.cells #[.int .i64 x.1, .int .i64 x.2.1, .string (bytes x.2.2), .slice none 0 0] 24)) (.slice (some ⟨w.heap.size, 0, none⟩) 1 1) ([x].map lfv) := vs_cells 4 24 w ([x].map lfv) _ 1 rfl (lfv_four _) rfl (by simp)
theorem wpl_lf {w : World} {ops : Array Oper} {rest : List Oper} {o : Oper} {a : Act} {Q : Exit → Act → World → Prop} (hgd : o.guard = none) (s x : Operand)
    (ho : o.op = .call { callee := .builtin .append, args := #[s, x], argTypes := #[22, 22] })
    (B : Nat) (v u : Value) (l : List Lf) (p : Lf) (hs : a.eval s = v) (hown : OwnD B w v l) (hx : a.eval x = u) (hu : Vs 4 w u ([p].map lfv)) (hnn : NNv u) (hlen : l.length ≤ 1000000) (hB : B ≤ w.heap.size)
    (h : ∀ v' w', OwnD B w' v' (l ++ [p]) → Below B w w' → wpList Try.prog ops Q rest (a.put o.dst v') w') : wpList Try.prog ops Q (o :: rest) a w :=
  wpl_appendV hgd s x ho Try.underlying22 infoD rfl (by decide) B v u (l.map lfv) ([p].map lfv) ((l ++ [p]).map lfv) hs hown hx hu hnn (lfv_four _) (lfv_one _) (by rw [List.length_map, List.length_map]; simp only [List.length_singleton]; omega) (by decide) hB (by simp) h
theorem fits_ren (wn ind : Nat) (k : Int) (hk : k = 2 ∨ k = 3) (ts : List Nat) (ht : ∀ t ∈ ts, t ≤ 8) (i : Nat) (hi : ts.length = i) (h1 : 1 ≤ i) :
    ptext (renP 6 0 ⟨#[]⟩ (Fo.one 7 0 ⟨#[]⟩ (lfF (fitD k ts i))) wn ind) = if (fitS k ts i).length ≤ wn then fitS k ts i else fitB ind ts i := by
  have hok := fitD_ok k hk ts ht i
  have e1 := fitD_is k ts i (by omega)
  have e2 := fitS_is k ts i (by omega)
  have e3 := fitB_is ind ts i (by omega)
  have e : ts.take i = ts := by rw [← hi]; exact List.take_length
  rw [e] at e1 e2 e3
  have hr : rightD 6 0 ⟨#[]⟩ (Fo.one 7 0 ⟨#[]⟩ (lfF (fitD k ts i))) 200 = true := by
    rw [rightD_is, if_neg (by decide), if_neg (by decide), if_pos (by decide), rightF_one, rightD_is, if_neg (by decide), if_neg (by decide), if_pos (by decide), lfF_right _ _ (fun x hx => (hok.1 x hx).1)]
    decide
  unfold renP
  rw [if_pos hr]
  cases ts with
  | nil => simp at hi; omega
  | cons t r =>
    simp only at e2 e3
    rw [e1, e2, e3]
    exact fits_plain wn ind k hk t r
theorem cap_same (z : Nat) (a b : Int) (h1 : a ≤ z) (h2 : (z : Int) ≤ b) : capZ z a b = (z : Int) := by
  unfold capZ
  repeat' split
  all_goals omega
set_option maxRecDepth 100000 in
set_option maxHeartbeats 8000000 in
theorem rfits_T (a0 : Option Addr) (len0 cap0 : Nat) (z0 : List Int) (x1 x2 : Int) (w : World) (w0 : RowI w a0 len0 cap0 z0) {P1 P2 : Prop} (m1 : P1) (m2 : P2) :
    Calls Try.prog 4 #[.slice a0 len0 cap0, .int .i64 x1, .int .i64 x2, .bool true] w fun e w' => e = .returned (.bool true) ∧ Below w.heap.size w w' := by
  obtain ⟨zs, hl, b0, n0⟩ := row_is w0
  clear w0 n0 m1 m2
  have al := Lib.hid (alive_c w)
  have early : ∀ (P : Prop), True := fun _ => trivial
  by_cases hc : 1 ≤ len0 ∧ len0 ≤ 30 ∧ 1 ≤ x1 ∧ x1 ≤ 200 ∧ 0 ≤ x2 ∧ x2 ≤ 16
  case neg =>
    have hh : (len0 : Int) < 1 ∨ (¬ (len0 : Int) < 1 ∧ 30 < (len0 : Int)) ∨ (¬ (len0 : Int) < 1 ∧ ¬ 30 < (len0 : Int) ∧ x1 < 1) ∨ (¬ (len0 : Int) < 1 ∧ ¬ 30 < (len0 : Int) ∧ ¬ x1 < 1 ∧ 200 < x1) ∨ (¬ (len0 : Int) < 1 ∧ ¬ 30 < (len0 : Int) ∧ ¬ x1 < 1 ∧ ¬ 200 < x1 ∧ x2 < 0) ∨ (¬ (len0 : Int) < 1 ∧ ¬ 30 < (len0 : Int) ∧ ¬ x1 < 1 ∧ ¬ 200 < x1 ∧ ¬ x2 < 0 ∧ 16 < x2) := by omega
    clear hc b0 hl early
    rcases hh with h1 | ⟨h1, h2⟩ | ⟨h1, h2, h3⟩ | ⟨h1, h2, h3, h4⟩ | ⟨h1, h2, h3, h4, h5⟩ | ⟨h1, h2, h3, h4, h5, h6⟩
    all_goals (
      go_enter Try.func4, Try.ntmps4
      go_wp2_with fail
      refine al.out.mono ?_
      rintro e w1 ⟨rfl, hb⟩
      have HB := Lib.hid hb
      clear hb
      go_wp2
      go_ret
      exact ⟨rfl, HB.out⟩)
  obtain ⟨q1, q2, q3, q4, q5, q6⟩ := hc
  obtain ⟨wn, rfl⟩ : ∃ k : Nat, x1 = (k : Int) := ⟨x1.toNat, by omega⟩
  obtain ⟨ind, rfl⟩ : ∃ k : Nat, x2 = (k : Int) := ⟨x2.toNat, by omega⟩
  have p1 : ¬ (len0 : Int) < 1 := by omega
  have p2 : ¬ 30 < (len0 : Int) := by omega
  have p3 : ¬ (wn : Int) < 1 := by omega
  have p4 : ¬ 200 < (wn : Int) := by omega
  have p6 : ¬ 16 < (ind : Int) := by omega
  have p5 : ¬ (ind : Int) < 0 := by omega
  obtain ⟨ts, hts⟩ : ∃ ts, zs.map (fun z => 1 + lowS z) = ts := ⟨_, rfl⟩
  have htl : ts.length = len0 := by rw [← hts, List.length_map, hl]
  have ht8 : ∀ t ∈ ts, t ≤ 8 := by
    intro t ht
    rw [← hts] at ht
    obtain ⟨z, -, rfl⟩ := List.mem_map.1 ht
    have := (lowS_is z).2
    omega
  have htg : ∀ j (hj : j < zs.length), ts.getD j 0 = 1 + lowS zs[j] := by
    intro j hj
    rw [← hts]
    simp [List.getD, List.getElem?_eq_getElem hj]
  have hbc := bcut ⟨ind, by omega⟩
  simp only at hbc
  obtain ⟨a1, cap1, he, k1, k2, k3⟩ := b0
  simp only [Value.slice.injEq] at he
  obtain ⟨rfl, hq, rfl⟩ := he
  clear hq
  have K3 := Lib.hid k3
  have HL := Lib.hid hl
  have HTG := Lib.hid htg
  have HT8 := Lib.hid ht8
  have HTL := Lib.hid htl
  clear k3 hl hts htg ht8 htl k1 early
  go_enter Try.func4, Try.ntmps4
  go_wp2_with fail
  refine al.out.mono ?_
  rintro e w1 ⟨rfl, hb⟩
  have HB1 := Lib.hid hb
  clear hb
  go_upto_region 13 with fail
  obtain ⟨IB, hIB⟩ : ∃ x, bytes (List.replicate ind 32) = x := ⟨_, rfl⟩
  have hIBz : IB.size = ind := by rw [← hIB, bytes_size, List.length_replicate]
  rw [hIB]
  have HIB := Lib.hid hIB
  have b2 : Below w1.heap.size w1 (w1.alloc (.cells #[] 24)) := (Below.refl _ _).alloc (Nat.le_refl _) _
  have ho : OwnD w1.heap.size (w1.alloc (.cells #[] 24)) (.slice (some ⟨w1.heap.size, 0, none⟩) 0 0) [] := ⟨World.ownsRow_made w1 #[] 0 (Nat.le_refl _) (Nat.zero_le _) rfl, by simp, by simp⟩
  obtain ⟨W2, hW2⟩ : ∃ x, w1.alloc (.cells #[] 24) = x := ⟨_, rfl⟩
  rw [hW2] at b2 ho ⊢
  have HO2 := Lib.hid ho
  have B2 := Lib.hid b2
  clear hW2 b2 ho hIB hbc
  go_upto_region 14 with fail
  go_loopw [12, 13, 14, 16] (fun dv fv bv iv wr => ∃ i : Nat, iv = .int .i64 (i : Int) ∧ i ≤ len0 ∧ OwnD w1.heap.size wr dv (fitD 3 ts i) ∧ fv = .string (bytes (fitS 3 ts i)) ∧ bv = .string (bytes (fitB ind ts i)) ∧ Below w1.heap.size w1 wr) (fun _ _ _ iv _ => len0 - (intOf iv).toNat)
  case atStart => exact ⟨0, rfl, by omega, HO2.out, rfl, rfl, B2.out⟩
  case round =>
    obtain ⟨i, rfl, hi, ho, rfl, rfl, hb⟩ := hrel
    have HBR := Lib.hid (HB1.out.trans (hb.mono HB1.out.size))
    have HB := Lib.hid hb
    have HO := Lib.hid ho
    have hsl := fitS_len 3 ts HT8.out
    have hbl := fitB_len ind ts HT8.out
    have hdl := (fitD_ok 3 (by decide) ts HT8.out i).2
    have hsi := hsl i
    have hbi := hbl i
    clear hb ho
    by_cases hlt : i < len0
    · have hil : i < zs.length := by rw [HL.out]; exact hlt
      obtain ⟨b, off, rfl, hbk, hcc⟩ := K3.out (by omega)
      have c0 := (HBR.out.cell (p := ⟨b, off + i, none⟩) hbk).trans (hcc i hil)
      obtain ⟨z, hz⟩ : ∃ z, zs[i] = z := ⟨_, rfl⟩
      have htg := HTG.out i hil
      rw [hz] at c0 htg
      obtain ⟨e7, l7⟩ := lowS_is z
      obtain ⟨t, ht⟩ : ∃ t, 1 + lowS z = t := ⟨_, rfl⟩
      rw [ht] at htg
      obtain ⟨lo, hlo⟩ : ∃ lo : Int, (lowS z : Int) = lo := ⟨_, rfl⟩
      rw [hlo] at e7
      have e8 : (1 : Int) + lo = (t : Int) := by omega
      have lo0 : 0 ≤ lo := by omega
      have lo1 : lo < 8 := by omega
      have hxc := xcut ⟨t, by omega⟩
      simp only at hxc
      obtain ⟨TX, hTX⟩ : ∃ x, bytes (List.replicate t 120) = x := ⟨_, rfl⟩
      have hTXz : TX.size = t := by rw [← hTX, bytes_size, List.length_replicate]
      rw [hTX] at hxc
      have hwz : wr.heap.size ≥ w1.heap.size := HB.out.size
      obtain ⟨F, hF⟩ : ∃ x, bytes (fitS 3 ts i) = x := ⟨_, rfl⟩
      obtain ⟨R, hR⟩ : ∃ x, bytes (fitB ind ts i) = x := ⟨_, rfl⟩
      obtain ⟨F1, hF1⟩ : ∃ x, bytes (fitS 3 ts (i + 1)) = x := ⟨_, rfl⟩
      obtain ⟨R1, hR1⟩ : ∃ x, bytes (fitB ind ts (i + 1)) = x := ⟨_, rfl⟩
      have hFz : F.size ≤ 1000 := by rw [← hF, bytes_size]; omega
      have hRz : R.size ≤ 1000 := by
        rw [← hR, bytes_size]
        have : (9 + ind) * i ≤ 25 * 30 := Nat.mul_le_mul (by omega) (by omega)
        omega
      have HF1 := Lib.hid hF1
      have HR1 := Lib.hid hR1
      have j1 : (i : Int) < len0 := by omega
      rw [hF, hR]
      rcases Nat.eq_zero_or_pos i with h0 | h0
      · subst h0
        rw [Nat.add_zero] at c0
        have a2 : ∀ W, (Op.stringOp .add F TX).run Try.prog W = .ok (.string F1) W := fun W => by
          have e : F1 = F ++ TX := by
            rw [← hF1, ← hF, ← hTX, bytes_app]; simp only [fitS]; rw [if_neg (by omega), htg]; simp
          rw [e]; exact run_string_add W _ _ (by omega) (by omega)
        have b3 : ∀ W, (Op.stringOp .add R TX).run Try.prog W = .ok (.string R1) W := fun W => by
          have e : R1 = R ++ TX := by
            rw [← hR1, ← hR, ← hTX, bytes_app]; simp only [fitB]; rw [if_neg (by omega), htg]; simp
          rw [e]; exact run_string_add W _ _ (by omega) (by omega)
        have NX : Hid (fitD 3 ts 1 = [] ++ [(1, ((0 : Nat) : Int), List.replicate t 120)]) := Lib.hid (by simp only [fitD]; rw [htg]; rfl)
        have HTX := Lib.hid hTX
        clear hz htg ht hlo hTX hF hR hF1 hR1 hcc l7 hsl hbl hsi hbi hFz hRz hdl
        have HX : Hid (Vs 4 (wr.alloc (.cells #[.int .i64 1, .int .i64 ((0 : Nat) : Int), .string TX, .slice none 0 0] 24)) (.slice (some ⟨wr.heap.size, 0, none⟩) 1 1) ([((1 : Int), ((0 : Nat) : Int), List.replicate t 120)].map lfv)) := Lib.hid (by rw [← HTX.out]; exact one_lf wr (1, ((0 : Nat) : Int), List.replicate t 120))
        go_wp2_with (at_builtin; refine wpl_lf rfl _ _ rfl w1.heap.size _ _ [] (1, ((0 : Nat) : Int), List.replicate t 120) rfl ?_ rfl ?_ (nnv_some _ _ _) (by simp) ?_ ?_)
        · exact OwnV.keep HO.out ((Below.refl _ _).alloc (Nat.le_refl _) _)
        · exact HX.out
        · rw [World.size_alloc]; omega
        · intro v' w' ho' hb'
          have HO' : Hid (OwnD w1.heap.size w' v' (fitD 3 ts 1)) := Lib.hid (by rw [NX.out]; exact ho')
          have HB' := Lib.hid (HB.out.trans (((Below.refl _ wr).alloc hwz _).trans hb'))
          clear ho' hb'
          go_wp2
          exact ⟨⟨1, rfl, by omega, HO'.out, congrArg Value.string HF1.out.symm, congrArg Value.string HR1.out.symm, HB'.out⟩, by simp only [intOf]; omega⟩
      · obtain ⟨FG, hFG⟩ : ∃ x, bytes (fitS 3 ts i ++ gapK 3) = x := ⟨_, rfl⟩
        obtain ⟨RA, hRA⟩ : ∃ x, bytes (fitB ind ts i ++ [10]) = x := ⟨_, rfl⟩
        obtain ⟨RG, hRG⟩ : ∃ x, bytes (fitB ind ts i ++ 10 :: List.replicate ind 32) = x := ⟨_, rfl⟩
        have gz : (gapK 3).length ≤ 1 := by decide
        have hFGz : FG.size ≤ 1001 := by rw [← hFG, bytes_size, List.length_append]; rw [← hF, bytes_size] at hFz; omega
        have hRAz : RA.size ≤ 1001 := by rw [← hRA, bytes_size, List.length_append]; rw [← hR, bytes_size] at hRz; simp only [List.length_singleton]; omega
        have hRGz : RG.size ≤ 1020 := by rw [← hRG, bytes_size, List.length_append]; rw [← hR, bytes_size] at hRz; simp only [List.length_cons, List.length_replicate]; omega
        have a1 : ∀ W, (Op.stringOp .add F ⟨#[]⟩).run Try.prog W = .ok (.string FG) W := fun W => by
          have e : FG = F ++ ⟨#[]⟩ := by
            rw [← hFG, ← hF]; exact (bytes_app _ _).symm
          rw [e]; exact run_string_add W _ _ (by omega) (by decide)
        have a2 : ∀ W, (Op.stringOp .add FG TX).run Try.prog W = .ok (.string F1) W := fun W => by
          have e : F1 = FG ++ TX := by
            rw [← hF1, ← hFG, ← hTX, bytes_app]; simp only [fitS]; rw [if_pos h0, htg]
          rw [e]; exact run_string_add W _ _ (by omega) (by omega)
        have b1 : ∀ W, (Op.stringOp .add R ⟨#[10]⟩).run Try.prog W = .ok (.string RA) W := fun W => by
          have e : RA = R ++ ⟨#[10]⟩ := by
            rw [← hRA, ← hR]; exact (bytes_app _ _).symm
          rw [e]; exact run_string_add W _ _ (by omega) (by decide)
        have b2 : ∀ W, (Op.stringOp .add RA IB).run Try.prog W = .ok (.string RG) W := fun W => by
          have e : RG = RA ++ IB := by
            rw [← hRG, ← hRA, ← HIB.out, bytes_app, List.append_assoc]; rfl
          rw [e]; exact run_string_add W _ _ (by omega) (by omega)
        have b3 : ∀ W, (Op.stringOp .add RG TX).run Try.prog W = .ok (.string R1) W := fun W => by
          have e : R1 = RG ++ TX := by
            rw [← hR1, ← hRG, ← hTX, bytes_app]; simp only [fitB]; rw [if_pos h0, htg]
          rw [e]; exact run_string_add W _ _ (by omega) (by omega)
        have NX : Hid (fitD 3 ts (i + 1) = (fitD 3 ts i ++ [((3 : Int), (0 : Int), ([] : List UInt8))]) ++ [(1, (i : Int), List.replicate t 120)]) := Lib.hid (by simp only [fitD]; rw [htg, if_pos h0])
        have HTX := Lib.hid hTX
        have HDL : Hid ((fitD 3 ts i).length ≤ 2 * i) := Lib.hid hdl
        have HX1 : Hid (Vs 4 (wr.alloc (.cells #[.int .i64 3, .int .i64 0, .string ⟨#[]⟩, .slice none 0 0] 24)) (.slice (some ⟨wr.heap.size, 0, none⟩) 1 1) ([((3 : Int), (0 : Int), ([] : List UInt8))].map lfv)) := Lib.hid (one_lf wr (3, 0, []))
        have HX2 : Hid (∀ W : World, Vs 4 (W.alloc (.cells #[.int .i64 1, .int .i64 (i : Int), .string TX, .slice none 0 0] 24)) (.slice (some ⟨W.heap.size, 0, none⟩) 1 1) ([((1 : Int), (i : Int), List.replicate t 120)].map lfv)) := Lib.hid (fun W => by rw [← HTX.out]; exact one_lf W (1, (i : Int), List.replicate t 120))
        have j0 : (0 : Int) < i := by omega
        clear hz htg ht hlo hTX hF hR hF1 hR1 hcc l7 hsl hbl hsi hbi hFz hRz hdl hFG hRA hRG gz hFGz hRAz hRGz
        go_wp2_with (at_builtin; refine wpl_lf rfl _ _ rfl w1.heap.size _ _ (fitD 3 ts i) (3, (0 : Int), []) rfl ?_ rfl ?_ (nnv_some _ _ _) ?_ ?_ ?_)
        · exact OwnV.keep HO.out ((Below.refl _ _).alloc (Nat.le_refl _) _)
        · exact HX1.out
        · have := HDL.out; omega
        · rw [World.size_alloc]; omega
        · intro v1 w2 ho1 hb1
          have hb2 := HB.out.trans (((Below.refl _ wr).alloc hwz _).trans hb1)
          have hwz2 : w2.heap.size ≥ w1.heap.size := hb2.size
          have HO1 := Lib.hid ho1
          have HB2 := Lib.hid hb2
          clear ho1 hb1 hb2
          go_wp2_with (at_builtin; refine wpl_lf rfl _ _ rfl w1.heap.size _ _ (fitD 3 ts i ++ [((3 : Int), (0 : Int), ([] : List UInt8))]) (1, (i : Int), List.replicate t 120) rfl ?_ rfl ?_ (nnv_some _ _ _) ?_ ?_ ?_)
          · exact OwnV.keep HO1.out ((Below.refl _ _).alloc (Nat.le_refl _) _)
          · exact HX2.out _
          · have := HDL.out; rw [List.length_append, List.length_singleton]; omega
          · rw [World.size_alloc]; omega
          · intro v' w' ho' hb'
            have HO' : Hid (OwnD w1.heap.size w' v' (fitD 3 ts (i + 1))) := Lib.hid (by rw [NX.out, List.append_assoc]; exact ho')
            have HB' := Lib.hid (HB2.out.trans (((Below.refl _ w2).alloc hwz2 _).trans hb'))
            clear ho' hb'
            go_wp2
            exact ⟨⟨i + 1, by push_cast; rfl, by omega, HO'.out, congrArg Value.string HF1.out.symm, congrArg Value.string HR1.out.symm, HB'.out⟩, by simp only [intOf]; omega⟩
    · obtain rfl : i = len0 := by omega
      have hok := fitD_ok 3 (by decide) ts HT8.out i
      have hRen := fits_ren wn ind 3 (by decide) ts HT8.out i HTL.out q1
      obtain ⟨ua, uc, hu, -⟩ := OwnV.vs HO.out
      obtain ⟨ul, hul⟩ : ∃ n, ((fitD 3 ts i).map lfv).length = n := ⟨_, rfl⟩
      rw [hul] at hu
      subst hu
      have F0 := lf_fos (OwnV.vs HO.out) (OwnV.nn HO.out) (fun x hx => by have := (hok.1 x hx).2; omega)
      have F1 := one_fos (k0 := 7) (f0 := 0) (s0 := ⟨#[]⟩) F0 (by decide)
      have hz1 := lfF_sz (fitD 3 ts i) 8 (fun x hx => (hok.1 x hx).2)
      have hz2 := lfF_n (fitD 3 ts i)
      have hz3 : (⟨#[]⟩ : ByteArray).size + 1 + FoSz (Fo.one 7 0 ⟨#[]⟩ (lfF (fitD 3 ts i))) ≤ 600 := by
        simp only [Fo.one, FoSz, ByteArray.size]; simp; omega
      have hz4 : FoN (Fo.one 7 0 ⟨#[]⟩ (lfF (fitD 3 ts i))) ≤ 100 := by simp only [Fo.one, FoN]; omega
      have hsm := (renP_small 6 0 ⟨#[]⟩ (Fo.one 7 0 ⟨#[]⟩ (lfF (fitD 3 ts i))) wn ind (by omega) (by omega) (by omega)).1
      have PX := pieces_any 6 0 ⟨#[]⟩ _ _ wn ind wn ind _ F1 (by omega) (by omega) (cap_same wn 1 1000 (by omega) (by omega)) (cap_same ind 0 16 (by omega) (by omega))
      obtain ⟨la, hla⟩ : ∃ l, renP 6 0 ⟨#[]⟩ (Fo.one 7 0 ⟨#[]⟩ (lfF (fitD 3 ts i))) wn ind = l := ⟨_, rfl⟩
      rw [hla] at PX hRen hsm
      obtain ⟨FL, hFL⟩ : ∃ x, fitS 3 ts i = x := ⟨_, rfl⟩
      obtain ⟨RL, hRL⟩ : ∃ x, fitB ind ts i = x := ⟨_, rfl⟩
      rw [hFL] at hRen hsi ⊢
      rw [hRL] at hRen hbi ⊢
      have hRl : RL.length ≤ 1000 := by
        have : (9 + ind) * i ≤ 25 * 30 := Nat.mul_le_mul (by omega) (by omega)
        omega
      have hFl : FL.length ≤ 1000 := by omega
      obtain ⟨F, hF⟩ : ∃ x, bytes FL = x := ⟨_, rfl⟩
      obtain ⟨R, hR⟩ : ∃ x, bytes RL = x := ⟨_, rfl⟩
      have hFz : F.size = FL.length := by rw [← hF, bytes_size]
      have hCs : ∃ T, ptext la = T ∧ T.length ≤ 1000 ∧ ((F.size ≤ wn ∧ bytes T = F) ∨ (¬ F.size ≤ wn ∧ bytes T = R)) := by
        refine ⟨_, rfl, ?_, ?_⟩
        · rw [hRen]; split <;> omega
        · rw [hRen, hFz]
          by_cases hh : FL.length ≤ wn
          · left; rw [if_pos hh]; exact ⟨hh, hF⟩
          · right; rw [if_neg hh]; exact ⟨hh, hR⟩
      obtain ⟨T, hT, hTl, hcs⟩ := hCs
      have HCS := Lib.hid hcs
      have HT := Lib.hid hT
      have HSM := Lib.hid hsm
      have HTl := Lib.hid hTl
      have PXH := Lib.hid PX
      unfold dv at PXH
      have DA := Lib.hid (HBR.out.trans (((Below.refl _ wr).alloc (Nat.le_refl _) (.cells #[.int .i64 7, .int .i64 0, .string ⟨#[]⟩, .slice ua ul uc] 24)).mono HBR.out.size))
      rw [hF, hR]
      clear hul hla hok hRen F0 F1 hz1 hz2 hz3 hz4 PX hFL hRL hRl hFl hFz hT hTl hcs hsm hsl hbl hdl hsi hbi hF hR hi hlt
      go_wp2_with fail
      refine PXH.out.mono ?_
      rintro e w6 ⟨u6, rfl, hu6, hb6⟩
      have d6 := DA.out.trans (hb6.mono DA.out.size)
      have TX := Lib.hid (text_c la u6 T w6 (OwnV.vs hu6) HT.out (by have := HTl.out; omega) (by have := HSM.out; omega))
      have D6 := Lib.hid d6
      clear hu6 hb6 d6
      go_wp2_with fail
      refine TX.out.mono ?_
      rintro e w7 ⟨rfl, hb7⟩
      have D7 := Lib.hid (D6.out.trans (hb7.mono D6.out.size))
      clear hb7
      rcases HCS.out with ⟨g1, g2⟩ | ⟨g1, g2⟩
      all_goals (
        have g3 := g1
        rw [g2]
        go_wp2
        go_ret
        exact ⟨rfl, D7.out⟩)
set_option maxRecDepth 100000 in
set_option maxHeartbeats 8000000 in
theorem rfits_F (a0 : Option Addr) (len0 cap0 : Nat) (z0 : List Int) (x1 x2 : Int) (w : World) (w0 : RowI w a0 len0 cap0 z0) {P1 P2 : Prop} (m1 : P1) (m2 : P2) :
    Calls Try.prog 4 #[.slice a0 len0 cap0, .int .i64 x1, .int .i64 x2, .bool false] w fun e w' => e = .returned (.bool true) ∧ Below w.heap.size w w' := by
  obtain ⟨zs, hl, b0, n0⟩ := row_is w0
  clear w0 n0 m1 m2
  have al := Lib.hid (alive_c w)
  have early : ∀ (P : Prop), True := fun _ => trivial
  by_cases hc : 1 ≤ len0 ∧ len0 ≤ 30 ∧ 1 ≤ x1 ∧ x1 ≤ 200 ∧ 0 ≤ x2 ∧ x2 ≤ 16
  case neg =>
    have hh : (len0 : Int) < 1 ∨ (¬ (len0 : Int) < 1 ∧ 30 < (len0 : Int)) ∨ (¬ (len0 : Int) < 1 ∧ ¬ 30 < (len0 : Int) ∧ x1 < 1) ∨ (¬ (len0 : Int) < 1 ∧ ¬ 30 < (len0 : Int) ∧ ¬ x1 < 1 ∧ 200 < x1) ∨ (¬ (len0 : Int) < 1 ∧ ¬ 30 < (len0 : Int) ∧ ¬ x1 < 1 ∧ ¬ 200 < x1 ∧ x2 < 0) ∨ (¬ (len0 : Int) < 1 ∧ ¬ 30 < (len0 : Int) ∧ ¬ x1 < 1 ∧ ¬ 200 < x1 ∧ ¬ x2 < 0 ∧ 16 < x2) := by omega
    clear hc b0 hl early
    rcases hh with h1 | ⟨h1, h2⟩ | ⟨h1, h2, h3⟩ | ⟨h1, h2, h3, h4⟩ | ⟨h1, h2, h3, h4, h5⟩ | ⟨h1, h2, h3, h4, h5, h6⟩
    all_goals (
      go_enter Try.func4, Try.ntmps4
      go_wp2_with fail
      refine al.out.mono ?_
      rintro e w1 ⟨rfl, hb⟩
      have HB := Lib.hid hb
      clear hb
      go_wp2
      go_ret
      exact ⟨rfl, HB.out⟩)
  obtain ⟨q1, q2, q3, q4, q5, q6⟩ := hc
  obtain ⟨wn, rfl⟩ : ∃ k : Nat, x1 = (k : Int) := ⟨x1.toNat, by omega⟩
  obtain ⟨ind, rfl⟩ : ∃ k : Nat, x2 = (k : Int) := ⟨x2.toNat, by omega⟩
  have p1 : ¬ (len0 : Int) < 1 := by omega
  have p2 : ¬ 30 < (len0 : Int) := by omega
  have p3 : ¬ (wn : Int) < 1 := by omega
  have p4 : ¬ 200 < (wn : Int) := by omega
  have p6 : ¬ 16 < (ind : Int) := by omega
  have p5 : ¬ (ind : Int) < 0 := by omega
  obtain ⟨ts, hts⟩ : ∃ ts, zs.map (fun z => 1 + lowS z) = ts := ⟨_, rfl⟩
  have htl : ts.length = len0 := by rw [← hts, List.length_map, hl]
  have ht8 : ∀ t ∈ ts, t ≤ 8 := by
    intro t ht
    rw [← hts] at ht
    obtain ⟨z, -, rfl⟩ := List.mem_map.1 ht
    have := (lowS_is z).2
    omega
  have htg : ∀ j (hj : j < zs.length), ts.getD j 0 = 1 + lowS zs[j] := by
    intro j hj
    rw [← hts]
    simp [List.getD, List.getElem?_eq_getElem hj]
  have hbc := bcut ⟨ind, by omega⟩
  simp only at hbc
  obtain ⟨a1, cap1, he, k1, k2, k3⟩ := b0
  simp only [Value.slice.injEq] at he
  obtain ⟨rfl, hq, rfl⟩ := he
  clear hq
  have K3 := Lib.hid k3
  have HL := Lib.hid hl
  have HTG := Lib.hid htg
  have HT8 := Lib.hid ht8
  have HTL := Lib.hid htl
  clear k3 hl hts htg ht8 htl k1 early
  go_enter Try.func4, Try.ntmps4
  go_wp2_with fail
  refine al.out.mono ?_
  rintro e w1 ⟨rfl, hb⟩
  have HB1 := Lib.hid hb
  clear hb
  go_upto_region 13 with fail
  obtain ⟨IB, hIB⟩ : ∃ x, bytes (List.replicate ind 32) = x := ⟨_, rfl⟩
  have hIBz : IB.size = ind := by rw [← hIB, bytes_size, List.length_replicate]
  rw [hIB]
  have HIB := Lib.hid hIB
  have b2 : Below w1.heap.size w1 (w1.alloc (.cells #[] 24)) := (Below.refl _ _).alloc (Nat.le_refl _) _
  have ho : OwnD w1.heap.size (w1.alloc (.cells #[] 24)) (.slice (some ⟨w1.heap.size, 0, none⟩) 0 0) [] := ⟨World.ownsRow_made w1 #[] 0 (Nat.le_refl _) (Nat.zero_le _) rfl, by simp, by simp⟩
  obtain ⟨W2, hW2⟩ : ∃ x, w1.alloc (.cells #[] 24) = x := ⟨_, rfl⟩
  rw [hW2] at b2 ho ⊢
  have HO2 := Lib.hid ho
  have B2 := Lib.hid b2
  clear hW2 b2 ho hIB hbc
  go_upto_region 14 with fail
  go_loopw [12, 13, 14, 16] (fun dv fv bv iv wr => ∃ i : Nat, iv = .int .i64 (i : Int) ∧ i ≤ len0 ∧ OwnD w1.heap.size wr dv (fitD 2 ts i) ∧ fv = .string (bytes (fitS 2 ts i)) ∧ bv = .string (bytes (fitB ind ts i)) ∧ Below w1.heap.size w1 wr) (fun _ _ _ iv _ => len0 - (intOf iv).toNat)
  case atStart => exact ⟨0, rfl, by omega, HO2.out, rfl, rfl, B2.out⟩
  case round =>
    obtain ⟨i, rfl, hi, ho, rfl, rfl, hb⟩ := hrel
    have HBR := Lib.hid (HB1.out.trans (hb.mono HB1.out.size))
    have HB := Lib.hid hb
    have HO := Lib.hid ho
    have hsl := fitS_len 2 ts HT8.out
    have hbl := fitB_len ind ts HT8.out
    have hdl := (fitD_ok 2 (by decide) ts HT8.out i).2
    have hsi := hsl i
    have hbi := hbl i
    clear hb ho
    by_cases hlt : i < len0
    · have hil : i < zs.length := by rw [HL.out]; exact hlt
      obtain ⟨b, off, rfl, hbk, hcc⟩ := K3.out (by omega)
      have c0 := (HBR.out.cell (p := ⟨b, off + i, none⟩) hbk).trans (hcc i hil)
      obtain ⟨z, hz⟩ : ∃ z, zs[i] = z := ⟨_, rfl⟩
      have htg := HTG.out i hil
      rw [hz] at c0 htg
      obtain ⟨e7, l7⟩ := lowS_is z
      obtain ⟨t, ht⟩ : ∃ t, 1 + lowS z = t := ⟨_, rfl⟩
      rw [ht] at htg
      obtain ⟨lo, hlo⟩ : ∃ lo : Int, (lowS z : Int) = lo := ⟨_, rfl⟩
      rw [hlo] at e7
      have e8 : (1 : Int) + lo = (t : Int) := by omega
      have lo0 : 0 ≤ lo := by omega
      have lo1 : lo < 8 := by omega
      have hxc := xcut ⟨t, by omega⟩
      simp only at hxc
      obtain ⟨TX, hTX⟩ : ∃ x, bytes (List.replicate t 120) = x := ⟨_, rfl⟩
      have hTXz : TX.size = t := by rw [← hTX, bytes_size, List.length_replicate]
      rw [hTX] at hxc
      have hwz : wr.heap.size ≥ w1.heap.size := HB.out.size
      obtain ⟨F, hF⟩ : ∃ x, bytes (fitS 2 ts i) = x := ⟨_, rfl⟩
      obtain ⟨R, hR⟩ : ∃ x, bytes (fitB ind ts i) = x := ⟨_, rfl⟩
      obtain ⟨F1, hF1⟩ : ∃ x, bytes (fitS 2 ts (i + 1)) = x := ⟨_, rfl⟩
      obtain ⟨R1, hR1⟩ : ∃ x, bytes (fitB ind ts (i + 1)) = x := ⟨_, rfl⟩
      have hFz : F.size ≤ 1000 := by rw [← hF, bytes_size]; omega
      have hRz : R.size ≤ 1000 := by
        rw [← hR, bytes_size]
        have : (9 + ind) * i ≤ 25 * 30 := Nat.mul_le_mul (by omega) (by omega)
        omega
      have HF1 := Lib.hid hF1
      have HR1 := Lib.hid hR1
      have j1 : (i : Int) < len0 := by omega
      rw [hF, hR]
      rcases Nat.eq_zero_or_pos i with h0 | h0
      · subst h0
        rw [Nat.add_zero] at c0
        have a2 : ∀ W, (Op.stringOp .add F TX).run Try.prog W = .ok (.string F1) W := fun W => by
          have e : F1 = F ++ TX := by
            rw [← hF1, ← hF, ← hTX, bytes_app]; simp only [fitS]; rw [if_neg (by omega), htg]; simp
          rw [e]; exact run_string_add W _ _ (by omega) (by omega)
        have b3 : ∀ W, (Op.stringOp .add R TX).run Try.prog W = .ok (.string R1) W := fun W => by
          have e : R1 = R ++ TX := by
            rw [← hR1, ← hR, ← hTX, bytes_app]; simp only [fitB]; rw [if_neg (by omega), htg]; simp
          rw [e]; exact run_string_add W _ _ (by omega) (by omega)
        have NX : Hid (fitD 2 ts 1 = [] ++ [(1, ((0 : Nat) : Int), List.replicate t 120)]) := Lib.hid (by simp only [fitD]; rw [htg]; rfl)
        have HTX := Lib.hid hTX
        clear hz htg ht hlo hTX hF hR hF1 hR1 hcc l7 hsl hbl hsi hbi hFz hRz hdl
        have HX : Hid (Vs 4 (wr.alloc (.cells #[.int .i64 1, .int .i64 ((0 : Nat) : Int), .string TX, .slice none 0 0] 24)) (.slice (some ⟨wr.heap.size, 0, none⟩) 1 1) ([((1 : Int), ((0 : Nat) : Int), List.replicate t 120)].map lfv)) := Lib.hid (by rw [← HTX.out]; exact one_lf wr (1, ((0 : Nat) : Int), List.replicate t 120))
        go_wp2_with (at_builtin; refine wpl_lf rfl _ _ rfl w1.heap.size _ _ [] (1, ((0 : Nat) : Int), List.replicate t 120) rfl ?_ rfl ?_ (nnv_some _ _ _) (by simp) ?_ ?_)
        · exact OwnV.keep HO.out ((Below.refl _ _).alloc (Nat.le_refl _) _)
        · exact HX.out
        · rw [World.size_alloc]; omega
        · intro v' w' ho' hb'
          have HO' : Hid (OwnD w1.heap.size w' v' (fitD 2 ts 1)) := Lib.hid (by rw [NX.out]; exact ho')
          have HB' := Lib.hid (HB.out.trans (((Below.refl _ wr).alloc hwz _).trans hb'))
          clear ho' hb'
          go_wp2
          exact ⟨⟨1, rfl, by omega, HO'.out, congrArg Value.string HF1.out.symm, congrArg Value.string HR1.out.symm, HB'.out⟩, by simp only [intOf]; omega⟩
      · obtain ⟨FG, hFG⟩ : ∃ x, bytes (fitS 2 ts i ++ gapK 2) = x := ⟨_, rfl⟩
        obtain ⟨RA, hRA⟩ : ∃ x, bytes (fitB ind ts i ++ [10]) = x := ⟨_, rfl⟩
        obtain ⟨RG, hRG⟩ : ∃ x, bytes (fitB ind ts i ++ 10 :: List.replicate ind 32) = x := ⟨_, rfl⟩
        have gz : (gapK 2).length ≤ 1 := by decide
        have hFGz : FG.size ≤ 1001 := by rw [← hFG, bytes_size, List.length_append]; rw [← hF, bytes_size] at hFz; omega
        have hRAz : RA.size ≤ 1001 := by rw [← hRA, bytes_size, List.length_append]; rw [← hR, bytes_size] at hRz; simp only [List.length_singleton]; omega
        have hRGz : RG.size ≤ 1020 := by rw [← hRG, bytes_size, List.length_append]; rw [← hR, bytes_size] at hRz; simp only [List.length_cons, List.length_replicate]; omega
        have a1 : ∀ W, (Op.stringOp .add F ⟨#[32]⟩).run Try.prog W = .ok (.string FG) W := fun W => by
          have e : FG = F ++ ⟨#[32]⟩ := by
            rw [← hFG, ← hF]; exact (bytes_app _ _).symm
          rw [e]; exact run_string_add W _ _ (by omega) (by decide)
        have a2 : ∀ W, (Op.stringOp .add FG TX).run Try.prog W = .ok (.string F1) W := fun W => by
          have e : F1 = FG ++ TX := by
            rw [← hF1, ← hFG, ← hTX, bytes_app]; simp only [fitS]; rw [if_pos h0, htg]
          rw [e]; exact run_string_add W _ _ (by omega) (by omega)
        have b1 : ∀ W, (Op.stringOp .add R ⟨#[10]⟩).run Try.prog W = .ok (.string RA) W := fun W => by
          have e : RA = R ++ ⟨#[10]⟩ := by
            rw [← hRA, ← hR]; exact (bytes_app _ _).symm
          rw [e]; exact run_string_add W _ _ (by omega) (by decide)
        have b2 : ∀ W, (Op.stringOp .add RA IB).run Try.prog W = .ok (.string RG) W := fun W => by
          have e : RG = RA ++ IB := by
            rw [← hRG, ← hRA, ← HIB.out, bytes_app, List.append_assoc]; rfl
          rw [e]; exact run_string_add W _ _ (by omega) (by omega)
        have b3 : ∀ W, (Op.stringOp .add RG TX).run Try.prog W = .ok (.string R1) W := fun W => by
          have e : R1 = RG ++ TX := by
            rw [← hR1, ← hRG, ← hTX, bytes_app]; simp only [fitB]; rw [if_pos h0, htg]
          rw [e]; exact run_string_add W _ _ (by omega) (by omega)
        have NX : Hid (fitD 2 ts (i + 1) = (fitD 2 ts i ++ [((2 : Int), (0 : Int), ([] : List UInt8))]) ++ [(1, (i : Int), List.replicate t 120)]) := Lib.hid (by simp only [fitD]; rw [htg, if_pos h0])
        have HTX := Lib.hid hTX
        have HDL : Hid ((fitD 2 ts i).length ≤ 2 * i) := Lib.hid hdl
        have HX1 : Hid (Vs 4 (wr.alloc (.cells #[.int .i64 2, .int .i64 0, .string ⟨#[]⟩, .slice none 0 0] 24)) (.slice (some ⟨wr.heap.size, 0, none⟩) 1 1) ([((2 : Int), (0 : Int), ([] : List UInt8))].map lfv)) := Lib.hid (one_lf wr (2, 0, []))
        have HX2 : Hid (∀ W : World, Vs 4 (W.alloc (.cells #[.int .i64 1, .int .i64 (i : Int), .string TX, .slice none 0 0] 24)) (.slice (some ⟨W.heap.size, 0, none⟩) 1 1) ([((1 : Int), (i : Int), List.replicate t 120)].map lfv)) := Lib.hid (fun W => by rw [← HTX.out]; exact one_lf W (1, (i : Int), List.replicate t 120))
        have j0 : (0 : Int) < i := by omega
        clear hz htg ht hlo hTX hF hR hF1 hR1 hcc l7 hsl hbl hsi hbi hFz hRz hdl hFG hRA hRG gz hFGz hRAz hRGz
        go_wp2_with (at_builtin; refine wpl_lf rfl _ _ rfl w1.heap.size _ _ (fitD 2 ts i) (2, (0 : Int), []) rfl ?_ rfl ?_ (nnv_some _ _ _) ?_ ?_ ?_)
        · exact OwnV.keep HO.out ((Below.refl _ _).alloc (Nat.le_refl _) _)
        · exact HX1.out
        · have := HDL.out; omega
        · rw [World.size_alloc]; omega
        · intro v1 w2 ho1 hb1
          have hb2 := HB.out.trans (((Below.refl _ wr).alloc hwz _).trans hb1)
          have hwz2 : w2.heap.size ≥ w1.heap.size := hb2.size
          have HO1 := Lib.hid ho1
          have HB2 := Lib.hid hb2
          clear ho1 hb1 hb2
          go_wp2_with (at_builtin; refine wpl_lf rfl _ _ rfl w1.heap.size _ _ (fitD 2 ts i ++ [((2 : Int), (0 : Int), ([] : List UInt8))]) (1, (i : Int), List.replicate t 120) rfl ?_ rfl ?_ (nnv_some _ _ _) ?_ ?_ ?_)
          · exact OwnV.keep HO1.out ((Below.refl _ _).alloc (Nat.le_refl _) _)
          · exact HX2.out _
          · have := HDL.out; rw [List.length_append, List.length_singleton]; omega
          · rw [World.size_alloc]; omega
          · intro v' w' ho' hb'
            have HO' : Hid (OwnD w1.heap.size w' v' (fitD 2 ts (i + 1))) := Lib.hid (by rw [NX.out, List.append_assoc]; exact ho')
            have HB' := Lib.hid (HB2.out.trans (((Below.refl _ w2).alloc hwz2 _).trans hb'))
            clear ho' hb'
            go_wp2
            exact ⟨⟨i + 1, by push_cast; rfl, by omega, HO'.out, congrArg Value.string HF1.out.symm, congrArg Value.string HR1.out.symm, HB'.out⟩, by simp only [intOf]; omega⟩
    · obtain rfl : i = len0 := by omega
      have hok := fitD_ok 2 (by decide) ts HT8.out i
      have hRen := fits_ren wn ind 2 (by decide) ts HT8.out i HTL.out q1
      obtain ⟨ua, uc, hu, -⟩ := OwnV.vs HO.out
      obtain ⟨ul, hul⟩ : ∃ n, ((fitD 2 ts i).map lfv).length = n := ⟨_, rfl⟩
      rw [hul] at hu
      subst hu
      have F0 := lf_fos (OwnV.vs HO.out) (OwnV.nn HO.out) (fun x hx => by have := (hok.1 x hx).2; omega)
      have F1 := one_fos (k0 := 7) (f0 := 0) (s0 := ⟨#[]⟩) F0 (by decide)
      have hz1 := lfF_sz (fitD 2 ts i) 8 (fun x hx => (hok.1 x hx).2)
      have hz2 := lfF_n (fitD 2 ts i)
      have hz3 : (⟨#[]⟩ : ByteArray).size + 1 + FoSz (Fo.one 7 0 ⟨#[]⟩ (lfF (fitD 2 ts i))) ≤ 600 := by
        simp only [Fo.one, FoSz, ByteArray.size]; simp; omega
      have hz4 : FoN (Fo.one 7 0 ⟨#[]⟩ (lfF (fitD 2 ts i))) ≤ 100 := by simp only [Fo.one, FoN]; omega
      have hsm := (renP_small 6 0 ⟨#[]⟩ (Fo.one 7 0 ⟨#[]⟩ (lfF (fitD 2 ts i))) wn ind (by omega) (by omega) (by omega)).1
      have PX := pieces_any 6 0 ⟨#[]⟩ _ _ wn ind wn ind _ F1 (by omega) (by omega) (cap_same wn 1 1000 (by omega) (by omega)) (cap_same ind 0 16 (by omega) (by omega))
      obtain ⟨la, hla⟩ : ∃ l, renP 6 0 ⟨#[]⟩ (Fo.one 7 0 ⟨#[]⟩ (lfF (fitD 2 ts i))) wn ind = l := ⟨_, rfl⟩
      rw [hla] at PX hRen hsm
      obtain ⟨FL, hFL⟩ : ∃ x, fitS 2 ts i = x := ⟨_, rfl⟩
      obtain ⟨RL, hRL⟩ : ∃ x, fitB ind ts i = x := ⟨_, rfl⟩
      rw [hFL] at hRen hsi ⊢
      rw [hRL] at hRen hbi ⊢
      have hRl : RL.length ≤ 1000 := by
        have : (9 + ind) * i ≤ 25 * 30 := Nat.mul_le_mul (by omega) (by omega)
        omega
      have hFl : FL.length ≤ 1000 := by omega
      obtain ⟨F, hF⟩ : ∃ x, bytes FL = x := ⟨_, rfl⟩
      obtain ⟨R, hR⟩ : ∃ x, bytes RL = x := ⟨_, rfl⟩
      have hFz : F.size = FL.length := by rw [← hF, bytes_size]
      have hCs : ∃ T, ptext la = T ∧ T.length ≤ 1000 ∧ ((F.size ≤ wn ∧ bytes T = F) ∨ (¬ F.size ≤ wn ∧ bytes T = R)) := by
        refine ⟨_, rfl, ?_, ?_⟩
        · rw [hRen]; split <;> omega
        · rw [hRen, hFz]
          by_cases hh : FL.length ≤ wn
          · left; rw [if_pos hh]; exact ⟨hh, hF⟩
          · right; rw [if_neg hh]; exact ⟨hh, hR⟩
      obtain ⟨T, hT, hTl, hcs⟩ := hCs
      have HCS := Lib.hid hcs
      have HT := Lib.hid hT
      have HSM := Lib.hid hsm
      have HTl := Lib.hid hTl
      have PXH := Lib.hid PX
      unfold dv at PXH
      have DA := Lib.hid (HBR.out.trans (((Below.refl _ wr).alloc (Nat.le_refl _) (.cells #[.int .i64 7, .int .i64 0, .string ⟨#[]⟩, .slice ua ul uc] 24)).mono HBR.out.size))
      rw [hF, hR]
      clear hul hla hok hRen F0 F1 hz1 hz2 hz3 hz4 PX hFL hRL hRl hFl hFz hT hTl hcs hsm hsl hbl hdl hsi hbi hF hR hi hlt
      go_wp2_with fail
      refine PXH.out.mono ?_
      rintro e w6 ⟨u6, rfl, hu6, hb6⟩
      have d6 := DA.out.trans (hb6.mono DA.out.size)
      have TX := Lib.hid (text_c la u6 T w6 (OwnV.vs hu6) HT.out (by have := HTl.out; omega) (by have := HSM.out; omega))
      have D6 := Lib.hid d6
      clear hu6 hb6 d6
      go_wp2_with fail
      refine TX.out.mono ?_
      rintro e w7 ⟨rfl, hb7⟩
      have D7 := Lib.hid (D6.out.trans (hb7.mono D6.out.size))
      clear hb7
      rcases HCS.out with ⟨g1, g2⟩ | ⟨g1, g2⟩
      all_goals (
        have g3 := g1
        rw [g2]
        go_wp2
        go_ret
        exact ⟨rfl, D7.out⟩)
theorem rfits_walk (a0 : Option Addr) (len0 cap0 : Nat) (z0 : List Int) (x1 x2 : Int) (x3 : Bool) (w : World) (w0 : RowI w a0 len0 cap0 z0) {P1 P2 : Prop} (m1 : P1) (m2 : P2) :
    Calls Try.prog 4 #[.slice a0 len0 cap0, .int .i64 x1, .int .i64 x2, .bool x3] w fun e w' => e = .returned (.bool true) ∧ Below w.heap.size w w' := by
  cases x3
  · exact rfits_F a0 len0 cap0 z0 x1 x2 w w0 m1 m2
  · exact rfits_T a0 len0 cap0 z0 x1 x2 w w0 m1 m2
end Go.Proofs.Ytehofomfblfhaaa
