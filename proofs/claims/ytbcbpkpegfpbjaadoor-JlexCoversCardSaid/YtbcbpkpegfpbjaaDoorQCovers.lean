/- The walk of JlexCovers. -/
import Derived.Test.YtbcbpkpegfpbjaaDoorQAlive
import Derived.Test.YtbcbpkpegfpbjaaDoorQMath5
import Derived.Deep.QuietTactic
namespace Go.Proofs.YtbcbpkpegfpbjaaDoor
open Go.RowKit
set_option linter.unusedVariables false
set_option linter.unusedSimpArgs false

def CovAt (l : List UInt8) (ts : M.Toks) (i p : Nat) : Prop := i ≤ ts.length → M.Cov l p (ts.drop i)
set_option maxRecDepth 100000 in
set_option maxHeartbeats 8000000 in
theorem jcovers_walk (a0 : Option Addr) (len0 cap0 : Nat) (l : List UInt8) (w : World) (hl : l.length = len0) (b0 : Bs w (.slice a0 len0 cap0) l) (n0 : ∀ n c, Value.slice a0 len0 cap0 = .slice none n c → c = 0) (hT : Tabs w) :
    Calls Tryd.prog 4 #[.slice a0 len0 cap0] w fun e w' => e = .returned (.bool true) ∧ Below w.heap.size w w' := by
  have al := Lib.hid (alive_any w hT)
  by_cases h0 : 600 < len0
  · have h0' : (600 : Int) < len0 := by omega
    clear b0 n0 hT hl
    go_enter Tryd.func4, Tryd.ntmps4
    go_wp2_with fail
    refine al.out.mono ?_
    rintro e w1 ⟨rfl, hb⟩
    go_wp2
    go_ret
    exact ⟨rfl, hb⟩
  have q1 : decide ((600 : Int) < len0) = false := by simp; omega
  have k0 : len0 ≤ 600 := by omega
  have B0 := Lib.hid b0
  have HT := Lib.hid hT
  have HL := Lib.hid hl
  rcases M.split_cases l (by omega) with ⟨e, a, hs, he, ha, hal⟩ | ⟨ts, hs, hx, hv⟩
  · have S1 := Lib.hid (fun v W hW hB => split_any v l _ W hW hB (by omega) hs)
    have t1 : (e != 0) = true := by rw [bne_iff_ne]; exact he
    have t2 : decide ((0 : Int) ≤ a) = true := by simpa using ha
    have t3 : decide (a ≤ (len0 : Int)) = true := by rw [hl] at hal; simpa using hal
    clear b0 n0 hT hl hs he h0
    go_enter Tryd.func4, Tryd.ntmps4
    go_wp2_with fail
    refine al.out.mono ?_
    rintro e1 w1 ⟨rfl, hb⟩
    go_wp2_with fail
    refine (S1.out _ _ (HT.out.keep hb) (B0.out.keep hb)).mono ?_
    rintro e2 w2 ⟨v2, rfl, ho2, hb2⟩
    obtain ⟨a2, c2, rfl, _⟩ := ts_view ho2.vs
    have hb3 := hb.trans (hb2.mono hb.size)
    have hb4 := hb3.alloc hb3.size (.cells #[.int .i64 e, .int .i64 a] 27)
    unfold fv
    clear hb hb2 hb3 ho2
    go_wp2
    go_ret
    exact ⟨rfl, hb4⟩
  · have S1 := Lib.hid (fun v W hW hB => split_any v l _ W hW hB (by omega) hs)
    have hcov := M.lex_cov l.length l 0 ts (by omega) (by omega) (by simpa using hx)
    have HC : Hid (CovAt l ts 0 0) := Lib.hid fun _ => by simpa using hcov
    have kN := M.lex_len l ts hx
    obtain ⟨N, hN⟩ : ∃ N, ts.length = N := ⟨_, rfl⟩
    rw [hN, hl] at kN
    have kN : N ≤ 600 := by omega
    have HN := Lib.hid hN
    clear b0 n0 hT hl hs h0 hx hv hcov hN
    go_enter Tryd.func4, Tryd.ntmps4
    go_wp2_with fail
    refine al.out.mono ?_
    rintro e1 w1 ⟨rfl, hb⟩
    go_wp2_with fail
    refine (S1.out _ _ (HT.out.keep hb) (B0.out.keep hb)).mono ?_
    rintro e2 w2 ⟨v2, rfl, ho2, hb2⟩
    obtain ⟨a2, c2, rfl, hv2⟩ := ts_view ho2.vs
    have hb3 := hb.trans (hb2.mono hb.size)
    obtain ⟨W4, hW4⟩ : ∃ W4, w2.alloc (.cells #[.int .i64 0, .int .i64 0] 27) = W4 := ⟨_, rfl⟩
    have hb4 : Below w.heap.size w W4 := by rw [← hW4]; exact hb3.alloc hb3.size _
    have hbw : Below w2.heap.size w2 W4 := by rw [← hW4]; exact (Below.refl _ _).alloc (Nat.le_refl _) _
    have hB4 := B0.out.keep hb4
    have H3 := Lib.hid (fun h => by
      obtain ⟨b, off, ha, hlt, hc⟩ := hv2 h
      exact (⟨b, off, ha, hlt, fun j hj => by
        obtain ⟨x0, x1, x2⟩ := hc j hj
        exact ⟨(hbw.cell (p := ⟨b, off + j * 3, none⟩) hlt).trans x0, (hbw.cell (p := ⟨b, off + j * 3 + 1, none⟩) hlt).trans x1, (hbw.cell (p := ⟨b, off + j * 3 + 2, none⟩) hlt).trans x2⟩⟩ :
        ∃ b off, a2 = some ⟨b, off, none⟩ ∧ b < w2.heap.size ∧ ∀ j (hj : j < ts.length), W4.cell? ⟨b, off + j * 3, none⟩ = some (.int .i64 (ts[j].1 : Int)) ∧ W4.cell? ⟨b, off + j * 3 + 1, none⟩ = some (.int .i64 (ts[j].2.1 : Int)) ∧ W4.cell? ⟨b, off + j * 3 + 2, none⟩ = some (.int .i64 (ts[j].2.2 : Int))))
    have HB4 := Lib.hid hB4
    unfold fv
    dsimp only
    rw [HN.out]
    have HW4 := Lib.hid hW4
    clear hb hb2 hb3 ho2 hv2 hbw hW4 hB4 al S1 B0
    go_wp2
    rw [HW4.out]
    go_loopw [6, 7, 8, 9] (fun av iv _ _ wr => ∃ (i p q : Nat), av = .int .i64 (p : Int) ∧ iv = .int .i64 (i : Int) ∧ i ≤ N + 1 ∧ wr = W4.drewN q ∧ CovAt l ts i p) (fun _ iv _ _ _ => N + 1 - (intOf iv).toNat)
    case atStart => exact ⟨0, 0, 0, rfl, rfl, by omega, rfl, HC.out⟩
    case round =>
      obtain ⟨i, p, q, rfl, rfl, hi, rfl, hcv⟩ := hrel
      have Hcv := Lib.hid hcv
      clear hcv
      by_cases hiN : i < N
      · have hil : i < ts.length := by rw [HN.out]; exact hiN
        obtain ⟨b, off, rfl, hbk, hcl⟩ := H3.out (by rw [HN.out]; omega)
        obtain ⟨e0, e1, e2⟩ := hcl i hil
        have hcc := Hcv.out (by rw [HN.out]; omega)
        rw [List.drop_eq_getElem_cons hil] at hcc
        obtain ⟨X, hX⟩ : ∃ X, ts[i] = X := ⟨_, rfl⟩
        rw [hX] at e0 e1 e2 hcc
        obtain ⟨x, y, z⟩ := X
        obtain ⟨g1, g2, g3, g4, g5⟩ := hcc
        dsimp only at e0 e1 e2 g1 g2 g3 g4 g5
        rw [HL.out] at g3
        have G4 := Lib.hid g4
        have HN2 : Hid (CovAt l ts (i + 1) z) := Lib.hid (fun _ => g5)
        have r1 : decide ((z : Int) ≤ y) = false := by simp; omega
        have r2 : decide ((len0 : Int) < z) = false := by simp; omega
        have r3 : decide ((y : Int) < p) = false := by simp; omega
        have B4 := HB4.out
        obtain ⟨a', cap', hsl, hcap, hcm, hbb⟩ := B4
        obtain ⟨rfl, rfl, rfl⟩ : a' = a0 ∧ l.length = len0 ∧ cap' = cap0 := by simp only [Value.slice.injEq] at hsl; exact ⟨hsl.1.symm, hsl.2.1.symm, hsl.2.2.symm⟩
        obtain ⟨bb, boff, rfl, hblt, hbcl⟩ := hbb (by omega)
        have HBC := Lib.hid (@cell_getD W4 bb boff l hbcl)
        obtain ⟨n, hn⟩ : ∃ n, l.length = n := ⟨_, rfl⟩
        have Hn := Lib.hid hn
        rw [hn] at k0 g3 r2 hcap ⊢
        have u1 : (i : Int) < N := by omega
        have u2 : (i : Int) ≤ N := by omega
        clear hcl hX g4 g5 hbcl hbb hsl hn HB4 HL q1
        go_wp2
        go_quiet (fail)
        go_wp2
        go_loopw [9] (fun kv wr => ∃ k q : Nat, kv = .int .i64 (k : Int) ∧ p ≤ k ∧ k ≤ y ∧ wr = W4.drewN q) (fun kv _ => y - (intOf kv).toNat)
        case atStart => exact ⟨p, _, rfl, Nat.le_refl _, g1, rfl⟩
        case round =>
          obtain ⟨k, q', rfl, hpk, hky, rfl⟩ := hrel
          by_cases hk : k < y
          · have hck := HBC.out k (by rw [Hn.out]; omega)
            have hbl := G4.out k hpk hk
            obtain ⟨c, hc⟩ : ∃ c, l.getD k 0 = c := ⟨_, rfl⟩
            rw [hc] at hck hbl
            obtain ⟨C, hC⟩ : ∃ C : Int, (c.toNat : Int) = C := ⟨_, rfl⟩
            rw [hC] at hck
            have hb4c := bl_cases c C hC
            have hs : (C != 32) = false ∨ ((C != 32) = true ∧ (C != 9) = false) ∨ ((C != 32) = true ∧ (C != 9) = true ∧ (C != 10) = false) ∨ ((C != 32) = true ∧ (C != 9) = true ∧ (C != 10) = true ∧ (C != 13) = false) := by
              rcases hb4c with ⟨_, h⟩ | ⟨h, _⟩
              · simp only [bne, Bool.not_eq_false', Bool.not_eq_true']
                exact h
              · rw [hbl] at h; exact absurd h (by simp)
            have v1 : (k : Int) < y := by omega
            have v2 : (k : Int) < n := by omega
            clear hb4c hbl hc hC
            rcases hs with t1 | ⟨t1, t2⟩ | ⟨t1, t2, t3⟩ | ⟨t1, t2, t3, t4⟩
            all_goals
              go_wp2
              go_roundw
              case rel => exact ⟨k + 1, _, by go_num, by omega, by omega, rfl⟩
              case measure => simp [intOf] <;> omega
          · obtain rfl : k = y := by omega
            go_wp2
            go_roundw
            case rel => exact ⟨i + 1, z, _, rfl, by go_num, by omega, rfl, HN2.out⟩
            case measure => simp [intOf] <;> omega
      · by_cases hie : i = N
        · subst hie
          have hcc := Hcv.out (by rw [HN.out]; exact Nat.le_refl _)
          rw [List.drop_eq_nil_of_le (by rw [HN.out]; exact Nat.le_refl _)] at hcc
          obtain ⟨g1, g4⟩ := hcc
          rw [HL.out] at g1
          have G4 := Lib.hid g4
          have HN2 : Hid (CovAt l ts (i + 1) p) := Lib.hid (fun h => absurd h (by rw [HN.out]; omega))
          have r3 : decide ((len0 : Int) < p) = false := by simp; omega
          have HL2 := HL.out
          have B4 := HB4.out
          by_cases hpl : p < len0
          · obtain ⟨a', cap', hsl, hcap, hcm, hbb⟩ := B4
            obtain ⟨rfl, rfl, rfl⟩ : a' = a0 ∧ l.length = len0 ∧ cap' = cap0 := by simp only [Value.slice.injEq] at hsl; exact ⟨hsl.1.symm, hsl.2.1.symm, hsl.2.2.symm⟩
            obtain ⟨bb, boff, rfl, hblt, hbcl⟩ := hbb (by omega)
            have HBC := Lib.hid (@cell_getD W4 bb boff l hbcl)
            obtain ⟨n, hn⟩ : ∃ n, l.length = n := ⟨_, rfl⟩
            have Hn := Lib.hid hn
            rw [hn] at k0 g1 r3 hcap hpl ⊢
            clear g4 hbcl hbb hsl hn HB4 HL q1 HL2
            go_wp2
            go_loopw [9] (fun kv wr => ∃ k q : Nat, kv = .int .i64 (k : Int) ∧ p ≤ k ∧ k ≤ n ∧ wr = W4.drewN q) (fun kv _ => n - (intOf kv).toNat)
            case atStart => exact ⟨p, _, rfl, Nat.le_refl _, g1, rfl⟩
            case round =>
              obtain ⟨k, q', rfl, hpk, hky, rfl⟩ := hrel
              by_cases hk : k < n
              · have hck := HBC.out k (by rw [Hn.out]; omega)
                have hbl := G4.out k hpk (by rw [Hn.out]; exact hk)
                obtain ⟨c, hc⟩ : ∃ c, l.getD k 0 = c := ⟨_, rfl⟩
                rw [hc] at hck hbl
                obtain ⟨C, hC⟩ : ∃ C : Int, (c.toNat : Int) = C := ⟨_, rfl⟩
                rw [hC] at hck
                have hb4c := bl_cases c C hC
                have hs : (C != 32) = false ∨ ((C != 32) = true ∧ (C != 9) = false) ∨ ((C != 32) = true ∧ (C != 9) = true ∧ (C != 10) = false) ∨ ((C != 32) = true ∧ (C != 9) = true ∧ (C != 10) = true ∧ (C != 13) = false) := by
                  rcases hb4c with ⟨_, h⟩ | ⟨h, _⟩
                  · simp only [bne, Bool.not_eq_false', Bool.not_eq_true']
                    exact h
                  · rw [hbl] at h; exact absurd h (by simp)
                have v1 : (k : Int) < n := by omega
                clear hb4c hbl hc hC
                rcases hs with t1 | ⟨t1, t2⟩ | ⟨t1, t2, t3⟩ | ⟨t1, t2, t3, t4⟩
                all_goals
                  go_wp2
                  go_roundw
                  case rel => exact ⟨k + 1, _, by go_num, by omega, by omega, rfl⟩
                  case measure => simp [intOf] <;> omega
              · obtain rfl : k = n := by omega
                go_wp2
                go_roundw
                case rel => exact ⟨i + 1, p, _, rfl, by go_num, by omega, rfl, HN2.out⟩
                case measure => simp [intOf] <;> omega
          · obtain rfl : p = len0 := by omega
            clear g4 HB4 HL q1 HL2 B4
            go_wp2
            go_loopw [9] (fun kv wr => kv = .int .i64 (p : Int) ∧ wr = W4.drewN q) (fun kv _ => 0)
            case atStart => exact ⟨rfl, rfl⟩
            case round =>
              obtain ⟨rfl, rfl⟩ := hrel
              go_wp2
              go_roundw
              case rel => exact ⟨i + 1, p, _, rfl, by go_num, by omega, rfl, HN2.out⟩
              case measure => simp [intOf] <;> omega
        · obtain rfl : i = N + 1 := by omega
          have r1 : decide (((N + 1 : Nat) : Int) ≤ N) = false := by simp; omega
          have r4 : ¬ ((N + 1 : Nat) : Int) ≤ N := by omega
          clear hiN hie
          go_wp2
          go_ret
          exact ⟨rfl, below_drewN hb4 _⟩
end Go.Proofs.YtbcbpkpegfpbjaaDoor
