/- The walk of NumberValue. -/
import Derived.Test.YtmfcfkmkmlcepaaDoorNVal
namespace Go.Proofs.YtmfcfkmkmlcepaaDoor
open Go.RowKit
set_option linter.unusedVariables false
set_option linter.unusedSimpArgs false

def tenV (a j : Nat) : Nat := a * 10 ^ j
theorem tenV_succ (a j : Nat) : tenV a (j + 1) = 10 * tenV a j := by
  unfold tenV; rw [Nat.pow_succ, ← Nat.mul_assoc, Nat.mul_comm]
theorem tenV_le (a j : Nat) (ha : a ≤ 99999) (hj : j ≤ 10) : tenV a j ≤ 999990000000000 := by
  unfold tenV
  have := Nat.mul_le_mul ha (Nat.pow_le_pow_right (show 0 < 10 by omega) hj)
  have e : 99999 * 10 ^ 10 = 999990000000000 := by decide
  omega
set_option maxRecDepth 100000 in
set_option maxHeartbeats 8000000 in
theorem nvalue_walk (a b i k : Int) (p q : Bool) (w : World) (w0 : (Lit.int .i64 a).wf = true) (w1 : (Lit.int .i64 b).wf = true) (w2 : (Lit.int .i64 i).wf = true) (w3 : (Lit.int .i64 k).wf = true) (hT : Tabs w) :
    Calls Tryd.prog 6 #[.int .i64 a, .int .i64 b, .int .i64 i, .int .i64 k, .bool p, .bool q] w fun e w' => e = .returned (.bool true) ∧ Below w.heap.size w w' := by
  have al := Lib.hid (alive_any w hT)
  have HT := Lib.hid hT
  clear w0 w1 w2 w3 hT
  have hway : ((a < 0) ∨ (0 ≤ a ∧ 99999 < a) ∨ (0 ≤ a ∧ a ≤ 99999 ∧ b < 0) ∨ (0 ≤ a ∧ a ≤ 99999 ∧ 0 ≤ b ∧ 99999 < b) ∨ (0 ≤ a ∧ a ≤ 99999 ∧ 0 ≤ b ∧ b ≤ 99999 ∧ i < -5) ∨ (0 ≤ a ∧ a ≤ 99999 ∧ 0 ≤ b ∧ b ≤ 99999 ∧ -5 ≤ i ∧ 5 < i) ∨ (0 ≤ a ∧ a ≤ 99999 ∧ 0 ≤ b ∧ b ≤ 99999 ∧ -5 ≤ i ∧ i ≤ 5 ∧ k < -5) ∨ (0 ≤ a ∧ a ≤ 99999 ∧ 0 ≤ b ∧ b ≤ 99999 ∧ -5 ≤ i ∧ i ≤ 5 ∧ -5 ≤ k ∧ 5 < k)) ∨ (0 ≤ a ∧ a ≤ 99999 ∧ 0 ≤ b ∧ b ≤ 99999 ∧ -5 ≤ i ∧ i ≤ 5 ∧ -5 ≤ k ∧ k ≤ 5) := by omega
  rcases hway with hout | ⟨c1, c2, c3, c4, c5, c6, c7, c8⟩
  · rcases hout with c1 | ⟨c1, c2⟩ | ⟨c1, c2, c3⟩ | ⟨c1, c2, c3, c4⟩ | ⟨c1, c2, c3, c4, c5⟩ | ⟨c1, c2, c3, c4, c5, c6⟩ | ⟨c1, c2, c3, c4, c5, c6, c7⟩ | ⟨c1, c2, c3, c4, c5, c6, c7, c8⟩
    all_goals
      go_enter Tryd.func6, Tryd.ntmps6
      go_wp2_with fail
      refine al.out.mono ?_
      rintro e w1 ⟨rfl, hb⟩
      go_wp2
      go_ret
      exact ⟨rfl, hb⟩
  obtain ⟨A, rfl⟩ : ∃ n : Nat, a = n := ⟨a.toNat, by omega⟩
  obtain ⟨B, rfl⟩ : ∃ n : Nat, b = n := ⟨b.toNat, by omega⟩
  have hA : A ≤ 99999 := by omega
  have hB : B ≤ 99999 := by omega
  have T1 := Lib.hid (fun w => text_any A i p w hA (by omega) (by omega))
  have T2 := Lib.hid (fun w => text_any B k q w hB (by omega) (by omega))
  have R1 := Lib.hid (fun w hw => read_any (valT A i p) _ _ w hw (by have := valT_len A i p hA (by omega) (by omega); omega) (valT_read A i p))
  have R2 := Lib.hid (fun w hw => read_any (valT B k q) _ _ w hw (by have := valT_len B k q hB (by omega) (by omega); omega) (valT_read B k q))
  have heq := M.value_eq A B i k c5 c7
  obtain ⟨I, hI⟩ : ∃ n : Nat, (n : Int) = i + 5 := ⟨(i + 5).toNat, by omega⟩
  obtain ⟨K, hK⟩ : ∃ n : Nat, (n : Int) = k + 5 := ⟨(k + 5).toNat, by omega⟩
  rw [show (i + 5).toNat = I by omega, show (k + 5).toNat = K by omega] at heq
  have hI10 : I ≤ 10 := by omega
  have hK10 : K ≤ 10 := by omega
  have heq2 : M.nz A i = M.nz B k ↔ tenV A I = tenV B K := heq
  obtain ⟨⟨D1, E1⟩, hn1⟩ : ∃ r, M.nz A i = r := ⟨_, rfl⟩
  obtain ⟨⟨D2, E2⟩, hn2⟩ : ∃ r, M.nz B k = r := ⟨_, rfl⟩
  rw [hn1] at R1 heq2
  rw [hn2] at R2 heq2
  unfold numV at R1 R2
  simp only at R1 R2
  obtain ⟨SA, hSA⟩ : ∃ S, bytes (valT A i p) = S := ⟨_, rfl⟩
  obtain ⟨SB, hSB⟩ : ∃ S, bytes (valT B k q) = S := ⟨_, rfl⟩
  rw [hSA] at T1 R1
  rw [hSB] at T2 R2
  have HEQ := Lib.hid heq2
  clear heq heq2 hn1 hn2 hSA hSB
  go_enter Tryd.func6, Tryd.ntmps6
  go_wp2_with fail
  refine al.out.mono ?_
  rintro e w1 ⟨rfl, hb1⟩
  go_wp2_with fail
  refine (T1.out _).mono ?_
  rintro e w' ⟨rfl, n1, rfl⟩
  have hb2 := below_drewN hb1 n1
  go_wp2_with fail
  refine (R1.out _ (HT.out.keep hb2)).mono ?_
  rintro e w3 ⟨rfl, hb3⟩
  have hb4 := hb2.trans (hb3.mono hb2.size)
  clear hb1 hb2 hb3
  obtain ⟨X4, hX4⟩ : ∃ W, w3.alloc (.cells #[.bool false, .string (bytes D1), .string (bytes E1)] 23) = W := ⟨_, rfl⟩
  have d4 : Below w3.heap.size w3 X4 := by rw [← hX4]; exact (Below.refl _ _).alloc (Nat.le_refl _) _
  have z4 : X4.heap.size = w3.heap.size + 1 := by rw [← hX4]; simp
  have g4 : Box w3.heap.size (.bool false) (.string (bytes D1)) (.string (bytes E1)) X4 := by
    rw [← hX4]
    exact ⟨by rw [World.cell?_alloc_at _ _ _ _ rfl]; rfl, by rw [World.cell?_alloc_at _ _ _ _ rfl]; rfl, by rw [World.cell?_alloc_at _ _ _ _ rfl]; rfl⟩
  have hb5 := hb4.trans (d4.mono hb4.size)
  have HX4 := Lib.hid hX4
  have G4 := Lib.hid g4
  have HB5 := Lib.hid hb5
  clear hX4 d4 g4 hb4 hb5
  go_wp2_with fail
  rw [HX4.out]
  clear HX4
  refine (T2.out _).mono ?_
  rintro e w' ⟨rfl, n2, rfl⟩
  have hb6 := below_drewN HB5.out n2
  go_wp2_with fail
  refine (R2.out _ (HT.out.keep hb6)).mono ?_
  rintro e w7 ⟨rfl, hb7⟩
  have hb8 := hb6.trans (hb7.mono hb6.size)
  have g7 := box_keep G4.out ((below_drewN (Below.refl X4.heap.size X4) n2).trans (hb7.mono (by exact Nat.le_refl _))) (by omega)
  have z7 : w3.heap.size < w7.heap.size := by have := hb7.size; have e : (X4.drewN n2).heap.size = X4.heap.size := rfl; omega
  have HB8 := Lib.hid hb8
  obtain ⟨g0, g1, g2⟩ := g7
  clear hb6 hb7 hb8
  go_wp2_with fail
  go_loop [18, 20] (fun uv nv => ∃ j : Nat, j ≤ I ∧ nv = .int .i64 ((j : Int) - 5) ∧ uv = .int .i64 (tenV A j : Int)) (fun _ nv => I - (intOf nv + 5).toNat)
  case atStart => exact ⟨0, by omega, rfl, by simp [tenV]⟩
  case round =>
    obtain ⟨j, hj, rfl, rfl⟩ := hrel
    by_cases hlt : j < I
    · have h1 := tenV_le A j hA (by omega)
      have h2 := tenV_le A (j + 1) hA (by omega)
      have h3 := tenV_succ A j
      obtain ⟨V, hV⟩ : ∃ V, tenV A j = V := ⟨_, rfl⟩
      rw [hV] at h1 h3 ⊢
      have H3 := Lib.hid h3
      have q1 : (j : Int) - 5 < i := by omega
      clear hV h2 h3
      go_wp2
      go_round
      case rel => exact ⟨j + 1, by omega, by rw [show ((j + 1 : Nat) : Int) - 5 = (j : Int) - 5 + 1 by omega], by rw [H3.out]; go_num⟩
      case measure => simp [intOf] <;> omega
    · obtain rfl : j = I := by omega
      have q1 : ¬ (j : Int) - 5 < i := by omega
      have h1 := tenV_le A j hA (by omega)
      obtain ⟨U, hU⟩ : ∃ V, tenV A j = V := ⟨_, rfl⟩
      rw [hU] at HEQ h1 ⊢
      clear hlt hU
      go_wp2_with fail
      go_loop [19, 21] (fun uv nv => ∃ j : Nat, j ≤ K ∧ nv = .int .i64 ((j : Int) - 5) ∧ uv = .int .i64 (tenV B j : Int)) (fun _ nv => K - (intOf nv + 5).toNat)
      case atStart => exact ⟨0, by omega, rfl, by simp [tenV]⟩
      case round =>
        obtain ⟨m, hm, rfl, rfl⟩ := hrel
        by_cases hlt : m < K
        · have h1 := tenV_le B m hB (by omega)
          have h3 := tenV_succ B m
          obtain ⟨V, hV⟩ : ∃ V, tenV B m = V := ⟨_, rfl⟩
          rw [hV] at h1 h3 ⊢
          have H3 := Lib.hid h3
          have q1 : (m : Int) - 5 < k := by omega
          clear hV h3
          go_wp2
          go_round
          case rel => exact ⟨m + 1, by omega, by rw [show ((m + 1 : Nat) : Int) - 5 = (m : Int) - 5 + 1 by omega], by rw [H3.out]; go_num⟩
          case measure => simp [intOf] <;> omega
        · obtain rfl : m = K := by omega
          have q1 : ¬ (m : Int) - 5 < k := by omega
          obtain ⟨V, hV⟩ : ∃ V, tenV B m = V := ⟨_, rfl⟩
          rw [hV] at HEQ ⊢
          clear hlt hV
          have heq := HEQ.out
          have hfin : (D1 = D2 ∧ E1 = E2 ∧ U = V) ∨ (((U : Int) == (V : Int)) = false ∧ ((bytes D1).toList == (bytes D2).toList) = false) ∨ (((U : Int) == (V : Int)) = false ∧ ((bytes D1).toList == (bytes D2).toList) = true ∧ ((bytes E1).toList == (bytes E2).toList) = false) := by
            rw [toList_bytes, toList_bytes, toList_bytes, toList_bytes]
            by_cases h : U = V
            · have := heq.2 h
              simp only [Prod.mk.injEq] at this
              exact .inl ⟨this.1, this.2, h⟩
            · have h1 : ((U : Int) == (V : Int)) = false := by rw [beq_eq_false_iff_ne]; omega
              have h2 : ¬ (D1, E1) = (D2, E2) := fun e => h (heq.1 e)
              by_cases h3 : D1 = D2
              · right; right
                refine ⟨h1, by rw [h3]; simp, ?_⟩
                rw [beq_eq_false_iff_ne]; intro h4; exact h2 (by rw [h3, h4])
              · right; left
                exact ⟨h1, by rw [beq_eq_false_iff_ne]; exact h3⟩
          obtain ⟨SD1, hSD1⟩ : ∃ S, bytes D1 = S := ⟨_, rfl⟩
          obtain ⟨SD2, hSD2⟩ : ∃ S, bytes D2 = S := ⟨_, rfl⟩
          obtain ⟨SE1, hSE1⟩ : ∃ S, bytes E1 = S := ⟨_, rfl⟩
          obtain ⟨SE2, hSE2⟩ : ∃ S, bytes E2 = S := ⟨_, rfl⟩
          have hfin2 : (SD1 = SD2 ∧ SE1 = SE2 ∧ U = V) ∨ (((U : Int) == (V : Int)) = false ∧ (SD1.toList == SD2.toList) = false) ∨ (((U : Int) == (V : Int)) = false ∧ (SD1.toList == SD2.toList) = true ∧ (SE1.toList == SE2.toList) = false) := by
            rw [hSD1, hSD2, hSE1, hSE2] at hfin
            rcases hfin with ⟨h1, h2, h3⟩ | h | h
            · exact .inl ⟨by rw [← hSD1, ← hSD2, h1], by rw [← hSE1, ← hSE2, h2], h3⟩
            · exact .inr (.inl h)
            · exact .inr (.inr h)
          rw [hSD1] at g1
          rw [hSE1] at g2
          simp only [hSD1, hSD2, hSE1, hSE2]
          have Hb := Lib.hid (HB8.out.alloc HB8.out.size (.cells #[.bool false, .string SD2, .string SE2] 23))
          clear heq hfin hSD1 hSD2 hSE1 hSE2 HB8 HEQ
          rcases hfin2 with ⟨rfl, rfl, rfl⟩ | ⟨f1, f2⟩ | ⟨f1, f2, f3⟩
          all_goals
            go_wp2
            go_ret
            exact ⟨by first | rfl | simp, Hb.out⟩
end Go.Proofs.YtmfcfkmkmlcepaaDoor
