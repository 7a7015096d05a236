/- Chains of documents: without new lines. -/
import Derived.Test.YtmhebcimpibipaaTDeep
namespace Go.Proofs.Ytmhebcimpibipaa
open Go.RowKit
set_option linter.unusedVariables false
set_option linter.unusedSimpArgs false

set_option maxRecDepth 100000 in
set_option maxHeartbeats 4000000 in
theorem afkc (k : Int) (hk : k = 5 ∨ k = 6 ∨ k = 7) (b o n cap : Nat) (hn : n = 1) (x0 : Int) (X : ByteArray) (ua : Option Addr) (un uc : Nat) (w : World) (hbk : b < w.heap.size)
    (q0 : w.cell? ⟨b, o, none⟩ = some (.int .i64 x0)) (q1 : w.cell? ⟨b, o + 1, none⟩ = some (.int .i64 0)) (q2 : w.cell? ⟨b, o + 2, none⟩ = some (.string X)) (q3 : w.cell? ⟨b, o + 3, none⟩ = some (.slice ua un uc))
    (R : ∀ W, Below w.heap.size w W → Calls Try.prog 14 #[.slice none 0 0, .agg (dv x0 0 X (.slice ua un uc))] W (AfP W.heap.size W [120])) :
    Calls Try.prog 14 #[.slice none 0 0, .agg (dv k 0 ⟨#[]⟩ (.slice (some ⟨b, o, none⟩) n cap))] w (AfP w.heap.size w [120]) := by
  have HN := Lib.hid hn
  have hn9 : n ≤ 1000 := by omega
  have HR := Lib.hid R
  have H3 : Hid (∀ j : Nat, j < n → w.cell? ⟨b, o + j * 4, none⟩ = some (.int .i64 x0) ∧ w.cell? ⟨b, o + j * 4 + 1, none⟩ = some (.int .i64 0) ∧ w.cell? ⟨b, o + j * 4 + 2, none⟩ = some (.string X) ∧ w.cell? ⟨b, o + j * 4 + 3, none⟩ = some (.slice ua un uc)) := Lib.hid (by
    intro j hj
    obtain rfl : j = 0 := by omega
    simp only [Nat.zero_mul, Nat.add_zero]
    exact ⟨q0, q1, q2, q3⟩)
  have b0 := Lib.hid ((Below.refl w.heap.size w).alloc (Nat.le_refl _) (.cells #[.int .i64 k, .int .i64 0, .string ⟨#[]⟩, .slice (some ⟨b, o, none⟩) n cap] 30))
  obtain ⟨W1, hW1⟩ : ∃ W, w.alloc (.cells #[.int .i64 k, .int .i64 0, .string ⟨#[]⟩, .slice (some ⟨b, o, none⟩) n cap] 30) = W := ⟨_, rfl⟩
  rw [hW1] at b0
  have c0 : W1.cell? ⟨w.heap.size, 0, none⟩ = some (.int .i64 k) := by rw [← hW1, World.cell?_alloc_at _ _ _ _ rfl]; rfl
  have c3 : W1.cell? ⟨w.heap.size, 3, none⟩ = some (.slice (some ⟨b, o, none⟩) n cap) := by rw [← hW1, World.cell?_alloc_at _ _ _ _ rfl]; rfl
  have z1 : w.heap.size < W1.heap.size := by rw [← hW1]; simp
  have HW1 := Lib.hid hW1
  have C3 := Lib.hid c3
  clear hn R q0 q1 q2 q3 hW1 c3
  unfold dv at HR ⊢
  rcases hk with rfl | rfl | rfl
  all_goals (
    go_enter Try.func14, Try.ntmps14
    go_upto_region 1 with fail
    rw [HW1.out]
    go_wp2
    go_loopw [0, 6, 7] (fun bv ov iv wr => ∃ j : Nat, iv = .int .i64 (j : Int) ∧ j ≤ n ∧ ov = .bool true ∧ (j < n → bv = .slice none 0 0) ∧ (j = n → OwnB W1.heap.size wr bv [120]) ∧ Below W1.heap.size W1 wr) (fun _ _ iv _ => n - (intOf iv).toNat)
    case atStart => exact ⟨0, rfl, by omega, rfl, fun _ => rfl, fun h => by have := HN.out; omega, Below.refl _ _⟩
    case round =>
      obtain ⟨j, rfl, hj, rfl, hnil, ho, hb⟩ := hrel
      have HB := Lib.hid (b0.out.trans (hb.mono b0.out.size))
      have c3r := (hb.cell (p := ⟨w.heap.size, 3, none⟩) z1).trans C3.out
      have HBR := Lib.hid hb
      have hz := hb.size
      clear hb
      by_cases hlt : j < n
      · obtain ⟨c0, c1, c2, c3⟩ := H3.out j hlt
        have g0 := (HB.out.cell (p := ⟨b, o + j * 4, none⟩) hbk).trans c0
        have g1 := (HB.out.cell (p := ⟨b, o + j * 4 + 1, none⟩) hbk).trans c1
        have g2 := (HB.out.cell (p := ⟨b, o + j * 4 + 2, none⟩) hbk).trans c2
        have g3 := (HB.out.cell (p := ⟨b, o + j * 4 + 3, none⟩) hbk).trans c3
        have R1 := Lib.hid (HR.out wr HB.out)
        have hu0 := hnil hlt
        subst hu0
        have j0 : (0 : Int) ≤ j := by omega
        have j1 : (j : Int) < n := by omega
        clear c0 c1 c2 c3 hnil ho
        as_aux_lemma =>
          go_wp2_with fail
          refine (R1.out).mono ?_
          rintro e w2 ⟨v2, rfl, ho2, hb2⟩
          have d2 := HBR.out.trans (hb2.mono hz)
          have ho3 := World.ownsRow.mono ho2 hz
          clear hb2 ho2
          go_wp2
          go_roundw
          case rel => exact ⟨j + 1, by go_num, by omega, rfl, fun h => by have := HN.out; omega, fun _ => ho3, d2⟩
          case measure => simp [intOf]; omega
      · obtain rfl : j = n := by omega
        have t1 : decide ((j : Int) < j) = false := by simp
        have hom := Lib.hid (ho rfl)
        clear hlt hnil ho
        as_aux_lemma =>
          go_wp2
          go_ret2
          exact ⟨_, rfl, World.ownsRow.mono hom.out (Nat.le_of_lt z1), HB.out⟩)
theorem afc (k : Int) (hk : k = 5 ∨ k = 6 ∨ k = 7) (L : List Ad) : ∀ (w : World), Chn k w L →
    Calls Try.prog 14 #[.slice none 0 0, .agg (dv (kdk k L) 0 (kdt L) (kdv L))] w (AfP w.heap.size w [120]) := by
  induction L with
  | nil =>
    intro w _
    exact afl_any (1, 0, [120]) (.inl rfl) (.slice none 0 0) [] [120] w.heap.size w (World.ownsRow_nil _ _ _ _) (Nat.le_refl _) (by decide) (by decide) rfl
  | cons x L ih =>
    intro w h
    obtain ⟨b, o, c⟩ := x
    obtain ⟨h0, h1, h2, c0, c1, c2, c3, h⟩ := h
    obtain ⟨ua, un, uc, hu⟩ := kdv_slice L
    rw [hu] at c3
    exact afkc k hk b o 1 c rfl _ _ ua un uc w h0 c0 c1 c2 c3 (fun W hW => by rw [← hu]; exact ih W (h.keep hW))
set_option maxRecDepth 100000 in
set_option maxHeartbeats 2000000 in
theorem rightt (k : Int) (hk : k = 5 ∨ k = 6 ∨ k = 7) (L : List Ad) (w : World) (h : Chn k w L) :
    Calls Try.prog 11 #[.agg (dv (kdk k L) 0 (kdt L) (kdv L))] w fun e w' => e = .returned (.bool (decide (L.length ≤ 200))) ∧ Below w.heap.size w w' := by
  obtain ⟨ua, un, uc, hu⟩ := kdv_slice L
  have b0 := Lib.hid ((Below.refl w.heap.size w).alloc (Nat.le_refl _) (.cells #[.int .i64 (kdk k L), .int .i64 0, .string (kdt L), .slice ua un uc] 30))
  have R := Lib.hid (rightc k hk L 200 _ (by decide) (h.keep b0.out))
  rw [hu] at R ⊢
  clear h hu
  generalize decide (L.length ≤ 200) = ans at R ⊢
  generalize kdk k L = x0 at R b0 ⊢
  generalize kdt L = X at R b0 ⊢
  unfold dv at R ⊢
  go_enter Try.func11, Try.ntmps11
  go_wp2_with fail
  refine (R.out).mono ?_
  rintro e w1 ⟨rfl, hb1⟩
  have hfin := b0.out.trans (hb1.mono b0.out.size)
  clear hb1
  go_wp2
  go_ret
  exact ⟨rfl, hfin⟩
set_option maxRecDepth 100000 in
set_option maxHeartbeats 2000000 in
theorem flatc (k : Int) (hk : k = 5 ∨ k = 6 ∨ k = 7) (L : List Ad) (w : World) (h : Chn k w L) :
    Calls Try.prog 10 #[.agg (dv (kdk k L) 0 (kdt L) (kdv L))] w fun e w' => e = .returned (if L.length ≤ 200 then .tuple #[.string ⟨#[120]⟩, .bool true] else .tuple #[.string ⟨#[]⟩, .bool false]) ∧ Below w.heap.size w w' := by
  obtain ⟨ua, un, uc, hu⟩ := kdv_slice L
  have R := Lib.hid (fun W (hW : Below w.heap.size w W) => rightt k hk L W (h.keep hW))
  have AF := Lib.hid (fun W (hW : Below w.heap.size w W) => afc k hk L W (h.keep hW))
  have b0 := Lib.hid ((Below.refl w.heap.size w).alloc (Nat.le_refl _) (.cells #[.int .i64 (kdk k L), .int .i64 0, .string (kdt L), .slice ua un uc] 30))
  rw [hu] at R AF ⊢
  clear h hu
  generalize hx0 : kdk k L = x0 at R AF b0 ⊢
  generalize hX : kdt L = X at R AF b0 ⊢
  clear hx0 hX
  unfold dv at R AF ⊢
  by_cases hl : L.length ≤ 200
  · rw [if_pos hl]
    rw [decide_eq_true hl] at R
    clear hl
    go_enter Try.func10, Try.ntmps10
    go_wp2_with fail
    refine (R.out _ b0.out).mono ?_
    rintro e w1 ⟨rfl, hb1⟩
    obtain ⟨g0, g1, g2, g3, d1⟩ := keep4 hb1
    clear hb1
    go_wp2_with fail
    refine (AF.out _ d1).mono ?_
    rintro e w2 ⟨v2, rfl, ho2, hb2⟩
    have hcv := conv_own ho2
    have hfin := d1.trans (hb2.mono d1.size)
    clear hb2 d1 ho2
    go_wp2
    go_ret2
    exact ⟨rfl, hfin⟩
  · rw [if_neg hl]
    rw [decide_eq_false hl] at R
    clear hl
    go_enter Try.func10, Try.ntmps10
    go_wp2_with fail
    refine (R.out _ b0.out).mono ?_
    rintro e w1 ⟨rfl, hb1⟩
    have d1 := b0.out.trans (hb1.mono b0.out.size)
    clear hb1
    go_wp2
    go_ret2
    exact ⟨rfl, d1⟩
end Go.Proofs.Ytmhebcimpibipaa
