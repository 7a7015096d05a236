/- Chains of documents: each holds the next alone; the last is a text: may be; without new lines. -/
import Derived.Test.YtmhebcimpibipaaTDoc3
import Derived.Deep.DeepCutAuto
namespace Go.Proofs.Ytmhebcimpibipaa
open Go.RowKit
set_option linter.unusedVariables false
set_option linter.unusedSimpArgs false

/-- Where a document's one kid lies, and how much room there is. -/
abbrev Ad := Nat × Nat × Nat
def kdv : List Ad → Value
  | [] => .slice none 0 0
  | (b, o, c) :: _ => .slice (some ⟨b, o, none⟩) 1 c
def kdk (k : Int) : List Ad → Int
  | [] => 1
  | _ :: _ => k
def kdt : List Ad → ByteArray
  | [] => ⟨#[120]⟩
  | _ :: _ => ⟨#[]⟩
theorem kdv_slice (L : List Ad) : ∃ a n c, kdv L = .slice a n c := by cases L with | nil => exact ⟨_, _, _, rfl⟩ | cons x L => exact ⟨_, _, _, rfl⟩
/-- A chain in memory. -/
def Chn (k : Int) (w : World) : List Ad → Prop
  | [] => True
  | (b, o, c) :: L => b < w.heap.size ∧ 1 ≤ c ∧ c ≤ maxLen ∧ w.cell? ⟨b, o, none⟩ = some (.int .i64 (kdk k L)) ∧ w.cell? ⟨b, o + 1, none⟩ = some (.int .i64 0) ∧ w.cell? ⟨b, o + 2, none⟩ = some (.string (kdt L)) ∧ w.cell? ⟨b, o + 3, none⟩ = some (kdv L) ∧ Chn k w L
theorem Chn.keep {k : Int} {w w' : World} {L : List Ad} (h : Chn k w L) (hb : Below w.heap.size w w') : Chn k w' L := by
  induction L with
  | nil => trivial
  | cons x L ih =>
    obtain ⟨b, o, c⟩ := x
    obtain ⟨h0, h1, h2, c0, c1, c2, c3, h⟩ := h
    exact ⟨Nat.lt_of_lt_of_le h0 hb.size, h1, h2, (hb.cell (p := ⟨b, o, none⟩) h0).trans c0, (hb.cell (p := ⟨b, o + 1, none⟩) h0).trans c1, (hb.cell (p := ⟨b, o + 2, none⟩) h0).trans c2, (hb.cell (p := ⟨b, o + 3, none⟩) h0).trans c3, ih h⟩
set_option maxRecDepth 100000 in
set_option maxHeartbeats 2000000 in
theorem rightkc (k f : Int) (S : ByteArray) (b o n cap : Nat) (hn : n = 1) (x0 : Int) (X : ByteArray) (ua : Option Addr) (un uc : Nat) (d : Int) (ans : Bool) (w : World) (hbk : b < w.heap.size)
    (q0 : w.cell? ⟨b, o, none⟩ = some (.int .i64 x0)) (q1 : w.cell? ⟨b, o + 1, none⟩ = some (.int .i64 0)) (q2 : w.cell? ⟨b, o + 2, none⟩ = some (.string X)) (q3 : w.cell? ⟨b, o + 3, none⟩ = some (.slice ua un uc))
    (R : ∀ W, Below w.heap.size w W → Calls Try.prog 15 #[.agg (dv x0 0 X (.slice ua un uc)), .int .i64 d] W fun e w' => e = .returned (.bool ans) ∧ Below W.heap.size W w') :
    Calls Try.prog 17 #[.agg (dv k f S (.slice (some ⟨b, o, none⟩) n cap)), .int .i64 d] w fun e w' => e = .returned (.bool ans) ∧ Below w.heap.size w w' := by
  have HN := Lib.hid hn
  have hn9 : n ≤ 1000 := by omega
  have HR := Lib.hid R
  have H3 : Hid (∀ j : Nat, j < n → w.cell? ⟨b, o + j * 4, none⟩ = some (.int .i64 x0) ∧ w.cell? ⟨b, o + j * 4 + 1, none⟩ = some (.int .i64 0) ∧ w.cell? ⟨b, o + j * 4 + 2, none⟩ = some (.string X) ∧ w.cell? ⟨b, o + j * 4 + 3, none⟩ = some (.slice ua un uc)) := Lib.hid (by
    intro j hj
    obtain rfl : j = 0 := by omega
    simp only [Nat.zero_mul, Nat.add_zero]
    exact ⟨q0, q1, q2, q3⟩)
  have b0 := Lib.hid ((Below.refl w.heap.size w).alloc (Nat.le_refl _) (.cells #[.int .i64 k, .int .i64 f, .string S, .slice (some ⟨b, o, none⟩) n cap] 30))
  obtain ⟨W1, hW1⟩ : ∃ W, w.alloc (.cells #[.int .i64 k, .int .i64 f, .string S, .slice (some ⟨b, o, none⟩) n cap] 30) = W := ⟨_, rfl⟩
  rw [hW1] at b0
  have HW1 := Lib.hid hW1
  clear hn R q0 q1 q2 q3 hW1
  unfold dv at HR ⊢
  go_enter Try.func17, Try.ntmps17
  go_wp2
  rw [HW1.out]
  go_loopw [6, 10] (fun _ iv wr => ∃ j : Nat, iv = .int .i64 (j : Int) ∧ j ≤ n ∧ (j = n → ans = true) ∧ Below W1.heap.size W1 wr) (fun _ iv _ => n - (intOf iv).toNat)
  case atStart => exact ⟨0, rfl, by omega, fun h => by have := HN.out; omega, Below.refl _ _⟩
  case round =>
    obtain ⟨j, rfl, hj, hans, hb⟩ := hrel
    have HB := Lib.hid (b0.out.trans (hb.mono b0.out.size))
    have HBR := Lib.hid hb
    clear hb
    by_cases hlt : j < n
    · obtain ⟨c0, c1, c2, c3⟩ := H3.out j hlt
      have g0 := (HB.out.cell (p := ⟨b, o + j * 4, none⟩) hbk).trans c0
      have g1 := (HB.out.cell (p := ⟨b, o + j * 4 + 1, none⟩) hbk).trans c1
      have g2 := (HB.out.cell (p := ⟨b, o + j * 4 + 2, none⟩) hbk).trans c2
      have g3 := (HB.out.cell (p := ⟨b, o + j * 4 + 3, none⟩) hbk).trans c3
      have j0 : (0 : Int) ≤ j := by omega
      have j1 : (j : Int) < n := by omega
      have R1 := Lib.hid (fun W (h : Below w.heap.size w W) => HR.out W h)
      have D0 := Lib.hid (HB.out.alloc HB.out.size (.cells #[.int .i64 x0, .int .i64 0, .string X, .slice ua un uc] 30))
      have D1 := Lib.hid (fun W (h : Below (wr.alloc (.cells #[.int .i64 x0, .int .i64 0, .string X, .slice ua un uc] 30)).heap.size (wr.alloc (.cells #[.int .i64 x0, .int .i64 0, .string X, .slice ua un uc] 30)) W) => HBR.out.trans ((keep4 h).2.2.2.2.mono HBR.out.size))
      have HJ := Lib.hid (show j + 1 = n by have := HN.out; omega)
      clear c0 c1 c2 c3 hans
      cases ans with
      | true =>
        as_aux_lemma =>
          go_wp2_with fail
          refine (R1.out _ D0.out).mono ?_
          rintro e w2 ⟨rfl, hb2⟩
          have d2 := D1.out _ hb2
          clear hb2
          go_wp2
          go_roundw
          case rel => exact ⟨j + 1, by go_num, by omega, by simp, d2⟩
          case measure => simp [intOf]; omega
      | false =>
        as_aux_lemma =>
          go_wp2_with fail
          refine (R1.out _ D0.out).mono ?_
          rintro e w2 ⟨rfl, hb2⟩
          have d2 := D1.out _ hb2
          have d3 := b0.out.trans (d2.mono b0.out.size)
          clear hb2
          go_wp2
          go_ret
          exact ⟨rfl, d3⟩
    · obtain rfl : j = n := by omega
      have t1 : decide ((j : Int) < j) = false := by simp
      obtain rfl := hans rfl
      clear hlt
      as_aux_lemma =>
        go_wp2
        go_ret
        exact ⟨rfl, HB.out⟩
set_option maxRecDepth 100000 in
set_option maxHeartbeats 2000000 in
theorem rightgo (k : Int) (hk : k = 5 ∨ k = 6 ∨ k = 7) (v : Value) (d : Int) (hd : 0 < d) (hd2 : d ≤ 1000) (ans : Bool) (w : World)
    (RK0 : ∀ W, Below w.heap.size w W → Calls Try.prog 17 #[.agg (dv k 0 ⟨#[]⟩ v), .int .i64 (d - 1)] W fun e w' => e = .returned (.bool ans) ∧ Below W.heap.size W w') :
    Calls Try.prog 15 #[.agg (dv k 0 ⟨#[]⟩ v), .int .i64 d] w fun e w' => e = .returned (.bool ans) ∧ Below w.heap.size w w' := by
  have H := Lib.hid (fun W => hasnt_any k v W)
  have RK := Lib.hid RK0
  clear RK0
  unfold dv at H RK ⊢
  rcases hk with rfl | rfl | rfl
  all_goals (
    go_enter Try.func15, Try.ntmps15
    go_wp2_with fail
    refine (H.out _).mono ?_
    rintro e w1 ⟨rfl, hb1⟩
    obtain ⟨g0, g1, g2, g3, hb⟩ := keep4 hb1
    clear hb1
    go_wp2_with fail
    refine (RK.out _ hb).mono ?_
    rintro e w2 ⟨rfl, hb2⟩
    have d2 := hb.trans (hb2.mono hb.size)
    go_wp2
    go_ret
    exact ⟨rfl, d2⟩)
set_option maxRecDepth 100000 in
set_option maxHeartbeats 2000000 in
theorem rightno (k : Int) (hk : k = 5 ∨ k = 6 ∨ k = 7) (v : Value) (w : World) :
    Calls Try.prog 15 #[.agg (dv k 0 ⟨#[]⟩ v), .int .i64 0] w fun e w' => e = .returned (.bool false) ∧ Below w.heap.size w w' := by
  have H := Lib.hid (fun W => hasnt_any k v W)
  unfold dv at H ⊢
  rcases hk with rfl | rfl | rfl
  all_goals (
    go_enter Try.func15, Try.ntmps15
    go_wp2_with fail
    refine (H.out _).mono ?_
    rintro e w1 ⟨rfl, hb1⟩
    obtain ⟨g0, g1, g2, g3, hb⟩ := keep4 hb1
    clear hb1
    go_wp2
    go_ret
    exact ⟨rfl, hb⟩)
theorem rightc (k : Int) (hk : k = 5 ∨ k = 6 ∨ k = 7) (L : List Ad) : ∀ (d : Nat) (w : World), d ≤ 1000 → Chn k w L →
    Calls Try.prog 15 #[.agg (dv (kdk k L) 0 (kdt L) (kdv L)), .int .i64 (d : Int)] w fun e w' => e = .returned (.bool (decide (L.length ≤ d))) ∧ Below w.heap.size w w' := by
  induction L with
  | nil =>
    intro d w hd _
    rw [show decide (([] : List Ad).length ≤ d) = true by simp]
    exact rightl_any 1 0 ⟨#[120]⟩ d w (.inl rfl)
  | cons x L ih =>
    intro d w hd h
    obtain ⟨b, o, c⟩ := x
    obtain ⟨h0, h1, h2, c0, c1, c2, c3, h⟩ := h
    cases d with
    | zero =>
      rw [show decide (((b, o, c) :: L).length ≤ 0) = false by simp]
      exact rightno k hk _ w
    | succ d =>
      rw [show decide (((b, o, c) :: L).length ≤ d + 1) = decide (L.length ≤ d) by simp]
      refine rightgo k hk _ _ (by omega) (by omega) _ w fun W hW => ?_
      have hs := hW.size
      have e1 : ((d + 1 : Nat) : Int) - 1 = (d : Int) := by omega
      rw [e1]
      obtain ⟨ua, un, uc, hu⟩ := kdv_slice L
      rw [hu] at c3
      exact rightkc k 0 ⟨#[]⟩ b o 1 c rfl _ _ ua un uc _ _ W (by omega) ((hW.cell (p := ⟨b, o, none⟩) h0).trans c0) ((hW.cell (p := ⟨b, o + 1, none⟩) h0).trans c1) ((hW.cell (p := ⟨b, o + 2, none⟩) h0).trans c2) ((hW.cell (p := ⟨b, o + 3, none⟩) h0).trans c3)
        (fun W' hW' => by rw [← hu]; exact ih d W' (by omega) ((h.keep hW).keep hW'))
end Go.Proofs.Ytmhebcimpibipaa
