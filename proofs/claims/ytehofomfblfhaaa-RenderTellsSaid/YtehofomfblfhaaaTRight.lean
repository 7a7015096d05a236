/- Documents of any shape: may be. -/
import Derived.Test.YtehofomfblfhaaaTForest
import Derived.Deep.DeepCutAuto
namespace Go.Proofs.Ytehofomfblfhaaa
open Go.RowKit
set_option linter.unusedVariables false
set_option linter.unusedSimpArgs false

/-- May all of a list be, with so many levels below? -/
def rightF : Fo → Nat → Bool
  | .nil, _ => true
  | .cons k f s kids rest, d =>
    (if k = 1 then decide (kids.len = 0)
     else if k = 2 ∨ k = 3 ∨ k = 4 then decide (s = ⟨#[]⟩ ∧ f = 0) && decide (kids.len = 0)
     else if k = 5 ∨ k = 6 ∨ k = 7 then decide (s = ⟨#[]⟩ ∧ f = 0) && decide (0 < d) && rightF kids (d - 1)
     else false) && rightF rest d
def rightD (k f : Int) (s : ByteArray) (kids : Fo) (d : Nat) : Bool := rightF (.cons k f s kids .nil) d
theorem rightD_is (k f : Int) (s : ByteArray) (kids : Fo) (d : Nat) : rightD k f s kids d = (if k = 1 then decide (kids.len = 0)
     else if k = 2 ∨ k = 3 ∨ k = 4 then decide (s = ⟨#[]⟩ ∧ f = 0) && decide (kids.len = 0)
     else if k = 5 ∨ k = 6 ∨ k = 7 then decide (s = ⟨#[]⟩ ∧ f = 0) && decide (0 < d) && rightF kids (d - 1)
     else false) := by
  simp only [rightD, rightF, Bool.and_true]
theorem rightF_true (d : Nat) (L : Fo) : (∀ j k f s kids, L.at? j = some (k, f, s, kids) → rightD k f s kids d = true) → rightF L d = true := by
  induction L with
  | nil => intro _; rfl
  | cons k f s kids rest _ ih =>
    intro h
    have h0 := h 0 k f s kids rfl
    rw [rightD_is] at h0
    simp only [rightF, h0, Bool.true_and]
    exact ih (fun j k' f' s' kids' hj => h (j + 1) k' f' s' kids' hj)
theorem rightF_false (d : Nat) (L : Fo) : ∀ j k f s kids, L.at? j = some (k, f, s, kids) → rightD k f s kids d = false → rightF L d = false := by
  induction L with
  | nil => intro j k f s kids h; simp [Fo.at?] at h
  | cons k0 f0 s0 kids0 rest _ ih =>
    intro j k f s kids h hr
    cases j with
    | zero =>
      simp only [Fo.at?, Option.some.injEq, Prod.mk.injEq] at h
      obtain ⟨rfl, rfl, rfl, rfl⟩ := h
      rw [rightD_is] at hr
      simp only [rightF, hr, Bool.false_and]
    | succ j =>
      have := ih j k f s kids h hr
      simp only [rightF, this, Bool.and_false]
theorem fo_at_lt (L : Fo) : ∀ i {x}, L.at? i = some x → i < L.len := by
  induction L with
  | nil => intro i x h; simp [Fo.at?] at h
  | cons k f s kids rest _ ih =>
    intro i x h
    cases i with
    | zero => simp [Fo.len]
    | succ i => have := ih i h; simp [Fo.len]; omega
/-- What doc.right gives for such a document. -/
def RC (k f : Int) (s : ByteArray) (kids : Fo) : Prop :=
  ∀ (d : Nat) (w : World) (v : Value), d ≤ 1000 → FoS w v kids → Calls Try.prog 36 #[.agg (dv k f s v), .int .i64 (d : Int)] w fun e w' => e = .returned (.bool (rightD k f s kids d)) ∧ Below w.heap.size w w'
theorem FoS.slice {w : World} {v : Value} {L : Fo} (h : FoS w v L) : ∃ a cap, v = .slice a L.len cap := by obtain ⟨a, cap, rfl, _⟩ := h; exact ⟨a, cap, rfl⟩
set_option maxRecDepth 100000 in
set_option maxHeartbeats 2000000 in
theorem rightks_any (k f : Int) (S : ByteArray) (L : Fo) (RC0 : ∀ j k f s kids, L.at? j = some (k, f, s, kids) → RC k f s kids) (d : Nat) (hd : d ≤ 1000) (v : Value) (w : World) (hv : FoS w v L) (hll : L.len ≤ maxLen) :
    Calls Try.prog 46 #[.agg (dv k f S v), .int .i64 (d : Int)] w fun e w' => e = .returned (.bool (rightF L d)) ∧ Below w.heap.size w w' := by
  obtain ⟨a, cap, rfl, h1, h2, h3, h4⟩ := hv
  obtain ⟨n, hn⟩ : ∃ n, L.len = n := ⟨_, rfl⟩
  have HR := Lib.hid RC0
  have HN := Lib.hid hn
  have HT := Lib.hid (rightF_true d L)
  have HF := Lib.hid (rightF_false d L)
  have HS := Lib.hid (fun j hj => Fo.at_some L j hj)
  rw [hn] at h1 h4 hll
  have H4 := Lib.hid h4
  unfold maxLen at hll
  rw [hn]
  obtain ⟨ans, hans⟩ : ∃ r, rightF L d = r := ⟨_, rfl⟩
  rw [hans] at HT ⊢
  have HANS := Lib.hid hans
  have b0 := Lib.hid ((Below.refl w.heap.size w).alloc (Nat.le_refl _) (.cells #[.int .i64 k, .int .i64 f, .string S, .slice a n cap] 24))
  obtain ⟨W1, hW1⟩ : ∃ W, w.alloc (.cells #[.int .i64 k, .int .i64 f, .string S, .slice a n cap] 24) = W := ⟨_, rfl⟩
  rw [hW1] at b0
  have HW1 := Lib.hid hW1
  clear hn RC0 h3 h4 hW1 hans
  unfold dv
  go_enter Try.func46, Try.ntmps46
  go_wp2
  rw [HW1.out]
  go_loopw [6, 10] (fun _ iv wr => ∃ j : Nat, iv = .int .i64 (j : Int) ∧ j ≤ n ∧ (∀ i k f s kids, i < j → L.at? i = some (k, f, s, kids) → rightD k f s kids d = true) ∧ Below W1.heap.size W1 wr) (fun _ iv _ => n - (intOf iv).toNat)
  case atStart => exact ⟨0, rfl, by omega, fun i _ _ _ _ h => by omega, Below.refl _ _⟩
  case round =>
    obtain ⟨j, rfl, hj, hok, hb⟩ := hrel
    have HB := Lib.hid (b0.out.trans (hb.mono b0.out.size))
    have HBR := Lib.hid hb
    have HOK := Lib.hid hok
    clear hb hok
    by_cases hlt : j < n
    · obtain ⟨x0, x1, X, kids, hat⟩ := HS.out j (by rw [HN.out]; exact hlt)
      obtain ⟨b, off, rfl, hbk, hfo⟩ := H4.out (by omega)
      obtain ⟨-, c0, c1, c2, u, c3, hu⟩ := foAt_get L b off j x0 x1 X kids hfo hat
      obtain ⟨ua, ucap, hus⟩ := hu.slice
      obtain ⟨un, hun⟩ : ∃ m, kids.len = m := ⟨_, rfl⟩
      rw [hun] at hus
      subst hus
      have g0 := (HB.out.cell (p := ⟨b, off + j * 4, none⟩) hbk).trans c0
      have g1 := (HB.out.cell (p := ⟨b, off + j * 4 + 1, none⟩) hbk).trans c1
      have g2 := (HB.out.cell (p := ⟨b, off + j * 4 + 2, none⟩) hbk).trans c2
      have g3 := (HB.out.cell (p := ⟨b, off + j * 4 + 3, none⟩) hbk).trans c3
      have j0 : (0 : Int) ≤ j := by omega
      have j1 : (j : Int) < n := by omega
      have D0 := Lib.hid (HB.out.alloc HB.out.size (.cells #[.int .i64 x0, .int .i64 x1, .string X, .slice ua un ucap] 24))
      have D1 := Lib.hid (fun W (h : Below (wr.alloc (.cells #[.int .i64 x0, .int .i64 x1, .string X, .slice ua un ucap] 24)).heap.size (wr.alloc (.cells #[.int .i64 x0, .int .i64 x1, .string X, .slice ua un ucap] 24)) W) => HBR.out.trans ((keep4 h).2.2.2.2.mono HBR.out.size))
      have R1 := Lib.hid (HR.out j x0 x1 X kids hat d _ _ hd (hu.keep D0.out))
      have HAT := Lib.hid hat
      unfold dv at R1
      cases hr : rightD x0 x1 X kids d with
      | true =>
        rw [hr] at R1
        have HRR := Lib.hid hr
        clear c0 c1 c2 c3 hat hfo hu hun hr
        as_aux_lemma =>
          go_wp2_with fail
          refine (R1.out).mono ?_
          rintro e w2 ⟨rfl, hb2⟩
          have d2 := D1.out _ hb2
          clear hb2
          go_wp2
          go_roundw
          case rel =>
            refine ⟨j + 1, by go_num, by omega, fun i k' f' s' kids' hi h => ?_, d2⟩
            rcases Nat.lt_succ_iff_lt_or_eq.1 hi with hi | rfl
            · exact HOK.out i k' f' s' kids' hi h
            · rw [HAT.out] at h
              simp only [Option.some.injEq, Prod.mk.injEq] at h
              obtain ⟨rfl, rfl, rfl, rfl⟩ := h
              exact HRR.out
          case measure => simp [intOf]; omega
      | false =>
        rw [hr] at R1
        have hfa := (HF.out j x0 x1 X kids hat hr).symm.trans HANS.out
        subst hfa
        clear c0 c1 c2 c3 hat hfo hu hun hr
        as_aux_lemma =>
          go_wp2_with fail
          refine (R1.out).mono ?_
          rintro e w2 ⟨rfl, hb2⟩
          have d2 := D1.out _ hb2
          have d3 := b0.out.trans (d2.mono b0.out.size)
          clear hb2
          go_wp2
          go_ret
          exact ⟨rfl, d3⟩
    · obtain rfl : j = n := by omega
      have t1 : decide ((j : Int) < j) = false := by simp
      obtain rfl := HT.out (fun i k' f' s' kids' h => HOK.out i k' f' s' kids' (by
        rcases Nat.lt_or_ge i j with hi | hi
        · exact hi
        · exfalso
          have := fo_at_lt L i h
          have := HN.out
          omega) h)
      clear hlt
      as_aux_lemma =>
        go_wp2
        go_ret
        exact ⟨rfl, HB.out⟩
end Go.Proofs.Ytehofomfblfhaaa
