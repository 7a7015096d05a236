/- Several texts of ours in one: TRight TRight2. -/
import Derived.Test.YtehofomfblfhaaaTForest
import Derived.Deep.DeepCutAuto
/- Documents of any shape: may be. -/
namespace Go.Proofs.Ytehofomfblfhaaa
open Go.RowKit
set_option linter.unusedVariables false
set_option linter.unusedSimpArgs false

/-- May all of a list be, with so many levels below? -/
def rightF : Fo → Nat → Bool
  | .nil, _ => true
  | .cons k f s kids rest, d =>
    (if k = 1 then decide (kids.len = 0)
     else if k = 2 ∨ k = 3 ∨ k = 4 then decide (s = ⟨#[]⟩ ∧ f = 0) && decide (kids.len = 0)
     else if k = 5 ∨ k = 6 ∨ k = 7 then decide (s = ⟨#[]⟩ ∧ f = 0) && decide (0 < d) && rightF kids (d - 1)
     else false) && rightF rest d
def rightD (k f : Int) (s : ByteArray) (kids : Fo) (d : Nat) : Bool := rightF (.cons k f s kids .nil) d
theorem rightD_is (k f : Int) (s : ByteArray) (kids : Fo) (d : Nat) : rightD k f s kids d = (if k = 1 then decide (kids.len = 0)
     else if k = 2 ∨ k = 3 ∨ k = 4 then decide (s = ⟨#[]⟩ ∧ f = 0) && decide (kids.len = 0)
     else if k = 5 ∨ k = 6 ∨ k = 7 then decide (s = ⟨#[]⟩ ∧ f = 0) && decide (0 < d) && rightF kids (d - 1)
     else false) := by
  simp only [rightD, rightF, Bool.and_true]
theorem rightF_true (d : Nat) (L : Fo) : (∀ j k f s kids, L.at? j = some (k, f, s, kids) → rightD k f s kids d = true) → rightF L d = true := by
  induction L with
  | nil => intro _; rfl
  | cons k f s kids rest _ ih =>
    intro h
    have h0 := h 0 k f s kids rfl
    rw [rightD_is] at h0
    simp only [rightF, h0, Bool.true_and]
    exact ih (fun j k' f' s' kids' hj => h (j + 1) k' f' s' kids' hj)
theorem rightF_false (d : Nat) (L : Fo) : ∀ j k f s kids, L.at? j = some (k, f, s, kids) → rightD k f s kids d = false → rightF L d = false := by
  induction L with
  | nil => intro j k f s kids h; simp [Fo.at?] at h
  | cons k0 f0 s0 kids0 rest _ ih =>
    intro j k f s kids h hr
    cases j with
    | zero =>
      simp only [Fo.at?, Option.some.injEq, Prod.mk.injEq] at h
      obtain ⟨rfl, rfl, rfl, rfl⟩ := h
      rw [rightD_is] at hr
      simp only [rightF, hr, Bool.false_and]
    | succ j =>
      have := ih j k f s kids h hr
      simp only [rightF, this, Bool.and_false]
theorem fo_at_lt (L : Fo) : ∀ i {x}, L.at? i = some x → i < L.len := by
  induction L with
  | nil => intro i x h; simp [Fo.at?] at h
  | cons k f s kids rest _ ih =>
    intro i x h
    cases i with
    | zero => simp [Fo.len]
    | succ i => have := ih i h; simp [Fo.len]; omega
/-- What doc.right gives for such a document. -/
def RC (k f : Int) (s : ByteArray) (kids : Fo) : Prop :=
  ∀ (d : Nat) (w : World) (v : Value), d ≤ 1000 → FoS w v kids → Calls Try.prog 36 #[.agg (dv k f s v), .int .i64 (d : Int)] w fun e w' => e = .returned (.bool (rightD k f s kids d)) ∧ Below w.heap.size w w'
theorem FoS.slice {w : World} {v : Value} {L : Fo} (h : FoS w v L) : ∃ a cap, v = .slice a L.len cap := by obtain ⟨a, cap, rfl, _⟩ := h; exact ⟨a, cap, rfl⟩
set_option maxRecDepth 100000 in
set_option maxHeartbeats 2000000 in
theorem rightks_any (k f : Int) (S : ByteArray) (L : Fo) (RC0 : ∀ j k f s kids, L.at? j = some (k, f, s, kids) → RC k f s kids) (d : Nat) (hd : d ≤ 1000) (v : Value) (w : World) (hv : FoS w v L) (hll : L.len ≤ maxLen) :
    Calls Try.prog 46 #[.agg (dv k f S v), .int .i64 (d : Int)] w fun e w' => e = .returned (.bool (rightF L d)) ∧ Below w.heap.size w w' := by
  obtain ⟨a, cap, rfl, h1, h2, h3, h4⟩ := hv
  obtain ⟨n, hn⟩ : ∃ n, L.len = n := ⟨_, rfl⟩
  have HR := Lib.hid RC0
  have HN := Lib.hid hn
  have HT := Lib.hid (rightF_true d L)
  have HF := Lib.hid (rightF_false d L)
  have HS := Lib.hid (fun j hj => Fo.at_some L j hj)
  rw [hn] at h1 h4 hll
  have H4 := Lib.hid h4
  unfold maxLen at hll
  rw [hn]
  obtain ⟨ans, hans⟩ : ∃ r, rightF L d = r := ⟨_, rfl⟩
  rw [hans] at HT ⊢
  have HANS := Lib.hid hans
  have b0 := Lib.hid ((Below.refl w.heap.size w).alloc (Nat.le_refl _) (.cells #[.int .i64 k, .int .i64 f, .string S, .slice a n cap] 24))
  obtain ⟨W1, hW1⟩ : ∃ W, w.alloc (.cells #[.int .i64 k, .int .i64 f, .string S, .slice a n cap] 24) = W := ⟨_, rfl⟩
  rw [hW1] at b0
  have HW1 := Lib.hid hW1
  clear hn RC0 h3 h4 hW1 hans
  unfold dv
  go_enter Try.func46, Try.ntmps46
  go_wp2
  rw [HW1.out]
  go_loopw [6, 10] (fun _ iv wr => ∃ j : Nat, iv = .int .i64 (j : Int) ∧ j ≤ n ∧ (∀ i k f s kids, i < j → L.at? i = some (k, f, s, kids) → rightD k f s kids d = true) ∧ Below W1.heap.size W1 wr) (fun _ iv _ => n - (intOf iv).toNat)
  case atStart => exact ⟨0, rfl, by omega, fun i _ _ _ _ h => by omega, Below.refl _ _⟩
  case round =>
    obtain ⟨j, rfl, hj, hok, hb⟩ := hrel
    have HB := Lib.hid (b0.out.trans (hb.mono b0.out.size))
    have HBR := Lib.hid hb
    have HOK := Lib.hid hok
    clear hb hok
    by_cases hlt : j < n
    · obtain ⟨x0, x1, X, kids, hat⟩ := HS.out j (by rw [HN.out]; exact hlt)
      obtain ⟨b, off, rfl, hbk, hfo⟩ := H4.out (by omega)
      obtain ⟨-, c0, c1, c2, u, c3, hu⟩ := foAt_get L b off j x0 x1 X kids hfo hat
      obtain ⟨ua, ucap, hus⟩ := hu.slice
      obtain ⟨un, hun⟩ : ∃ m, kids.len = m := ⟨_, rfl⟩
      rw [hun] at hus
      subst hus
      have g0 := (HB.out.cell (p := ⟨b, off + j * 4, none⟩) hbk).trans c0
      have g1 := (HB.out.cell (p := ⟨b, off + j * 4 + 1, none⟩) hbk).trans c1
      have g2 := (HB.out.cell (p := ⟨b, off + j * 4 + 2, none⟩) hbk).trans c2
      have g3 := (HB.out.cell (p := ⟨b, off + j * 4 + 3, none⟩) hbk).trans c3
      have j0 : (0 : Int) ≤ j := by omega
      have j1 : (j : Int) < n := by omega
      have D0 := Lib.hid (HB.out.alloc HB.out.size (.cells #[.int .i64 x0, .int .i64 x1, .string X, .slice ua un ucap] 24))
      have D1 := Lib.hid (fun W (h : Below (wr.alloc (.cells #[.int .i64 x0, .int .i64 x1, .string X, .slice ua un ucap] 24)).heap.size (wr.alloc (.cells #[.int .i64 x0, .int .i64 x1, .string X, .slice ua un ucap] 24)) W) => HBR.out.trans ((keep4 h).2.2.2.2.mono HBR.out.size))
      have R1 := Lib.hid (HR.out j x0 x1 X kids hat d _ _ hd (hu.keep D0.out))
      have HAT := Lib.hid hat
      unfold dv at R1
      cases hr : rightD x0 x1 X kids d with
      | true =>
        rw [hr] at R1
        have HRR := Lib.hid hr
        clear c0 c1 c2 c3 hat hfo hu hun hr
        as_aux_lemma =>
          go_wp2_with fail
          refine (R1.out).mono ?_
          rintro e w2 ⟨rfl, hb2⟩
          have d2 := D1.out _ hb2
          clear hb2
          go_wp2
          go_roundw
          case rel =>
            refine ⟨j + 1, by go_num, by omega, fun i k' f' s' kids' hi h => ?_, d2⟩
            rcases Nat.lt_succ_iff_lt_or_eq.1 hi with hi | rfl
            · exact HOK.out i k' f' s' kids' hi h
            · rw [HAT.out] at h
              simp only [Option.some.injEq, Prod.mk.injEq] at h
              obtain ⟨rfl, rfl, rfl, rfl⟩ := h
              exact HRR.out
          case measure => simp [intOf]; omega
      | false =>
        rw [hr] at R1
        have hfa := (HF.out j x0 x1 X kids hat hr).symm.trans HANS.out
        subst hfa
        clear c0 c1 c2 c3 hat hfo hu hun hr
        as_aux_lemma =>
          go_wp2_with fail
          refine (R1.out).mono ?_
          rintro e w2 ⟨rfl, hb2⟩
          have d2 := D1.out _ hb2
          have d3 := b0.out.trans (d2.mono b0.out.size)
          clear hb2
          go_wp2
          go_ret
          exact ⟨rfl, d3⟩
    · obtain rfl : j = n := by omega
      have t1 : decide ((j : Int) < j) = false := by simp
      obtain rfl := HT.out (fun i k' f' s' kids' h => HOK.out i k' f' s' kids' (by
        rcases Nat.lt_or_ge i j with hi | hi
        · exact hi
        · exfalso
          have := fo_at_lt L i h
          have := HN.out
          omega) h)
      clear hlt
      as_aux_lemma =>
        go_wp2
        go_ret
        exact ⟨rfl, HB.out⟩
end Go.Proofs.Ytehofomfblfhaaa

/- Documents of any shape: may be, whole. -/
namespace Go.Proofs.Ytehofomfblfhaaa
open Go.RowKit
set_option linter.unusedVariables false
set_option linter.unusedSimpArgs false

theorem toList_bytesT (l : List UInt8) : (bytes l).toList = l := by
  rw [ByteArray.toList_eq]; simp [bytes]
theorem str_isE (s : ByteArray) (hs : ¬ s = ⟨#[]⟩) : s.toList.isEmpty = false := by
  have e : bytes s.data.toList = s := by simp [bytes]
  cases hl : s.data.toList with
  | nil => rw [hl] at e; exact absurd e.symm hs
  | cons c t => rw [← e, toList_bytesT, hl]; rfl
set_option maxRecDepth 100000 in
set_option maxHeartbeats 2000000 in
theorem hasntg_any (k f : Int) (s : ByteArray) (a : Option Addr) (n c : Nat) (w : World) :
    Calls Try.prog 45 #[.agg (dv k f s (.slice a n c))] w fun e w' => e = .returned (.bool (decide (s = ⟨#[]⟩ ∧ f = 0))) ∧ Below w.heap.size w w' := by
  have b0 : Hid (∀ o, Below w.heap.size w (w.alloc o)) := Lib.hid fun o => (Below.refl _ _).alloc (Nat.le_refl _) o
  unfold dv
  by_cases hs : s = ⟨#[]⟩
  · subst hs
    by_cases hf : f = 0
    · subst hf
      go_enter Try.func45, Try.ntmps45
      go_wp2
      go_ret
      exact ⟨rfl, b0.out _⟩
    · have t1 : (f == 0) = false := by simpa using hf
      have HD := Lib.hid (show decide ((⟨#[]⟩ : ByteArray) = ⟨#[]⟩ ∧ f = 0) = false by simp [hf])
      rw [HD.out]
      go_enter Try.func45, Try.ntmps45
      go_wp2
      go_ret
      exact ⟨rfl, b0.out _⟩
  · have t1 := str_isE s hs
    have HD := Lib.hid (show decide (s = ⟨#[]⟩ ∧ f = 0) = false by simp [hs])
    rw [HD.out]
    go_enter Try.func45, Try.ntmps45
    go_wp2
    go_ret
    exact ⟨rfl, b0.out _⟩
theorem hasnt_gen (k f : Int) (s : ByteArray) (v : Value) (L : Fo) (w : World) (hv : FoS w v L) :
    Calls Try.prog 45 #[.agg (dv k f s v)] w fun e w' => e = .returned (.bool (decide (s = ⟨#[]⟩ ∧ f = 0))) ∧ Below w.heap.size w w' := by
  obtain ⟨a, c, rfl⟩ := hv.slice
  exact hasntg_any k f s a _ c w
set_option maxRecDepth 100000 in
set_option maxHeartbeats 2000000 in
theorem right_text (f : Int) (s : ByteArray) (a : Option Addr) (n c d : Nat) (w : World) :
    Calls Try.prog 36 #[.agg (dv 1 f s (.slice a n c)), .int .i64 (d : Int)] w fun e w' => e = .returned (.bool (decide (n = 0))) ∧ Below w.heap.size w w' := by
  have b0 : Hid (∀ o, Below w.heap.size w (w.alloc o)) := Lib.hid fun o => (Below.refl _ _).alloc (Nat.le_refl _) o
  unfold dv
  rcases Nat.eq_zero_or_pos n with rfl | h0
  · go_enter Try.func36, Try.ntmps36
    go_wp2
    go_ret
    exact ⟨rfl, b0.out _⟩
  · have t1 : ((n : Int) == 0) = false := by simp; omega
    have HD := Lib.hid (show decide (n = 0) = false by simp; omega)
    rw [HD.out]
    go_enter Try.func36, Try.ntmps36
    go_wp2
    go_ret
    exact ⟨rfl, b0.out _⟩
set_option maxRecDepth 100000 in
set_option maxHeartbeats 2000000 in
theorem right_none (k f : Int) (s : ByteArray) (a : Option Addr) (n c d : Nat) (w : World) (h1 : k ≠ 1) (h2 : k ≠ 2) (h3 : k ≠ 3) (h4 : k ≠ 4) (h5 : k ≠ 5) (h6 : k ≠ 6) (h7 : k ≠ 7) :
    Calls Try.prog 36 #[.agg (dv k f s (.slice a n c)), .int .i64 (d : Int)] w fun e w' => e = .returned (.bool false) ∧ Below w.heap.size w w' := by
  have b0 : Hid (∀ o, Below w.heap.size w (w.alloc o)) := Lib.hid fun o => (Below.refl _ _).alloc (Nat.le_refl _) o
  have t1 : (k == 1) = false := by simpa using h1
  have t2 : (k == 2) = false := by simpa using h2
  have t3 : (k == 3) = false := by simpa using h3
  have t4 : (k == 4) = false := by simpa using h4
  have t5 : (k == 5) = false := by simpa using h5
  have t6 : (k == 6) = false := by simpa using h6
  have t7 : (k == 7) = false := by simpa using h7
  unfold dv
  go_enter Try.func36, Try.ntmps36
  go_wp2
  go_ret
  exact ⟨rfl, b0.out _⟩
set_option maxRecDepth 100000 in
set_option maxHeartbeats 4000000 in
theorem right_leaf (k f : Int) (s : ByteArray) (a : Option Addr) (n c d : Nat) (w : World) (hk : k = 2 ∨ k = 3 ∨ k = 4) :
    Calls Try.prog 36 #[.agg (dv k f s (.slice a n c)), .int .i64 (d : Int)] w fun e w' => e = .returned (.bool (decide (s = ⟨#[]⟩ ∧ f = 0) && decide (n = 0))) ∧ Below w.heap.size w w' := by
  have H := Lib.hid (fun W => hasntg_any k f s a n c W)
  generalize decide (s = ⟨#[]⟩ ∧ f = 0) = t at H ⊢
  unfold dv at H ⊢
  cases t with
  | false =>
    rcases hk with rfl | rfl | rfl
    all_goals (
      go_enter Try.func36, Try.ntmps36
      go_wp2_with fail
      refine (H.out _).mono ?_
      rintro e w1 ⟨rfl, hb1⟩
      obtain ⟨g0, g1, g2, g3, hb⟩ := keep4 hb1
      clear hb1
      go_wp2
      go_ret
      exact ⟨rfl, hb⟩)
  | true =>
    rcases Nat.eq_zero_or_pos n with rfl | h0
    · rcases hk with rfl | rfl | rfl
      all_goals (
        go_enter Try.func36, Try.ntmps36
        go_wp2_with fail
        refine (H.out _).mono ?_
        rintro e w1 ⟨rfl, hb1⟩
        obtain ⟨g0, g1, g2, g3, hb⟩ := keep4 hb1
        clear hb1
        go_wp2
        go_ret
        exact ⟨rfl, hb⟩)
    · have t1 : ((n : Int) == 0) = false := by simp; omega
      have HD := Lib.hid (show (true && decide (n = 0)) = false by simp; omega)
      rw [HD.out]
      rcases hk with rfl | rfl | rfl
      all_goals (
        go_enter Try.func36, Try.ntmps36
        go_wp2_with fail
        refine (H.out _).mono ?_
        rintro e w1 ⟨rfl, hb1⟩
        obtain ⟨g0, g1, g2, g3, hb⟩ := keep4 hb1
        clear hb1
        go_wp2
        go_ret
        exact ⟨rfl, hb⟩)
set_option maxRecDepth 100000 in
set_option maxHeartbeats 4000000 in
theorem right_node (k f : Int) (s : ByteArray) (a : Option Addr) (n c d : Nat) (hd : d ≤ 1000) (ans : Bool) (w : World) (hk : k = 5 ∨ k = 6 ∨ k = 7)
    (RK0 : ∀ W, 0 < d → Below w.heap.size w W → Calls Try.prog 46 #[.agg (dv k f s (.slice a n c)), .int .i64 ((d : Int) - 1)] W fun e w' => e = .returned (.bool ans) ∧ Below W.heap.size W w') :
    Calls Try.prog 36 #[.agg (dv k f s (.slice a n c)), .int .i64 (d : Int)] w fun e w' => e = .returned (.bool (decide (s = ⟨#[]⟩ ∧ f = 0) && decide (0 < d) && ans)) ∧ Below w.heap.size w w' := by
  have H := Lib.hid (fun W => hasntg_any k f s a n c W)
  generalize decide (s = ⟨#[]⟩ ∧ f = 0) = t at H ⊢
  have RK := Lib.hid RK0
  clear RK0
  unfold dv at H RK ⊢
  cases t with
  | false =>
    rcases hk with rfl | rfl | rfl
    all_goals (
      go_enter Try.func36, Try.ntmps36
      go_wp2_with fail
      refine (H.out _).mono ?_
      rintro e w1 ⟨rfl, hb1⟩
      obtain ⟨g0, g1, g2, g3, hb⟩ := keep4 hb1
      clear hb1
      go_wp2
      go_ret
      exact ⟨rfl, hb⟩)
  | true =>
    rcases Nat.eq_zero_or_pos d with rfl | h0
    · rcases hk with rfl | rfl | rfl
      all_goals (
        go_enter Try.func36, Try.ntmps36
        go_wp2_with fail
        refine (H.out _).mono ?_
        rintro e w1 ⟨rfl, hb1⟩
        obtain ⟨g0, g1, g2, g3, hb⟩ := keep4 hb1
        clear hb1
        go_wp2
        go_ret
        exact ⟨rfl, hb⟩)
    · have RK1 := Lib.hid (fun W => RK.out W h0)
      have d0 : (0 : Int) < d := by omega
      rw [show (true && decide (0 < d) && ans) = ans by simp [h0]]
      clear RK
      rcases hk with rfl | rfl | rfl
      all_goals (
        go_enter Try.func36, Try.ntmps36
        go_wp2_with fail
        refine (H.out _).mono ?_
        rintro e w1 ⟨rfl, hb1⟩
        obtain ⟨g0, g1, g2, g3, hb⟩ := keep4 hb1
        clear hb1
        go_wp2_with fail
        refine (RK1.out _ hb).mono ?_
        rintro e w2 ⟨rfl, hb2⟩
        have d2 := hb.trans (hb2.mono hb.size)
        go_wp2
        go_ret
        exact ⟨rfl, d2⟩)
theorem rc_one (k f : Int) (s : ByteArray) (kids : Fo) (RC0 : ∀ j k f s kids', kids.at? j = some (k, f, s, kids') → RC k f s kids') : RC k f s kids := by
  intro d w v hd hv
  obtain ⟨a, c, rfl⟩ := hv.slice
  rw [rightD_is]
  by_cases h1 : k = 1
  · subst h1
    rw [if_pos rfl]
    exact right_text f s a _ c d w
  rw [if_neg h1]
  by_cases h2 : k = 2 ∨ k = 3 ∨ k = 4
  · rw [if_pos h2]
    exact right_leaf k f s a _ c d w h2
  rw [if_neg h2]
  by_cases h5 : k = 5 ∨ k = 6 ∨ k = 7
  · rw [if_pos h5]
    refine right_node k f s a _ c d hd _ w h5 fun W h0 hW => ?_
    have hll : kids.len ≤ maxLen := by obtain ⟨_, _, _, h1, h2, _⟩ := hv; exact Nat.le_trans h1 h2
    have e1 : (d : Int) - 1 = ((d - 1 : Nat) : Int) := by omega
    rw [e1]
    exact rightks_any k f s kids RC0 (d - 1) (by omega) _ W (hv.keep hW) hll
  · rw [if_neg h5]
    exact right_none k f s a _ c d w h1 (by omega) (by omega) (by omega) (by omega) (by omega) (by omega)
theorem rc_list (L : Fo) : ∀ j k f s kids, L.at? j = some (k, f, s, kids) → RC k f s kids := by
  induction L with
  | nil => intro j k f s kids h; simp [Fo.at?] at h
  | cons k0 f0 s0 kids0 rest ih1 ih2 =>
    intro j k f s kids h
    cases j with
    | zero =>
      simp only [Fo.at?, Option.some.injEq, Prod.mk.injEq] at h
      obtain ⟨rfl, rfl, rfl, rfl⟩ := h
      exact rc_one k0 f0 s0 kids0 ih1
    | succ j => exact ih2 j k f s kids h
/-- doc.right of any document. -/
theorem rc_any (k f : Int) (s : ByteArray) (kids : Fo) : RC k f s kids := rc_one k f s kids (rc_list kids)
end Go.Proofs.Ytehofomfblfhaaa
