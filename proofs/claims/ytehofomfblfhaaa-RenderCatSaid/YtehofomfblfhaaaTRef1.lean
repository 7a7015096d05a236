/- Documents of any shape: the page's own answers: may be. -/
import Derived.Test.YtehofomfblfhaaaMgWF
import Derived.Deep.DeepCutAuto
namespace Go.Proofs.Ytehofomfblfhaaa
open Go.RowKit
set_option linter.unusedVariables false
set_option linter.unusedSimpArgs false

/-- What the page's rightDoc gives for such a document. -/
def RD (k f : Int) (s : ByteArray) (kids : Fo) : Prop :=
  ∀ (d : Nat) (w : World) (v : Value), d ≤ 1000 → FoS w v kids → Calls Try.prog 34 #[.agg (dv k f s v), .int .i64 (d : Int)] w fun e w' => e = .returned (.bool (rightD k f s kids d)) ∧ Below w.heap.size w w'
set_option maxRecDepth 100000 in
set_option maxHeartbeats 2000000 in
theorem rd_out (k f : Int) (s : ByteArray) (a : Option Addr) (n c d : Nat) (w : World) (h : k < 1 ∨ 7 < k) :
    Calls Try.prog 34 #[.agg (dv k f s (.slice a n c)), .int .i64 (d : Int)] w fun e w' => e = .returned (.bool false) ∧ Below w.heap.size w w' := by
  have b0 : Hid (∀ o, Below w.heap.size w (w.alloc o)) := Lib.hid fun o => (Below.refl _ _).alloc (Nat.le_refl _) o
  unfold dv
  by_cases h1 : k < 1
  · clear h
    go_enter Try.func34, Try.ntmps34
    go_wp2
    go_ret
    exact ⟨rfl, b0.out _⟩
  · have h7 : 7 < k := by omega
    clear h
    go_enter Try.func34, Try.ntmps34
    go_wp2
    go_ret
    exact ⟨rfl, b0.out _⟩
set_option maxRecDepth 100000 in
set_option maxHeartbeats 4000000 in
theorem rd_leaf1 (f : Int) (s : ByteArray) (a : Option Addr) (n c d : Nat) (w : World) :
    Calls Try.prog 34 #[.agg (dv 1 f s (.slice a n c)), .int .i64 (d : Int)] w fun e w' => e = .returned (.bool (decide (n = 0))) ∧ Below w.heap.size w w' := by
  have b0 : Hid (∀ o, Below w.heap.size w (w.alloc o)) := Lib.hid fun o => (Below.refl _ _).alloc (Nat.le_refl _) o
  unfold dv
  rcases Nat.eq_zero_or_pos n with rfl | h0
  · go_enter Try.func34, Try.ntmps34
    go_wp2
    refine wp_loop_rounds 1 ?_
    rw [rounds_succ]
    go_wp2
    go_ret
    exact ⟨rfl, b0.out _⟩
  · have t1 : (0 : Int) < (n : Int) := by omega
    have HD := Lib.hid (show decide (n = 0) = false by simp; omega)
    rw [HD.out]
    go_enter Try.func34, Try.ntmps34
    go_wp2
    go_ret
    exact ⟨rfl, b0.out _⟩
set_option maxRecDepth 100000 in
set_option maxHeartbeats 4000000 in
theorem rd_leaf (k f : Int) (s : ByteArray) (a : Option Addr) (n c d : Nat) (w : World) (hk : k = 2 ∨ k = 3 ∨ k = 4) :
    Calls Try.prog 34 #[.agg (dv k f s (.slice a n c)), .int .i64 (d : Int)] w fun e w' => e = .returned (.bool (decide (s = ⟨#[]⟩ ∧ f = 0) && decide (n = 0))) ∧ Below w.heap.size w w' := by
  have b0 : Hid (∀ o, Below w.heap.size w (w.alloc o)) := Lib.hid fun o => (Below.refl _ _).alloc (Nat.le_refl _) o
  unfold dv
  by_cases hs : s = ⟨#[]⟩
  · subst hs
    by_cases hf : f = 0
    · subst hf
      rcases Nat.eq_zero_or_pos n with rfl | h0
      · rcases hk with rfl | rfl | rfl
        all_goals (
          go_enter Try.func34, Try.ntmps34
          go_wp2
          refine wp_loop_rounds 1 ?_
          rw [rounds_succ]
          go_wp2
          go_ret
          exact ⟨rfl, b0.out _⟩)
      · have t1 : (0 : Int) < (n : Int) := by omega
        have HD := Lib.hid (show (decide ((⟨#[]⟩ : ByteArray) = ⟨#[]⟩ ∧ (0 : Int) = 0) && decide (n = 0)) = false by simp; omega)
        rw [HD.out]
        rcases hk with rfl | rfl | rfl
        all_goals (
          go_enter Try.func34, Try.ntmps34
          go_wp2
          go_ret
          exact ⟨rfl, b0.out _⟩)
    · have t1 : (f == 0) = false := by simpa using hf
      have HD := Lib.hid (show (decide ((⟨#[]⟩ : ByteArray) = ⟨#[]⟩ ∧ f = 0) && decide (n = 0)) = false by simp [hf])
      rw [HD.out]
      rcases hk with rfl | rfl | rfl
      all_goals (
        go_enter Try.func34, Try.ntmps34
        go_wp2
        go_ret
        exact ⟨rfl, b0.out _⟩)
  · have t1 := str_isE s hs
    have HD := Lib.hid (show (decide (s = ⟨#[]⟩ ∧ f = 0) && decide (n = 0)) = false by simp [hs])
    rw [HD.out]
    rcases hk with rfl | rfl | rfl
    all_goals (
      go_enter Try.func34, Try.ntmps34
      go_wp2
      go_ret
      exact ⟨rfl, b0.out _⟩)
set_option maxRecDepth 100000 in
set_option maxHeartbeats 4000000 in
theorem rd_no (k f : Int) (s : ByteArray) (a : Option Addr) (n c d : Nat) (w : World) (hk : k = 5 ∨ k = 6 ∨ k = 7) (h : ¬ (s = ⟨#[]⟩ ∧ f = 0 ∧ 0 < d)) :
    Calls Try.prog 34 #[.agg (dv k f s (.slice a n c)), .int .i64 (d : Int)] w fun e w' => e = .returned (.bool false) ∧ Below w.heap.size w w' := by
  have b0 : Hid (∀ o, Below w.heap.size w (w.alloc o)) := Lib.hid fun o => (Below.refl _ _).alloc (Nat.le_refl _) o
  unfold dv
  rcases Nat.eq_zero_or_pos d with rfl | hd
  · clear h
    rcases hk with rfl | rfl | rfl
    all_goals (
      go_enter Try.func34, Try.ntmps34
      go_wp2
      go_ret
      exact ⟨rfl, b0.out _⟩)
  have d1 : ¬ (d : Int) ≤ 0 := by omega
  by_cases hs : s = ⟨#[]⟩
  · subst hs
    have hf : f ≠ 0 := fun e => h ⟨rfl, e, hd⟩
    have t1 : (f == 0) = false := by simpa using hf
    clear h hd
    rcases hk with rfl | rfl | rfl
    all_goals (
      go_enter Try.func34, Try.ntmps34
      go_wp2
      go_ret
      exact ⟨rfl, b0.out _⟩)
  · have t1 := str_isE s hs
    clear h hd
    rcases hk with rfl | rfl | rfl
    all_goals (
      go_enter Try.func34, Try.ntmps34
      go_wp2
      go_ret
      exact ⟨rfl, b0.out _⟩)
set_option maxRecDepth 100000 in
set_option maxHeartbeats 4000000 in
theorem rd_node (k : Int) (L : Fo) (RD0 : ∀ j k f s kids, L.at? j = some (k, f, s, kids) → RD k f s kids) (d : Nat) (h0 : 0 < d) (hd : d ≤ 1000) (v : Value) (w : World) (hv : FoS w v L) (hk : k = 5 ∨ k = 6 ∨ k = 7) :
    Calls Try.prog 34 #[.agg (dv k 0 ⟨#[]⟩ v), .int .i64 (d : Int)] w fun e w' => e = .returned (.bool (rightF L (d - 1))) ∧ Below w.heap.size w w' := by
  obtain ⟨a, cap, rfl, h1, h2, h3, h4⟩ := hv
  obtain ⟨n, hn⟩ : ∃ n, L.len = n := ⟨_, rfl⟩
  have hll : n ≤ maxLen := by rw [← hn]; exact Nat.le_trans h1 h2
  obtain ⟨d', rfl⟩ : ∃ d', d = d' + 1 := ⟨d - 1, by omega⟩
  rw [Nat.add_sub_cancel]
  have HR := Lib.hid (fun j k f s kids (h : L.at? j = some (k, f, s, kids)) W v => RD0 j k f s kids h d' W v (by omega))
  have HN := Lib.hid hn
  have HT := Lib.hid (rightF_true d' L)
  have HF := Lib.hid (rightF_false d' L)
  have HS := Lib.hid (fun j hj => Fo.at_some L j hj)
  rw [hn] at h4
  have H4 := Lib.hid h4
  unfold maxLen at hll
  rw [hn]
  obtain ⟨ans, hans⟩ : ∃ r, rightF L d' = r := ⟨_, rfl⟩
  rw [hans] at HT ⊢
  have HANS := Lib.hid hans
  have d1 : ¬ ((d' + 1 : Nat) : Int) ≤ 0 := by omega
  have d2 : ((d' + 1 : Nat) : Int) - 1 = (d' : Int) := by omega
  have d3 : (0 : Int) ≤ d' := by omega
  have d4 : (d' : Int) ≤ 1000 := by omega
  obtain ⟨D, hD⟩ : ∃ D : Int, ((d' + 1 : Nat) : Int) = D := ⟨_, rfl⟩
  rw [hD] at d1 d2 ⊢
  have d5 : D ≤ 1001 := by omega
  have d6 : 0 < D := by omega
  have b0 := Lib.hid ((Below.refl w.heap.size w).alloc (Nat.le_refl _) (.cells #[.int .i64 k, .int .i64 0, .string ⟨#[]⟩, .slice a n cap] 24))
  obtain ⟨W1, hW1⟩ : ∃ W, w.alloc (.cells #[.int .i64 k, .int .i64 0, .string ⟨#[]⟩, .slice a n cap] 24) = W := ⟨_, rfl⟩
  rw [hW1] at b0
  have c0 : W1.cell? ⟨w.heap.size, 0, none⟩ = some (.int .i64 k) := by rw [← hW1, World.cell?_alloc_at _ _ _ _ rfl]; rfl
  have c1 : W1.cell? ⟨w.heap.size, 1, none⟩ = some (.int .i64 0) := by rw [← hW1, World.cell?_alloc_at _ _ _ _ rfl]; rfl
  have c2 : W1.cell? ⟨w.heap.size, 2, none⟩ = some (.string ⟨#[]⟩) := by rw [← hW1, World.cell?_alloc_at _ _ _ _ rfl]; rfl
  have c3 : W1.cell? ⟨w.heap.size, 3, none⟩ = some (.slice a n cap) := by rw [← hW1, World.cell?_alloc_at _ _ _ _ rfl]; rfl
  have z1 : w.heap.size < W1.heap.size := by rw [← hW1]; simp
  have HW1 := Lib.hid hW1
  have C3 := Lib.hid c3
  have k1 : ¬ k < 1 := by omega
  have k2 : ¬ 7 < k := by omega
  have k3 : 5 ≤ k := by omega
  have k4 : (k == 1) = false := by simp; omega
  have k5 : ¬ k < 5 := by omega
  clear hn RD0 h3 h4 hW1 hans c3 hk hD h0 hd
  unfold dv
  go_enter Try.func34, Try.ntmps34
  go_upto_region 1 with fail
  rw [HW1.out]
  go_wp2
  go_loopw [5] (fun iv wr => ∃ j : Nat, iv = .int .i64 (j : Int) ∧ j ≤ n ∧ (∀ i k f s kids, i < j → L.at? i = some (k, f, s, kids) → rightD k f s kids d' = true) ∧ Below W1.heap.size W1 wr) (fun iv _ => n - (intOf iv).toNat)
  case atStart => exact ⟨0, rfl, by omega, fun i _ _ _ _ h => by omega, Below.refl _ _⟩
  case round =>
    obtain ⟨j, rfl, hj, hok, hb⟩ := hrel
    have HB := Lib.hid (b0.out.trans (hb.mono b0.out.size))
    have HBR := Lib.hid hb
    have HOK := Lib.hid hok
    have c3r := (hb.cell (p := ⟨w.heap.size, 3, none⟩) z1).trans C3.out
    clear hb hok
    by_cases hlt : j < n
    · obtain ⟨x0, x1, X, kids, hat⟩ := HS.out j (by rw [HN.out]; exact hlt)
      obtain ⟨b, off, rfl, hbk, hfo⟩ := H4.out (by omega)
      obtain ⟨-, q0, q1, q2, u, q3, hu⟩ := foAt_get L b off j x0 x1 X kids hfo hat
      obtain ⟨ua, ucap, hus⟩ := hu.slice
      obtain ⟨un, hun⟩ : ∃ m, kids.len = m := ⟨_, rfl⟩
      rw [hun] at hus
      subst hus
      have g0 := (HB.out.cell (p := ⟨b, off + j * 4, none⟩) hbk).trans q0
      have g1 := (HB.out.cell (p := ⟨b, off + j * 4 + 1, none⟩) hbk).trans q1
      have g2 := (HB.out.cell (p := ⟨b, off + j * 4 + 2, none⟩) hbk).trans q2
      have g3 := (HB.out.cell (p := ⟨b, off + j * 4 + 3, none⟩) hbk).trans q3
      have j0 : (0 : Int) ≤ j := by omega
      have j1 : (j : Int) < n := by omega
      have R1 := Lib.hid (HR.out j x0 x1 X kids hat wr _ (hu.keep HB.out))
      have HAT := Lib.hid hat
      unfold dv at R1
      cases hr : rightD x0 x1 X kids d' with
      | true =>
        rw [hr] at R1
        have HRR := Lib.hid hr
        clear q0 q1 q2 q3 hat hfo hu hun hr
        as_aux_lemma =>
          go_wp2_with fail
          refine (R1.out).mono ?_
          rintro e w2 ⟨rfl, hb2⟩
          have e2 := HBR.out.trans (hb2.mono HBR.out.size)
          clear hb2
          go_wp2
          go_roundw
          case rel =>
            refine ⟨j + 1, by go_num, by omega, fun i k' f' s' kids' hi h => ?_, e2⟩
            rcases Nat.lt_succ_iff_lt_or_eq.1 hi with hi | rfl
            · exact HOK.out i k' f' s' kids' hi h
            · rw [HAT.out] at h
              simp only [Option.some.injEq, Prod.mk.injEq] at h
              obtain ⟨rfl, rfl, rfl, rfl⟩ := h
              exact HRR.out
          case measure => simp [intOf]; omega
      | false =>
        rw [hr] at R1
        have hfa := (HF.out j x0 x1 X kids hat hr).symm.trans HANS.out
        subst hfa
        clear q0 q1 q2 q3 hat hfo hu hun hr
        as_aux_lemma =>
          go_wp2_with fail
          refine (R1.out).mono ?_
          rintro e w2 ⟨rfl, hb2⟩
          have e2 := HBR.out.trans (hb2.mono HBR.out.size)
          have e3 := b0.out.trans (e2.mono b0.out.size)
          clear hb2
          go_wp2
          go_ret
          exact ⟨rfl, e3⟩
    · obtain rfl : j = n := by omega
      have t1 : decide ((j : Int) < j) = false := by simp
      obtain rfl := HT.out (fun i k' f' s' kids' h => HOK.out i k' f' s' kids' (by
        rcases Nat.lt_or_ge i j with hi | hi
        · exact hi
        · exfalso
          have := fo_at_lt L i h
          have := HN.out
          omega) h)
      clear hlt
      as_aux_lemma =>
        go_wp2
        go_ret
        exact ⟨rfl, HB.out⟩
theorem rd_one (k f : Int) (s : ByteArray) (kids : Fo) (RD0 : ∀ j k f s kids', kids.at? j = some (k, f, s, kids') → RD k f s kids') : RD k f s kids := by
  intro d w v hd hv
  have hv' := hv
  obtain ⟨a, c, rfl⟩ := hv.slice
  rw [rightD_is]
  by_cases h1 : k = 1
  · subst h1
    rw [if_pos rfl]
    exact rd_leaf1 f s a _ c d w
  rw [if_neg h1]
  by_cases h2 : k = 2 ∨ k = 3 ∨ k = 4
  · rw [if_pos h2]
    exact rd_leaf k f s a _ c d w h2
  rw [if_neg h2]
  by_cases h5 : k = 5 ∨ k = 6 ∨ k = 7
  · rw [if_pos h5]
    by_cases hg : s = ⟨#[]⟩ ∧ f = 0 ∧ 0 < d
    · obtain ⟨rfl, rfl, h0⟩ := hg
      rw [show (decide ((⟨#[]⟩ : ByteArray) = ⟨#[]⟩ ∧ (0 : Int) = 0) && decide (0 < d) && rightF kids (d - 1)) = rightF kids (d - 1) by simp [h0]]
      exact rd_node k kids RD0 d h0 hd _ w hv' h5
    · rw [show (decide (s = ⟨#[]⟩ ∧ f = 0) && decide (0 < d) && rightF kids (d - 1)) = false by
        cases hr : rightF kids (d - 1) with
        | false => simp
        | true =>
          simp only [Bool.and_true, Bool.and_eq_false_iff, decide_eq_false_iff_not]
          by_cases hsf : s = ⟨#[]⟩ ∧ f = 0
          · exact .inr fun h => hg ⟨hsf.1, hsf.2, h⟩
          · exact .inl hsf]
      exact rd_no k f s a _ c d w h5 hg
  · rw [if_neg h5]
    exact rd_out k f s a _ c d w (by omega)
theorem rd_list (L : Fo) : ∀ j k f s kids, L.at? j = some (k, f, s, kids) → RD k f s kids := by
  induction L with
  | nil => intro j k f s kids h; simp [Fo.at?] at h
  | cons k0 f0 s0 kids0 rest ih1 ih2 =>
    intro j k f s kids h
    cases j with
    | zero =>
      simp only [Fo.at?, Option.some.injEq, Prod.mk.injEq] at h
      obtain ⟨rfl, rfl, rfl, rfl⟩ := h
      exact rd_one k0 f0 s0 kids0 ih1
    | succ j => exact ih2 j k f s kids h
/-- The page's rightDoc of any document. -/
theorem rd_any (k f : Int) (s : ByteArray) (kids : Fo) : RD k f s kids := rd_one k f s kids (rd_list kids)
set_option maxRecDepth 100000 in
set_option maxHeartbeats 2000000 in
theorem refright_any (k f : Int) (s : ByteArray) (kids : Fo) (v : Value) (w : World) (hv : FoS w v kids) :
    Calls Try.prog 20 #[.agg (dv k f s v)] w fun e w' => e = .returned (.bool (rightD k f s kids 200)) ∧ Below w.heap.size w w' := by
  have hv' := hv
  obtain ⟨a, c, rfl⟩ := hv.slice
  have b0 := Lib.hid ((Below.refl w.heap.size w).alloc (Nat.le_refl _) (.cells #[.int .i64 k, .int .i64 f, .string s, .slice a kids.len c] 24))
  have R := Lib.hid (rd_any k f s kids 200 _ _ (by decide) (hv'.keep b0.out))
  obtain ⟨n, hn⟩ : ∃ n, kids.len = n := ⟨_, rfl⟩
  rw [hn] at R b0 ⊢
  generalize rightD k f s kids 200 = ans at R ⊢
  clear hv hv' hn
  unfold dv at R ⊢
  go_enter Try.func20, Try.ntmps20
  go_wp2_with fail
  refine (R.out).mono ?_
  rintro e w1 ⟨rfl, hb1⟩
  have hfin := b0.out.trans (hb1.mono b0.out.size)
  clear hb1
  go_wp2
  go_ret
  exact ⟨rfl, hfin⟩
end Go.Proofs.Ytehofomfblfhaaa
