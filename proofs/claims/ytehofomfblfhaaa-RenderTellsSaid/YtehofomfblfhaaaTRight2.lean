/- Documents of any shape: may be, whole. -/
import Derived.Test.YtehofomfblfhaaaTRight
namespace Go.Proofs.Ytehofomfblfhaaa
open Go.RowKit
set_option linter.unusedVariables false
set_option linter.unusedSimpArgs false

theorem toList_bytesT (l : List UInt8) : (bytes l).toList = l := by
  rw [ByteArray.toList_eq]; simp [bytes]
theorem str_isE (s : ByteArray) (hs : ¬ s = ⟨#[]⟩) : s.toList.isEmpty = false := by
  have e : bytes s.data.toList = s := by simp [bytes]
  cases hl : s.data.toList with
  | nil => rw [hl] at e; exact absurd e.symm hs
  | cons c t => rw [← e, toList_bytesT, hl]; rfl
set_option maxRecDepth 100000 in
set_option maxHeartbeats 2000000 in
theorem hasntg_any (k f : Int) (s : ByteArray) (a : Option Addr) (n c : Nat) (w : World) :
    Calls Try.prog 45 #[.agg (dv k f s (.slice a n c))] w fun e w' => e = .returned (.bool (decide (s = ⟨#[]⟩ ∧ f = 0))) ∧ Below w.heap.size w w' := by
  have b0 : Hid (∀ o, Below w.heap.size w (w.alloc o)) := Lib.hid fun o => (Below.refl _ _).alloc (Nat.le_refl _) o
  unfold dv
  by_cases hs : s = ⟨#[]⟩
  · subst hs
    by_cases hf : f = 0
    · subst hf
      go_enter Try.func45, Try.ntmps45
      go_wp2
      go_ret
      exact ⟨rfl, b0.out _⟩
    · have t1 : (f == 0) = false := by simpa using hf
      have HD := Lib.hid (show decide ((⟨#[]⟩ : ByteArray) = ⟨#[]⟩ ∧ f = 0) = false by simp [hf])
      rw [HD.out]
      go_enter Try.func45, Try.ntmps45
      go_wp2
      go_ret
      exact ⟨rfl, b0.out _⟩
  · have t1 := str_isE s hs
    have HD := Lib.hid (show decide (s = ⟨#[]⟩ ∧ f = 0) = false by simp [hs])
    rw [HD.out]
    go_enter Try.func45, Try.ntmps45
    go_wp2
    go_ret
    exact ⟨rfl, b0.out _⟩
theorem hasnt_gen (k f : Int) (s : ByteArray) (v : Value) (L : Fo) (w : World) (hv : FoS w v L) :
    Calls Try.prog 45 #[.agg (dv k f s v)] w fun e w' => e = .returned (.bool (decide (s = ⟨#[]⟩ ∧ f = 0))) ∧ Below w.heap.size w w' := by
  obtain ⟨a, c, rfl⟩ := hv.slice
  exact hasntg_any k f s a _ c w
set_option maxRecDepth 100000 in
set_option maxHeartbeats 2000000 in
theorem right_text (f : Int) (s : ByteArray) (a : Option Addr) (n c d : Nat) (w : World) :
    Calls Try.prog 36 #[.agg (dv 1 f s (.slice a n c)), .int .i64 (d : Int)] w fun e w' => e = .returned (.bool (decide (n = 0))) ∧ Below w.heap.size w w' := by
  have b0 : Hid (∀ o, Below w.heap.size w (w.alloc o)) := Lib.hid fun o => (Below.refl _ _).alloc (Nat.le_refl _) o
  unfold dv
  rcases Nat.eq_zero_or_pos n with rfl | h0
  · go_enter Try.func36, Try.ntmps36
    go_wp2
    go_ret
    exact ⟨rfl, b0.out _⟩
  · have t1 : ((n : Int) == 0) = false := by simp; omega
    have HD := Lib.hid (show decide (n = 0) = false by simp; omega)
    rw [HD.out]
    go_enter Try.func36, Try.ntmps36
    go_wp2
    go_ret
    exact ⟨rfl, b0.out _⟩
set_option maxRecDepth 100000 in
set_option maxHeartbeats 2000000 in
theorem right_none (k f : Int) (s : ByteArray) (a : Option Addr) (n c d : Nat) (w : World) (h1 : k ≠ 1) (h2 : k ≠ 2) (h3 : k ≠ 3) (h4 : k ≠ 4) (h5 : k ≠ 5) (h6 : k ≠ 6) (h7 : k ≠ 7) :
    Calls Try.prog 36 #[.agg (dv k f s (.slice a n c)), .int .i64 (d : Int)] w fun e w' => e = .returned (.bool false) ∧ Below w.heap.size w w' := by
  have b0 : Hid (∀ o, Below w.heap.size w (w.alloc o)) := Lib.hid fun o => (Below.refl _ _).alloc (Nat.le_refl _) o
  have t1 : (k == 1) = false := by simpa using h1
  have t2 : (k == 2) = false := by simpa using h2
  have t3 : (k == 3) = false := by simpa using h3
  have t4 : (k == 4) = false := by simpa using h4
  have t5 : (k == 5) = false := by simpa using h5
  have t6 : (k == 6) = false := by simpa using h6
  have t7 : (k == 7) = false := by simpa using h7
  unfold dv
  go_enter Try.func36, Try.ntmps36
  go_wp2
  go_ret
  exact ⟨rfl, b0.out _⟩
set_option maxRecDepth 100000 in
set_option maxHeartbeats 4000000 in
theorem right_leaf (k f : Int) (s : ByteArray) (a : Option Addr) (n c d : Nat) (w : World) (hk : k = 2 ∨ k = 3 ∨ k = 4) :
    Calls Try.prog 36 #[.agg (dv k f s (.slice a n c)), .int .i64 (d : Int)] w fun e w' => e = .returned (.bool (decide (s = ⟨#[]⟩ ∧ f = 0) && decide (n = 0))) ∧ Below w.heap.size w w' := by
  have H := Lib.hid (fun W => hasntg_any k f s a n c W)
  generalize decide (s = ⟨#[]⟩ ∧ f = 0) = t at H ⊢
  unfold dv at H ⊢
  cases t with
  | false =>
    rcases hk with rfl | rfl | rfl
    all_goals (
      go_enter Try.func36, Try.ntmps36
      go_wp2_with fail
      refine (H.out _).mono ?_
      rintro e w1 ⟨rfl, hb1⟩
      obtain ⟨g0, g1, g2, g3, hb⟩ := keep4 hb1
      clear hb1
      go_wp2
      go_ret
      exact ⟨rfl, hb⟩)
  | true =>
    rcases Nat.eq_zero_or_pos n with rfl | h0
    · rcases hk with rfl | rfl | rfl
      all_goals (
        go_enter Try.func36, Try.ntmps36
        go_wp2_with fail
        refine (H.out _).mono ?_
        rintro e w1 ⟨rfl, hb1⟩
        obtain ⟨g0, g1, g2, g3, hb⟩ := keep4 hb1
        clear hb1
        go_wp2
        go_ret
        exact ⟨rfl, hb⟩)
    · have t1 : ((n : Int) == 0) = false := by simp; omega
      have HD := Lib.hid (show (true && decide (n = 0)) = false by simp; omega)
      rw [HD.out]
      rcases hk with rfl | rfl | rfl
      all_goals (
        go_enter Try.func36, Try.ntmps36
        go_wp2_with fail
        refine (H.out _).mono ?_
        rintro e w1 ⟨rfl, hb1⟩
        obtain ⟨g0, g1, g2, g3, hb⟩ := keep4 hb1
        clear hb1
        go_wp2
        go_ret
        exact ⟨rfl, hb⟩)
set_option maxRecDepth 100000 in
set_option maxHeartbeats 4000000 in
theorem right_node (k f : Int) (s : ByteArray) (a : Option Addr) (n c d : Nat) (hd : d ≤ 1000) (ans : Bool) (w : World) (hk : k = 5 ∨ k = 6 ∨ k = 7)
    (RK0 : ∀ W, 0 < d → Below w.heap.size w W → Calls Try.prog 46 #[.agg (dv k f s (.slice a n c)), .int .i64 ((d : Int) - 1)] W fun e w' => e = .returned (.bool ans) ∧ Below W.heap.size W w') :
    Calls Try.prog 36 #[.agg (dv k f s (.slice a n c)), .int .i64 (d : Int)] w fun e w' => e = .returned (.bool (decide (s = ⟨#[]⟩ ∧ f = 0) && decide (0 < d) && ans)) ∧ Below w.heap.size w w' := by
  have H := Lib.hid (fun W => hasntg_any k f s a n c W)
  generalize decide (s = ⟨#[]⟩ ∧ f = 0) = t at H ⊢
  have RK := Lib.hid RK0
  clear RK0
  unfold dv at H RK ⊢
  cases t with
  | false =>
    rcases hk with rfl | rfl | rfl
    all_goals (
      go_enter Try.func36, Try.ntmps36
      go_wp2_with fail
      refine (H.out _).mono ?_
      rintro e w1 ⟨rfl, hb1⟩
      obtain ⟨g0, g1, g2, g3, hb⟩ := keep4 hb1
      clear hb1
      go_wp2
      go_ret
      exact ⟨rfl, hb⟩)
  | true =>
    rcases Nat.eq_zero_or_pos d with rfl | h0
    · rcases hk with rfl | rfl | rfl
      all_goals (
        go_enter Try.func36, Try.ntmps36
        go_wp2_with fail
        refine (H.out _).mono ?_
        rintro e w1 ⟨rfl, hb1⟩
        obtain ⟨g0, g1, g2, g3, hb⟩ := keep4 hb1
        clear hb1
        go_wp2
        go_ret
        exact ⟨rfl, hb⟩)
    · have RK1 := Lib.hid (fun W => RK.out W h0)
      have d0 : (0 : Int) < d := by omega
      rw [show (true && decide (0 < d) && ans) = ans by simp [h0]]
      clear RK
      rcases hk with rfl | rfl | rfl
      all_goals (
        go_enter Try.func36, Try.ntmps36
        go_wp2_with fail
        refine (H.out _).mono ?_
        rintro e w1 ⟨rfl, hb1⟩
        obtain ⟨g0, g1, g2, g3, hb⟩ := keep4 hb1
        clear hb1
        go_wp2_with fail
        refine (RK1.out _ hb).mono ?_
        rintro e w2 ⟨rfl, hb2⟩
        have d2 := hb.trans (hb2.mono hb.size)
        go_wp2
        go_ret
        exact ⟨rfl, d2⟩)
theorem rc_one (k f : Int) (s : ByteArray) (kids : Fo) (RC0 : ∀ j k f s kids', kids.at? j = some (k, f, s, kids') → RC k f s kids') : RC k f s kids := by
  intro d w v hd hv
  obtain ⟨a, c, rfl⟩ := hv.slice
  rw [rightD_is]
  by_cases h1 : k = 1
  · subst h1
    rw [if_pos rfl]
    exact right_text f s a _ c d w
  rw [if_neg h1]
  by_cases h2 : k = 2 ∨ k = 3 ∨ k = 4
  · rw [if_pos h2]
    exact right_leaf k f s a _ c d w h2
  rw [if_neg h2]
  by_cases h5 : k = 5 ∨ k = 6 ∨ k = 7
  · rw [if_pos h5]
    refine right_node k f s a _ c d hd _ w h5 fun W h0 hW => ?_
    have hll : kids.len ≤ maxLen := by obtain ⟨_, _, _, h1, h2, _⟩ := hv; exact Nat.le_trans h1 h2
    have e1 : (d : Int) - 1 = ((d - 1 : Nat) : Int) := by omega
    rw [e1]
    exact rightks_any k f s kids RC0 (d - 1) (by omega) _ W (hv.keep hW) hll
  · rw [if_neg h5]
    exact right_none k f s a _ c d w h1 (by omega) (by omega) (by omega) (by omega) (by omega) (by omega)
theorem rc_list (L : Fo) : ∀ j k f s kids, L.at? j = some (k, f, s, kids) → RC k f s kids := by
  induction L with
  | nil => intro j k f s kids h; simp [Fo.at?] at h
  | cons k0 f0 s0 kids0 rest ih1 ih2 =>
    intro j k f s kids h
    cases j with
    | zero =>
      simp only [Fo.at?, Option.some.injEq, Prod.mk.injEq] at h
      obtain ⟨rfl, rfl, rfl, rfl⟩ := h
      exact rc_one k0 f0 s0 kids0 ih1
    | succ j => exact ih2 j k f s kids h
/-- doc.right of any document. -/
theorem rc_any (k f : Int) (s : ByteArray) (kids : Fo) : RC k f s kids := rc_one k f s kids (rc_list kids)
end Go.Proofs.Ytehofomfblfhaaa
