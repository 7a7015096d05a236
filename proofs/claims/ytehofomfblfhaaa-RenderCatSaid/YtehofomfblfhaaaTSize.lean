/- Documents of any shape: chapter 10's own size and Few. -/
import Derived.Test.YtehofomfblfhaaaMgWC
import Derived.Deep.DeepCutAuto
namespace Go.Proofs.Ytehofomfblfhaaa
open Go.RowKit
set_option linter.unusedVariables false
set_option linter.unusedSimpArgs false

/-- What is counted, from a number on. -/
def sizeFo : Fo → Nat → Nat → Nat
  | .nil, _, n => n
  | .cons _ _ s kids rest, deep, n => if n < 1000 then sizeFo rest deep (n + (if 250 < deep + 1 ∨ 100 < s.size then 1000 else sizeFo kids (deep + 1) 1)) else n
def sizeD (s : ByteArray) (kids : Fo) (deep : Nat) : Nat := if 250 < deep ∨ 100 < s.size then 1000 else sizeFo kids deep 1
theorem sizeFo_cons (k f : Int) (s : ByteArray) (kids rest : Fo) (deep n : Nat) : sizeFo (.cons k f s kids rest) deep n = if n < 1000 then sizeFo rest deep (n + sizeD s kids (deep + 1)) else n := rfl
theorem sizeFo_le (L : Fo) : ∀ deep n, deep ≤ 250 → sizeFo L deep n ≤ max n (999 + 1000 * (252 - (deep + 1))) := by
  induction L with
  | nil => intro deep n _; exact Nat.le_max_left _ _
  | cons k f s kids rest ih1 ih2 =>
    intro deep n hd
    have hk : sizeD s kids (deep + 1) ≤ 1000 * (252 - (deep + 1)) := by
      unfold sizeD
      split
      · omega
      · have := ih1 (deep + 1) 1 (by omega)
        omega
    rw [sizeFo_cons]
    split
    · have := ih2 deep (n + sizeD s kids (deep + 1)) hd
      omega
    · exact Nat.le_max_left _ _
theorem sizeD_le (s : ByteArray) (kids : Fo) (deep : Nat) (h : deep ≤ 251) : sizeD s kids deep ≤ 1000000 := by
  unfold sizeD
  split
  · omega
  · have := sizeFo_le kids deep 1 (by omega)
    omega
theorem sizeFo_ge (L : Fo) : ∀ deep n, n ≤ sizeFo L deep n := by
  induction L with
  | nil => intro deep n; exact Nat.le_refl _
  | cons k f s kids rest _ ih2 =>
    intro deep n
    rw [sizeFo_cons]
    split
    · exact Nat.le_trans (Nat.le_add_right _ _) (ih2 deep _)
    · exact Nat.le_refl _
theorem sizeFo_few (L : Fo) : ∀ deep n, sizeFo L deep n ≤ 300 → n + FoN L = sizeFo L deep n ∧ FoSz L ≤ 101 * FoN L := by
  induction L with
  | nil => intro deep n _; exact ⟨rfl, Nat.le_refl _⟩
  | cons k f s kids rest ih1 ih2 =>
    intro deep n h
    rw [sizeFo_cons] at h ⊢
    by_cases hn : n < 1000
    · rw [if_pos hn] at h ⊢
      have hg := sizeFo_ge rest deep (n + sizeD s kids (deep + 1))
      obtain ⟨e1, e2⟩ := ih2 deep _ h
      have hs : sizeD s kids (deep + 1) ≤ 300 := by omega
      unfold sizeD at hs e1 ⊢
      split at hs
      · omega
      · rename_i hc
        obtain ⟨e3, e4⟩ := ih1 (deep + 1) 1 hs
        rw [if_neg hc] at e1 ⊢
        simp only [FoN, FoSz]
        exact ⟨by omega, by omega⟩
    · rw [if_neg hn] at h; omega
/-- A document that is few. -/
theorem few_small {s : ByteArray} {kids : Fo} (h : sizeD s kids 0 ≤ 300) : FoN kids ≤ 299 ∧ s.size + 1 + FoSz kids ≤ 30300 ∧ s.size ≤ 100 := by
  unfold sizeD at h
  split at h
  · omega
  · obtain ⟨e1, e2⟩ := sizeFo_few kids 0 1 h
    omega
def SZ (k f : Int) (s : ByteArray) (kids : Fo) : Prop :=
  ∀ (deep : Nat) (w : World) (v : Value), deep ≤ 251 → FoS w v kids → Calls Try.prog 23 #[.agg (dv k f s v), .int .i64 (deep : Int)] w fun e w' => e = .returned (.int .i64 (sizeD s kids deep : Nat)) ∧ Below w.heap.size w w'
set_option maxRecDepth 100000 in
set_option maxHeartbeats 2000000 in
theorem sz_big (k f : Int) (s : ByteArray) (a : Option Addr) (n c deep : Nat) (w : World) (h : 250 < deep ∨ 100 < s.size) :
    Calls Try.prog 23 #[.agg (dv k f s (.slice a n c)), .int .i64 (deep : Int)] w fun e w' => e = .returned (.int .i64 1000) ∧ Below w.heap.size w w' := by
  have b0 : Hid (∀ o, Below w.heap.size w (w.alloc o)) := Lib.hid fun o => (Below.refl _ _).alloc (Nat.le_refl _) o
  unfold dv
  by_cases h1 : 250 < deep
  · have h2 : (250 : Int) < deep := by omega
    clear h h1
    go_enter Try.func23, Try.ntmps23
    go_wp2
    go_ret
    exact ⟨rfl, b0.out _⟩
  · have h2 : ¬ (250 : Int) < deep := by omega
    have h3 : (100 : Int) < s.size := by omega
    clear h h1
    go_enter Try.func23, Try.ntmps23
    go_wp2
    go_ret
    exact ⟨rfl, b0.out _⟩
/-- On the way through a list. -/
def SzW (L R : Fo) (deep j n : Nat) : Prop := R.len + j = L.len ∧ (∀ i, R.at? i = L.at? (j + i)) ∧ sizeFo R deep n = sizeFo L deep 1
set_option maxRecDepth 100000 in
set_option maxHeartbeats 4000000 in
theorem sz_node (k f : Int) (S : ByteArray) (L : Fo) (SZ0 : ∀ j k f s kids, L.at? j = some (k, f, s, kids) → SZ k f s kids) (deep : Nat) (hd : deep ≤ 250) (hs : S.size ≤ 100) (v : Value) (w : World) (hv : FoS w v L) :
    Calls Try.prog 23 #[.agg (dv k f S v), .int .i64 (deep : Int)] w fun e w' => e = .returned (.int .i64 (sizeFo L deep 1 : Nat)) ∧ Below w.heap.size w w' := by
  obtain ⟨a, cap, rfl, h1, h2, h3, h4⟩ := hv
  obtain ⟨n, hn⟩ : ∃ n, L.len = n := ⟨_, rfl⟩
  have hll : n ≤ maxLen := by rw [← hn]; exact Nat.le_trans h1 h2
  have HR := Lib.hid (fun j k f s kids (h : L.at? j = some (k, f, s, kids)) W v hv => SZ0 j k f s kids h (deep + 1) W v (by omega) hv)
  have HN := Lib.hid hn
  have HLE := Lib.hid (sizeFo_le L deep 1 hd)
  have FW0 := Lib.hid (show SzW L L deep 0 1 from ⟨by omega, fun i => by rw [Nat.zero_add], rfl⟩)
  rw [hn] at h4
  have H4 := Lib.hid h4
  unfold maxLen at hll
  rw [hn]
  have HKB := Lib.hid (fun s kids => sizeD_le s kids (deep + 1) (by omega))
  obtain ⟨T, hT⟩ : ∃ T, sizeFo L deep 1 = T := ⟨_, rfl⟩
  have HT := Lib.hid hT
  rw [hT] at HLE ⊢
  have b0 := Lib.hid ((Below.refl w.heap.size w).alloc (Nat.le_refl _) (.cells #[.int .i64 k, .int .i64 f, .string S, .slice a n cap] 24))
  obtain ⟨W1, hW1⟩ : ∃ W, w.alloc (.cells #[.int .i64 k, .int .i64 f, .string S, .slice a n cap] 24) = W := ⟨_, rfl⟩
  rw [hW1] at b0
  have c2 : W1.cell? ⟨w.heap.size, 2, none⟩ = some (.string S) := by rw [← hW1, World.cell?_alloc_at _ _ _ _ rfl]; rfl
  have c3 : W1.cell? ⟨w.heap.size, 3, none⟩ = some (.slice a n cap) := by rw [← hW1, World.cell?_alloc_at _ _ _ _ rfl]; rfl
  have z1 : w.heap.size < W1.heap.size := by rw [← hW1]; simp
  have HW1 := Lib.hid hW1
  have C3 := Lib.hid c3
  have d1 : ¬ (250 : Int) < deep := by omega
  have d2 : ¬ (100 : Int) < S.size := by omega
  have d3 : (0 : Int) ≤ deep := by omega
  have d4 : (deep : Int) ≤ 250 := by omega
  have d5 : Hid (((deep + 1 : Nat) : Int) = (deep : Int) + 1) := Lib.hid (by omega)
  clear hn SZ0 h3 h4 hW1 hT c3 hd hs h1 h2
  unfold dv
  go_enter Try.func23, Try.ntmps23
  go_upto_region 1 with fail
  rw [HW1.out]
  go_wp2
  go_loopw [5, 6] (fun nv iv wr => ∃ (j : Nat) (R : Fo) (m : Nat), iv = .int .i64 (j : Int) ∧ j ≤ n ∧ nv = .int .i64 (m : Int) ∧ m ≤ 10000000 ∧ SzW L R deep j m ∧ Below W1.heap.size W1 wr) (fun _ iv _ => n - (intOf iv).toNat)
  case atStart => exact ⟨0, L, 1, rfl, by omega, rfl, by omega, FW0.out, Below.refl _ _⟩
  case round =>
    obtain ⟨j, R, m, rfl, hj, rfl, hm, hfw, hb⟩ := hrel
    have HB := Lib.hid (b0.out.trans (hb.mono b0.out.size))
    have HBR := Lib.hid hb
    have c3r := (hb.cell (p := ⟨w.heap.size, 3, none⟩) z1).trans C3.out
    clear hb
    by_cases hlt : j < n
    · cases R with
      | nil => exfalso; have := hfw.1; have := HN.out; simp [Fo.len] at *; omega
      | cons x0 x1 X kids rest =>
        by_cases hm2 : m < 1000
        · have m0 : (m : Int) < 1000 := by omega
          have m1 : (0 : Int) ≤ m := by omega
          have hat : L.at? j = some (x0, x1, X, kids) := (hfw.2.1 0).symm
          obtain ⟨b, off, rfl, hbk, hfo⟩ := H4.out (by omega)
          obtain ⟨-, q0, q1, q2, u, q3, hu⟩ := foAt_get L b off j x0 x1 X kids hfo hat
          have R1 := Lib.hid (HR.out j x0 x1 X kids hat wr u (hu.keep HB.out))
          obtain ⟨ua, ucap, hus⟩ := hu.slice
          obtain ⟨un, hun⟩ : ∃ m, kids.len = m := ⟨_, rfl⟩
          rw [hun] at hus
          subst hus
          have g0 := (HB.out.cell (p := ⟨b, off + j * 4, none⟩) hbk).trans q0
          have g1 := (HB.out.cell (p := ⟨b, off + j * 4 + 1, none⟩) hbk).trans q1
          have g2 := (HB.out.cell (p := ⟨b, off + j * 4 + 2, none⟩) hbk).trans q2
          have g3 := (HB.out.cell (p := ⟨b, off + j * 4 + 3, none⟩) hbk).trans q3
          have j0 : (0 : Int) ≤ j := by omega
          have j1 : (j : Int) < n := by omega
          have hsz := HKB.out X kids
          have FW2 : Hid (SzW L rest deep (j + 1) (m + sizeD X kids (deep + 1))) := Lib.hid ⟨by have := hfw.1; simp only [Fo.len] at this; omega, fun i => by
            have := hfw.2.1 (i + 1)
            rw [show j + (i + 1) = j + 1 + i by omega] at this
            exact this, by have := hfw.2.2; rw [sizeFo_cons, if_pos hm2] at this; exact this⟩
          unfold dv at R1
          rw [d5.out] at R1
          obtain ⟨r, hr⟩ : ∃ x, sizeD X kids (deep + 1) = x := ⟨_, rfl⟩
          rw [hr] at R1 FW2 hsz
          have r0 : (0 : Int) ≤ r := by omega
          have r1 : (r : Int) ≤ 1000000 := by omega
          clear q0 q1 q2 q3 hat hfo hu hun hfw hr hsz
          as_aux_lemma =>
            go_wp2_with fail
            refine (R1.out).mono ?_
            rintro e w2 ⟨rfl, hb2⟩
            have e2 := HBR.out.trans (hb2.mono HBR.out.size)
            clear hb2
            go_wp2
            go_roundw
            case rel => exact ⟨j + 1, rest, m + r, by go_num, by omega, by go_num, by omega, FW2.out, e2⟩
            case measure => simp [intOf]; omega
        · have m0 : ¬ (m : Int) < 1000 := by omega
          have hfin : m = T := by have := hfw.2.2; rw [sizeFo_cons, if_neg hm2] at this; rw [this]; exact HT.out
          subst hfin
          have j1 : (j : Int) < n := by omega
          clear hfw
          as_aux_lemma =>
            go_wp2
            go_ret
            exact ⟨rfl, HB.out⟩
    · obtain rfl : j = n := by omega
      have t1 : decide ((j : Int) < j) = false := by simp
      have hnil : R = .nil := by
        have h1 := hfw.1
        have h2 := HN.out
        cases R with
        | nil => rfl
        | cons _ _ _ _ _ => simp [Fo.len] at h1; omega
      subst hnil
      have hfin : m = T := by have := hfw.2.2; simp only [sizeFo] at this; rw [this]; exact HT.out
      subst hfin
      clear hlt hfw
      as_aux_lemma =>
        go_wp2
        go_ret
        exact ⟨rfl, HB.out⟩
theorem sz_one (k f : Int) (s : ByteArray) (kids : Fo) (SZ0 : ∀ j k f s kids', kids.at? j = some (k, f, s, kids') → SZ k f s kids') : SZ k f s kids := by
  intro deep w v hd hv
  have hv' := hv
  obtain ⟨a, c, rfl⟩ := hv.slice
  unfold sizeD
  by_cases h : 250 < deep ∨ 100 < s.size
  · rw [if_pos h]
    exact sz_big k f s a _ c deep w h
  · rw [if_neg h]
    exact sz_node k f s kids SZ0 deep (by omega) (by omega) _ w hv'
theorem sz_list (L : Fo) : ∀ j k f s kids, L.at? j = some (k, f, s, kids) → SZ k f s kids := by
  induction L with
  | nil => intro j k f s kids h; simp [Fo.at?] at h
  | cons k0 f0 s0 kids0 rest ih1 ih2 =>
    intro j k f s kids h
    cases j with
    | zero =>
      simp only [Fo.at?, Option.some.injEq, Prod.mk.injEq] at h
      obtain ⟨rfl, rfl, rfl, rfl⟩ := h
      exact sz_one k0 f0 s0 kids0 ih1
    | succ j => exact ih2 j k f s kids h
theorem sz_any (k f : Int) (s : ByteArray) (kids : Fo) : SZ k f s kids := sz_one k f s kids (sz_list kids)
set_option maxRecDepth 100000 in
set_option maxHeartbeats 2000000 in
theorem few_any (k f : Int) (s : ByteArray) (kids : Fo) (v : Value) (w : World) (hv : FoS w v kids) :
    Calls Try.prog 11 #[.agg (dv k f s v)] w fun e w' => e = .returned (.bool (decide (sizeD s kids 0 ≤ 300))) ∧ Below w.heap.size w w' := by
  have hv' := hv
  obtain ⟨a, c, rfl⟩ := hv.slice
  have b0 := Lib.hid ((Below.refl w.heap.size w).alloc (Nat.le_refl _) (.cells #[.int .i64 k, .int .i64 f, .string s, .slice a kids.len c] 24))
  have R := Lib.hid (sz_any k f s kids 0 _ _ (by decide) (hv'.keep b0.out))
  obtain ⟨n, hn⟩ : ∃ n, kids.len = n := ⟨_, rfl⟩
  rw [hn] at R b0 ⊢
  generalize sizeD s kids 0 = m at R ⊢
  have HD := Lib.hid (show decide (m ≤ 300) = decide ((m : Int) ≤ 300) by apply decide_eq_decide.2; omega)
  rw [HD.out]
  clear hv hv' hn
  unfold dv at R ⊢
  go_enter Try.func11, Try.ntmps11
  go_wp2_with fail
  refine (R.out).mono ?_
  rintro e w1 ⟨rfl, hb1⟩
  have hfin := b0.out.trans (hb1.mono b0.out.size)
  clear hb1
  go_wp2
  go_ret
  exact ⟨rfl, hfin⟩
end Go.Proofs.Ytehofomfblfhaaa
