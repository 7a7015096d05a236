/- Layouts: the page's own blanks, Cap and behind. -/
import Derived.Test.YtehofomfblfhaaaYKids
import Derived.Test.YtehofomfblfhaaaTWide2
namespace Go.Proofs.Ytehofomfblfhaaa
open Go.RowKit
set_option linter.unusedVariables false
set_option linter.unusedSimpArgs false

theorem blank_add (i : Nat) : bytes (List.replicate i 32) ++ (⟨#[32]⟩ : ByteArray) = bytes (List.replicate (i + 1) 32) := by
  rw [show (⟨#[32]⟩ : ByteArray) = bytes [32] from rfl, bytes_addT, List.replicate_succ']
set_option maxRecDepth 100000 in
set_option maxHeartbeats 2000000 in
theorem blanks_any (n : Nat) (w : World) (hn : n ≤ 100000) :
    Calls Try.prog 28 #[.int .i64 (n : Int)] w fun e w' => e = .returned (.string (bytes (List.replicate n 32))) ∧ w = w' := by
  go_enter Try.func28, Try.ntmps28
  go_wp2
  go_loopw [3, 4] (fun sv iv wr => ∃ i : Nat, iv = .int .i64 (i : Int) ∧ i ≤ n ∧ sv = .string (bytes (List.replicate i 32)) ∧ w = wr) (fun _ iv _ => n - (intOf iv).toNat)
  case atStart => exact ⟨0, rfl, by omega, rfl, rfl⟩
  case round =>
    obtain ⟨i, rfl, hi, rfl, rfl⟩ := hrel
    by_cases hlt : i < n
    · have PA := fun W => run_string_add_sum (P := Try.prog) W (bytes (List.replicate i 32)) ⟨#[32]⟩ (by rw [bytes_size]; simp; have : (⟨#[32]⟩ : ByteArray).size = 1 := rfl; omega)
      have HA := Lib.hid (blank_add i)
      obtain ⟨A0, hA0⟩ : ∃ A, bytes (List.replicate i 32) = A := ⟨_, rfl⟩
      rw [hA0] at PA HA
      rw [hA0]
      have i0 : (i : Int) < n := by omega
      clear hA0
      go_wp2
      go_roundw
      case rel => exact ⟨i + 1, by go_num, by omega, by rw [HA.out], by first | rfl | trivial⟩
      case measure => simp [intOf]; omega
    · obtain rfl : i = n := by omega
      have t1 : decide ((i : Int) < i) = false := by simp
      clear hlt
      go_wp2
      go_ret
      exact ⟨rfl, by first | rfl | trivial⟩
def capZ (n a b : Int) : Int := if n < a then a else if b < n then b else n
set_option maxRecDepth 100000 in
set_option maxHeartbeats 1000000 in
theorem cap_any (n a b : Int) (w : World) : Calls Try.prog 27 #[.int .i64 n, .int .i64 a, .int .i64 b] w fun e w' => e = .returned (.int .i64 (capZ n a b)) ∧ w = w' := by
  have HC := Lib.hid (show capZ n a b = if n < a then a else if b < n then b else n from rfl)
  by_cases h1 : n < a
  · rw [HC.out, if_pos h1]
    go_enter Try.func27, Try.ntmps27
    go_wp2
    go_ret
    exact ⟨rfl, rfl⟩
  · rw [HC.out, if_neg h1]
    by_cases h2 : b < n
    · rw [if_pos h2]
      go_enter Try.func27, Try.ntmps27
      go_wp2
      go_ret
      exact ⟨rfl, rfl⟩
    · rw [if_neg h2]
      go_enter Try.func27, Try.ntmps27
      go_wp2
      go_ret
      exact ⟨rfl, rfl⟩
theorem wd_le (s : ByteArray) : wd s ≤ s.size := Lib.runeCount_le s
theorem lbF_le (L : Fo) : (lbF L).1 ≤ FoSz L := by
  induction L with
  | nil => exact Nat.le_refl _
  | cons k f s kids rest ih1 ih2 =>
    have h : (lbD k s kids).1 ≤ s.size + 1 + FoSz kids := by
      have := wd_le s
      unfold lbD
      split
      · simp only; omega
      · split
        · simp only; omega
        · omega
    rw [lbF_cons]
    simp only [FoSz]
    unfold comb
    split
    · omega
    · simp only; omega
theorem lbD_le (k : Int) (s : ByteArray) (kids : Fo) : (lbD k s kids).1 ≤ s.size + 1 + FoSz kids := by
  have := wd_le s
  have := lbF_le kids
  unfold lbD
  split
  · simp only; omega
  · split
    · simp only; omega
    · omega
theorem items_len (lv : Nat) (fl : Bool) (L : Fo) : (items lv fl L).length = L.len := by
  induction L with
  | nil => rfl
  | cons k f s kids rest _ ih => simp only [items, List.length_cons, ih, Fo.len]
theorem items_at (lv : Nat) (fl : Bool) (L : Fo) : ∀ j k f s kids, L.at? j = some (k, f, s, kids) → (items lv fl L)[j]? = some ⟨k, f, s, kids, lv, fl⟩ := by
  induction L with
  | nil => intro j k f s kids h; simp [Fo.at?] at h
  | cons k0 f0 s0 kids0 rest _ ih =>
    intro j k f s kids h
    cases j with
    | zero =>
      simp only [Fo.at?, Option.some.injEq, Prod.mk.injEq] at h
      obtain ⟨rfl, rfl, rfl, rfl⟩ := h
      rfl
    | succ j =>
      rw [items_append, List.getElem?_cons_succ]
      exact ih j k f s kids h
/-- An item of a row in memory, cell by cell. -/
theorem row_get {w : World} {u : Value} {R : List (It × Value)} (h : Vs 6 w u (R.map ic)) {n : Nat} (hn : R.length = n) : ∃ a cap, u = .slice a n cap ∧ n ≤ cap ∧ cap ≤ maxLen ∧ ∀ j (hj : j < R.length), ∃ b off, a = some ⟨b, off, none⟩ ∧ b < w.heap.size ∧
    w.cell? ⟨b, off + j * 6, none⟩ = some (.int .i64 (R[j]).1.k) ∧ w.cell? ⟨b, off + j * 6 + 1, none⟩ = some (.int .i64 (R[j]).1.f) ∧ w.cell? ⟨b, off + j * 6 + 2, none⟩ = some (.string (R[j]).1.s) ∧ w.cell? ⟨b, off + j * 6 + 3, none⟩ = some (R[j]).2 ∧ w.cell? ⟨b, off + j * 6 + 4, none⟩ = some (.int .i64 ((R[j]).1.lv : Int)) ∧ w.cell? ⟨b, off + j * 6 + 5, none⟩ = some (.bool (R[j]).1.fl) := by
  obtain ⟨a, cap, rfl, h1, h2, h3⟩ := h
  rw [List.length_map] at h1 ⊢
  subst hn
  refine ⟨a, cap, rfl, h1, h2, fun j hj => ?_⟩
  obtain ⟨b, off, rfl, hb, hc⟩ := h3 (by rw [List.length_map]; omega)
  have hk := hc j (by simpa using hj)
  refine ⟨b, off, rfl, hb, ?_, ?_, ?_, ?_, ?_, ?_⟩
  · have := hk 0 (.int .i64 (R[j]).1.k) (by simp [ic]); rwa [Nat.add_zero] at this
  · have := hk 1 (.int .i64 (R[j]).1.f) (by simp [ic]); rwa [← Nat.add_assoc] at this
  · have := hk 2 (.string (R[j]).1.s) (by simp [ic]); rwa [← Nat.add_assoc] at this
  · have := hk 3 ((R[j]).2) (by simp [ic]); rwa [← Nat.add_assoc] at this
  · have := hk 4 (.int .i64 ((R[j]).1.lv : Int)) (by simp [ic]); rwa [← Nat.add_assoc] at this
  · have := hk 5 (.bool (R[j]).1.fl) (by simp [ic]); rwa [← Nat.add_assoc] at this
theorem six_of {w w1 : World} {c0 c1 c2 c3 c4 c5 : Value} {T : TypeId} (h : Below (w.alloc (.cells #[c0, c1, c2, c3, c4, c5] T)).heap.size (w.alloc (.cells #[c0, c1, c2, c3, c4, c5] T)) w1) :
    w1.cell? ⟨w.heap.size, 0, none⟩ = some c0 ∧ w1.cell? ⟨w.heap.size, 1, none⟩ = some c1 ∧ w1.cell? ⟨w.heap.size, 2, none⟩ = some c2 ∧ w1.cell? ⟨w.heap.size, 3, none⟩ = some c3 ∧ w1.cell? ⟨w.heap.size, 4, none⟩ = some c4 ∧ w1.cell? ⟨w.heap.size, 5, none⟩ = some c5 ∧ Below w.heap.size w w1 := by
  have hc : ∀ j, w1.cell? ⟨w.heap.size, j, none⟩ = (w.alloc (.cells #[c0, c1, c2, c3, c4, c5] T)).cell? ⟨w.heap.size, j, none⟩ := fun j => h.cell (p := ⟨w.heap.size, j, none⟩) (by simp)
  refine ⟨?_, ?_, ?_, ?_, ?_, ?_, ((Below.refl _ _).alloc (Nat.le_refl _) _).trans (h.mono (by simp))⟩
  all_goals (rw [hc, World.cell?_alloc_at _ _ _ _ rfl]; rfl)
theorem fo_at_small (L : Fo) : ∀ j k f s kids, L.at? j = some (k, f, s, kids) → s.size + 1 + FoSz kids ≤ FoSz L ∧ 1 + FoN kids ≤ FoN L := by
  induction L with
  | nil => intro j k f s kids h; simp [Fo.at?] at h
  | cons k0 f0 s0 kids0 rest _ ih =>
    intro j k f s kids h
    simp only [FoSz, FoN]
    cases j with
    | zero =>
      simp only [Fo.at?, Option.some.injEq, Prod.mk.injEq] at h
      obtain ⟨rfl, rfl, rfl, rfl⟩ := h
      omega
    | succ j =>
      have := ih j k f s kids h
      omega
/-- What the page's behind gives. -/
def BH (k f : Int) (s : ByteArray) (kids : Fo) : Prop :=
  ∀ (w : World) (v : Value) (lv d : Nat) (fl : Bool), lv + d ≤ 100000 → FoS w v kids → rightD k f s kids d = true → s.size + 1 + FoSz kids ≤ 1000000 → FoN kids ≤ 100000 →
    Calls Try.prog 30 #[.agg (iv k f s v (lv : Int) fl)] w fun e w' => e = .returned (.tuple #[.int .i64 ((behindI ⟨k, f, s, kids, lv, fl⟩).1 : Int), .bool (behindI ⟨k, f, s, kids, lv, fl⟩).2]) ∧ Below w.heap.size w w'
theorem ftx_ways (k : Int) (s : ByteArray) (kids : Fo) : ∃ (t : List UInt8) (ok : Bool), flatG (flatD k s kids) = .tuple #[.string (bytes t), .bool ok] ∧ ftx k s kids = bytes t ∧ ok = (flatD k s kids).2 ∧ t.length ≤ s.size + 1 + FoSz kids := by
  unfold flatG ftx
  have h := flatD_len k s kids
  by_cases hc : (flatD k s kids).2 = true
  · rw [if_pos hc, if_pos hc]
    exact ⟨_, true, rfl, rfl, hc.symm, h⟩
  · rw [if_neg hc, if_neg hc]
    exact ⟨[], false, rfl, rfl, by simpa using hc, Nat.zero_le _⟩
set_option maxRecDepth 100000 in
set_option maxHeartbeats 4000000 in
theorem bh_flat (k f : Int) (s : ByteArray) (kids : Fo) (w : World) (v : Value) (lv d : Nat) (hv : FoS w v kids) (hr : rightD k f s kids d = true) (hsz : s.size + 1 + FoSz kids ≤ 1000000) :
    Calls Try.prog 30 #[.agg (iv k f s v (lv : Int) true)] w fun e w' => e = .returned (.tuple #[.int .i64 (wd (ftx k s kids) : Int), .bool false]) ∧ Below w.heap.size w w' := by
  have FL := Lib.hid (fun W (h : Below w.heap.size w W) => rfl_any k f s kids d W v (hv.keep h) hr (by omega))
  obtain ⟨t, ok, e1, e2, -, e3⟩ := ftx_ways k s kids
  have WR := Lib.hid (fun W => refwide_any t (wd (bytes t)) W (by omega) rfl)
  rw [e1] at FL
  rw [e2]
  obtain ⟨a, c, rfl⟩ := hv.slice
  obtain ⟨n, hn⟩ : ∃ m, kids.len = m := ⟨_, rfl⟩
  rw [hn] at FL ⊢
  have b0 := Lib.hid ((Below.refl w.heap.size w).alloc (Nat.le_refl _) (.cells #[.int .i64 k, .int .i64 f, .string s, .slice a n c, .int .i64 (lv : Int), .bool true] 62))
  obtain ⟨B, hB⟩ : ∃ B, bytes t = B := ⟨_, rfl⟩
  rw [hB] at FL WR ⊢
  generalize wd B = N at WR ⊢
  obtain ⟨LV, hLV⟩ : ∃ x : Int, (lv : Int) = x := ⟨_, rfl⟩
  rw [hLV] at b0 ⊢
  unfold dv at FL
  unfold iv
  clear hv hr hsz e1 e2 e3 hn hB hLV
  go_enter Try.func30, Try.ntmps30
  go_wp2_with fail
  refine (FL.out _ b0.out).mono ?_
  rintro e w1 ⟨rfl, hb1⟩
  obtain ⟨-, -, -, -, -, -, d1⟩ := six_of hb1
  clear hb1
  go_wp2_with fail
  refine (WR.out _).mono ?_
  rintro e w2 ⟨rfl, hb2⟩
  have d2 := d1.trans (hb2.mono d1.size)
  clear hb2 d1
  go_wp2
  go_ret2
  exact ⟨rfl, d2⟩
set_option maxRecDepth 100000 in
set_option maxHeartbeats 4000000 in
theorem bh_leaf (k f : Int) (s : ByteArray) (a : Option Addr) (n c : Nat) (w : World) (lv : Int) (hs : s.size ≤ 1000000) (hk : k = 1 ∨ k = 2 ∨ k = 3 ∨ k = 4) (r : Nat × Bool) (hr : (if k = 1 then (wd s, false) else (0, true)) = r) :
    Calls Try.prog 30 #[.agg (iv k f s (.slice a n c) lv false)] w fun e w' => e = .returned (.tuple #[.int .i64 (r.1 : Int), .bool r.2]) ∧ Below w.heap.size w w' := by
  have b0 : Hid (∀ o, Below w.heap.size w (w.alloc o)) := Lib.hid fun o => (Below.refl _ _).alloc (Nat.le_refl _) o
  subst hr
  unfold iv
  rcases hk with rfl | rfl | rfl | rfl
  · have eS : bytes s.data.toList = s := by simp [bytes]
    have WR := Lib.hid (fun W => refwide_any s.data.toList (wd s) W (by have : s.data.toList.length = s.size := Array.length_toList; omega) (by rw [eS]; rfl))
    rw [eS] at WR
    have b1 := Lib.hid ((Below.refl w.heap.size w).alloc (Nat.le_refl _) (.cells #[.int .i64 1, .int .i64 f, .string s, .slice a n c, .int .i64 lv, .bool false] 62))
    simp only [if_true]
    generalize wd s = N at WR ⊢
    clear eS hs b0
    go_enter Try.func30, Try.ntmps30
    go_wp2_with fail
    refine (WR.out _).mono ?_
    rintro e w2 ⟨rfl, hb2⟩
    have d2 := b1.out.trans (hb2.mono b1.out.size)
    clear hb2
    go_wp2
    go_ret2
    exact ⟨rfl, d2⟩
  all_goals (
    go_enter Try.func30, Try.ntmps30
    go_wp2
    go_ret2
    exact ⟨rfl, b0.out _⟩)
/-- On the way through the kids. -/
def BhW (L rest : Fo) (lv : Nat) (j acc : Nat) : Prop := rest.len + j = L.len ∧ (∀ i, rest.at? i = L.at? (j + i)) ∧ comb (acc, false) (lbF rest) = lbF L
theorem BhW.go {L rest kids : Fo} {k f : Int} {s : ByteArray} {lv j acc : Nat} (h : BhW L (.cons k f s kids rest) lv j acc) : L.at? j = some (k, f, s, kids) ∧ ((lbD k s kids).2 = true → lbF L = (acc + (lbD k s kids).1, true)) ∧ ((lbD k s kids).2 = false → BhW L rest lv (j + 1) (acc + (lbD k s kids).1)) := by
  obtain ⟨h1, h2, h3⟩ := h
  simp only [Fo.len] at h1
  rw [lbF_cons] at h3
  refine ⟨(h2 0).symm, fun e => ?_, fun e => ⟨by omega, fun i => ?_, ?_⟩⟩
  · rw [← h3]
    unfold comb
    rw [e]
    simp [e]
  · have := h2 (i + 1)
    rw [show j + (i + 1) = j + 1 + i by omega] at this
    exact this
  · rw [← h3, ← comb_assoc]
    congr 1
    unfold comb
    simp [e]
set_option maxRecDepth 100000 in
set_option maxHeartbeats 8000000 in
theorem bh_node (k f : Int) (S : ByteArray) (L : Fo) (BH0 : ∀ j k f s kids, L.at? j = some (k, f, s, kids) → BH k f s kids) (w : World) (v : Value) (lv d : Nat) (hv : FoS w v L) (hlv : lv + d < 100000) (hr : rightF L d = true) (hsz : FoSz L ≤ 1000000) (hN : FoN L ≤ 100000) (hk : k = 5 ∨ k = 6 ∨ k = 7) :
    Calls Try.prog 30 #[.agg (iv k f S v (lv : Int) false)] w fun e w' => e = .returned (.tuple #[.int .i64 ((lbF L).1 : Int), .bool (lbF L).2]) ∧ Below w.heap.size w w' := by
  obtain ⟨lv', hlv', hle⟩ : ∃ lv', ((k = 7 ∧ lv' = lv + 1) ∨ (k ≠ 7 ∧ lv' = lv)) ∧ lv' ≤ lv + 1 := by
    by_cases h : k = 7
    · exact ⟨lv + 1, .inl ⟨h, rfl⟩, by omega⟩
    · exact ⟨lv, .inr ⟨h, rfl⟩, by omega⟩
  have KD := Lib.hid (fun W (h : Below w.heap.size w W) => kids_lv k f S L lv lv' false v W W (hv.keep h) (Below.refl _ _) hlv' (by omega) (Nat.le_trans (fo_len_n L) hN))
  have HR := Lib.hid (fun j k f s kids (h : L.at? j = some (k, f, s, kids)) W v hv hs hn => BH0 j k f s kids h W v lv' d false (by omega) hv (right_at L d hr j k f s kids h) hs hn)
  have HSB : Hid (∀ j k f s kids, L.at? j = some (k, f, s, kids) → s.size + 1 + FoSz kids ≤ 1000000 ∧ FoN kids ≤ 100000) := Lib.hid fun j k f s kids h => by
    have := fo_at_small L j k f s kids h
    omega
  obtain ⟨a, c, rfl⟩ := hv.slice
  obtain ⟨n, hn⟩ : ∃ m, L.len = m := ⟨_, rfl⟩
  have HN := Lib.hid hn
  have HLE := Lib.hid (Nat.le_trans (lbF_le L) hsz)
  have FW0 := Lib.hid (show BhW L L lv' 0 0 from ⟨by omega, fun i => by rw [Nat.zero_add], by obtain ⟨x, y⟩ := lbF L; simp [comb]⟩)
  have HIL := Lib.hid (items_len lv' false L)
  have HIA := Lib.hid (items_at lv' false L)
  rw [hn] at KD HIL ⊢
  have k1 : (k == 1) = false := by simp; omega
  have k2 : (k == 2) = false := by simp; omega
  have k3 : (k == 3) = false := by simp; omega
  have k4 : (k == 4) = false := by simp; omega
  have b0 := Lib.hid ((Below.refl w.heap.size w).alloc (Nat.le_refl _) (.cells #[.int .i64 k, .int .i64 f, .string S, .slice a n c, .int .i64 (lv : Int), .bool false] 62))
  obtain ⟨LV, hLV⟩ : ∃ x : Int, (lv : Int) = x := ⟨_, rfl⟩
  have HNN := Lib.hid (show n ≤ 100000 by have := fo_len_n L; omega)
  have nn0 : (0 : Int) ≤ n := by omega
  have nn1 : (n : Int) ≤ 100000 := by have := HNN.out; omega
  rw [hLV] at b0 KD ⊢
  obtain ⟨T, hT⟩ : ∃ T, lbF L = T := ⟨_, rfl⟩
  have HT := Lib.hid hT
  rw [hT] at HLE ⊢
  unfold iv at KD ⊢
  unfold KdP at KD
  clear hv hlv hr hsz hN hk hlv' hle hn hLV hT BH0
  go_enter Try.func30, Try.ntmps30
  go_wp2_with fail
  refine (KD.out _ b0.out).mono ?_
  rintro e w1 ⟨u, R, rfl, hRm, hki, ho, hb1⟩
  have HB1 := Lib.hid (b0.out.trans (hb1.mono b0.out.size))
  have hRl : R.length = n := by have := congrArg List.length hRm; rw [List.length_map, HIL.out] at this; exact this
  have HRM := Lib.hid hRm
  have HKI := Lib.hid (show KidsIn w1 R from hki.keep hb1)
  obtain ⟨ra, rc, rfl, r1, r2, r3⟩ := row_get (OwnV.vs ho) hRl
  have R3 := Lib.hid r3
  have HRL := Lib.hid hRl
  clear hb1 hRm hki ho r3 hRl
  unfold maxLen at r2
  go_wp2
  go_loopw [6, 8, 9, 10] (fun nv ivv _ _ wr => ∃ (j acc : Nat) (rest : Fo), ivv = .int .i64 (j : Int) ∧ j ≤ n ∧ nv = .int .i64 (acc : Int) ∧ acc ≤ 1000000 ∧ BhW L rest lv' j acc ∧ Below w1.heap.size w1 wr) (fun _ ivv _ _ _ => n - (intOf ivv).toNat)
  case atStart => exact ⟨0, 0, L, rfl, by omega, rfl, by omega, FW0.out, Below.refl _ _⟩
  case round =>
    obtain ⟨j, acc, rest, rfl, hj, rfl, hacc, hfw, hb⟩ := hrel
    have HBR := Lib.hid hb
    clear hb
    by_cases hlt : j < n
    · cases rest with
      | nil => exfalso; have := hfw.1; have := HN.out; simp [Fo.len] at *; omega
      | cons x0 x1 X kids rest2 =>
        obtain ⟨hat, g1, g2⟩ := hfw.go
        have hjR : j < R.length := by rw [HRL.out]; exact hlt
        obtain ⟨b, off, rfl, hbk, p0, p1, p2, p3, p4, p5⟩ := R3.out j hjR
        have hit := HIA.out j x0 x1 X kids hat
        have heq : (R[j]).1 = ⟨x0, x1, X, kids, lv', false⟩ := by
          have e1 : (R.map (·.1))[j]? = some (R[j]).1 := by simp [hjR]
          rw [HRM.out, hit] at e1
          exact (Option.some.inj e1).symm
        have hfo := HKI.out (R[j]) (List.getElem_mem hjR)
        obtain ⟨pu, hpu⟩ : ∃ x, (R[j]).2 = x := ⟨_, rfl⟩
        rw [heq] at p0 p1 p2 p4 p5 hfo
        rw [hpu] at p3 hfo
        simp only at p0 p1 p2 p4 p5 hfo
        obtain ⟨hs1, hs2⟩ := HSB.out j x0 x1 X kids hat
        have R1 := Lib.hid (HR.out j x0 x1 X kids hat wr pu (hfo.keep HBR.out) hs1 hs2)
        obtain ⟨ua, ucap, hus⟩ := hfo.slice
        obtain ⟨un, hun⟩ : ∃ m, kids.len = m := ⟨_, rfl⟩
        rw [hun] at hus
        subst hus
        have q0 := (HBR.out.cell (p := ⟨b, off + j * 6, none⟩) hbk).trans p0
        have q1 := (HBR.out.cell (p := ⟨b, off + j * 6 + 1, none⟩) hbk).trans p1
        have q2 := (HBR.out.cell (p := ⟨b, off + j * 6 + 2, none⟩) hbk).trans p2
        have q3 := (HBR.out.cell (p := ⟨b, off + j * 6 + 3, none⟩) hbk).trans p3
        have q4 := (HBR.out.cell (p := ⟨b, off + j * 6 + 4, none⟩) hbk).trans p4
        have q5 := (HBR.out.cell (p := ⟨b, off + j * 6 + 5, none⟩) hbk).trans p5
        have hble := lbD_le x0 X kids
        have eb : behindI ⟨x0, x1, X, kids, lv', false⟩ = lbD x0 X kids := rfl
        rw [eb] at R1
        obtain ⟨⟨m, en⟩, hme⟩ : ∃ x, lbD x0 X kids = x := ⟨_, rfl⟩
        rw [hme] at R1 g1 g2 hble
        simp only at R1 g1 g2 hble
        obtain ⟨LV', hLV'⟩ : ∃ x : Int, (lv' : Int) = x := ⟨_, rfl⟩
        unfold iv at R1
        rw [hLV'] at q4 R1
        have j0 : (0 : Int) ≤ j := by omega
        have j1 : (j : Int) < n := by omega
        have m0 : (0 : Int) ≤ m := by omega
        have m1 : (m : Int) ≤ 1000000 := by omega
        have a0 : (0 : Int) ≤ acc := by omega
        have a1 : (acc : Int) ≤ 1000000 := by omega
        have G1 := Lib.hid g1
        have G2 := Lib.hid g2
        have HLE2 : Hid (en = false → acc + m ≤ 1000000) := Lib.hid fun e => by
          have h := (g2 e).2.2
          have h2 : (comb (acc + m, false) (lbF rest2)).1 = T.1 := by rw [h, HT.out]
          have h3 := HLE.out
          simp only [comb] at h2
          split at h2 <;> simp only at h2 <;> omega
        clear p0 p1 p2 p3 p4 p5 hat hfw hit heq hfo hpu hun hble eb hme hLV' hs1 hs2 g1 g2 hbk hjR
        cases en with
        | true =>
          have hfin := Lib.hid (show T = (acc + m, true) by rw [← HT.out]; exact G1.out rfl)
          as_aux_lemma =>
            go_wp2_with fail
            refine (R1.out).mono ?_
            rintro e w2 ⟨rfl, hb2⟩
            have e2 := HBR.out.trans (hb2.mono HBR.out.size)
            have e3 := HB1.out.trans (e2.mono HB1.out.size)
            clear hb2
            go_wp2
            go_ret2
            exact ⟨by simp [hfin.out], e3⟩
        | false =>
          have hle3 := HLE2.out rfl
          have G3 := Lib.hid (G2.out rfl)
          clear G1 G2 HLE2
          as_aux_lemma =>
            go_wp2_with fail
            refine (R1.out).mono ?_
            rintro e w2 ⟨rfl, hb2⟩
            have e2 := HBR.out.trans (hb2.mono HBR.out.size)
            clear hb2
            go_wp2
            go_roundw
            case rel => exact ⟨j + 1, acc + m, rest2, by go_num, by omega, by go_num, by omega, G3.out, e2⟩
            case measure => simp [intOf]; omega
    · obtain rfl : j = n := by omega
      have t1 : decide ((j : Int) < j) = false := by simp
      have hnil : rest = .nil := by
        have h1 := hfw.1
        have h2 := HN.out
        cases rest with
        | nil => rfl
        | cons _ _ _ _ _ => simp [Fo.len] at h1; omega
      subst hnil
      have hfin := Lib.hid (show T = (acc, false) by rw [← HT.out, ← hfw.2.2]; simp [comb, lbF])
      have e3 := Lib.hid (HB1.out.trans (HBR.out.mono HB1.out.size))
      clear hlt hfw
      as_aux_lemma =>
        go_wp2
        go_ret2
        exact ⟨by simp [hfin.out], e3.out⟩
theorem bh_one (k f : Int) (s : ByteArray) (kids : Fo) (BH0 : ∀ j k f s kids', kids.at? j = some (k, f, s, kids') → BH k f s kids') : BH k f s kids := by
  intro w v lv d fl hlv hv hr hsz hN
  cases fl with
  | true => exact bh_flat k f s kids w v lv d hv hr hsz
  | false =>
    show Calls _ _ _ _ (fun e w' => e = .returned (.tuple #[.int .i64 ((lbD k s kids).1 : Int), .bool (lbD k s kids).2]) ∧ Below w.heap.size w w')
    have hv' := hv
    obtain ⟨a, c, rfl⟩ := hv.slice
    by_cases h4 : k = 1 ∨ k = 2 ∨ k = 3 ∨ k = 4
    · refine bh_leaf k f s a _ c w lv (by omega) h4 (lbD k s kids) ?_
      unfold lbD
      by_cases h1 : k = 1
      · rw [if_pos h1, if_pos h1]
      · rw [if_neg h1, if_neg h1, if_pos (by omega)]
    · rw [rightD_is, if_neg (by omega), if_neg (by omega)] at hr
      by_cases h5 : k = 5 ∨ k = 6 ∨ k = 7
      · rw [if_pos h5] at hr
        have h6 := Bool.and_eq_true_iff.1 hr
        have h7 := (Bool.and_eq_true_iff.1 h6.1).2
        have h8 : 0 < d := by simpa using h7
        have e : lbD k s kids = lbF kids := by unfold lbD; rw [if_neg (by omega), if_neg (by omega)]
        rw [e]
        exact bh_node k f s kids BH0 w _ lv (d - 1) hv' (by omega) h6.2 (by omega) hN h5
      · rw [if_neg h5] at hr
        exact absurd hr (by simp)
theorem bh_list (L : Fo) : ∀ j k f s kids, L.at? j = some (k, f, s, kids) → BH k f s kids := by
  induction L with
  | nil => intro j k f s kids h; simp [Fo.at?] at h
  | cons k0 f0 s0 kids0 rest ih1 ih2 =>
    intro j k f s kids h
    cases j with
    | zero =>
      simp only [Fo.at?, Option.some.injEq, Prod.mk.injEq] at h
      obtain ⟨rfl, rfl, rfl, rfl⟩ := h
      exact bh_one k0 f0 s0 kids0 ih1
    | succ j => exact ih2 j k f s kids h
/-- The page's behind of any document. -/
theorem bh_any (k f : Int) (s : ByteArray) (kids : Fo) : BH k f s kids := bh_one k f s kids (bh_list kids)
end Go.Proofs.Ytehofomfblfhaaa
