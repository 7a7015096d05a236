/- Texts of ours in one: ZRd ZRm ZRt. -/
import Derived.Test.YtlobinjdgcidmaaDoorQj16
import Derived.Test.YtlobinjdgcidmaaDoorQj14
import Derived.Test.YtlobinjdgcidmaaDoorQj02
import Derived.Test.YtlobinjdgcidmaaDoorQj09
import Derived.Test.YtlobinjdgcidmaaDoorQj15
import Derived.Deep.QuietTactic
import Derived.BigQuiet
import Derived.Test.YtlobinjdgcidmaaDoorQj25
/- The page's reader of JSON (abridgerref1.reader): its state; at, is, fail, mark. -/
namespace Go.Proofs.YtlobinjdgcidmaaDoor
open Go.RowKit
set_option linter.unusedVariables false
set_option linter.unusedSimpArgs false

abbrev Rst := Except (Int × Int) M.Toks
def isR (k : Nat) : Rst → Bool
  | .ok ts => decide (kindP ts = k)
  | .error _ => false
def failR (n : Nat) (e : Int) : Rst → Rst
  | .ok ts => .error (e, atP n ts)
  | .error x => .error x
def markR (n k : Nat) : Rst → Int × Rst
  | .ok ts => (match takeP n k ts with
    | .ok (t, r) => ((t.2.1 : Int), .ok r)
    | .error x => (0, .error x))
  | .error x => (0, .error x)
structure RdS (w0 : World) (bv lv : Value) (l : List UInt8) (all : M.Toks) (w : World) (n : Nat) (er at' : Int) : Prop where
  blk : BK 58 w w0.heap.size #[bv, lv, .int .i64 (n : Int), .int .i64 er, .int .i64 at']
  lo : Below w0.heap.size w0 w
  bs : Bs w0 bv l
  tk : Ts w0 lv all
  tx : TabX w0
  hn : n ≤ all.length
  ll : l.length ≤ 20000
  la : all.length ≤ 20000
def RdP (w0 : World) (bv lv : Value) (l : List UInt8) (all : M.Toks) (w : World) : Rst → Prop
  | .ok ts => ∃ n, RdS w0 bv lv l all w n 0 0 ∧ all.drop n = ts
  | .error x => x.1 ≠ 0 ∧ ∃ n, RdS w0 bv lv l all w n x.1 x.2
theorem RdS.keep {w0 w w' : World} {bv lv : Value} {l : List UInt8} {all : M.Toks} {n : Nat} {er a : Int} (x : RdS w0 bv lv l all w n er a) (hb : Below w.heap.size w w') : RdS w0 bv lv l all w' n er a :=
  ⟨x.blk.keep hb, x.lo.trans (hb.mono x.lo.size), x.bs, x.tk, x.tx, x.hn, x.ll, x.la⟩
theorem RdP.keep {w0 w w' : World} {bv lv : Value} {l : List UInt8} {all : M.Toks} {st : Rst} (x : RdP w0 bv lv l all w st) (hb : Below w.heap.size w w') : RdP w0 bv lv l all w' st := by
  cases st with
  | ok ts => obtain ⟨n, h, e⟩ := x; exact ⟨n, h.keep hb, e⟩
  | error q => obtain ⟨h0, n, h⟩ := x; exact ⟨h0, n, h.keep hb⟩
theorem RdS.cells {w0 w : World} {bv lv : Value} {l : List UInt8} {all : M.Toks} {n : Nat} {er a : Int} (x : RdS w0 bv lv l all w n er a) :
    w.cell? ⟨w0.heap.size, 0, none⟩ = some bv ∧ w.cell? ⟨w0.heap.size, 1, none⟩ = some lv ∧ w.cell? ⟨w0.heap.size, 2, none⟩ = some (.int .i64 (n : Int)) ∧ w.cell? ⟨w0.heap.size, 3, none⟩ = some (.int .i64 er) ∧ w.cell? ⟨w0.heap.size, 4, none⟩ = some (.int .i64 a) := ⟨x.blk.cell 0, x.blk.cell 1, x.blk.cell 2, x.blk.cell 3, x.blk.cell 4⟩
theorem RdS.toks {w0 w : World} {bv lv : Value} {l : List UInt8} {all : M.Toks} {n : Nat} {er a : Int} (x : RdS w0 bv lv l all w n er a) :
    ∃ ta cap, lv = .slice ta all.length cap ∧ all.length ≤ cap ∧ cap ≤ maxLen ∧ (n < all.length → ∃ b off, ta = some ⟨b, off, none⟩ ∧ b < w0.heap.size ∧ ∀ i u, (tv (all.getD n (0, 0, 0)))[i]? = some u → w.cell? ⟨b, off + (n * 3 + i), none⟩ = some u) := by
  obtain ⟨ta, cap, e, h1, h2, h3⟩ := x.tk
  rw [tvs_len] at e h1
  refine ⟨ta, cap, e, h1, h2, fun h0 => ?_⟩
  obtain ⟨b, off, e2, hb, hc⟩ := h3 (by rw [tvs_len]; omega)
  refine ⟨b, off, e2, hb, fun i u hu => ?_⟩
  rw [x.lo.cell (p := ⟨b, off + (n * 3 + i), none⟩) hb]
  refine hc n (by rw [tvs_len]; exact h0) i u ?_
  rw [show all.getD n (0, 0, 0) = all[n] by simp [List.getD, h0]] at hu
  simpa [tvs] using hu
theorem drop_head {all : M.Toks} {n : Nat} : kindP (all.drop n) = if n < all.length then (all.getD n (0, 0, 0)).1 else 0 := by
  by_cases h : n < all.length
  · rw [if_pos h, List.drop_eq_getElem_cons h]; simp [kindP, List.getD, h]
  · rw [if_neg h, List.drop_eq_nil_of_le (by omega)]; rfl
theorem drop_at' {all : M.Toks} {n m : Nat} : atP m (all.drop n) = if n < all.length then ((all.getD n (0, 0, 0)).2.1 : Int) else (m : Int) := by
  by_cases h : n < all.length
  · rw [if_pos h, List.drop_eq_getElem_cons h]; simp [atP, List.getD, h]
  · rw [if_neg h, List.drop_eq_nil_of_le (by omega)]; rfl
set_option maxRecDepth 100000 in
set_option maxHeartbeats 4000000 in
theorem rdat_any {w0 w : World} {bv lv : Value} {l : List UInt8} {all : M.Toks} {n : Nat} {er a : Int} (x : RdS w0 bv lv l all w n er a) :
    Calls Tryd.prog 45 #[ptrP w0] w fun e w' => e = .returned (.int .i64 (atP l.length (all.drop n))) ∧ Below w.heap.size w w' := by
  rw [drop_at']
  obtain ⟨c0, c1, c2, c3, c4⟩ := x.cells
  obtain ⟨ta, cap, rfl, h1, h2, h3⟩ := x.toks
  obtain ⟨ba, bcap, hbv, g1, g2, g3⟩ := x.bs
  subst hbv
  unfold ptrP
  obtain ⟨N, hN⟩ : ∃ q, all.length = q := ⟨_, rfl⟩
  have hn := x.hn
  rw [hN] at h1 h3 c1 hn ⊢
  by_cases h : n < N
  · rw [if_pos h]
    obtain ⟨b, off, rfl, hb, hc⟩ := h3 h
    obtain ⟨t, ht⟩ : ∃ t, all.getD n (0, 0, 0) = t := ⟨_, rfl⟩
    rw [ht] at hc ⊢
    have d1 := hc 1 _ rfl
    rw [← Nat.add_assoc] at d1
    obtain ⟨Z, hZ⟩ : ∃ q : Int, (t.2.1 : Int) = q := ⟨_, rfl⟩
    rw [hZ] at d1 ⊢
    have i1 : (n : Int) < N := by omega
    have t1 : decide ((n : Int) < N) = true := by simp; omega
    clear x hc h3 g1 g3 ht hZ hN
    go_enter Tryd.func45, Tryd.ntmps45
    go_wp2
    go_quiet (fail)
    go_wp2
    go_quiet (fail)
    go_wp2
    go_ret
    exact ⟨rfl, ⟨rfl, rfl, rfl, Nat.le_refl _, fun _ _ => rfl⟩⟩
  · rw [if_neg h]
    obtain rfl : n = N := by omega
    have t1 : decide ((n : Int) < n) = false := by simp
    clear x h3 g1 g3 hN
    go_enter Tryd.func45, Tryd.ntmps45
    go_wp2
    go_quiet (fail)
    go_wp2
    go_ret
    exact ⟨rfl, ⟨rfl, rfl, rfl, Nat.le_refl _, fun _ _ => rfl⟩⟩
set_option maxRecDepth 100000 in
set_option maxHeartbeats 4000000 in
theorem rdis_any {w0 w : World} {bv lv : Value} {l : List UInt8} {all : M.Toks} {st : Rst} (k : Nat) (hk : 1 ≤ k) (x : RdP w0 bv lv l all w st) :
    Calls Tryd.prog 41 #[ptrP w0, .int .i64 (k : Int)] w fun e w' => e = .returned (.bool (isR k st)) ∧ Below w.heap.size w w' := by
  obtain ⟨K, hK⟩ : ∃ q : Int, (k : Int) = q := ⟨_, rfl⟩
  rw [hK]
  unfold ptrP
  cases st with
  | error q =>
    obtain ⟨h0, n, x⟩ := x
    obtain ⟨c0, c1, c2, c3, c4⟩ := x.cells
    obtain ⟨E, hE⟩ : ∃ z, q.1 = z := ⟨_, rfl⟩
    rw [hE] at h0 c3
    have t0 : (E == 0) = false := by simpa using h0
    show Calls _ _ _ _ fun e w' => e = .returned (.bool false) ∧ _
    clear x hE hK h0
    go_enter Tryd.func41, Tryd.ntmps41
    go_wp2
    go_quiet (fail)
    go_wp2
    go_ret
    exact ⟨rfl, ⟨rfl, rfl, rfl, Nat.le_refl _, fun _ _ => rfl⟩⟩
  | ok ts =>
    obtain ⟨n, x, hd⟩ := x
    obtain ⟨c0, c1, c2, c3, c4⟩ := x.cells
    obtain ⟨ta, cap, rfl, h1, h2, h3⟩ := x.toks
    obtain ⟨N, hN⟩ : ∃ q, all.length = q := ⟨_, rfl⟩
    have hn := x.hn
    have hkd := drop_head (all := all) (n := n)
    rw [hN] at h1 h3 c1 hn hkd
    rw [hd] at hkd
    rw [show isR k (.ok ts) = decide (kindP ts = k) from rfl, hkd]
    by_cases h : n < N
    · rw [if_pos h]
      obtain ⟨b, off, rfl, hb, hc⟩ := h3 h
      obtain ⟨t, ht⟩ : ∃ t, all.getD n (0, 0, 0) = t := ⟨_, rfl⟩
      rw [ht] at hc ⊢
      have d1 := hc 0 _ rfl
      rw [Nat.add_zero] at d1
      have i1 : (n : Int) < N := by omega
      have t1 : decide ((n : Int) < N) = true := by simp; omega
      obtain ⟨B, hB⟩ : ∃ B, decide (t.1 = k) = B := ⟨_, rfl⟩
      obtain ⟨Z, hZ⟩ : ∃ q : Int, (t.1 : Int) = q := ⟨_, rfl⟩
      have t2 : (Z == K) = B := by
        rw [← hZ, ← hK, ← hB]
        by_cases e : t.1 = k
        · simp [e]
        · simp [e]; omega
      rw [hZ] at d1
      rw [hB]
      clear x hc h3 ht hZ hN hK hd hkd hB
      cases B with
      | true =>
        go_enter Tryd.func41, Tryd.ntmps41
        go_wp2
        go_quiet (fail)
        go_wp2
        go_ret
        exact ⟨rfl, ⟨rfl, rfl, rfl, Nat.le_refl _, fun _ _ => rfl⟩⟩
      | false =>
        go_enter Tryd.func41, Tryd.ntmps41
        go_wp2
        go_quiet (fail)
        go_wp2
        go_ret
        exact ⟨rfl, ⟨rfl, rfl, rfl, Nat.le_refl _, fun _ _ => rfl⟩⟩
    · rw [if_neg h]
      obtain rfl : n = N := by omega
      have t1 : decide ((n : Int) < n) = false := by simp
      rw [decide_eq_false (show ¬ 0 = k by omega)]
      clear x h3 hN hK hd hkd
      go_enter Tryd.func41, Tryd.ntmps41
      go_wp2
      go_quiet (fail)
      go_wp2
      go_ret
      exact ⟨rfl, ⟨rfl, rfl, rfl, Nat.le_refl _, fun _ _ => rfl⟩⟩
def RdQ (w0 : World) (bv lv : Value) (l : List UInt8) (all : M.Toks) (st : Rst) (w w' : World) : Prop := RdP w0 bv lv l all w' st ∧ Fr w0.heap.size w w'
theorem RdS.put {w0 w : World} {bv lv : Value} {l : List UInt8} {all : M.Toks} {n m : Nat} {er a er' a' : Int} (x : RdS w0 bv lv l all w n er a) (W' : World) (hW : W'.heap[w0.heap.size]? = some (.cells #[bv, lv, .int .i64 (m : Int), .int .i64 er', .int .i64 a'] 58 (0, 0))) (hlo : Below w0.heap.size w0 W') (hm : m ≤ all.length) : RdS w0 bv lv l all W' m er' a' :=
  ⟨hW, hlo, x.bs, x.tk, x.tx, hm, x.ll, x.la⟩
set_option maxRecDepth 100000 in
set_option maxHeartbeats 4000000 in
theorem rdfail_any {w0 w : World} {bv lv : Value} {l : List UInt8} {all : M.Toks} {st : Rst} (e' : Int) (he : e' ≠ 0) (x : RdP w0 bv lv l all w st) :
    Calls Tryd.prog 21 #[ptrP w0, .int .i64 e'] w fun e w' => e = .returned (.tuple #[]) ∧ RdQ w0 bv lv l all (failR l.length e' st) w w' := by
  cases st with
  | error q =>
    obtain ⟨h0, n, x⟩ := x
    have HX := Lib.hid x
    obtain ⟨c0, c1, c2, c3, c4⟩ := x.cells
    obtain ⟨E, hE⟩ : ∃ z, q.1 = z := ⟨_, rfl⟩
    have h0' := h0
    rw [hE] at h0' c3
    have t0 : (E == 0) = false := by simpa using h0'
    have HQ : Hid (RdQ w0 bv lv l all (failR l.length e' (.error q)) w w) := Lib.hid ⟨⟨h0, n, HX.out⟩, Fr.refl _ _⟩
    unfold ptrP
    clear x h0 h0' hE
    go_enter Tryd.func21, Tryd.ntmps21
    go_wp2
    refine ⟨rfl, .tuple #[], by simp [results, Tryd.results21], rfl, HQ.out⟩
  | ok ts =>
    obtain ⟨n, x, hd⟩ := x
    have AT := Lib.hid (rdat_any x)
    rw [hd] at AT
    have HX := Lib.hid x
    obtain ⟨c0, c1, c2, c3, c4⟩ := x.cells
    obtain ⟨Z, hZ⟩ : ∃ q : Int, atP l.length ts = q := ⟨_, rfl⟩
    rw [hZ] at AT
    have HZ := Lib.hid hZ
    unfold ptrP at AT ⊢
    clear x hd hZ
    go_enter Tryd.func21, Tryd.ntmps21
    go_wp2_with fail
    refine AT.out.mono ?_
    rintro e w1 ⟨rfl, hb⟩
    have X1 := Lib.hid (HX.out.keep hb)
    obtain ⟨e0, e1, e2, e3, e4⟩ := X1.out.cells
    have z3 : w1.frozen? ⟨w0.heap.size, 3, none⟩ = false := frozen_of_row _ _ _ _ _ X1.out.blk
    have z4 : w1.frozen? ⟨w0.heap.size, 4, none⟩ = false := frozen_of_row _ _ _ _ _ X1.out.blk
    have HQ : Hid (RdQ w0 bv lv l all (failR l.length e' (.ok ts)) w ((w1.setCell ⟨w0.heap.size, 3, none⟩ (.int .i64 e')).setCell ⟨w0.heap.size, 4, none⟩ (.int .i64 Z))) := Lib.hid (by
      have hlt := HX.out.blk.lt
      refine ⟨⟨he, n, ?_⟩, ?_⟩
      · show RdS _ _ _ _ _ _ n e' (atP l.length ts)
        rw [HZ.out]
        exact X1.out.put _ ((X1.out.blk.setCell 3 (.int .i64 e')).setCell 4 (.int .i64 Z)) ((X1.out.lo.setCell (p := ⟨w0.heap.size, 3, none⟩) (Nat.le_refl _) _).setCell (p := ⟨w0.heap.size, 4, none⟩) (Nat.le_refl _) _) X1.out.hn
      · have f1 : Fr w0.heap.size w w1 := Fr.of hb (Nat.le_of_lt hlt)
        exact ⟨(f1.lo.setCell (p := ⟨w0.heap.size, 3, none⟩) (Nat.le_refl _) _).setCell (p := ⟨w0.heap.size, 4, none⟩) (Nat.le_refl _) _, fun j hj hn => by rw [heap_setCell_other _ _ _ _ hn, heap_setCell_other _ _ _ _ hn]; exact f1.oth j hj hn⟩)
    clear hb
    go_wp2
    refine ⟨rfl, .tuple #[], by simp [results, Tryd.results21], rfl, HQ.out⟩
end Go.Proofs.YtlobinjdgcidmaaDoor
/- The page's reader of JSON: mark. -/
namespace Go.Proofs.YtlobinjdgcidmaaDoor
open Go.RowKit
set_option linter.unusedVariables false
set_option linter.unusedSimpArgs false

theorem rdat_rd {w0 w : World} {bv lv : Value} {l : List UInt8} {all : M.Toks} {st : Rst} (x : RdP w0 bv lv l all w st) :
    ∃ Z : Int, (Calls Tryd.prog 45 #[ptrP w0] w fun e w' => e = .returned (.int .i64 Z) ∧ Below w.heap.size w w') ∧ ∀ ts, st = .ok ts → Z = atP l.length ts := by
  cases st with
  | ok ts =>
    obtain ⟨n, h, e⟩ := x
    refine ⟨_, rdat_any h, fun ts' e' => ?_⟩
    cases e'; rw [e]
  | error q =>
    obtain ⟨h0, n, h⟩ := x
    exact ⟨_, rdat_any h, fun ts' e' => by cases e'⟩
theorem rdlt {w0 w : World} {bv lv : Value} {l : List UInt8} {all : M.Toks} {st : Rst} (x : RdP w0 bv lv l all w st) : w0.heap.size < w.heap.size := by
  cases st with
  | ok ts => obtain ⟨n, h, _⟩ := x; exact h.blk.lt
  | error q => obtain ⟨_, n, h⟩ := x; exact h.blk.lt
theorem markR_no {n k : Nat} {st : Rst} (hk : 1 ≤ k) (h : isR k st = false) : markR n k st = (0, failR n 3 st) := by
  cases st with
  | error q => rfl
  | ok ts =>
    have h' : kindP ts ≠ k := by simpa [isR] using h
    cases ts with
    | nil => rfl
    | cons t r =>
      have h2 : t.1 ≠ k := h'
      simp [markR, takeP, h2, failR, synP]
theorem markR_yes {n k : Nat} {st : Rst} (hk : 1 ≤ k) (h : isR k st = true) : ∃ t r, st = .ok (t :: r) ∧ t.1 = k ∧ markR n k st = ((t.2.1 : Int), .ok r) := by
  cases st with
  | error q => cases h
  | ok ts =>
    have h' : kindP ts = k := by simpa [isR] using h
    cases ts with
    | nil => simp [kindP] at h'; omega
    | cons t r =>
      have h2 : t.1 = k := h'
      exact ⟨t, r, rfl, h2, by simp [markR, takeP, h2]⟩
theorem drop_next {all : M.Toks} {n : Nat} {t : Nat × Nat × Nat} {r : M.Toks} (h : all.drop n = t :: r) : n < all.length ∧ all.drop (n + 1) = r := by
  have hn : n < all.length := by
    by_cases h' : n < all.length
    · exact h'
    · rw [List.drop_eq_nil_of_le (by omega)] at h; cases h
  rw [List.drop_eq_getElem_cons hn] at h
  exact ⟨hn, (List.cons.inj h).2⟩
theorem RdS.next {w0 w : World} {bv lv : Value} {l : List UInt8} {all : M.Toks} {n : Nat} {t : Nat × Nat × Nat} {r : M.Toks} (x : RdS w0 bv lv l all w n 0 0) (hd : all.drop n = t :: r) :
    RdP w0 bv lv l all (w.setCell ⟨w0.heap.size, 2, none⟩ (.int .i64 ((n + 1 : Nat) : Int))) (.ok r) ∧ Fr w0.heap.size w (w.setCell ⟨w0.heap.size, 2, none⟩ (.int .i64 ((n + 1 : Nat) : Int))) := by
  obtain ⟨hn, h2⟩ := drop_next hd
  have hlt := x.blk.lt
  refine ⟨⟨n + 1, x.put _ (x.blk.setCell 2 (.int .i64 ((n + 1 : Nat) : Int))) (x.lo.setCell (p := ⟨w0.heap.size, 2, none⟩) (Nat.le_refl _) _) hn, h2⟩, ?_⟩
  exact ⟨(Below.refl _ _).setCell (p := ⟨w0.heap.size, 2, none⟩) (Nat.le_refl _) _, fun j hj hn => heap_setCell_other _ _ _ _ hn⟩
set_option maxRecDepth 100000 in
set_option maxHeartbeats 4000000 in
theorem rdmark_any {w0 w : World} {bv lv : Value} {l : List UInt8} {all : M.Toks} {st : Rst} (k : Nat) (hk : 1 ≤ k) (x : RdP w0 bv lv l all w st) :
    Calls Tryd.prog 44 #[ptrP w0, .int .i64 (k : Int)] w fun e w' => e = .returned (.int .i64 (markR l.length k st).1) ∧ RdQ w0 bv lv l all (markR l.length k st).2 w w' := by
  obtain ⟨Z, AT0, hZ⟩ := rdat_rd x
  have AT := Lib.hid AT0
  have HX := Lib.hid x
  cases hR : isR k st with
  | false =>
    rw [markR_no hk hR]
    have IS := Lib.hid (fun (w1 : World) (h : RdP w0 bv lv l all w1 st) => (hR ▸ rdis_any k hk h : Calls Tryd.prog 41 #[ptrP w0, .int .i64 (k : Int)] w1 fun e w' => e = .returned (.bool false) ∧ Below w1.heap.size w1 w'))
    have FA := Lib.hid (fun (w1 : World) (h : RdP w0 bv lv l all w1 st) => rdfail_any (e' := 3) (by decide) h)
    obtain ⟨K, hK⟩ : ∃ q : Int, (k : Int) = q := ⟨_, rfl⟩
    rw [hK] at IS ⊢
    unfold ptrP at AT IS FA ⊢
    clear x AT0 hZ hK hR
    go_enter Tryd.func44, Tryd.ntmps44
    go_wp2_with fail
    refine AT.out.mono ?_
    rintro e w1 ⟨rfl, hb⟩
    have H1 := Lib.hid hb
    clear hb
    go_wp2_with fail
    refine (IS.out w1 (HX.out.keep H1.out)).mono ?_
    rintro e w2 ⟨rfl, hb⟩
    have H2 := Lib.hid hb
    clear hb
    go_wp2_with fail
    refine (FA.out w2 ((HX.out.keep H1.out).keep H2.out)).mono ?_
    rintro e w3 ⟨rfl, hq⟩
    have H3 := Lib.hid hq
    clear hq
    go_wp2
    go_ret
    exact ⟨rfl, H3.out.1, (Fr.of (H1.out.trans (H2.out.mono H1.out.size)) (Nat.le_of_lt (rdlt HX.out))).trans H3.out.2⟩
  | true =>
    obtain ⟨t, r, rfl, ht, hm⟩ := markR_yes (n := l.length) hk hR
    rw [hm]
    have hZ1 := hZ _ rfl
    subst hZ1
    have IS := Lib.hid (fun (w1 : World) (h : RdP w0 bv lv l all w1 (.ok (t :: r))) => (hR ▸ rdis_any k hk h : Calls Tryd.prog 41 #[ptrP w0, .int .i64 (k : Int)] w1 fun e w' => e = .returned (.bool true) ∧ Below w1.heap.size w1 w'))
    obtain ⟨K, hK⟩ : ∃ q : Int, (k : Int) = q := ⟨_, rfl⟩
    rw [hK] at IS ⊢
    show Calls _ _ _ _ fun e w' => e = .returned (.int .i64 (atP l.length (t :: r))) ∧ _
    obtain ⟨Z, hZ⟩ : ∃ q : Int, atP l.length (t :: r) = q := ⟨_, rfl⟩
    rw [hZ] at AT ⊢
    obtain ⟨n, x, hd⟩ := x
    have HS := Lib.hid x
    have HD := Lib.hid hd
    have hn := drop_next hd
    have hla := x.la
    unfold ptrP at AT IS ⊢
    have hn2 : n < 20000 := by omega
    clear x AT0 hZ hK hR hm ht hd hn hla
    go_enter Tryd.func44, Tryd.ntmps44
    go_wp2_with fail
    refine AT.out.mono ?_
    rintro e w1 ⟨rfl, hb⟩
    have H1 := Lib.hid hb
    clear hb
    go_wp2_with fail
    refine (IS.out w1 (HX.out.keep H1.out)).mono ?_
    rintro e w2 ⟨rfl, hb⟩
    have H2 := Lib.hid ((HS.out.keep H1.out).keep hb)
    have H3 := Lib.hid (Fr.of (H1.out.trans (hb.mono H1.out.size)) (Nat.le_of_lt HS.out.blk.lt) : Fr w0.heap.size w w2)
    clear hb
    obtain ⟨c0, c1, c2, c3, c4⟩ := H2.out.cells
    have z2 : w2.frozen? ⟨w0.heap.size, 2, none⟩ = false := frozen_of_row _ _ _ _ _ H2.out.blk
    go_wp2
    go_ret
    have hq := H2.out.next HD.out
    rw [show ((n + 1 : Nat) : Int) = (n : Int) + 1 by omega] at hq
    exact ⟨rfl, hq.1, H3.out.trans hq.2⟩
end Go.Proofs.YtlobinjdgcidmaaDoor
/- The page's reader of JSON: text. -/
namespace Go.Proofs.YtlobinjdgcidmaaDoor
open Go.RowKit
set_option linter.unusedVariables false
set_option linter.unusedSimpArgs false

def noV : Vh := ⟨0, [], false, [], [], 0, 0, []⟩
def textR (l : List UInt8) : Rst → Vh × Rst
  | .ok ts => (match takeP l.length 7 ts with
    | .ok (t, r) => (textV l t, .ok r)
    | .error x => (noV, .error x))
  | .error x => (noV, .error x)
theorem textR_no {l : List UInt8} {st : Rst} (h : isR 7 st = false) : textR l st = (noV, failR l.length 3 st) := by
  cases st with
  | error q => rfl
  | ok ts =>
    have h' : kindP ts ≠ 7 := by simpa [isR] using h
    cases ts with
    | nil => rfl
    | cons t r =>
      have h2 : t.1 ≠ 7 := h'
      simp [textR, takeP, h2, failR, synP]
theorem textR_yes {l : List UInt8} {st : Rst} (h : isR 7 st = true) : ∃ fr te r, st = .ok ((7, fr, te) :: r) ∧ textR l st = (textV l (7, fr, te), .ok r) := by
  cases st with
  | error q => cases h
  | ok ts =>
    have h' : kindP ts = 7 := by simpa [isR] using h
    cases ts with
    | nil => simp [kindP] at h'
    | cons t r =>
      obtain ⟨k, a, b⟩ := t
      have h2 : k = 7 := h'
      subst h2
      exact ⟨a, b, r, rfl, by simp [textR, takeP]⟩
def RvQ (w0 : World) (bv lv : Value) (l : List UInt8) (all : M.Toks) (h : Vh) (kids : Vo) (st : Rst) (w : World) (e : Ending) (w' : World) : Prop :=
  ∃ tv v mv, e = .returned (.agg (vv h tv v mv)) ∧ HdP (Nw w.heap.size w') w' h tv mv ∧ VoP (Nw w.heap.size w') w' v kids ∧ RdQ w0 bv lv l all st w w'
theorem RdS.setRow {w0 w : World} {bv lv : Value} {l : List UInt8} {all : M.Toks} {n : Nat} {er a : Int} (x : RdS w0 bv lv l all w n er a) {g : Nat} (hg : w0.heap.size < g) (cs : Array Value) : RdS w0 bv lv l all (w.setRow g cs) n er a :=
  ⟨x.blk.frame (setRow_other _ _ _ _ (by omega)), below_setRowK x.lo (Nat.le_of_lt hg) cs, x.bs, x.tk, x.tx, x.hn, x.ll, x.la⟩
theorem RdP.setRow {w0 w : World} {bv lv : Value} {l : List UInt8} {all : M.Toks} {st : Rst} (x : RdP w0 bv lv l all w st) {g : Nat} (hg : w0.heap.size < g) (cs : Array Value) : RdP w0 bv lv l all (w.setRow g cs) st := by
  cases st with
  | ok ts => obtain ⟨n, h, e⟩ := x; exact ⟨n, h.setRow hg cs, e⟩
  | error q => obtain ⟨h0, n, h⟩ := x; exact ⟨h0, n, h.setRow hg cs⟩
theorem RdP.setCell {w0 w : World} {bv lv : Value} {l : List UInt8} {all : M.Toks} {st : Rst} (x : RdP w0 bv lv l all w st) {g : Nat} (hg : w0.heap.size < g) (j : Nat) (u : Value) : RdP w0 bv lv l all (w.setCell ⟨g, j, none⟩ u) st := by
  have k : ∀ {n er a}, RdS w0 bv lv l all w n er a → RdS w0 bv lv l all (w.setCell ⟨g, j, none⟩ u) n er a := fun x => ⟨x.blk.other (by omega) j u, x.lo.setCell (p := ⟨g, j, none⟩) (Nat.le_of_lt hg) u, x.bs, x.tk, x.tx, x.hn, x.ll, x.la⟩
  cases st with
  | ok ts => obtain ⟨n, h, e⟩ := x; exact ⟨n, k h, e⟩
  | error q => obtain ⟨h0, n, h⟩ := x; exact ⟨h0, n, k h⟩
set_option maxRecDepth 100000 in
set_option maxHeartbeats 4000000 in
theorem rdtext_any {w0 w : World} {bv lv : Value} {l : List UInt8} {all : M.Toks} {st : Rst} (x : RdP w0 bv lv l all w st) (hT : TkIn l all) :
    Calls Tryd.prog 42 #[ptrP w0] w (RvQ w0 bv lv l all (textR l st).1 .nil (textR l st).2 w) := by
  have HX := Lib.hid x
  have hlt := rdlt x
  have b0 := Lib.hid ((Below.refl w.heap.size w).alloc (Nat.le_refl _) (.cells zv 36))
  have K0 := Lib.hid (BK.new 36 w zv)
  obtain ⟨W1, hW1⟩ : ∃ x, w.alloc (.cells zv 36) = x := ⟨_, rfl⟩
  rw [hW1] at b0 K0
  have HW1 := Lib.hid (show w.alloc (.cells #[.int .i64 0, .slice none 0 0, .bool false, .string ⟨#[]⟩, .string ⟨#[]⟩, .slice none 0 0, .int .i64 0, .int .i64 0, .slice none 0 0] 36) = W1 from hW1)
  have X1 := Lib.hid (x.keep b0.out)
  have hl1 := K0.out.lt
  clear hW1 x
  cases hR : isR 7 st with
  | false =>
    rw [textR_no hR]
    have IS := Lib.hid (fun (w1 : World) (h : RdP w0 bv lv l all w1 st) => (hR ▸ rdis_any 7 (by decide) h : Calls Tryd.prog 41 #[ptrP w0, .int .i64 7] w1 fun e w' => e = .returned (.bool false) ∧ Below w1.heap.size w1 w'))
    have FA := Lib.hid (fun (w1 : World) (h : RdP w0 bv lv l all w1 st) => rdfail_any (e' := 3) (by decide) h)
    unfold ptrP at IS FA ⊢
    clear hR
    go_enter Tryd.func42, Tryd.ntmps42
    go_upto_region 1 with fail
    rw [HW1.out]
    go_wp2_with fail
    refine (IS.out _ X1.out).mono ?_
    rintro e w2 ⟨rfl, hb⟩
    have H2 := Lib.hid hb
    clear hb
    go_wp2_with fail
    refine (FA.out w2 (X1.out.keep H2.out)).mono ?_
    rintro e w3 ⟨rfl, hq⟩
    have H3 := Lib.hid hq
    clear hq
    have K03 := (K0.out.keep H2.out).frame (H3.out.2.oth _ (by have := H2.out.size; omega) (by omega))
    have K3 := Lib.hid K03
    clear K03
    go_wp2_with (refine wpl_stV rfl _ _ rfl w.heap.size zv noV nilV nilV nilV rfl rfl K3.out rfl rfl rfl rfl ?_)
    go_wp2
    refine bodyPost_ret (res_bk Tryd.underlying36 rfl infoV1 rfl _ _ w.heap.size (vvl noV nilV nilV nilV) rfl (BK.set K3.out _) rfl) rfl ⟨nilV, nilV, nilV, rfl, ⟨by simp [noV], by simp [noV], isP_nil _ _, isP_nil _ _⟩, voP_nil _ _, H3.out.1.setRow hlt _, Fr.setRow ?_ (Nat.le_refl _) (Nat.le_of_lt hlt) _⟩
    exact ((Fr.of b0.out (Nat.le_of_lt hlt)).trans (Fr.of H2.out (by omega))).trans H3.out.2
  | true =>
    obtain ⟨fr, te, r, rfl, hm⟩ := textR_yes (l := l) hR
    rw [hm]
    have IS := Lib.hid (fun (w1 : World) (h : RdP w0 bv lv l all w1 (.ok ((7, fr, te) :: r))) => (hR ▸ rdis_any 7 (by decide) h : Calls Tryd.prog 41 #[ptrP w0, .int .i64 7] w1 fun e w' => e = .returned (.bool true) ∧ Below w1.heap.size w1 w'))
    obtain ⟨n, x, hd⟩ := X1.out
    have hn := drop_next hd
    have hla := x.la
    have HS := Lib.hid x
    have HD := Lib.hid hd
    have hn2 : n < 20000 := by omega
    unfold ptrP at IS ⊢
    clear hR hm x hd hla
    go_enter Tryd.func42, Tryd.ntmps42
    go_upto_region 1 with fail
    rw [HW1.out]
    go_wp2_with fail
    refine (IS.out _ X1.out).mono ?_
    rintro e w2 ⟨rfl, hb⟩
    have K02 := Lib.hid (K0.out.keep hb)
    have H2 := Lib.hid (HS.out.keep hb)
    have HB2 := Lib.hid hb
    clear hb
    obtain ⟨c0, c1, c2, c3, c4⟩ := H2.out.cells
    obtain ⟨ta, cap, e0, h1, h2, h3⟩ := H2.out.toks
    obtain ⟨b, off, rfl, hb, hc⟩ := h3 hn.1
    have htk : all.getD n (0, 0, 0) = (7, fr, te) := by
      have := HD.out
      rw [List.drop_eq_getElem_cons hn.1] at this
      simp [List.getD, hn.1, (List.cons.inj this).1]
    rw [htk] at hc
    have D2 := Lib.hid ((Below.refl w2.heap.size w2).drew)
    have K0D := Lib.hid (K02.out.keep D2.out)
    have XD := Lib.hid (H2.out.keep D2.out)
    subst e0
    have hc0 : w2.rangeAt b (off + n * 3) [.int .i64 7, .int .i64 (fr : Int), .int .i64 (te : Int)] := fun j u hu => by
      show w2.cell? ⟨b, off + n * 3 + j, none⟩ = some u
      rw [Nat.add_assoc]; exact hc j u hu
    obtain ⟨N, hN⟩ : ∃ q, all.length = q := ⟨_, rfl⟩
    have hn1 := hn.1
    rw [hN] at h1 c1 hn1
    have hb2 : b < w2.heap.size := by have := hlt; have := H2.out.lo.size; omega
    have SS : ∀ V : World, Below w2.heap.size w2 V → (V.cell? ⟨w0.heap.size, 1, none⟩ = some (.slice (some ⟨b, off, none⟩) N cap) ∧ V.cell? ⟨w0.heap.size, 2, none⟩ = some (.int .i64 (n : Int)) ∧ V.rangeAt b (off + n * 3) [.int .i64 7, .int .i64 (fr : Int), .int .i64 (te : Int)]) := fun V h => ⟨by rw [h.cell (p := ⟨w0.heap.size, 1, none⟩) H2.out.blk.lt]; exact c1, by rw [h.cell (p := ⟨w0.heap.size, 2, none⟩) H2.out.blk.lt]; exact c2, fun j u hu => by rw [h.cell (p := ⟨b, off + n * 3 + j, none⟩) hb2]; exact hc0 j u hu⟩
    clear hc h3 htk hn c0 c1 c2 c3 c4 hc0
    have i1 : (n : Int) < N := by omega
    go_upto_region 4 with fail
    refine wp_region_noPanic ?_
    refine wp_region_to 11 (S := fun V => (V.cell? ⟨w0.heap.size, 1, none⟩ = some (.slice (some ⟨b, off, none⟩) N cap) ∧ V.cell? ⟨w0.heap.size, 2, none⟩ = some (.int .i64 (n : Int)) ∧ V.rangeAt b (off + n * 3) [.int .i64 7, .int .i64 (fr : Int), .int .i64 (te : Int)])) (by kernel_rfl) (SS _ D2.out) (fun hS => ?_)
    obtain ⟨WD, hWD⟩ : ∃ x, w2.drew = x := ⟨_, rfl⟩
    rw [hWD] at D2 K0D XD hS ⊢
    clear hWD
    refine dtp 0 ?_
    refine dtp 1 ?_
    refine dtp 2 ?_
    refine dtk 3 ?_
    refine dtp 4 ?_
    refine dtp 5 ?_
    refine dtp 6 ?_
    refine dtk 7 ?_
    refine dtp (v := .pointer (some ⟨b, off + n * 3, none⟩)) 8 (hy := Or.inl ⟨by rfl, by intro V hSV; go_simp⟩) ?_
    refine dtk (v := .agg #[.int .i64 7, .int .i64 (fr : Int), .int .i64 (te : Int)]) 9 (hy := yieldsIf_load_mid (by rfl) 85 _ rfl b (off + n * 3) rfl [.int .i64 7, .int .i64 (fr : Int), .int .i64 (te : Int)] _ (fun w hS => hS.2.2) Tryd.underlying85 rfl infoTok1) ?_
    have b5 := Lib.hid ((Below.refl WD.heap.size WD).alloc (Nat.le_refl _) (.cells #[.int .i64 0, .int .i64 0, .int .i64 0] 85))
    have K5 := Lib.hid (BK.new 85 WD #[.int .i64 0, .int .i64 0, .int .i64 0])
    obtain ⟨W5, hW5⟩ : ∃ x, WD.alloc (.cells #[.int .i64 0, .int .i64 0, .int .i64 0] 85) = x := ⟨_, rfl⟩
    rw [hW5] at b5 K5
    have HW5 := Lib.hid hW5
    clear hW5
    refine AnyTo.ready (rs := [10]) (by kernel_rfl) (by simp) ?_
    refine ReadyTo.cons rfl (fun K hK => ?_) ReadyTo.nil
    go_simp
    rw [HW5.out]
    refine hK.out _ _ (SS _ (D2.out.trans (b5.out.mono D2.out.size))) (fun _ => ?_)
    clear hK K
    refine AnyTo.ready (rs := [11]) (by kernel_rfl) (by simp) ?_
    refine ReadyTo.last rfl (by kernel_rfl) (fun K hK => ?_) ReadyTo.nil
    have l5 := K5.out.lt
    have m0 : W5.cell? ⟨WD.heap.size, 0, none⟩ = some (.int .i64 0) := K5.out.cell 0
    have m1 : W5.cell? ⟨WD.heap.size, 1, none⟩ = some (.int .i64 0) := K5.out.cell 1
    have m2 : W5.cell? ⟨WD.heap.size, 2, none⟩ = some (.int .i64 0) := K5.out.cell 2
    have z0 : W5.frozen? ⟨WD.heap.size, 0, none⟩ = false := frozen_of_row _ _ _ _ _ K5.out
    have z1 : W5.frozen? ⟨WD.heap.size, 1, none⟩ = false := frozen_of_row _ _ _ _ _ K5.out
    have z2 : W5.frozen? ⟨WD.heap.size, 2, none⟩ = false := frozen_of_row _ _ _ _ _ K5.out
    go_simp
    refine hK.out _ _ ?_
    clear hK K
    refine AnyTo.done (by kernel_rfl) ?_ _
    refine NoPanic.normal ?_
    clear m0 m1 m2 z0 z1 z2 hS SS
    have K6 : BK 85 (((W5.setCell ⟨WD.heap.size, 0, none⟩ (.int .i64 7)).setCell ⟨WD.heap.size, 1, none⟩ (.int .i64 (fr : Int))).setCell ⟨WD.heap.size, 2, none⟩ (.int .i64 (te : Int))) WD.heap.size #[.int .i64 7, .int .i64 (fr : Int), .int .i64 (te : Int)] := ((K5.out.setCell 0 (.int .i64 7)).setCell 1 (.int .i64 (fr : Int))).setCell 2 (.int .i64 (te : Int))
    have lD := K0D.out.lt
    have sD := D2.out.size
    have s2 := H2.out.lo.size
    have l2 := H2.out.blk.lt
    have K06 := (((K0D.out.keep b5.out).other (c := WD.heap.size) (by omega) 0 (.int .i64 7)).other (c := WD.heap.size) (by omega) 1 (.int .i64 (fr : Int))).other (c := WD.heap.size) (by omega) 2 (.int .i64 (te : Int))
    have b6 : Below WD.heap.size WD (((W5.setCell ⟨WD.heap.size, 0, none⟩ (.int .i64 7)).setCell ⟨WD.heap.size, 1, none⟩ (.int .i64 (fr : Int))).setCell ⟨WD.heap.size, 2, none⟩ (.int .i64 (te : Int))) := ((b5.out.setCell (p := ⟨WD.heap.size, 0, none⟩) (Nat.le_refl _) _).setCell (p := ⟨WD.heap.size, 1, none⟩) (Nat.le_refl _) _).setCell (p := ⟨WD.heap.size, 2, none⟩) (Nat.le_refl _) _
    obtain ⟨W6, hW6⟩ : ∃ x, ((W5.setCell ⟨WD.heap.size, 0, none⟩ (.int .i64 7)).setCell ⟨WD.heap.size, 1, none⟩ (.int .i64 (fr : Int))).setCell ⟨WD.heap.size, 2, none⟩ (.int .i64 (te : Int)) = x := ⟨_, rfl⟩
    rw [hW6] at K6 K06 b6 ⊢
    have X6 := Lib.hid (XD.out.keep b6)
    have KT6 := Lib.hid K6
    have KV6 := Lib.hid K06
    have B6 := Lib.hid b6
    clear hW6 K6 K06 b6 l5
    obtain ⟨c0, c1, c2, c3, c4⟩ := X6.out.cells
    have z2 : W6.frozen? ⟨w0.heap.size, 2, none⟩ = false := frozen_of_row _ _ _ _ _ X6.out.blk
    go_upto_region 6 with fail
    have N7 := X6.out.next HD.out
    rw [show ((n + 1 : Nat) : Int) = (n : Int) + 1 by omega] at N7
    have KT7 := KT6.out.other (c := w0.heap.size) (by omega) 2 (.int .i64 ((n : Int) + 1))
    have KV7 := KV6.out.other (c := w0.heap.size) (by omega) 2 (.int .i64 ((n : Int) + 1))
    obtain ⟨W7, hW7⟩ : ∃ x, W6.setCell ⟨w0.heap.size, 2, none⟩ (.int .i64 ((n : Int) + 1)) = x := ⟨_, rfl⟩
    rw [hW7] at N7 KT7 KV7 ⊢
    have F7 := Lib.hid (((Fr.of b0.out (Nat.le_of_lt hlt)).trans (Fr.of (HB2.out.trans ((D2.out.trans (B6.out.mono sD)).mono HB2.out.size)) (by omega))).trans N7.2)
    have X7 := Lib.hid N7.1
    have KT := Lib.hid KT7
    have KV := Lib.hid KV7
    obtain ⟨n7, x7, hd7⟩ := N7.1
    clear N7 KT7 KV7 hW7
    have hin : fr < te ∧ te ≤ l.length := by
      have := hT (7, fr, te) (List.mem_of_mem_drop (i := n) (by rw [HD.out]; exact List.mem_cons_self))
      exact this
    have hll := x7.ll
    obtain ⟨ba, bcap, hbv, g1, g2, g3⟩ := x7.bs
    obtain ⟨bb, boff, rfl, hbb, hbc⟩ := g3 (by omega)
    obtain ⟨M, hM⟩ : ∃ n, l.length = n := ⟨_, rfl⟩
    rw [hM] at hbv g1
    subst hbv
    have hpt := bs_part (show Bs w0 (.slice (some ⟨bb, boff, none⟩) M bcap) l from x7.bs) fr te (by omega) (by omega)
    have ttb : (l.drop fr).take (te - fr) = tokB l (7, fr, te) := rfl
    rw [ttb] at hpt
    have tbl : (tokB l (7, fr, te)).length ≤ 20000 := by unfold tokB; simp only [List.length_take, List.length_drop]; omega
    have D7 := Lib.hid ((Below.refl W7.heap.size W7).drew)
    have KTD := Lib.hid (KT.out.keep D7.out)
    have KVD := Lib.hid (KV.out.keep D7.out)
    have XD7 := Lib.hid (X7.out.keep D7.out)
    have XS7 := Lib.hid (x7.keep D7.out)
    refine wp_region_noPanic ?_
    have UA := Lib.hid (junitsz_any _ _ W7.drew (hpt.keep XS7.out.lo) (by omega))
    have SS : ∀ V : World, RdS w0 (.slice (some ⟨bb, boff, none⟩) M bcap) (.slice (some ⟨b, off, none⟩) all.length cap) l all V n7 0 0 → BK 85 V WD.heap.size #[.int .i64 7, .int .i64 (fr : Int), .int .i64 (te : Int)] → (V.cell? ⟨w0.heap.size, 0, none⟩ = some (.slice (some ⟨bb, boff, none⟩) M bcap) ∧ V.cell? ⟨WD.heap.size, 1, none⟩ = some (.int .i64 (fr : Int)) ∧ V.cell? ⟨WD.heap.size, 2, none⟩ = some (.int .i64 (te : Int))) := fun V h k => ⟨h.cells.1, k.cell 1, k.cell 2⟩
    refine wp_region_to 14 (S := fun V => (V.cell? ⟨w0.heap.size, 0, none⟩ = some (.slice (some ⟨bb, boff, none⟩) M bcap) ∧ V.cell? ⟨WD.heap.size, 1, none⟩ = some (.int .i64 (fr : Int)) ∧ V.cell? ⟨WD.heap.size, 2, none⟩ = some (.int .i64 (te : Int)))) (by kernel_rfl) (SS _ XS7.out KTD.out) (fun hS => ?_)
    have i1 : (fr : Int) ≤ te := by omega
    have i2 : (te : Int) ≤ M := by omega
    have i3 : (M : Int) ≤ bcap := by omega
    have i4 : ¬ bcap - fr = 0 := by omega
    have i5 : (te : Int) ≤ bcap := by omega
    obtain ⟨WE, hWE⟩ : ∃ x, W7.drew = x := ⟨_, rfl⟩
    rw [hWE] at UA KTD KVD XD7 XS7 hS D7 ⊢
    clear hWE
    refine dtp 0 ?_
    refine dtp 1 ?_
    refine dtp 2 ?_
    refine dtk 3 ?_
    refine dtp 4 ?_
    refine dtk 5 ?_
    refine dtp 6 ?_
    refine dtk 7 ?_
    refine dtp (v := .slice (some ⟨bb, boff + fr, none⟩) (te - fr) (bcap - fr)) 8 (hy := Or.inl ⟨by rfl, by intro V hSV; go_simp; omega⟩) ?_
    refine AnyTo.ready (rs := [9]) (by kernel_rfl) (by simp) ?_
    refine ReadyTo.cons rfl (fun K hK => ?_) ReadyTo.nil
    go_simp
    refine UA.out.mono ?_
    rintro e w8 ⟨tv, ub, rfl, ip, hb8⟩
    refine hK.out _ _ (SS _ (XS7.out.keep hb8) (KTD.out.keep hb8)) (fun hS => ?_)
    clear hK K
    have KT8 := Lib.hid (KTD.out.keep hb8)
    have KV8 := Lib.hid (KVD.out.keep hb8)
    have X8 := Lib.hid (XD7.out.keep hb8)
    refine dtp 10 ?_
    refine dtp 11 ?_
    refine dtp 12 ?_
    refine dtp 13 ?_
    refine AnyTo.ready (rs := [14]) (by kernel_rfl) (by simp) ?_
    refine ReadyTo.last rfl (by kernel_rfl) (fun K hK => ?_) ReadyTo.nil
    go_simp
    refine hK.out _ _ ?_
    clear hK K
    refine AnyTo.done (by kernel_rfl) ?_ _
    refine NoPanic.normal ?_
    obtain ⟨ta, tcap, htv⟩ := ip.slice
    obtain ⟨q, hq⟩ : ∃ q, (iN ((unitsV (tokB l (7, fr, te))).getD [])).length = q := ⟨_, rfl⟩
    rw [hq] at htv
    subst htv
    clear hq
    have t1 := ip.one
    have k1 : w8.cell? ⟨WD.heap.size, 1, none⟩ = some (.int .i64 (fr : Int)) := KT8.out.cell 1
    have IP := Lib.hid ip
    have HB8 := Lib.hid hb8
    clear ip hb8 hS SS
    go_wp2_with (refine wpl_stV rfl _ _ rfl w.heap.size zv (textV l (7, fr, te)) (.slice ta q tcap) nilV nilV rfl rfl KV8.out rfl t1 rfl rfl ?_)
    go_wp2
    have l7 := rdlt X7.out
    have sD7 := D7.out.size
    have lE := KVD.out.lt
    refine bodyPost_ret (res_bk Tryd.underlying36 rfl infoV1 rfl _ _ w.heap.size (vvl (textV l (7, fr, te)) (.slice ta q tcap) nilV nilV) rfl (BK.set KV8.out _) rfl) rfl ⟨.slice ta q tcap, nilV, nilV, rfl, ⟨by simp [textV], by simp [textV], ?_, isP_nil _ _⟩, voP_nil _ _, X8.out.setRow hlt _, Fr.setRow ?_ (Nat.le_refl _) (Nat.le_of_lt hlt) _⟩
    · exact (IP.out.keep (fun b hb => setRow_other _ _ _ _ (by have := hb.1; omega))).mono (fun b hb => ⟨by have := hb.1; omega, Nat.lt_of_lt_of_le hb.2 (below_setRowK (Below.refl 0 w8) (Nat.zero_le _) _).size⟩)
    · exact (F7.out.trans (Fr.of D7.out (by omega))).trans (Fr.of HB8.out (by omega))
end Go.Proofs.YtlobinjdgcidmaaDoor
