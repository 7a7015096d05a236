import Derived.Test.YtbfnlgmhfhaglaaGreatDoorQb22
import Derived.Test.YtbfnlgmhfhaglaaGreatDoorQb08
import Derived.Test.YtbfnlgmhfhaglaaGreatDoorQb02
import Derived.Test.YtbfnlgmhfhaglaaGreatDoorQb14
import Derived.Test.YtbfnlgmhfhaglaaGreatDoorQb21
import Derived.Deep.QuietTactic
import Derived.BigQuiet
set_option maxHeartbeats 4000000
set_option maxRecDepth 100000
namespace Go.Proofs.YtbfnlgmhfhaglaaGreatDoor
open Go.RowKit
set_option linter.unusedVariables false
set_option linter.unusedSimpArgs false
abbrev Rst := Except (Int × Int) M.Toks
def isR (k : Nat) : Rst -> Bool
 | .ok ts => decide (kindP ts = k)
 | .error _ => false
def failR (n : Nat) (e : Int) : Rst -> Rst
 | .ok ts => .error (e, atP n ts)
 | .error x => .error x
def markR (n k : Nat) : Rst -> Int × Rst
 | .ok ts => (match takeP n k ts with
  | .ok (t, r) => ((t.2.1 : Int), .ok r)
  | .error x => (0, .error x))
 | .error x => (0, .error x)
structure RdS (w0 : World) (bv lv : Value) (l : List UInt8) (all : M.Toks) (w : World) (n : Nat) (er at' : Int) : Prop where
 blk : BK 66 w w0.heap.size #[bv, lv, .int .i64 (n : Int), .int .i64 er, .int .i64 at']
 lo : Below w0.heap.size w0 w
 bs : Bs w0 bv l
 tk : Ts w0 lv all
 tx : TabX w0
 hn : n <= all.length
 ll : l.length <= 20000
 la : all.length <= 20000
def RdP (w0 : World) (bv lv : Value) (l : List UInt8) (all : M.Toks) (w : World) : Rst -> Prop
 | .ok ts => ∃ n, RdS w0 bv lv l all w n 0 0 /\ all.drop n = ts
 | .error x => x.1 ≠ 0 /\ ∃ n, RdS w0 bv lv l all w n x.1 x.2
theorem RdS.keep {w0 w w' : World} {bv lv : Value} {l : List UInt8} {all : M.Toks} {n : Nat} {er a : Int} (x : RdS w0 bv lv l all w n er a) (hb : Below w.heap.size w w') : RdS w0 bv lv l all w' n er a :=
 ⟨x.blk.keep hb, x.lo.trans (hb.mono x.lo.size), x.bs, x.tk, x.tx, x.hn, x.ll, x.la⟩
theorem RdP.keep {w0 w w' : World} {bv lv : Value} {l : List UInt8} {all : M.Toks} {st : Rst} (x : RdP w0 bv lv l all w st) (hb : Below w.heap.size w w') : RdP w0 bv lv l all w' st := by
 cases st with
 | ok ts => obtain ⟨n, h, e⟩ := x; exact ⟨n, h.keep hb, e⟩
 | error q => obtain ⟨h0, n, h⟩ := x; exact ⟨h0, n, h.keep hb⟩
theorem RdS.cells {w0 w : World} {bv lv : Value} {l : List UInt8} {all : M.Toks} {n : Nat} {er a : Int} (x : RdS w0 bv lv l all w n er a) :
  w.cell? ⟨w0.heap.size, 0, none⟩ = some bv /\ w.cell? ⟨w0.heap.size, 1, none⟩ = some lv /\ w.cell? ⟨w0.heap.size, 2, none⟩ = some (.int .i64 (n : Int)) /\ w.cell? ⟨w0.heap.size, 3, none⟩ = some (.int .i64 er) /\ w.cell? ⟨w0.heap.size, 4, none⟩ = some (.int .i64 a) := ⟨x.blk.cell 0, x.blk.cell 1, x.blk.cell 2, x.blk.cell 3, x.blk.cell 4⟩
theorem RdS.toks {w0 w : World} {bv lv : Value} {l : List UInt8} {all : M.Toks} {n : Nat} {er a : Int} (x : RdS w0 bv lv l all w n er a) :
  ∃ ta cap, lv = .slice ta all.length cap /\ all.length <= cap /\ cap <= maxLen /\ (n < all.length -> ∃ b off, ta = some ⟨b, off, none⟩ /\ b < w0.heap.size /\ ∀ i u, (tv (all.getD n (0, 0, 0)))[i]? = some u -> w.cell? ⟨b, off + (n * 3 + i), none⟩ = some u) := by
 obtain ⟨ta, cap, e, h1, h2, h3⟩ := x.tk
 rw [tvs_len] at e h1
 refine ⟨ta, cap, e, h1, h2, fun h0 => ?_⟩
 obtain ⟨b, off, e2, hb, hc⟩ := h3 (by rw [tvs_len]; omega)
 refine ⟨b, off, e2, hb, fun i u hu => ?_⟩
 rw [x.lo.cell (p := ⟨b, off + (n * 3 + i), none⟩) hb]
 refine hc n (by rw [tvs_len]; exact h0) i u ?_
 rw [show all.getD n (0, 0, 0) = all[n] by simp [List.getD, h0]] at hu
 simpa [tvs] using hu
theorem drop_head {all : M.Toks} {n : Nat} : kindP (all.drop n) = if n < all.length then (all.getD n (0, 0, 0)).1 else 0 := by
 by_cases h : n < all.length
 ·rw [if_pos h, List.drop_eq_getElem_cons h]; simp [kindP, List.getD, h]
 ·rw [if_neg h, List.drop_eq_nil_of_le (by omega)]; rfl
theorem drop_at' {all : M.Toks} {n m : Nat} : atP m (all.drop n) = if n < all.length then ((all.getD n (0, 0, 0)).2.1 : Int) else (m : Int) := by
 by_cases h : n < all.length
 ·rw [if_pos h, List.drop_eq_getElem_cons h]; simp [atP, List.getD, h]
 ·rw [if_neg h, List.drop_eq_nil_of_le (by omega)]; rfl
theorem rdat_any {w0 w : World} {bv lv : Value} {l : List UInt8} {all : M.Toks} {n : Nat} {er a : Int} (x : RdS w0 bv lv l all w n er a) :
  Calls Tryz.prog 52 #[ptrP w0] w fun e w' => e = .returned (.int .i64 (atP l.length (all.drop n))) /\ Below w.heap.size w w' := by
 rw [drop_at']
 obtain ⟨c0, c1, c2, c3, c4⟩ := x.cells
 obtain ⟨ta, cap, rfl, h1, h2, h3⟩ := x.toks
 obtain ⟨ba, bcap, hbv, g1, g2, g3⟩ := x.bs
 subst hbv
 unfold ptrP
 obtain ⟨N, hN⟩ : ∃ q, all.length = q := ⟨_, rfl⟩
 have hn := x.hn
 rw [hN] at h1 h3 c1 hn ⊢
 by_cases h : n < N
 ·rw [if_pos h]
  obtain ⟨b, off, rfl, hb, hc⟩ := h3 h
  obtain ⟨t, ht⟩ : ∃ t, all.getD n (0, 0, 0) = t := ⟨_, rfl⟩
  rw [ht] at hc ⊢
  have d1 := hc 1 _ rfl
  rw [<- Nat.add_assoc] at d1
  obtain ⟨Z, hZ⟩ : ∃ q : Int, (t.2.1 : Int) = q := ⟨_, rfl⟩
  rw [hZ] at d1 ⊢
  have i1 : (n : Int) < N := by omega
  have t1 : decide ((n : Int) < N) = true := by simp; omega
  clear x hc h3 g1 g3 ht hZ hN
  go_enter Tryz.func52, Tryz.ntmps52
  go_wp2
  go_quiet (fail)
  go_wp2
  go_quiet (fail)
  go_wp2
  go_ret
  exact ⟨rfl, ⟨rfl, rfl, rfl, Nat.le_refl _, fun _ _ => rfl⟩⟩
 ·rw [if_neg h]
  obtain rfl : n = N := by omega
  have t1 : decide ((n : Int) < n) = false := by simp
  clear x h3 g1 g3 hN
  go_enter Tryz.func52, Tryz.ntmps52
  go_wp2
  go_quiet (fail)
  go_wp2
  go_ret
  exact ⟨rfl, ⟨rfl, rfl, rfl, Nat.le_refl _, fun _ _ => rfl⟩⟩
theorem rdis_any {w0 w : World} {bv lv : Value} {l : List UInt8} {all : M.Toks} {st : Rst} (k : Nat) (hk : 1 <= k) (x : RdP w0 bv lv l all w st) :
  Calls Tryz.prog 48 #[ptrP w0, .int .i64 (k : Int)] w fun e w' => e = .returned (.bool (isR k st)) /\ Below w.heap.size w w' := by
 obtain ⟨K, hK⟩ : ∃ q : Int, (k : Int) = q := ⟨_, rfl⟩
 rw [hK]
 unfold ptrP
 cases st with
 | error q =>
  obtain ⟨h0, n, x⟩ := x
  obtain ⟨c0, c1, c2, c3, c4⟩ := x.cells
  obtain ⟨E, hE⟩ : ∃ z, q.1 = z := ⟨_, rfl⟩
  rw [hE] at h0 c3
  have t0 : (E == 0) = false := by simpa using h0
  show Calls _ _ _ _ fun e w' => e = .returned (.bool false) /\ _
  clear x hE hK h0
  go_enter Tryz.func48, Tryz.ntmps48
  go_wp2
  go_quiet (fail)
  go_wp2
  go_ret
  exact ⟨rfl, ⟨rfl, rfl, rfl, Nat.le_refl _, fun _ _ => rfl⟩⟩
 | ok ts =>
  obtain ⟨n, x, hd⟩ := x
  obtain ⟨c0, c1, c2, c3, c4⟩ := x.cells
  obtain ⟨ta, cap, rfl, h1, h2, h3⟩ := x.toks
  obtain ⟨N, hN⟩ : ∃ q, all.length = q := ⟨_, rfl⟩
  have hn := x.hn
  have hkd := drop_head (all := all) (n := n)
  rw [hN] at h1 h3 c1 hn hkd
  rw [hd] at hkd
  rw [show isR k (.ok ts) = decide (kindP ts = k) from rfl, hkd]
  by_cases h : n < N
  ·rw [if_pos h]
   obtain ⟨b, off, rfl, hb, hc⟩ := h3 h
   obtain ⟨t, ht⟩ : ∃ t, all.getD n (0, 0, 0) = t := ⟨_, rfl⟩
   rw [ht] at hc ⊢
   have d1 := hc 0 _ rfl
   rw [Nat.add_zero] at d1
   have i1 : (n : Int) < N := by omega
   have t1 : decide ((n : Int) < N) = true := by simp; omega
   obtain ⟨B, hB⟩ : ∃ B, decide (t.1 = k) = B := ⟨_, rfl⟩
   obtain ⟨Z, hZ⟩ : ∃ q : Int, (t.1 : Int) = q := ⟨_, rfl⟩
   have t2 : (Z == K) = B := by
    rw [<- hZ, <- hK, <- hB]
    by_cases e : t.1 = k
    ·simp [e]
    ·simp [e]; omega
   rw [hZ] at d1
   rw [hB]
   clear x hc h3 ht hZ hN hK hd hkd hB
   cases B with
   | true =>
    go_enter Tryz.func48, Tryz.ntmps48
    go_wp2
    go_quiet (fail)
    go_wp2
    go_ret
    exact ⟨rfl, ⟨rfl, rfl, rfl, Nat.le_refl _, fun _ _ => rfl⟩⟩
   | false =>
    go_enter Tryz.func48, Tryz.ntmps48
    go_wp2
    go_quiet (fail)
    go_wp2
    go_ret
    exact ⟨rfl, ⟨rfl, rfl, rfl, Nat.le_refl _, fun _ _ => rfl⟩⟩
  ·rw [if_neg h]
   obtain rfl : n = N := by omega
   have t1 : decide ((n : Int) < n) = false := by simp
   rw [decide_eq_false (show ¬ 0 = k by omega)]
   clear x h3 hN hK hd hkd
   go_enter Tryz.func48, Tryz.ntmps48
   go_wp2
   go_quiet (fail)
   go_wp2
   go_ret
   exact ⟨rfl, ⟨rfl, rfl, rfl, Nat.le_refl _, fun _ _ => rfl⟩⟩
def RdQ (w0 : World) (bv lv : Value) (l : List UInt8) (all : M.Toks) (st : Rst) (w w' : World) : Prop := RdP w0 bv lv l all w' st /\ Fr w0.heap.size w w'
theorem RdS.put {w0 w : World} {bv lv : Value} {l : List UInt8} {all : M.Toks} {n m : Nat} {er a er' a' : Int} (x : RdS w0 bv lv l all w n er a) (W' : World) (hW : W'.heap[w0.heap.size]? = some (.cells #[bv, lv, .int .i64 (m : Int), .int .i64 er', .int .i64 a'] 66 (0, 0))) (hlo : Below w0.heap.size w0 W') (hm : m <= all.length) : RdS w0 bv lv l all W' m er' a' :=
 ⟨hW, hlo, x.bs, x.tk, x.tx, hm, x.ll, x.la⟩
theorem rdfail_any {w0 w : World} {bv lv : Value} {l : List UInt8} {all : M.Toks} {st : Rst} (e' : Int) (he : e' ≠ 0) (x : RdP w0 bv lv l all w st) :
  Calls Tryz.prog 31 #[ptrP w0, .int .i64 e'] w fun e w' => e = .returned (.tuple #[]) /\ RdQ w0 bv lv l all (failR l.length e' st) w w' := by
 cases st with
 | error q =>
  obtain ⟨h0, n, x⟩ := x
  have HX := LH x
  obtain ⟨c0, c1, c2, c3, c4⟩ := x.cells
  obtain ⟨E, hE⟩ : ∃ z, q.1 = z := ⟨_, rfl⟩
  have h0' := h0
  rw [hE] at h0' c3
  have t0 : (E == 0) = false := by simpa using h0'
  have HQ : Hid (RdQ w0 bv lv l all (failR l.length e' (.error q)) w w) := LH ⟨⟨h0, n, HX.out⟩, Fr.refl _ _⟩
  unfold ptrP
  clear x h0 h0' hE
  go_enter Tryz.func31, Tryz.ntmps31
  go_wp2
  refine ⟨rfl, .tuple #[], by simp [results, Tryz.results31], rfl, HQ.out⟩
 | ok ts =>
  obtain ⟨n, x, hd⟩ := x
  have AT := LH (rdat_any x)
  rw [hd] at AT
  have HX := LH x
  obtain ⟨c0, c1, c2, c3, c4⟩ := x.cells
  obtain ⟨Z, hZ⟩ : ∃ q : Int, atP l.length ts = q := ⟨_, rfl⟩
  rw [hZ] at AT
  have HZ := LH hZ
  unfold ptrP at AT ⊢
  clear x hd hZ
  go_enter Tryz.func31, Tryz.ntmps31
  go_wp2_with fail
  refine AT.out.mono ?_
  rintro e w1 ⟨rfl, hb⟩
  have X1 := LH (HX.out.keep hb)
  obtain ⟨e0, e1, e2, e3, e4⟩ := X1.out.cells
  have z3 : w1.frozen? ⟨w0.heap.size, 3, none⟩ = false := frozen_of_row _ _ _ _ _ X1.out.blk
  have z4 : w1.frozen? ⟨w0.heap.size, 4, none⟩ = false := frozen_of_row _ _ _ _ _ X1.out.blk
  have HQ : Hid (RdQ w0 bv lv l all (failR l.length e' (.ok ts)) w ((w1.setCell ⟨w0.heap.size, 3, none⟩ (.int .i64 e')).setCell ⟨w0.heap.size, 4, none⟩ (.int .i64 Z))) := LH (by
   have hlt := HX.out.blk.lt
   refine ⟨⟨he, n, ?_⟩, ?_⟩
   ·show RdS _ _ _ _ _ _ n e' (atP l.length ts)
    rw [HZ.out]
    exact X1.out.put _ ((X1.out.blk.setCell 3 (.int .i64 e')).setCell 4 (.int .i64 Z)) ((X1.out.lo.setCell (p := ⟨w0.heap.size, 3, none⟩) (Nat.le_refl _) _).setCell (p := ⟨w0.heap.size, 4, none⟩) (Nat.le_refl _) _) X1.out.hn
   ·have f1 : Fr w0.heap.size w w1 := Fr.of hb (Nat.le_of_lt hlt)
    exact ⟨(f1.lo.setCell (p := ⟨w0.heap.size, 3, none⟩) (Nat.le_refl _) _).setCell (p := ⟨w0.heap.size, 4, none⟩) (Nat.le_refl _) _, fun j hj hn => by rw [heap_setCell_other _ _ _ _ hn, heap_setCell_other _ _ _ _ hn]; exact f1.oth j hj hn⟩)
  clear hb
  go_wp2
  refine ⟨rfl, .tuple #[], by simp [results, Tryz.results31], rfl, HQ.out⟩
theorem rdat_rd {w0 w : World} {bv lv : Value} {l : List UInt8} {all : M.Toks} {st : Rst} (x : RdP w0 bv lv l all w st) :
  ∃ Z : Int, (Calls Tryz.prog 52 #[ptrP w0] w fun e w' => e = .returned (.int .i64 Z) /\ Below w.heap.size w w') /\ ∀ ts, st = .ok ts -> Z = atP l.length ts := by
 cases st with
 | ok ts =>
  obtain ⟨n, h, e⟩ := x
  refine ⟨_, rdat_any h, fun ts' e' => ?_⟩
  cases e'; rw [e]
 | error q =>
  obtain ⟨h0, n, h⟩ := x
  exact ⟨_, rdat_any h, fun ts' e' => by cases e'⟩
theorem rdlt {w0 w : World} {bv lv : Value} {l : List UInt8} {all : M.Toks} {st : Rst} (x : RdP w0 bv lv l all w st) : w0.heap.size < w.heap.size := by
 cases st with
 | ok ts => obtain ⟨n, h, _⟩ := x; exact h.blk.lt
 | error q => obtain ⟨_, n, h⟩ := x; exact h.blk.lt
theorem markR_no {n k : Nat} {st : Rst} (hk : 1 <= k) (h : isR k st = false) : markR n k st = (0, failR n 3 st) := by
 cases st with
 | error q => rfl
 | ok ts =>
  have h' : kindP ts ≠ k := by simpa [isR] using h
  cases ts with
  | nil => rfl
  | cons t r =>
   have h2 : t.1 ≠ k := h'
   simp [markR, takeP, h2, failR, synP]
theorem markR_yes {n k : Nat} {st : Rst} (hk : 1 <= k) (h : isR k st = true) : ∃ t r, st = .ok (t :: r) /\ t.1 = k /\ markR n k st = ((t.2.1 : Int), .ok r) := by
 cases st with
 | error q => cases h
 | ok ts =>
  have h' : kindP ts = k := by simpa [isR] using h
  cases ts with
  | nil => simp [kindP] at h'; omega
  | cons t r =>
   have h2 : t.1 = k := h'
   exact ⟨t, r, rfl, h2, by simp [markR, takeP, h2]⟩
theorem drop_next {all : M.Toks} {n : Nat} {t : Nat × Nat × Nat} {r : M.Toks} (h : all.drop n = t :: r) : n < all.length /\ all.drop (n + 1) = r := by
 have hn : n < all.length := by
  by_cases h' : n < all.length
  ·exact h'
  ·rw [List.drop_eq_nil_of_le (by omega)] at h; cases h
 rw [List.drop_eq_getElem_cons hn] at h
 exact ⟨hn, (List.cons.inj h).2⟩
theorem RdS.next {w0 w : World} {bv lv : Value} {l : List UInt8} {all : M.Toks} {n : Nat} {t : Nat × Nat × Nat} {r : M.Toks} (x : RdS w0 bv lv l all w n 0 0) (hd : all.drop n = t :: r) :
  RdP w0 bv lv l all (w.setCell ⟨w0.heap.size, 2, none⟩ (.int .i64 ((n + 1 : Nat) : Int))) (.ok r) /\ Fr w0.heap.size w (w.setCell ⟨w0.heap.size, 2, none⟩ (.int .i64 ((n + 1 : Nat) : Int))) := by
 obtain ⟨hn, h2⟩ := drop_next hd
 have hlt := x.blk.lt
 refine ⟨⟨n + 1, x.put _ (x.blk.setCell 2 (.int .i64 ((n + 1 : Nat) : Int))) (x.lo.setCell (p := ⟨w0.heap.size, 2, none⟩) (Nat.le_refl _) _) hn, h2⟩, ?_⟩
 exact ⟨(Below.refl _ _).setCell (p := ⟨w0.heap.size, 2, none⟩) (Nat.le_refl _) _, fun j hj hn => heap_setCell_other _ _ _ _ hn⟩
theorem rdmark_any {w0 w : World} {bv lv : Value} {l : List UInt8} {all : M.Toks} {st : Rst} (k : Nat) (hk : 1 <= k) (x : RdP w0 bv lv l all w st) :
  Calls Tryz.prog 51 #[ptrP w0, .int .i64 (k : Int)] w fun e w' => e = .returned (.int .i64 (markR l.length k st).1) /\ RdQ w0 bv lv l all (markR l.length k st).2 w w' := by
 obtain ⟨Z, AT0, hZ⟩ := rdat_rd x
 have AT := LH AT0
 have HX := LH x
 cases hR : isR k st with
 | false =>
  rw [markR_no hk hR]
  have IS := LH (fun (w1 : World) (h : RdP w0 bv lv l all w1 st) => (hR ▸ rdis_any k hk h : Calls Tryz.prog 48 #[ptrP w0, .int .i64 (k : Int)] w1 fun e w' => e = .returned (.bool false) /\ Below w1.heap.size w1 w'))
  have FA := LH (fun (w1 : World) (h : RdP w0 bv lv l all w1 st) => rdfail_any (e' := 3) (by decide) h)
  obtain ⟨K, hK⟩ : ∃ q : Int, (k : Int) = q := ⟨_, rfl⟩
  rw [hK] at IS ⊢
  unfold ptrP at AT IS FA ⊢
  clear x AT0 hZ hK hR
  go_enter Tryz.func51, Tryz.ntmps51
  go_wp2_with fail
  refine AT.out.mono ?_
  rintro e w1 ⟨rfl, hb⟩
  have H1 := LH hb
  clear hb
  go_wp2_with fail
  refine (IS.out w1 (HX.out.keep H1.out)).mono ?_
  rintro e w2 ⟨rfl, hb⟩
  have H2 := LH hb
  clear hb
  go_wp2_with fail
  refine (FA.out w2 ((HX.out.keep H1.out).keep H2.out)).mono ?_
  rintro e w3 ⟨rfl, hq⟩
  have H3 := LH hq
  clear hq
  go_wp2
  go_ret
  exact ⟨rfl, H3.out.1, (Fr.of (H1.out.trans (H2.out.mono H1.out.size)) (Nat.le_of_lt (rdlt HX.out))).trans H3.out.2⟩
 | true =>
  obtain ⟨t, r, rfl, ht, hm⟩ := markR_yes (n := l.length) hk hR
  rw [hm]
  have hZ1 := hZ _ rfl
  subst hZ1
  have IS := LH (fun (w1 : World) (h : RdP w0 bv lv l all w1 (.ok (t :: r))) => (hR ▸ rdis_any k hk h : Calls Tryz.prog 48 #[ptrP w0, .int .i64 (k : Int)] w1 fun e w' => e = .returned (.bool true) /\ Below w1.heap.size w1 w'))
  obtain ⟨K, hK⟩ : ∃ q : Int, (k : Int) = q := ⟨_, rfl⟩
  rw [hK] at IS ⊢
  show Calls _ _ _ _ fun e w' => e = .returned (.int .i64 (atP l.length (t :: r))) /\ _
  obtain ⟨Z, hZ⟩ : ∃ q : Int, atP l.length (t :: r) = q := ⟨_, rfl⟩
  rw [hZ] at AT ⊢
  obtain ⟨n, x, hd⟩ := x
  have HS := LH x
  have HD := LH hd
  have hn := drop_next hd
  have hla := x.la
  unfold ptrP at AT IS ⊢
  have hn2 : n < 20000 := by omega
  clear x AT0 hZ hK hR hm ht hd hn hla
  go_enter Tryz.func51, Tryz.ntmps51
  go_wp2_with fail
  refine AT.out.mono ?_
  rintro e w1 ⟨rfl, hb⟩
  have H1 := LH hb
  clear hb
  go_wp2_with fail
  refine (IS.out w1 (HX.out.keep H1.out)).mono ?_
  rintro e w2 ⟨rfl, hb⟩
  have H2 := LH ((HS.out.keep H1.out).keep hb)
  have H3 := LH (Fr.of (H1.out.trans (hb.mono H1.out.size)) (Nat.le_of_lt HS.out.blk.lt) : Fr w0.heap.size w w2)
  clear hb
  obtain ⟨c0, c1, c2, c3, c4⟩ := H2.out.cells
  have z2 : w2.frozen? ⟨w0.heap.size, 2, none⟩ = false := frozen_of_row _ _ _ _ _ H2.out.blk
  go_wp2
  go_ret
  have hq := H2.out.next HD.out
  rw [show ((n + 1 : Nat) : Int) = (n : Int) + 1 by omega] at hq
  exact ⟨rfl, hq.1, H3.out.trans hq.2⟩
end Go.Proofs.YtbfnlgmhfhaglaaGreatDoor
