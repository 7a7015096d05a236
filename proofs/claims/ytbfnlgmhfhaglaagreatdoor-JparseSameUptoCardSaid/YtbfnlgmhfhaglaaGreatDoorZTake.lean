/- jparse: take. -/
import Derived.Test.YtbfnlgmhfhaglaaGreatDoorZPs
namespace Go.Proofs.YtbfnlgmhfhaglaaGreatDoor
open Go.RowKit
set_option linter.unusedVariables false
set_option linter.unusedSimpArgs false

/-- A token of this kind is taken, or there is none. -/
def takeP (n k : Nat) : M.Toks → Except (Int × Int) ((Nat × Nat × Nat) × M.Toks)
  | t :: r => if t.1 = k then .ok (t, r) else .error (synP n (t :: r))
  | [] => .error (synP n [])
def TakeQ (w0 : World) (bv : Value) (D : Int) (l : List UInt8) (k : Nat) (ts : M.Toks) (w : World) (e : Ending) (w' : World) : Prop := match takeP l.length k ts with
  | .ok (t, r) => ∃ tw, e = .returned (.agg #[.int .i64 (t.1 : Int), .int .i64 (t.2.1 : Int), .int .i64 (t.2.2 : Int)]) ∧ PsW w0 bv D l w' tw r ∧ Fr w0.heap.size w w'
  | .error x => Pan e x ∧ Below w0.heap.size w w'
def tz : Array Value := #[.int .i64 0, .int .i64 0, .int .i64 0]
theorem ts_zero (w : World) (a : Option Addr) (c : Nat) (hc : c ≤ maxLen) : Ts w (.slice a 0 c) [] := ⟨a, c, rfl, Nat.zero_le _, hc, fun h => by simp [tvs] at h⟩
theorem take_end {w0 w W2 : World} {bv tw tw' : Value} {D : Int} {l : List UInt8} {ts r : M.Toks} (x2 : PsW w0 bv D l W2 tw ts) (b : Below w.heap.size w W2) (hlt : w0.heap.size < w.heap.size) (K : BK 51 W2 w.heap.size #[.int .i64 0, .int .i64 0, .int .i64 0])
    (h : Ts w0 tw' r) (c0 c1 c2 : Value) (W3 : World) (hW : (((W2.setCell ⟨w0.heap.size, 1, none⟩ tw').setCell ⟨w.heap.size, 0, none⟩ c0).setCell ⟨w.heap.size, 1, none⟩ c1).setCell ⟨w.heap.size, 2, none⟩ c2 = W3) :
    PsW w0 bv D l W3 tw' r ∧ Fr w0.heap.size w W3 ∧ BK 51 W3 w.heap.size #[c0, c1, c2] := by
  subst hW
  obtain ⟨x3, f3⟩ := x2.move h
  have ne : w0.heap.size ≠ w.heap.size := by omega
  have f2 := (Fr.of b (Nat.le_of_lt hlt)).trans f3
  have K3 := K.other (Ne.symm ne) 1 tw'
  have st : ∀ (W : World) (j : Nat) (u : Value), PsW w0 bv D l W tw' r → Fr w0.heap.size w W → PsW w0 bv D l (W.setCell ⟨w.heap.size, j, none⟩ u) tw' r ∧ Fr w0.heap.size w (W.setCell ⟨w.heap.size, j, none⟩ u) := fun W j u x f =>
    ⟨⟨x.blk.other ne j u, x.lo.setCell (p := ⟨w.heap.size, j, none⟩) (Nat.le_of_lt hlt) u, x.bs, x.tk, x.tb, x.ll⟩, ⟨f.lo.setCell (p := ⟨w.heap.size, j, none⟩) (Nat.le_of_lt hlt) u, fun i hi hn => by rw [heap_setCell_other _ _ _ _ (by show i ≠ w.heap.size; omega)]; exact f.oth i hi hn⟩⟩
  obtain ⟨x4, f4⟩ := st _ 0 c0 x3 f2
  obtain ⟨x5, f5⟩ := st _ 1 c1 x4 f4
  obtain ⟨x6, f6⟩ := st _ 2 c2 x5 f5
  exact ⟨x6, f6, ((K3.setCell 0 c0).setCell 1 c1).setCell 2 c2⟩
set_option maxRecDepth 100000 in
set_option maxHeartbeats 2000000 in
theorem take_any {w0 w : World} {bv tw : Value} {D : Int} {l : List UInt8} {ts : M.Toks} (k : Nat) (hk : 1 ≤ k) (x : PsW w0 bv D l w tw ts) :
    Calls Tryz.prog 65 #[ptrP w0, .int .i64 (k : Int)] w (TakeQ w0 bv D l k ts w) := by
  have b0 := Lib.hid ((Below.refl w.heap.size w).alloc (Nat.le_refl _) (.cells #[.int .i64 0, .int .i64 0, .int .i64 0] 51))
  have K0 := Lib.hid (BK.new 51 w #[.int .i64 0, .int .i64 0, .int .i64 0])
  obtain ⟨W1, hW1⟩ : ∃ x, w.alloc (.cells #[.int .i64 0, .int .i64 0, .int .i64 0] 51) = x := ⟨_, rfl⟩
  rw [hW1] at b0 K0
  have x1 := x.keep b0.out
  have HW1 := Lib.hid hW1
  have hlt := x.lt
  clear hW1
  have KA := Lib.hid (kind_any x1)
  have UA := Lib.hid (unfit_any x1)
  have X1 := Lib.hid x1
  unfold ptrP at KA UA ⊢
  by_cases hkk : kindP ts = k
  · cases ts with
    | nil => simp [kindP] at hkk; omega
    | cons t r =>
      simp only [kindP] at hkk KA
      have hR : takeP l.length k (t :: r) = .ok (t, r) := by simp [takeP, hkk]
      unfold TakeQ
      rw [hR]
      obtain ⟨b, off, cap, rfl, h1, h2, hb, d0, d1, d2, h3⟩ := x1.first
      obtain ⟨c0, c1, c2⟩ := x1.cells
      obtain ⟨n, hn⟩ : ∃ n, r.length = n := ⟨_, rfl⟩
      rw [hn] at h1 c1
      rw [hkk] at KA d0
      have T3 := Lib.hid h3
      simp only [hkk]
      clear x x1 h3
      go_enter Tryz.func65, Tryz.ntmps65
      go_upto_region 1 with fail
      rw [HW1.out]
      go_wp2_with fail
      refine KA.out.mono ?_
      rintro e w' ⟨rfl, hw⟩
      rw [hw]
      clear hw w'
      go_upto_region 4 with fail
      have b2 : Below W1.heap.size W1 (W1.alloc (.cells #[.int .i64 (k : Int), .int .i64 (t.2.1 : Int), .int .i64 (t.2.2 : Int)] 51)) := (Below.refl _ _).alloc (Nat.le_refl _) _
      have K2 := BK.new 51 W1 #[.int .i64 (k : Int), .int .i64 (t.2.1 : Int), .int .i64 (t.2.2 : Int)]
      obtain ⟨W2, hW2⟩ : ∃ x, W1.alloc (.cells #[.int .i64 (k : Int), .int .i64 (t.2.1 : Int), .int .i64 (t.2.2 : Int)] 51) = x := ⟨_, rfl⟩
      rw [hW2] at b2 K2 ⊢
      have x2 := X1.out.keep b2
      have K02 := K0.out.keep b2
      obtain ⟨c0', c1', c2'⟩ := x2.cells
      rw [hn] at c1'
      have m0 : W2.cell? ⟨W1.heap.size, 0, none⟩ = some (.int .i64 (k : Int)) := K2.cell 0
      have m1 : W2.cell? ⟨W1.heap.size, 1, none⟩ = some (.int .i64 (t.2.1 : Int)) := K2.cell 1
      have m2 : W2.cell? ⟨W1.heap.size, 2, none⟩ = some (.int .i64 (t.2.2 : Int)) := K2.cell 2
      have n0 : W2.cell? ⟨w.heap.size, 0, none⟩ = some (.int .i64 0) := K02.cell 0
      have n1 : W2.cell? ⟨w.heap.size, 1, none⟩ = some (.int .i64 0) := K02.cell 1
      have n2 : W2.cell? ⟨w.heap.size, 2, none⟩ = some (.int .i64 0) := K02.cell 2
      have z0 : W2.frozen? ⟨w0.heap.size, 1, none⟩ = false := frozen_of_row _ _ _ _ _ x2.blk
      have z1 : W2.frozen? ⟨w.heap.size, 0, none⟩ = false := frozen_of_row _ _ _ _ _ K02
      have z2 : W2.frozen? ⟨w.heap.size, 1, none⟩ = false := frozen_of_row _ _ _ _ _ K02
      have z3 : W2.frozen? ⟨w.heap.size, 2, none⟩ = false := frozen_of_row _ _ _ _ _ K02
      have ne1 : w0.heap.size ≠ w.heap.size := by omega
      have l1 := K0.out.lt
      have ne2 : w0.heap.size ≠ W1.heap.size := by omega
      have ne3 : w.heap.size ≠ W1.heap.size := by omega
      clear c0 c1 c2 d0 d1 d2 hW2
      have X2 := Lib.hid x2
      have B2 := Lib.hid (b0.out.trans (b2.mono b0.out.size))
      have KK := Lib.hid K02
      rw [hn] at T3
      clear x2 b2 K02 K2
      go_wp2
      case inl =>
        have hn0 : n = 0 := by omega
        subst hn0
        obtain rfl : r = [] := List.eq_nil_of_length_eq_zero hn
        obtain ⟨W3, hW3⟩ : ∃ x, (((W2.setCell ⟨w0.heap.size, 1, none⟩ (.slice (some ⟨b, off, none⟩) 0 0)).setCell ⟨w.heap.size, 0, none⟩ (.int .i64 (k : Int))).setCell ⟨w.heap.size, 1, none⟩ (.int .i64 (t.2.1 : Int))).setCell ⟨w.heap.size, 2, none⟩ (.int .i64 (t.2.2 : Int)) = x := ⟨_, rfl⟩
        obtain ⟨x4, f4, k4⟩ := take_end X2.out B2.out hlt KK.out (ts_zero _ _ _ (by decide)) _ _ _ _ hW3
        rw [hW3]
        exact bodyPost_ret (res_bk Tryz.underlying51 rfl infoTok1 rfl _ _ w.heap.size [.int .i64 (k : Int), .int .i64 (t.2.1 : Int), .int .i64 (t.2.2 : Int)] rfl k4 rfl) rfl ⟨rfl, ⟨_, x4⟩, f4⟩
      case inr =>
        obtain ⟨W3, hW3⟩ : ∃ x, (((W2.setCell ⟨w0.heap.size, 1, none⟩ (.slice (some ⟨b, off + 3, none⟩) n (cap - 1))).setCell ⟨w.heap.size, 0, none⟩ (.int .i64 (k : Int))).setCell ⟨w.heap.size, 1, none⟩ (.int .i64 (t.2.1 : Int))).setCell ⟨w.heap.size, 2, none⟩ (.int .i64 (t.2.2 : Int)) = x := ⟨_, rfl⟩
        obtain ⟨x4, f4, k4⟩ := take_end X2.out B2.out hlt KK.out T3.out _ _ _ _ hW3
        rw [hW3]
        exact bodyPost_ret (res_bk Tryz.underlying51 rfl infoTok1 rfl _ _ w.heap.size [.int .i64 (k : Int), .int .i64 (t.2.1 : Int), .int .i64 (t.2.2 : Int)] rfl k4 rfl) rfl ⟨rfl, ⟨_, x4⟩, f4⟩
  · have hR : takeP l.length k ts = .error (synP l.length ts) := by
      cases ts with
      | nil => rfl
      | cons t r => simp only [kindP] at hkk; simp [takeP, hkk]
    unfold TakeQ
    rw [hR]
    have hne : ¬ ((kindP ts : Int) = k) := by omega
    obtain ⟨q, hq⟩ : ∃ q : Int, (kindP ts : Int) = q := ⟨_, rfl⟩
    obtain ⟨z, hz⟩ : ∃ q : Int, (k : Int) = q := ⟨_, rfl⟩
    rw [hq] at KA hne
    rw [hz] at hne ⊢
    clear x x1
    go_enter Tryz.func65, Tryz.ntmps65
    go_upto_region 1 with fail
    rw [HW1.out]
    go_wp2_with fail
    refine KA.out.mono ?_
    rintro e w' ⟨rfl, hw⟩
    rw [hw]
    clear hw w'
    go_wp2_with fail
    refine UA.out.mono ?_
    rintro e w2 ⟨rfl, hb2⟩
    go_wp2
    exact ⟨rfl, rfl, (b0.out.trans (hb2.mono b0.out.size)).mono (Nat.le_of_lt hlt)⟩
end Go.Proofs.YtbfnlgmhfhaglaaGreatDoor
