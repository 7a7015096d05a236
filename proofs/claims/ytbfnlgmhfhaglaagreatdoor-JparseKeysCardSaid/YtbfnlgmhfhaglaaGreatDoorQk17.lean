/- Texts of ours in one: ZPs ZTake ZSing ZPl. -/
import Derived.Test.YtbfnlgmhfhaglaaGreatDoorQk15
import Derived.Test.YtbfnlgmhfhaglaaGreatDoorQk07
import Derived.Test.YtbfnlgmhfhaglaaGreatDoorQk02
import Derived.Deep.DeepCutAuto
import Derived.WalkLawsBesides
import Derived.Test.YtbfnlgmhfhaglaaGreatDoorQk03
/- jparse: the parser's state in memory; kind, unfit, take. -/
namespace Go.Proofs.YtbfnlgmhfhaglaaGreatDoor
open Go.RowKit
set_option linter.unusedVariables false
set_option linter.unusedSimpArgs false

def atP (n : Nat) : M.Toks → Int
  | [] => n
  | t :: _ => t.2.1
def kindP : M.Toks → Nat
  | [] => 0
  | t :: _ => t.1
def synP (n : Nat) (ts : M.Toks) : Int × Int := (3, atP n ts)
structure PsW (w0 : World) (bv : Value) (D : Int) (l : List UInt8) (w : World) (tv : Value) (ts : M.Toks) : Prop where
  blk : BK 61 w w0.heap.size #[bv, tv, .int .i64 D]
  lo : Below w0.heap.size w0 w
  bs : Bs w0 bv l
  tk : Ts w0 tv ts
  tb : Tabs w0
  ll : l.length ≤ 1048576
structure Fr (pb : Nat) (w w' : World) : Prop where
  lo : Below pb w w'
  oth : ∀ j, j < w.heap.size → j ≠ pb → w'.heap[j]? = w.heap[j]?
theorem Fr.trans {pb : Nat} {a b c : World} (h : Fr pb a b) (k : Fr pb b c) : Fr pb a c :=
  ⟨h.lo.trans k.lo, fun j hj hn => (k.oth j (Nat.lt_of_lt_of_le hj h.lo.size) hn).trans (h.oth j hj hn)⟩
theorem Fr.of {pb : Nat} {w w' : World} (h : Below w.heap.size w w') (hp : pb ≤ w.heap.size) : Fr pb w w' := ⟨h.mono hp, fun j hj _ => h.block j hj⟩
theorem PsW.keep {w0 w w' : World} {bv tv : Value} {D : Int} {l : List UInt8} {ts : M.Toks} (x : PsW w0 bv D l w tv ts) (hb : Below w.heap.size w w') : PsW w0 bv D l w' tv ts :=
  ⟨x.blk.keep hb, x.lo.trans (hb.mono x.lo.size), x.bs, x.tk, x.tb, x.ll⟩
theorem PsW.lt {w0 w : World} {bv tv : Value} {D : Int} {l : List UInt8} {ts : M.Toks} (x : PsW w0 bv D l w tv ts) : w0.heap.size < w.heap.size := x.blk.lt
def Pan (e : Ending) (r : Int × Int) : Prop := e = .panicked [{ v := .iface 57 (.agg #[.int .i64 r.1, .int .i64 r.2]), recovered := false }]
def ptrP (w0 : World) : Value := .pointer (some ⟨w0.heap.size, 0, none⟩)
theorem PsW.toks {w0 w : World} {bv tw : Value} {D : Int} {l : List UInt8} {ts : M.Toks} (x : PsW w0 bv D l w tw ts) :
    ∃ a cap, tw = .slice a ts.length cap ∧ ts.length ≤ cap ∧ cap ≤ maxLen ∧ (0 < ts.length → ∃ b off, a = some ⟨b, off, none⟩ ∧ b < w0.heap.size ∧ ∀ j (h : j < ts.length) i u, (tv ts[j])[i]? = some u → w.cell? ⟨b, off + (j * 3 + i), none⟩ = some u) := by
  obtain ⟨a, cap, e, h1, h2, h3⟩ := x.tk
  rw [tvs_len] at e h1
  refine ⟨a, cap, e, h1, h2, fun h0 => ?_⟩
  obtain ⟨b, off, e2, hb, hc⟩ := h3 (by rw [tvs_len]; exact h0)
  refine ⟨b, off, e2, hb, fun j hj i u hu => ?_⟩
  rw [x.lo.cell (p := ⟨b, off + (j * 3 + i), none⟩) hb]
  exact hc j (by rw [tvs_len]; exact hj) i u (by simpa [tvs] using hu)
theorem PsW.first {w0 w : World} {bv tv : Value} {D : Int} {l : List UInt8} {t : Nat × Nat × Nat} {r : M.Toks} (x : PsW w0 bv D l w tv (t :: r)) :
    ∃ b off cap, tv = .slice (some ⟨b, off, none⟩) (r.length + 1) cap ∧ r.length + 1 ≤ cap ∧ cap ≤ maxLen ∧ b < w0.heap.size ∧ w.cell? ⟨b, off, none⟩ = some (.int .i64 (t.1 : Int)) ∧ w.cell? ⟨b, off + 1, none⟩ = some (.int .i64 (t.2.1 : Int)) ∧ w.cell? ⟨b, off + 2, none⟩ = some (.int .i64 (t.2.2 : Int)) ∧
      Ts w0 (.slice (some ⟨b, off + 3, none⟩) r.length (cap - 1)) r := by
  obtain ⟨a, cap, e, h1, h2, h3⟩ := x.toks
  obtain ⟨b, off, rfl, hb, hc⟩ := h3 (by simp)
  have c := hc 0 (by simp)
  simp only [List.length_cons] at e h1
  refine ⟨b, off, cap, e, h1, h2, hb, c 0 _ rfl, c 1 _ rfl, c 2 _ rfl, _, _, by rw [tvs_len], by rw [tvs_len]; omega, by omega, fun h0 => ⟨b, off + 3, rfl, hb, fun j hj i u hu => ?_⟩⟩
  rw [tvs_len] at hj
  have := hc (j + 1) (by simp; omega) i u (by simpa [tvs] using hu)
  rw [x.lo.cell (p := ⟨b, off + ((j + 1) * 3 + i), none⟩) hb] at this
  rw [show off + 3 + (j * 3 + i) = off + ((j + 1) * 3 + i) by omega]
  exact this
theorem PsW.cells {w0 w : World} {bv tv : Value} {D : Int} {l : List UInt8} {ts : M.Toks} (x : PsW w0 bv D l w tv ts) :
    w.cell? ⟨w0.heap.size, 0, none⟩ = some bv ∧ w.cell? ⟨w0.heap.size, 1, none⟩ = some tv ∧ w.cell? ⟨w0.heap.size, 2, none⟩ = some (.int .i64 D) := ⟨x.blk.cell 0, x.blk.cell 1, x.blk.cell 2⟩
theorem PsW.move {w0 w : World} {bv tv tv' : Value} {D : Int} {l : List UInt8} {ts ts' : M.Toks} (x : PsW w0 bv D l w tv ts) (h : Ts w0 tv' ts') :
    PsW w0 bv D l (w.setCell ⟨w0.heap.size, 1, none⟩ tv') tv' ts' ∧ Fr w0.heap.size w (w.setCell ⟨w0.heap.size, 1, none⟩ tv') :=
  ⟨⟨x.blk.setCell 1 tv', x.lo.setCell (p := ⟨w0.heap.size, 1, none⟩) (Nat.le_refl _) tv', x.bs, h, x.tb, x.ll⟩, (Below.refl _ w).setCell (p := ⟨w0.heap.size, 1, none⟩) (Nat.le_refl _) tv', fun j _ hn => heap_setCell_other _ _ _ _ hn⟩
set_option maxRecDepth 100000 in
set_option maxHeartbeats 2000000 in
theorem kind_any {w0 w : World} {bv tv : Value} {D : Int} {l : List UInt8} {ts : M.Toks} (x : PsW w0 bv D l w tv ts) :
    Calls Tryz.prog 43 #[ptrP w0] w fun e w' => e = .returned (.int .i64 (kindP ts : Int)) ∧ w' = w := by
  unfold ptrP
  obtain ⟨c0, c1, c2⟩ := x.cells
  cases ts with
  | nil =>
    obtain ⟨a, cap, rfl, h1, h2, h3⟩ := x.toks
    simp only [List.length_nil] at *
    clear x h3 h1
    go_enter Tryz.func43, Tryz.ntmps43
    go_wp2
    go_ret
    exact ⟨rfl, rfl⟩
  | cons t r =>
    obtain ⟨b, off, cap, rfl, h1, h2, hb, d0, d1, d2, h3⟩ := x.first
    obtain ⟨n, hn⟩ : ∃ n, r.length = n := ⟨_, rfl⟩
    obtain ⟨k, hk⟩ : ∃ k : Int, (t.1 : Int) = k := ⟨_, rfl⟩
    simp only [kindP]
    rw [hn] at h1 h3 c1
    rw [hk] at d0 ⊢
    have q1 : ¬ ((n : Int) + 1 = 0) := by omega
    have q2 : (0 : Int) < (n : Int) + 1 := by omega
    clear x h3
    go_enter Tryz.func43, Tryz.ntmps43
    go_wp2
    go_ret
    exact ⟨rfl, rfl⟩
theorem infoTok1 : (Tryz.prog.info? 51).map (·.size) = some 3 := by kernel_rfl
theorem infoStop1 : (Tryz.prog.info? 57).map (·.size) = some 2 := by kernel_rfl
set_option maxRecDepth 100000 in
set_option maxHeartbeats 2000000 in
theorem unfit_any {w0 w : World} {bv tv : Value} {D : Int} {l : List UInt8} {ts : M.Toks} (x : PsW w0 bv D l w tv ts) :
    Calls Tryz.prog 28 #[ptrP w0] w fun e w' => e = .returned (.agg #[.int .i64 3, .int .i64 (atP l.length ts)]) ∧ Below w.heap.size w w' := by
  unfold ptrP
  have b0 := Lib.hid ((Below.refl w.heap.size w).alloc (Nat.le_refl _) (.cells #[.int .i64 0, .int .i64 0] 57))
  have K0 := Lib.hid (BK.new 57 w #[.int .i64 0, .int .i64 0])
  obtain ⟨W1, hW1⟩ : ∃ x, w.alloc (.cells #[.int .i64 0, .int .i64 0] 57) = x := ⟨_, rfl⟩
  rw [hW1] at b0 K0
  have x1 := x.keep b0.out
  have HW1 := Lib.hid hW1
  have k0 : W1.cell? ⟨w.heap.size, 0, none⟩ = some (.int .i64 0) := K0.out.cell 0
  have k1 : W1.cell? ⟨w.heap.size, 1, none⟩ = some (.int .i64 0) := K0.out.cell 1
  have z0 : W1.frozen? ⟨w.heap.size, 0, none⟩ = false := frozen_of_row _ _ _ _ _ K0.out
  have z1 : W1.frozen? ⟨w.heap.size, 1, none⟩ = false := frozen_of_row _ _ _ _ _ K0.out
  obtain ⟨c0, c1, c2⟩ := x1.cells
  obtain ⟨ba, bcap, hbv, g1, g2, g3⟩ := x.bs
  subst hbv
  obtain ⟨m, hm⟩ : ∃ n, l.length = n := ⟨_, rfl⟩
  rw [hm] at c0 ⊢
  clear hW1
  cases ts with
  | nil =>
    obtain ⟨a, cap, rfl, h1, h2, h3⟩ := x1.toks
    simp only [List.length_nil] at *
    clear x x1 h3 h1 g3 g1
    go_enter Tryz.func28, Tryz.ntmps28
    go_upto_region 1 with fail
    rw [HW1.out]
    go_wp2
    refine bodyPost_ret (res_bk Tryz.underlying57 rfl infoStop1 rfl _ _ w.heap.size [.int .i64 3, .int .i64 (m : Int)] rfl ((K0.out.setCell 0 _).setCell 1 _) rfl) rfl ⟨rfl, (b0.out.setCell (p := ⟨w.heap.size, 0, none⟩) (Nat.le_refl _) _).setCell (p := ⟨w.heap.size, 1, none⟩) (Nat.le_refl _) _⟩
  | cons t r =>
    obtain ⟨b, off, cap, rfl, h1, h2, hb, d0, d1, d2, h3⟩ := x1.first
    obtain ⟨n, hn⟩ : ∃ n, r.length = n := ⟨_, rfl⟩
    obtain ⟨k, hk⟩ : ∃ k : Int, (t.2.1 : Int) = k := ⟨_, rfl⟩
    simp only [atP]
    rw [hn] at h1 h3 c1
    rw [hk] at d1 ⊢
    have q2 : (0 : Int) < (n : Int) + 1 := by omega
    clear x x1 h3 g3 g1
    go_enter Tryz.func28, Tryz.ntmps28
    go_upto_region 1 with fail
    rw [HW1.out]
    go_wp2
    refine bodyPost_ret (res_bk Tryz.underlying57 rfl infoStop1 rfl _ _ w.heap.size [.int .i64 3, .int .i64 k] rfl ((K0.out.setCell 0 _).setCell 1 _) rfl) rfl ⟨rfl, (b0.out.setCell (p := ⟨w.heap.size, 0, none⟩) (Nat.le_refl _) _).setCell (p := ⟨w.heap.size, 1, none⟩) (Nat.le_refl _) _⟩
end Go.Proofs.YtbfnlgmhfhaglaaGreatDoor
/- jparse: take. -/
namespace Go.Proofs.YtbfnlgmhfhaglaaGreatDoor
open Go.RowKit
set_option linter.unusedVariables false
set_option linter.unusedSimpArgs false

def takeP (n k : Nat) : M.Toks → Except (Int × Int) ((Nat × Nat × Nat) × M.Toks)
  | t :: r => if t.1 = k then .ok (t, r) else .error (synP n (t :: r))
  | [] => .error (synP n [])
def TakeQ (w0 : World) (bv : Value) (D : Int) (l : List UInt8) (k : Nat) (ts : M.Toks) (w : World) (e : Ending) (w' : World) : Prop := match takeP l.length k ts with
  | .ok (t, r) => ∃ tw, e = .returned (.agg #[.int .i64 (t.1 : Int), .int .i64 (t.2.1 : Int), .int .i64 (t.2.2 : Int)]) ∧ PsW w0 bv D l w' tw r ∧ Fr w0.heap.size w w'
  | .error x => Pan e x ∧ Below w0.heap.size w w'
theorem ts_zero (w : World) (a : Option Addr) (c : Nat) (hc : c ≤ maxLen) : Ts w (.slice a 0 c) [] := ⟨a, c, rfl, Nat.zero_le _, hc, fun h => by simp [tvs] at h⟩
theorem take_end {w0 w W2 : World} {bv tw tw' : Value} {D : Int} {l : List UInt8} {ts r : M.Toks} (x2 : PsW w0 bv D l W2 tw ts) (b : Below w.heap.size w W2) (hlt : w0.heap.size < w.heap.size) (K : BK 51 W2 w.heap.size #[.int .i64 0, .int .i64 0, .int .i64 0])
    (h : Ts w0 tw' r) (c0 c1 c2 : Value) (W3 : World) (hW : (((W2.setCell ⟨w0.heap.size, 1, none⟩ tw').setCell ⟨w.heap.size, 0, none⟩ c0).setCell ⟨w.heap.size, 1, none⟩ c1).setCell ⟨w.heap.size, 2, none⟩ c2 = W3) :
    PsW w0 bv D l W3 tw' r ∧ Fr w0.heap.size w W3 ∧ BK 51 W3 w.heap.size #[c0, c1, c2] := by
  subst hW
  obtain ⟨x3, f3⟩ := x2.move h
  have ne : w0.heap.size ≠ w.heap.size := by omega
  have f2 := (Fr.of b (Nat.le_of_lt hlt)).trans f3
  have K3 := K.other (Ne.symm ne) 1 tw'
  have st : ∀ (W : World) (j : Nat) (u : Value), PsW w0 bv D l W tw' r → Fr w0.heap.size w W → PsW w0 bv D l (W.setCell ⟨w.heap.size, j, none⟩ u) tw' r ∧ Fr w0.heap.size w (W.setCell ⟨w.heap.size, j, none⟩ u) := fun W j u x f =>
    ⟨⟨x.blk.other ne j u, x.lo.setCell (p := ⟨w.heap.size, j, none⟩) (Nat.le_of_lt hlt) u, x.bs, x.tk, x.tb, x.ll⟩, ⟨f.lo.setCell (p := ⟨w.heap.size, j, none⟩) (Nat.le_of_lt hlt) u, fun i hi hn => by rw [heap_setCell_other _ _ _ _ (by show i ≠ w.heap.size; omega)]; exact f.oth i hi hn⟩⟩
  obtain ⟨x4, f4⟩ := st _ 0 c0 x3 f2
  obtain ⟨x5, f5⟩ := st _ 1 c1 x4 f4
  obtain ⟨x6, f6⟩ := st _ 2 c2 x5 f5
  exact ⟨x6, f6, ((K3.setCell 0 c0).setCell 1 c1).setCell 2 c2⟩
set_option maxRecDepth 100000 in
set_option maxHeartbeats 2000000 in
theorem take_any {w0 w : World} {bv tw : Value} {D : Int} {l : List UInt8} {ts : M.Toks} (k : Nat) (hk : 1 ≤ k) (x : PsW w0 bv D l w tw ts) :
    Calls Tryz.prog 65 #[ptrP w0, .int .i64 (k : Int)] w (TakeQ w0 bv D l k ts w) := by
  have b0 := Lib.hid ((Below.refl w.heap.size w).alloc (Nat.le_refl _) (.cells #[.int .i64 0, .int .i64 0, .int .i64 0] 51))
  have K0 := Lib.hid (BK.new 51 w #[.int .i64 0, .int .i64 0, .int .i64 0])
  obtain ⟨W1, hW1⟩ : ∃ x, w.alloc (.cells #[.int .i64 0, .int .i64 0, .int .i64 0] 51) = x := ⟨_, rfl⟩
  rw [hW1] at b0 K0
  have x1 := x.keep b0.out
  have HW1 := Lib.hid hW1
  have hlt := x.lt
  clear hW1
  have KA := Lib.hid (kind_any x1)
  have UA := Lib.hid (unfit_any x1)
  have X1 := Lib.hid x1
  unfold ptrP at KA UA ⊢
  by_cases hkk : kindP ts = k
  · cases ts with
    | nil => simp [kindP] at hkk; omega
    | cons t r =>
      simp only [kindP] at hkk KA
      have hR : takeP l.length k (t :: r) = .ok (t, r) := by simp [takeP, hkk]
      unfold TakeQ
      rw [hR]
      obtain ⟨b, off, cap, rfl, h1, h2, hb, d0, d1, d2, h3⟩ := x1.first
      obtain ⟨c0, c1, c2⟩ := x1.cells
      obtain ⟨n, hn⟩ : ∃ n, r.length = n := ⟨_, rfl⟩
      rw [hn] at h1 c1
      rw [hkk] at KA d0
      have T3 := Lib.hid h3
      simp only [hkk]
      clear x x1 h3
      go_enter Tryz.func65, Tryz.ntmps65
      go_upto_region 1 with fail
      rw [HW1.out]
      go_wp2_with fail
      refine KA.out.mono ?_
      rintro e w' ⟨rfl, hw⟩
      rw [hw]
      clear hw w'
      go_upto_region 4 with fail
      have b2 : Below W1.heap.size W1 (W1.alloc (.cells #[.int .i64 (k : Int), .int .i64 (t.2.1 : Int), .int .i64 (t.2.2 : Int)] 51)) := (Below.refl _ _).alloc (Nat.le_refl _) _
      have K2 := BK.new 51 W1 #[.int .i64 (k : Int), .int .i64 (t.2.1 : Int), .int .i64 (t.2.2 : Int)]
      obtain ⟨W2, hW2⟩ : ∃ x, W1.alloc (.cells #[.int .i64 (k : Int), .int .i64 (t.2.1 : Int), .int .i64 (t.2.2 : Int)] 51) = x := ⟨_, rfl⟩
      rw [hW2] at b2 K2 ⊢
      have x2 := X1.out.keep b2
      have K02 := K0.out.keep b2
      obtain ⟨c0', c1', c2'⟩ := x2.cells
      rw [hn] at c1'
      have m0 : W2.cell? ⟨W1.heap.size, 0, none⟩ = some (.int .i64 (k : Int)) := K2.cell 0
      have m1 : W2.cell? ⟨W1.heap.size, 1, none⟩ = some (.int .i64 (t.2.1 : Int)) := K2.cell 1
      have m2 : W2.cell? ⟨W1.heap.size, 2, none⟩ = some (.int .i64 (t.2.2 : Int)) := K2.cell 2
      have n0 : W2.cell? ⟨w.heap.size, 0, none⟩ = some (.int .i64 0) := K02.cell 0
      have n1 : W2.cell? ⟨w.heap.size, 1, none⟩ = some (.int .i64 0) := K02.cell 1
      have n2 : W2.cell? ⟨w.heap.size, 2, none⟩ = some (.int .i64 0) := K02.cell 2
      have z0 : W2.frozen? ⟨w0.heap.size, 1, none⟩ = false := frozen_of_row _ _ _ _ _ x2.blk
      have z1 : W2.frozen? ⟨w.heap.size, 0, none⟩ = false := frozen_of_row _ _ _ _ _ K02
      have z2 : W2.frozen? ⟨w.heap.size, 1, none⟩ = false := frozen_of_row _ _ _ _ _ K02
      have z3 : W2.frozen? ⟨w.heap.size, 2, none⟩ = false := frozen_of_row _ _ _ _ _ K02
      have ne1 : w0.heap.size ≠ w.heap.size := by omega
      have l1 := K0.out.lt
      have ne2 : w0.heap.size ≠ W1.heap.size := by omega
      have ne3 : w.heap.size ≠ W1.heap.size := by omega
      clear c0 c1 c2 d0 d1 d2 hW2
      have X2 := Lib.hid x2
      have B2 := Lib.hid (b0.out.trans (b2.mono b0.out.size))
      have KK := Lib.hid K02
      rw [hn] at T3
      clear x2 b2 K02 K2
      go_wp2
      case inl =>
        have hn0 : n = 0 := by omega
        subst hn0
        obtain rfl : r = [] := List.eq_nil_of_length_eq_zero hn
        obtain ⟨W3, hW3⟩ : ∃ x, (((W2.setCell ⟨w0.heap.size, 1, none⟩ (.slice (some ⟨b, off, none⟩) 0 0)).setCell ⟨w.heap.size, 0, none⟩ (.int .i64 (k : Int))).setCell ⟨w.heap.size, 1, none⟩ (.int .i64 (t.2.1 : Int))).setCell ⟨w.heap.size, 2, none⟩ (.int .i64 (t.2.2 : Int)) = x := ⟨_, rfl⟩
        obtain ⟨x4, f4, k4⟩ := take_end X2.out B2.out hlt KK.out (ts_zero _ _ _ (by decide)) _ _ _ _ hW3
        rw [hW3]
        exact bodyPost_ret (res_bk Tryz.underlying51 rfl infoTok1 rfl _ _ w.heap.size [.int .i64 (k : Int), .int .i64 (t.2.1 : Int), .int .i64 (t.2.2 : Int)] rfl k4 rfl) rfl ⟨rfl, ⟨_, x4⟩, f4⟩
      case inr =>
        obtain ⟨W3, hW3⟩ : ∃ x, (((W2.setCell ⟨w0.heap.size, 1, none⟩ (.slice (some ⟨b, off + 3, none⟩) n (cap - 1))).setCell ⟨w.heap.size, 0, none⟩ (.int .i64 (k : Int))).setCell ⟨w.heap.size, 1, none⟩ (.int .i64 (t.2.1 : Int))).setCell ⟨w.heap.size, 2, none⟩ (.int .i64 (t.2.2 : Int)) = x := ⟨_, rfl⟩
        obtain ⟨x4, f4, k4⟩ := take_end X2.out B2.out hlt KK.out T3.out _ _ _ _ hW3
        rw [hW3]
        exact bodyPost_ret (res_bk Tryz.underlying51 rfl infoTok1 rfl _ _ w.heap.size [.int .i64 (k : Int), .int .i64 (t.2.1 : Int), .int .i64 (t.2.2 : Int)] rfl k4 rfl) rfl ⟨rfl, ⟨_, x4⟩, f4⟩
  · have hR : takeP l.length k ts = .error (synP l.length ts) := by
      cases ts with
      | nil => rfl
      | cons t r => simp only [kindP] at hkk; simp [takeP, hkk]
    unfold TakeQ
    rw [hR]
    have hne : ¬ ((kindP ts : Int) = k) := by omega
    obtain ⟨q, hq⟩ : ∃ q : Int, (kindP ts : Int) = q := ⟨_, rfl⟩
    obtain ⟨z, hz⟩ : ∃ q : Int, (k : Int) = q := ⟨_, rfl⟩
    rw [hq] at KA hne
    rw [hz] at hne ⊢
    clear x x1
    go_enter Tryz.func65, Tryz.ntmps65
    go_upto_region 1 with fail
    rw [HW1.out]
    go_wp2_with fail
    refine KA.out.mono ?_
    rintro e w' ⟨rfl, hw⟩
    rw [hw]
    clear hw w'
    go_wp2_with fail
    refine UA.out.mono ?_
    rintro e w2 ⟨rfl, hb2⟩
    go_wp2
    exact ⟨rfl, rfl, (b0.out.trans (hb2.mono b0.out.size)).mono (Nat.le_of_lt hlt)⟩
end Go.Proofs.YtbfnlgmhfhaglaaGreatDoor
/- jparse: single. -/
namespace Go.Proofs.YtbfnlgmhfhaglaaGreatDoor
open Go.RowKit
set_option linter.unusedVariables false
set_option linter.unusedSimpArgs false

def leafP (k : Int) (fr : Int) : Vh := ⟨k, [], false, [], [], fr, 0, []⟩
def nilV : Value := .slice none 0 0
theorem PsW.setRow {w0 w : World} {bv tw : Value} {D : Int} {l : List UInt8} {ts : M.Toks} (x : PsW w0 bv D l w tw ts) {g : Nat} (hg : w0.heap.size < g) (cs : Array Value) : PsW w0 bv D l (w.setRow g cs) tw ts :=
  ⟨x.blk.frame (setRow_other _ _ _ _ (by omega)), below_setRowK x.lo (Nat.le_of_lt hg) cs, x.bs, x.tk, x.tb, x.ll⟩
theorem Fr.setRow {pb : Nat} {w w' : World} (h : Fr pb w w') {g : Nat} (hg : w.heap.size ≤ g) (hp : pb ≤ g) (cs : Array Value) : Fr pb w (w'.setRow g cs) :=
  ⟨below_setRowK h.lo hp cs, fun j hj hn => by rw [setRow_other _ _ _ _ (by omega)]; exact h.oth j hj hn⟩
def SingQ (w0 : World) (bv : Value) (D : Int) (l : List UInt8) (kd : Int) (k : Nat) (ts : M.Toks) (w : World) (e : Ending) (w' : World) : Prop := match takeP l.length k ts with
  | .ok (t, r) => (∃ tw, PsW w0 bv D l w' tw r) ∧ e = .returned (.agg (vv (leafP kd t.2.1) nilV nilV nilV)) ∧ Fr w0.heap.size w w'
  | .error x => Pan e x ∧ Below w0.heap.size w w'
theorem infoV1 : (Tryz.prog.info? 27).map (·.size) = some 9 := infoVal
theorem field_from (a b c : Int) (w : World) : (Instr.field 51 (.agg #[.int .i64 a, .int .i64 b, .int .i64 c]) 1).run Tryz.prog w = .ok (.int .i64 b) w := by kernel_rfl
set_option maxRecDepth 100000 in
set_option maxHeartbeats 2000000 in
theorem single_any {w0 w : World} {bv tw : Value} {D : Int} {l : List UInt8} {ts : M.Toks} (kd : Int) (k : Nat) (hk : 1 ≤ k) (x : PsW w0 bv D l w tw ts) :
    Calls Tryz.prog 47 #[ptrP w0, .int .i64 kd, .int .i64 (k : Int)] w (SingQ w0 bv D l kd k ts w) := by
  have b0 := Lib.hid ((Below.refl w.heap.size w).alloc (Nat.le_refl _) (.cells zv 27))
  have K0 := Lib.hid (BK.new 27 w zv)
  obtain ⟨W1, hW1⟩ : ∃ x, w.alloc (.cells zv 27) = x := ⟨_, rfl⟩
  rw [hW1] at b0 K0
  have x1 := x.keep b0.out
  have HW1 := Lib.hid (show w.alloc (.cells #[.int .i64 0, .slice none 0 0, .bool false, .string ⟨#[]⟩, .string ⟨#[]⟩, .slice none 0 0, .int .i64 0, .int .i64 0, .slice none 0 0] 27) = W1 from hW1)
  have hlt := x.lt
  clear hW1
  have TA := Lib.hid (take_any k hk x1)
  unfold TakeQ at TA
  unfold SingQ
  cases hR : takeP l.length k ts with
  | error er =>
    rw [hR] at TA
    dsimp only at TA ⊢
    unfold ptrP at TA ⊢
    clear x x1
    go_enter Tryz.func47, Tryz.ntmps47
    go_upto_region 1 with fail
    rw [HW1.out]
    go_wp2_with fail
    refine TA.out.mono ?_
    rintro e w2 ⟨rfl, hb2⟩
    go_wp2
    exact ⟨rfl, rfl, (b0.out.mono (Nat.le_of_lt hlt)).trans hb2⟩
  | ok tr =>
    obtain ⟨t, r⟩ := tr
    rw [hR] at TA
    dsimp only at TA ⊢
    unfold ptrP at TA ⊢
    clear x x1
    go_enter Tryz.func47, Tryz.ntmps47
    go_upto_region 1 with fail
    rw [HW1.out]
    go_wp2_with fail
    refine TA.out.mono ?_
    rintro e w2 ⟨tw2, rfl, hx2, hf2⟩
    have hfd := field_from (t.1 : Int) (t.2.1 : Int) (t.2.2 : Int)
    have K2 := K0.out.frame (hf2.oth _ K0.out.lt (by omega))
    go_wp2_with (refine wpl_stV rfl _ _ rfl w.heap.size zv (leafP kd t.2.1) nilV nilV nilV rfl rfl K2 rfl rfl rfl rfl ?_)
    go_wp2
    refine bodyPost_ret (res_bk Tryz.underlying27 rfl infoV1 rfl _ _ w.heap.size (vvl (leafP kd t.2.1) nilV nilV nilV) rfl (BK.set K2 _) rfl) rfl ⟨⟨_, hx2.setRow hlt _⟩, rfl, Fr.setRow ((Fr.of b0.out (Nat.le_of_lt hlt)).trans hf2) (Nat.le_refl _) (Nat.le_of_lt hlt) _⟩
end Go.Proofs.YtbfnlgmhfhaglaaGreatDoor
/- jparse, plain: what a list of tokens is, in the program's own order (values so far, marks so far). -/
namespace Go.Proofs.YtbfnlgmhfhaglaaGreatDoor
set_option linter.unusedVariables false
set_option linter.unusedSimpArgs false

def Vo.snoc : Vo → Vh → Vo → Vo
  | .nil, h, k => .cons h k .nil
  | .cons a b r, h, k => .cons a b (r.snoc h k)
theorem snoc_len (L : Vo) (h : Vh) (k : Vo) : (L.snoc h k).len = L.len + 1 := by
  induction L with
  | nil => rfl
  | cons a b r _ ih => simp only [Vo.snoc, Vo.len, ih]
def unitsV (s : List UInt8) : Option (List Nat) := if 2 ≤ s.length ∧ s.getD 0 0 = 34 ∧ s.getD (s.length - 1) 0 = 34 then M.uF s.length ((s.drop 1).take (s.length - 2)) else none
def tokB (l : List UInt8) (t : Nat × Nat × Nat) : List UInt8 := (l.drop t.2.1).take (t.2.2 - t.2.1)
def txtL (l : List UInt8) (t : Nat × Nat × Nat) : List Int := iN ((unitsV (tokB l t)).getD [])
def textV (l : List UInt8) (t : Nat × Nat × Nat) : Vh := ⟨3, txtL l t, false, [], [], t.2.1, 0, []⟩
def numbV (l : List UInt8) (t : Nat × Nat × Nat) : Vh := ⟨4, [], (M.readN (tokB l t)).1.1, (M.readN (tokB l t)).1.2.1, (M.readN (tokB l t)).1.2.2, t.2.1, 0, []⟩
def TkIn (l : List UInt8) (ts : M.Toks) : Prop := ∀ t ∈ ts, t.2.1 < t.2.2 ∧ t.2.2 ≤ l.length
theorem TkIn.tail {l : List UInt8} {t : Nat × Nat × Nat} {r : M.Toks} (h : TkIn l (t :: r)) : TkIn l r := fun x hx => h x (List.mem_cons_of_mem _ hx)
abbrev PRes := Except (Int × Int) (Vh × Vo × M.Toks)
abbrev LRes := Except (Int × Int) (List Int × Vo × M.Toks)
def itemW (l : List UInt8) (val : M.Toks → PRes) (obj : Bool) (ts : M.Toks) (ms : List Int) (L : Vo) : LRes :=
  if obj then
    match takeP l.length 7 ts with
    | .error e => .error e
    | .ok (t, r) => match takeP l.length 5 r with
      | .error e => .error e
      | .ok (c, r2) => match val r2 with
        | .error e => .error e
        | .ok (h, kids, r3) => .ok (ms ++ [(c.2.1 : Int)], (L.snoc (textV l t) .nil).snoc h kids, r3)
  else match val ts with
    | .error e => .error e
    | .ok (h, kids, r) => .ok (ms, L.snoc h kids, r)
def kdL (obj : Bool) : Int := if obj then 1 else 2
def opL (obj : Bool) : Nat := if obj then 1 else 3
def shL (obj : Bool) : Nat := if obj then 2 else 4
mutual
def valP (l : List UInt8) : Nat → Nat → M.Toks → PRes
  | 0, _, ts => .error (synP l.length ts)
  | f + 1, deep, ts => match ts with
    | [] => .error (synP l.length [])
    | t :: r =>
      if t.1 = 7 then .ok (textV l t, .nil, r)
      else if t.1 = 8 then .ok (numbV l t, .nil, r)
      else if t.1 = 9 ∨ t.1 = 10 ∨ t.1 = 11 then .ok (leafP ((t.1 : Int) - 4) t.2.1, .nil, r)
      else if t.1 = 1 ∨ t.1 = 3 then
        (match deep with
         | 0 => .error (4, (t.2.1 : Int))
         | d + 1 =>
           if kindP r = t.1 + 1 then restP l f (decide (t.1 = 1)) d t.2.1 r [] .nil
           else match itemW l (valP l f d) (decide (t.1 = 1)) r [] .nil with
             | .error e => .error e
             | .ok (ms, L, r2) => restP l f (decide (t.1 = 1)) d t.2.1 r2 ms L)
      else .error (synP l.length (t :: r))
def restP (l : List UInt8) : Nat → Bool → Nat → Nat → M.Toks → List Int → Vo → PRes
  | 0, _, _, _, ts, _, _ => .error (synP l.length ts)
  | f + 1, obj, d, fr, ts, ms, L =>
    if kindP ts = shL obj then
      match takeP l.length (shL obj) ts with
      | .error e => .error e
      | .ok (t, r) => .ok (⟨kdL obj, [], false, [], [], fr, t.2.1, ms⟩, L, r)
    else match takeP l.length 6 ts with
      | .error e => .error e
      | .ok (c, r) => match itemW l (valP l f d) obj r (ms ++ [(c.2.1 : Int)]) L with
        | .error e => .error e
        | .ok (ms2, L2, r2) => restP l f obj d fr r2 ms2 L2
end
def parP (l : List UInt8) (deep : Nat) (ts : M.Toks) : Except (Int × Int) (Vh × Vo) := match valP l (2 * ts.length + 2) deep ts with
  | .error e => .error e
  | .ok (h, kids, []) => .ok (h, kids)
  | .ok (_, _, r) => .error (synP l.length r)
theorem take_len {n k : Nat} {ts r : M.Toks} {t : Nat × Nat × Nat} (e : takeP n k ts = .ok (t, r)) : ts = t :: r := by
  cases ts with
  | nil => simp [takeP] at e
  | cons a b =>
    by_cases hk : a.1 = k
    · simp only [takeP, if_pos hk, Except.ok.injEq, Prod.mk.injEq] at e
      rw [e.1, e.2]
    · simp [takeP, hk] at e
def Suf (r ts : M.Toks) : Prop := ∃ p : M.Toks, p ≠ [] ∧ ts = p ++ r
theorem Suf.len {r ts : M.Toks} (h : Suf r ts) : r.length < ts.length := by
  obtain ⟨p, hp, rfl⟩ := h
  have := List.length_pos_iff.2 hp
  rw [List.length_append]; omega
theorem Suf.tk {l : List UInt8} {r ts : M.Toks} (h : Suf r ts) (k : TkIn l ts) : TkIn l r := by
  obtain ⟨p, hp, rfl⟩ := h
  exact fun x hx => k x (List.mem_append_right _ hx)
theorem Suf.trans {a b c : M.Toks} (h : Suf a b) (k : Suf b c) : Suf a c := by
  obtain ⟨p, hp, rfl⟩ := h
  obtain ⟨q, hq, rfl⟩ := k
  exact ⟨q ++ p, by simp [hq], by simp⟩
theorem Suf.one (t : Nat × Nat × Nat) (r : M.Toks) : Suf r (t :: r) := ⟨[t], by simp, rfl⟩
theorem take_suf {n k : Nat} {ts r : M.Toks} {t : Nat × Nat × Nat} (e : takeP n k ts = .ok (t, r)) : Suf r ts := by
  rw [take_len e]; exact Suf.one t r
theorem item_suf {l : List UInt8} {val : M.Toks → PRes} (hv : ∀ ts h k r, val ts = .ok (h, k, r) → Suf r ts) (obj : Bool) (ts : M.Toks) (ms : List Int) (L : Vo) (ms' : List Int) (L' : Vo) (r : M.Toks) (h : itemW l val obj ts ms L = .ok (ms', L', r)) :
    Suf r ts ∧ L'.len + r.length ≤ L.len + ts.length ∧ ms'.length + r.length ≤ ms.length + ts.length := by
  unfold itemW at h
  cases obj with
  | false =>
    simp only [Bool.false_eq_true, if_false] at h
    cases hr : val ts with
    | error e => rw [hr] at h; simp at h
    | ok q =>
      obtain ⟨a, b, c⟩ := q
      rw [hr] at h
      simp only [Except.ok.injEq, Prod.mk.injEq] at h
      obtain ⟨rfl, rfl, rfl⟩ := h
      have s := hv _ _ _ _ hr
      have := s.len
      exact ⟨s, by rw [snoc_len]; omega, by omega⟩
  | true =>
    simp only [if_true] at h
    cases h7 : takeP l.length 7 ts with
    | error e => rw [h7] at h; simp at h
    | ok q =>
      obtain ⟨t, r1⟩ := q
      rw [h7] at h
      simp only at h
      cases h5 : takeP l.length 5 r1 with
      | error e => rw [h5] at h; simp at h
      | ok q =>
        obtain ⟨c, r2⟩ := q
        rw [h5] at h
        simp only at h
        cases hr : val r2 with
        | error e => rw [hr] at h; simp at h
        | ok q =>
          obtain ⟨a, b, c2⟩ := q
          rw [hr] at h
          simp only [Except.ok.injEq, Prod.mk.injEq] at h
          obtain ⟨rfl, rfl, rfl⟩ := h
          have s1 := take_suf h7
          have s2 := take_suf h5
          have s3 := hv _ _ _ _ hr
          have l1 := s1.len
          have l2 := s2.len
          have l3 := s3.len
          refine ⟨s3.trans (s2.trans s1), by rw [snoc_len, snoc_len]; omega, by rw [List.length_append]; simp; omega⟩
theorem val_suf (l : List UInt8) : ∀ f, (∀ deep ts h k r, valP l f deep ts = .ok (h, k, r) → Suf r ts) ∧ (∀ obj d fr ts ms L h k r, restP l f obj d fr ts ms L = .ok (h, k, r) → Suf r ts) := by
  intro f
  induction f with
  | zero => exact ⟨fun deep ts h k r e => by simp [valP] at e, fun obj d fr ts ms L h k r e => by simp [restP] at e⟩
  | succ f ih =>
    obtain ⟨iv, ir⟩ := ih
    refine ⟨fun deep ts h k r e => ?_, fun obj d fr ts ms L h k r e => ?_⟩
    · cases ts with
      | nil => simp [valP] at e
      | cons t r0 =>
        unfold valP at e
        simp only at e
        by_cases h7 : t.1 = 7
        · rw [if_pos h7] at e
          simp only [Except.ok.injEq, Prod.mk.injEq] at e
          rw [← e.2.2]; exact Suf.one t r0
        · rw [if_neg h7] at e
          by_cases h8 : t.1 = 8
          · rw [if_pos h8] at e
            simp only [Except.ok.injEq, Prod.mk.injEq] at e
            rw [← e.2.2]; exact Suf.one t r0
          · rw [if_neg h8] at e
            by_cases h9 : t.1 = 9 ∨ t.1 = 10 ∨ t.1 = 11
            · rw [if_pos h9] at e
              simp only [Except.ok.injEq, Prod.mk.injEq] at e
              rw [← e.2.2]; exact Suf.one t r0
            · rw [if_neg h9] at e
              by_cases h1 : t.1 = 1 ∨ t.1 = 3
              · rw [if_pos h1] at e
                cases deep with
                | zero => simp at e
                | succ d =>
                  simp only at e
                  by_cases hk : kindP r0 = t.1 + 1
                  · rw [if_pos hk] at e
                    exact (ir _ _ _ _ _ _ _ _ _ e).trans (Suf.one t r0)
                  · rw [if_neg hk] at e
                    cases hi : itemW l (valP l f d) (decide (t.1 = 1)) r0 [] .nil with
                    | error x => rw [hi] at e; simp at e
                    | ok q =>
                      obtain ⟨ms, L, r2⟩ := q
                      rw [hi] at e
                      exact (ir _ _ _ _ _ _ _ _ _ e).trans ((item_suf (iv d) _ _ _ _ _ _ _ hi).1.trans (Suf.one t r0))
              · rw [if_neg h1] at e; simp at e
    · unfold restP at e
      by_cases hk : kindP ts = shL obj
      · rw [if_pos hk] at e
        cases ht : takeP l.length (shL obj) ts with
        | error x => rw [ht] at e; simp at e
        | ok q =>
          obtain ⟨t, r1⟩ := q
          rw [ht] at e
          simp only [Except.ok.injEq, Prod.mk.injEq] at e
          rw [← e.2.2]; exact take_suf ht
      · rw [if_neg hk] at e
        cases ht : takeP l.length 6 ts with
        | error x => rw [ht] at e; simp at e
        | ok q =>
          obtain ⟨t, r1⟩ := q
          rw [ht] at e
          simp only at e
          cases hi : itemW l (valP l f d) obj r1 (ms ++ [(t.2.1 : Int)]) L with
          | error x => rw [hi] at e; simp at e
          | ok q =>
            obtain ⟨ms2, L2, r2⟩ := q
            rw [hi] at e
            exact (ir _ _ _ _ _ _ _ _ _ e).trans ((item_suf (iv d) _ _ _ _ _ _ _ hi).1.trans (take_suf ht))
end Go.Proofs.YtbfnlgmhfhaglaaGreatDoor
