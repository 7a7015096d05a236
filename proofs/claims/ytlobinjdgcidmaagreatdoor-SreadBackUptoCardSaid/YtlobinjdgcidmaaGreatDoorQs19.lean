/- Texts of ours in one: ZTake ZSing ZPl ZUe. -/
import Derived.Test.YtlobinjdgcidmaaGreatDoorQs18
import Derived.Test.YtlobinjdgcidmaaGreatDoorQs03
import Derived.Test.YtlobinjdgcidmaaGreatDoorQs13
/- jparse: take. -/
namespace Go.Proofs.YtlobinjdgcidmaaGreatDoor
open Go.RowKit
set_option linter.unusedVariables false
set_option linter.unusedSimpArgs false

def takeP (n k : Nat) : M.Toks → Except (Int × Int) ((Nat × Nat × Nat) × M.Toks)
  | t :: r => if t.1 = k then .ok (t, r) else .error (synP n (t :: r))
  | [] => .error (synP n [])
def TakeQ (w0 : World) (bv : Value) (D : Int) (l : List UInt8) (k : Nat) (ts : M.Toks) (w : World) (e : Ending) (w' : World) : Prop := match takeP l.length k ts with
  | .ok (t, r) => ∃ tw, e = .returned (.agg #[.int .i64 (t.1 : Int), .int .i64 (t.2.1 : Int), .int .i64 (t.2.2 : Int)]) ∧ PsW w0 bv D l w' tw r ∧ Fr w0.heap.size w w'
  | .error x => Pan e x ∧ Below w0.heap.size w w'
def tz : Array Value := #[.int .i64 0, .int .i64 0, .int .i64 0]
theorem ts_zero (w : World) (a : Option Addr) (c : Nat) (hc : c ≤ maxLen) : Ts w (.slice a 0 c) [] := ⟨a, c, rfl, Nat.zero_le _, hc, fun h => by simp [tvs] at h⟩
theorem take_end {w0 w W2 : World} {bv tw tw' : Value} {D : Int} {l : List UInt8} {ts r : M.Toks} (x2 : PsW w0 bv D l W2 tw ts) (b : Below w.heap.size w W2) (hlt : w0.heap.size < w.heap.size) (K : BK 98 W2 w.heap.size #[.int .i64 0, .int .i64 0, .int .i64 0])
    (h : Ts w0 tw' r) (c0 c1 c2 : Value) (W3 : World) (hW : (((W2.setCell ⟨w0.heap.size, 1, none⟩ tw').setCell ⟨w.heap.size, 0, none⟩ c0).setCell ⟨w.heap.size, 1, none⟩ c1).setCell ⟨w.heap.size, 2, none⟩ c2 = W3) :
    PsW w0 bv D l W3 tw' r ∧ Fr w0.heap.size w W3 ∧ BK 98 W3 w.heap.size #[c0, c1, c2] := by
  subst hW
  obtain ⟨x3, f3⟩ := x2.move h
  have ne : w0.heap.size ≠ w.heap.size := by omega
  have f2 := (Fr.of b (Nat.le_of_lt hlt)).trans f3
  have K3 := K.other (Ne.symm ne) 1 tw'
  have st : ∀ (W : World) (j : Nat) (u : Value), PsW w0 bv D l W tw' r → Fr w0.heap.size w W → PsW w0 bv D l (W.setCell ⟨w.heap.size, j, none⟩ u) tw' r ∧ Fr w0.heap.size w (W.setCell ⟨w.heap.size, j, none⟩ u) := fun W j u x f =>
    ⟨⟨x.blk.other ne j u, x.lo.setCell (p := ⟨w.heap.size, j, none⟩) (Nat.le_of_lt hlt) u, x.bs, x.tk, x.tb, x.ll⟩, ⟨f.lo.setCell (p := ⟨w.heap.size, j, none⟩) (Nat.le_of_lt hlt) u, fun i hi hn => by rw [heap_setCell_other _ _ _ _ (by show i ≠ w.heap.size; omega)]; exact f.oth i hi hn⟩⟩
  obtain ⟨x4, f4⟩ := st _ 0 c0 x3 f2
  obtain ⟨x5, f5⟩ := st _ 1 c1 x4 f4
  obtain ⟨x6, f6⟩ := st _ 2 c2 x5 f5
  exact ⟨x6, f6, ((K3.setCell 0 c0).setCell 1 c1).setCell 2 c2⟩
set_option maxRecDepth 100000 in
set_option maxHeartbeats 2000000 in
theorem take_any {w0 w : World} {bv tw : Value} {D : Int} {l : List UInt8} {ts : M.Toks} (k : Nat) (hk : 1 ≤ k) (x : PsW w0 bv D l w tw ts) :
    Calls Tryz.prog 70 #[ptrP w0, .int .i64 (k : Int)] w (TakeQ w0 bv D l k ts w) := by
  have b0 := Lib.hid ((Below.refl w.heap.size w).alloc (Nat.le_refl _) (.cells #[.int .i64 0, .int .i64 0, .int .i64 0] 98))
  have K0 := Lib.hid (BK.new 98 w #[.int .i64 0, .int .i64 0, .int .i64 0])
  obtain ⟨W1, hW1⟩ : ∃ x, w.alloc (.cells #[.int .i64 0, .int .i64 0, .int .i64 0] 98) = x := ⟨_, rfl⟩
  rw [hW1] at b0 K0
  have x1 := x.keep b0.out
  have HW1 := Lib.hid hW1
  have hlt := x.lt
  clear hW1
  have KA := Lib.hid (kind_any x1)
  have UA := Lib.hid (unfit_any x1)
  have X1 := Lib.hid x1
  unfold ptrP at KA UA ⊢
  by_cases hkk : kindP ts = k
  · cases ts with
    | nil => simp [kindP] at hkk; omega
    | cons t r =>
      simp only [kindP] at hkk KA
      have hR : takeP l.length k (t :: r) = .ok (t, r) := by simp [takeP, hkk]
      unfold TakeQ
      rw [hR]
      obtain ⟨b, off, cap, rfl, h1, h2, hb, d0, d1, d2, h3⟩ := x1.first
      obtain ⟨c0, c1, c2⟩ := x1.cells
      obtain ⟨n, hn⟩ : ∃ n, r.length = n := ⟨_, rfl⟩
      rw [hn] at h1 c1
      rw [hkk] at KA d0
      have T3 := Lib.hid h3
      simp only [hkk]
      clear x x1 h3
      go_enter Tryz.func70, Tryz.ntmps70
      go_upto_region 1 with fail
      rw [HW1.out]
      go_wp2_with fail
      refine KA.out.mono ?_
      rintro e w' ⟨rfl, hw⟩
      rw [hw]
      clear hw w'
      go_upto_region 4 with fail
      have b2 : Below W1.heap.size W1 (W1.alloc (.cells #[.int .i64 (k : Int), .int .i64 (t.2.1 : Int), .int .i64 (t.2.2 : Int)] 98)) := (Below.refl _ _).alloc (Nat.le_refl _) _
      have K2 := BK.new 98 W1 #[.int .i64 (k : Int), .int .i64 (t.2.1 : Int), .int .i64 (t.2.2 : Int)]
      obtain ⟨W2, hW2⟩ : ∃ x, W1.alloc (.cells #[.int .i64 (k : Int), .int .i64 (t.2.1 : Int), .int .i64 (t.2.2 : Int)] 98) = x := ⟨_, rfl⟩
      rw [hW2] at b2 K2 ⊢
      have x2 := X1.out.keep b2
      have K02 := K0.out.keep b2
      obtain ⟨c0', c1', c2'⟩ := x2.cells
      rw [hn] at c1'
      have m0 : W2.cell? ⟨W1.heap.size, 0, none⟩ = some (.int .i64 (k : Int)) := K2.cell 0
      have m1 : W2.cell? ⟨W1.heap.size, 1, none⟩ = some (.int .i64 (t.2.1 : Int)) := K2.cell 1
      have m2 : W2.cell? ⟨W1.heap.size, 2, none⟩ = some (.int .i64 (t.2.2 : Int)) := K2.cell 2
      have n0 : W2.cell? ⟨w.heap.size, 0, none⟩ = some (.int .i64 0) := K02.cell 0
      have n1 : W2.cell? ⟨w.heap.size, 1, none⟩ = some (.int .i64 0) := K02.cell 1
      have n2 : W2.cell? ⟨w.heap.size, 2, none⟩ = some (.int .i64 0) := K02.cell 2
      have z0 : W2.frozen? ⟨w0.heap.size, 1, none⟩ = false := frozen_of_row _ _ _ _ _ x2.blk
      have z1 : W2.frozen? ⟨w.heap.size, 0, none⟩ = false := frozen_of_row _ _ _ _ _ K02
      have z2 : W2.frozen? ⟨w.heap.size, 1, none⟩ = false := frozen_of_row _ _ _ _ _ K02
      have z3 : W2.frozen? ⟨w.heap.size, 2, none⟩ = false := frozen_of_row _ _ _ _ _ K02
      have ne1 : w0.heap.size ≠ w.heap.size := by omega
      have l1 := K0.out.lt
      have ne2 : w0.heap.size ≠ W1.heap.size := by omega
      have ne3 : w.heap.size ≠ W1.heap.size := by omega
      clear c0 c1 c2 d0 d1 d2 hW2
      have X2 := Lib.hid x2
      have B2 := Lib.hid (b0.out.trans (b2.mono b0.out.size))
      have KK := Lib.hid K02
      rw [hn] at T3
      clear x2 b2 K02 K2
      go_wp2
      case inl =>
        have hn0 : n = 0 := by omega
        subst hn0
        obtain rfl : r = [] := List.eq_nil_of_length_eq_zero hn
        obtain ⟨W3, hW3⟩ : ∃ x, (((W2.setCell ⟨w0.heap.size, 1, none⟩ (.slice (some ⟨b, off, none⟩) 0 0)).setCell ⟨w.heap.size, 0, none⟩ (.int .i64 (k : Int))).setCell ⟨w.heap.size, 1, none⟩ (.int .i64 (t.2.1 : Int))).setCell ⟨w.heap.size, 2, none⟩ (.int .i64 (t.2.2 : Int)) = x := ⟨_, rfl⟩
        obtain ⟨x4, f4, k4⟩ := take_end X2.out B2.out hlt KK.out (ts_zero _ _ _ (by decide)) _ _ _ _ hW3
        rw [hW3]
        exact bodyPost_ret (res_bk Tryz.underlying98 rfl infoTok1 rfl _ _ w.heap.size [.int .i64 (k : Int), .int .i64 (t.2.1 : Int), .int .i64 (t.2.2 : Int)] rfl k4 rfl) rfl ⟨rfl, ⟨_, x4⟩, f4⟩
      case inr =>
        obtain ⟨W3, hW3⟩ : ∃ x, (((W2.setCell ⟨w0.heap.size, 1, none⟩ (.slice (some ⟨b, off + 3, none⟩) n (cap - 1))).setCell ⟨w.heap.size, 0, none⟩ (.int .i64 (k : Int))).setCell ⟨w.heap.size, 1, none⟩ (.int .i64 (t.2.1 : Int))).setCell ⟨w.heap.size, 2, none⟩ (.int .i64 (t.2.2 : Int)) = x := ⟨_, rfl⟩
        obtain ⟨x4, f4, k4⟩ := take_end X2.out B2.out hlt KK.out T3.out _ _ _ _ hW3
        rw [hW3]
        exact bodyPost_ret (res_bk Tryz.underlying98 rfl infoTok1 rfl _ _ w.heap.size [.int .i64 (k : Int), .int .i64 (t.2.1 : Int), .int .i64 (t.2.2 : Int)] rfl k4 rfl) rfl ⟨rfl, ⟨_, x4⟩, f4⟩
  · have hR : takeP l.length k ts = .error (synP l.length ts) := by
      cases ts with
      | nil => rfl
      | cons t r => simp only [kindP] at hkk; simp [takeP, hkk]
    unfold TakeQ
    rw [hR]
    have hne : ¬ ((kindP ts : Int) = k) := by omega
    obtain ⟨q, hq⟩ : ∃ q : Int, (kindP ts : Int) = q := ⟨_, rfl⟩
    obtain ⟨z, hz⟩ : ∃ q : Int, (k : Int) = q := ⟨_, rfl⟩
    rw [hq] at KA hne
    rw [hz] at hne ⊢
    clear x x1
    go_enter Tryz.func70, Tryz.ntmps70
    go_upto_region 1 with fail
    rw [HW1.out]
    go_wp2_with fail
    refine KA.out.mono ?_
    rintro e w' ⟨rfl, hw⟩
    rw [hw]
    clear hw w'
    go_wp2_with fail
    refine UA.out.mono ?_
    rintro e w2 ⟨rfl, hb2⟩
    go_wp2
    exact ⟨rfl, rfl, (b0.out.trans (hb2.mono b0.out.size)).mono (Nat.le_of_lt hlt)⟩
end Go.Proofs.YtlobinjdgcidmaaGreatDoor
/- jparse: single. -/
namespace Go.Proofs.YtlobinjdgcidmaaGreatDoor
open Go.RowKit
set_option linter.unusedVariables false
set_option linter.unusedSimpArgs false

def leafP (k : Int) (fr : Int) : Vh := ⟨k, [], false, [], [], fr, 0, []⟩
def nilV : Value := .slice none 0 0
theorem PsW.setRow {w0 w : World} {bv tw : Value} {D : Int} {l : List UInt8} {ts : M.Toks} (x : PsW w0 bv D l w tw ts) {g : Nat} (hg : w0.heap.size < g) (cs : Array Value) : PsW w0 bv D l (w.setRow g cs) tw ts :=
  ⟨x.blk.frame (setRow_other _ _ _ _ (by omega)), below_setRowK x.lo (Nat.le_of_lt hg) cs, x.bs, x.tk, x.tb, x.ll⟩
theorem Fr.setRow {pb : Nat} {w w' : World} (h : Fr pb w w') {g : Nat} (hg : w.heap.size ≤ g) (hp : pb ≤ g) (cs : Array Value) : Fr pb w (w'.setRow g cs) :=
  ⟨below_setRowK h.lo hp cs, fun j hj hn => by rw [setRow_other _ _ _ _ (by omega)]; exact h.oth j hj hn⟩
def SingQ (w0 : World) (bv : Value) (D : Int) (l : List UInt8) (kd : Int) (k : Nat) (ts : M.Toks) (w : World) (e : Ending) (w' : World) : Prop := match takeP l.length k ts with
  | .ok (t, r) => (∃ tw, PsW w0 bv D l w' tw r) ∧ e = .returned (.agg (vv (leafP kd t.2.1) nilV nilV nilV)) ∧ Fr w0.heap.size w w'
  | .error x => Pan e x ∧ Below w0.heap.size w w'
theorem infoV1 : (Tryz.prog.info? 48).map (·.size) = some 9 := infoVal
theorem field_from (a b c : Int) (w : World) : (Instr.field 98 (.agg #[.int .i64 a, .int .i64 b, .int .i64 c]) 1).run Tryz.prog w = .ok (.int .i64 b) w := by kernel_rfl
set_option maxRecDepth 100000 in
set_option maxHeartbeats 2000000 in
theorem single_any {w0 w : World} {bv tw : Value} {D : Int} {l : List UInt8} {ts : M.Toks} (kd : Int) (k : Nat) (hk : 1 ≤ k) (x : PsW w0 bv D l w tw ts) :
    Calls Tryz.prog 51 #[ptrP w0, .int .i64 kd, .int .i64 (k : Int)] w (SingQ w0 bv D l kd k ts w) := by
  have b0 := Lib.hid ((Below.refl w.heap.size w).alloc (Nat.le_refl _) (.cells zv 48))
  have K0 := Lib.hid (BK.new 48 w zv)
  obtain ⟨W1, hW1⟩ : ∃ x, w.alloc (.cells zv 48) = x := ⟨_, rfl⟩
  rw [hW1] at b0 K0
  have x1 := x.keep b0.out
  have HW1 := Lib.hid (show w.alloc (.cells #[.int .i64 0, .slice none 0 0, .bool false, .string ⟨#[]⟩, .string ⟨#[]⟩, .slice none 0 0, .int .i64 0, .int .i64 0, .slice none 0 0] 48) = W1 from hW1)
  have hlt := x.lt
  clear hW1
  have TA := Lib.hid (take_any k hk x1)
  unfold TakeQ at TA
  unfold SingQ
  cases hR : takeP l.length k ts with
  | error er =>
    rw [hR] at TA
    dsimp only at TA ⊢
    unfold ptrP at TA ⊢
    clear x x1
    go_enter Tryz.func51, Tryz.ntmps51
    go_upto_region 1 with fail
    rw [HW1.out]
    go_wp2_with fail
    refine TA.out.mono ?_
    rintro e w2 ⟨rfl, hb2⟩
    go_wp2
    exact ⟨rfl, rfl, (b0.out.mono (Nat.le_of_lt hlt)).trans hb2⟩
  | ok tr =>
    obtain ⟨t, r⟩ := tr
    rw [hR] at TA
    dsimp only at TA ⊢
    unfold ptrP at TA ⊢
    clear x x1
    go_enter Tryz.func51, Tryz.ntmps51
    go_upto_region 1 with fail
    rw [HW1.out]
    go_wp2_with fail
    refine TA.out.mono ?_
    rintro e w2 ⟨tw2, rfl, hx2, hf2⟩
    have hfd := field_from (t.1 : Int) (t.2.1 : Int) (t.2.2 : Int)
    have K2 := K0.out.frame (hf2.oth _ K0.out.lt (by omega))
    go_wp2_with (refine wpl_stV rfl _ _ rfl w.heap.size zv (leafP kd t.2.1) nilV nilV nilV rfl rfl K2 rfl rfl rfl rfl ?_)
    go_wp2
    refine bodyPost_ret (res_bk Tryz.underlying48 rfl infoV1 rfl _ _ w.heap.size (vvl (leafP kd t.2.1) nilV nilV nilV) rfl (BK.set K2 _) rfl) rfl ⟨⟨_, hx2.setRow hlt _⟩, rfl, Fr.setRow ((Fr.of b0.out (Nat.le_of_lt hlt)).trans hf2) (Nat.le_refl _) (Nat.le_of_lt hlt) _⟩
end Go.Proofs.YtlobinjdgcidmaaGreatDoor
/- jparse, plain: what a list of tokens is, in the program's own order (values so far, marks so far). -/
namespace Go.Proofs.YtlobinjdgcidmaaGreatDoor
set_option linter.unusedVariables false
set_option linter.unusedSimpArgs false

def Vo.snoc : Vo → Vh → Vo → Vo
  | .nil, h, k => .cons h k .nil
  | .cons a b r, h, k => .cons a b (r.snoc h k)
theorem snoc_len (L : Vo) (h : Vh) (k : Vo) : (L.snoc h k).len = L.len + 1 := by
  induction L with
  | nil => rfl
  | cons a b r _ ih => simp only [Vo.snoc, Vo.len, ih]
def unitsV (s : List UInt8) : Option (List Nat) := if 2 ≤ s.length ∧ s.getD 0 0 = 34 ∧ s.getD (s.length - 1) 0 = 34 then M.uF s.length ((s.drop 1).take (s.length - 2)) else none
def tokB (l : List UInt8) (t : Nat × Nat × Nat) : List UInt8 := (l.drop t.2.1).take (t.2.2 - t.2.1)
def txtL (l : List UInt8) (t : Nat × Nat × Nat) : List Int := iN ((unitsV (tokB l t)).getD [])
def textV (l : List UInt8) (t : Nat × Nat × Nat) : Vh := ⟨3, txtL l t, false, [], [], t.2.1, 0, []⟩
def numbV (l : List UInt8) (t : Nat × Nat × Nat) : Vh := ⟨4, [], (M.readN (tokB l t)).1.1, (M.readN (tokB l t)).1.2.1, (M.readN (tokB l t)).1.2.2, t.2.1, 0, []⟩
def TkIn (l : List UInt8) (ts : M.Toks) : Prop := ∀ t ∈ ts, t.2.1 < t.2.2 ∧ t.2.2 ≤ l.length
theorem TkIn.tail {l : List UInt8} {t : Nat × Nat × Nat} {r : M.Toks} (h : TkIn l (t :: r)) : TkIn l r := fun x hx => h x (List.mem_cons_of_mem _ hx)
abbrev PRes := Except (Int × Int) (Vh × Vo × M.Toks)
abbrev LRes := Except (Int × Int) (List Int × Vo × M.Toks)
def itemW (l : List UInt8) (val : M.Toks → PRes) (obj : Bool) (ts : M.Toks) (ms : List Int) (L : Vo) : LRes :=
  if obj then
    match takeP l.length 7 ts with
    | .error e => .error e
    | .ok (t, r) => match takeP l.length 5 r with
      | .error e => .error e
      | .ok (c, r2) => match val r2 with
        | .error e => .error e
        | .ok (h, kids, r3) => .ok (ms ++ [(c.2.1 : Int)], (L.snoc (textV l t) .nil).snoc h kids, r3)
  else match val ts with
    | .error e => .error e
    | .ok (h, kids, r) => .ok (ms, L.snoc h kids, r)
def kdL (obj : Bool) : Int := if obj then 1 else 2
def opL (obj : Bool) : Nat := if obj then 1 else 3
def shL (obj : Bool) : Nat := if obj then 2 else 4
mutual
def valP (l : List UInt8) : Nat → Nat → M.Toks → PRes
  | 0, _, ts => .error (synP l.length ts)
  | f + 1, deep, ts => match ts with
    | [] => .error (synP l.length [])
    | t :: r =>
      if t.1 = 7 then .ok (textV l t, .nil, r)
      else if t.1 = 8 then .ok (numbV l t, .nil, r)
      else if t.1 = 9 ∨ t.1 = 10 ∨ t.1 = 11 then .ok (leafP ((t.1 : Int) - 4) t.2.1, .nil, r)
      else if t.1 = 1 ∨ t.1 = 3 then
        (match deep with
         | 0 => .error (4, (t.2.1 : Int))
         | d + 1 =>
           if kindP r = t.1 + 1 then restP l f (decide (t.1 = 1)) d t.2.1 r [] .nil
           else match itemW l (valP l f d) (decide (t.1 = 1)) r [] .nil with
             | .error e => .error e
             | .ok (ms, L, r2) => restP l f (decide (t.1 = 1)) d t.2.1 r2 ms L)
      else .error (synP l.length (t :: r))
def restP (l : List UInt8) : Nat → Bool → Nat → Nat → M.Toks → List Int → Vo → PRes
  | 0, _, _, _, ts, _, _ => .error (synP l.length ts)
  | f + 1, obj, d, fr, ts, ms, L =>
    if kindP ts = shL obj then
      match takeP l.length (shL obj) ts with
      | .error e => .error e
      | .ok (t, r) => .ok (⟨kdL obj, [], false, [], [], fr, t.2.1, ms⟩, L, r)
    else match takeP l.length 6 ts with
      | .error e => .error e
      | .ok (c, r) => match itemW l (valP l f d) obj r (ms ++ [(c.2.1 : Int)]) L with
        | .error e => .error e
        | .ok (ms2, L2, r2) => restP l f obj d fr r2 ms2 L2
end
def parP (l : List UInt8) (deep : Nat) (ts : M.Toks) : Except (Int × Int) (Vh × Vo) := match valP l (2 * ts.length + 2) deep ts with
  | .error e => .error e
  | .ok (h, kids, []) => .ok (h, kids)
  | .ok (_, _, r) => .error (synP l.length r)
theorem take_len {n k : Nat} {ts r : M.Toks} {t : Nat × Nat × Nat} (e : takeP n k ts = .ok (t, r)) : ts = t :: r := by
  cases ts with
  | nil => simp [takeP] at e
  | cons a b =>
    by_cases hk : a.1 = k
    · simp only [takeP, if_pos hk, Except.ok.injEq, Prod.mk.injEq] at e
      rw [e.1, e.2]
    · simp [takeP, hk] at e
def Suf (r ts : M.Toks) : Prop := ∃ p : M.Toks, p ≠ [] ∧ ts = p ++ r
theorem Suf.len {r ts : M.Toks} (h : Suf r ts) : r.length < ts.length := by
  obtain ⟨p, hp, rfl⟩ := h
  have := List.length_pos_iff.2 hp
  rw [List.length_append]; omega
theorem Suf.tk {l : List UInt8} {r ts : M.Toks} (h : Suf r ts) (k : TkIn l ts) : TkIn l r := by
  obtain ⟨p, hp, rfl⟩ := h
  exact fun x hx => k x (List.mem_append_right _ hx)
theorem Suf.trans {a b c : M.Toks} (h : Suf a b) (k : Suf b c) : Suf a c := by
  obtain ⟨p, hp, rfl⟩ := h
  obtain ⟨q, hq, rfl⟩ := k
  exact ⟨q ++ p, by simp [hq], by simp⟩
theorem Suf.one (t : Nat × Nat × Nat) (r : M.Toks) : Suf r (t :: r) := ⟨[t], by simp, rfl⟩
theorem take_suf {n k : Nat} {ts r : M.Toks} {t : Nat × Nat × Nat} (e : takeP n k ts = .ok (t, r)) : Suf r ts := by
  rw [take_len e]; exact Suf.one t r
theorem item_suf {l : List UInt8} {val : M.Toks → PRes} (hv : ∀ ts h k r, val ts = .ok (h, k, r) → Suf r ts) (obj : Bool) (ts : M.Toks) (ms : List Int) (L : Vo) (ms' : List Int) (L' : Vo) (r : M.Toks) (h : itemW l val obj ts ms L = .ok (ms', L', r)) :
    Suf r ts ∧ L'.len + r.length ≤ L.len + ts.length ∧ ms'.length + r.length ≤ ms.length + ts.length := by
  unfold itemW at h
  cases obj with
  | false =>
    simp only [Bool.false_eq_true, if_false] at h
    cases hr : val ts with
    | error e => rw [hr] at h; simp at h
    | ok q =>
      obtain ⟨a, b, c⟩ := q
      rw [hr] at h
      simp only [Except.ok.injEq, Prod.mk.injEq] at h
      obtain ⟨rfl, rfl, rfl⟩ := h
      have s := hv _ _ _ _ hr
      have := s.len
      exact ⟨s, by rw [snoc_len]; omega, by omega⟩
  | true =>
    simp only [if_true] at h
    cases h7 : takeP l.length 7 ts with
    | error e => rw [h7] at h; simp at h
    | ok q =>
      obtain ⟨t, r1⟩ := q
      rw [h7] at h
      simp only at h
      cases h5 : takeP l.length 5 r1 with
      | error e => rw [h5] at h; simp at h
      | ok q =>
        obtain ⟨c, r2⟩ := q
        rw [h5] at h
        simp only at h
        cases hr : val r2 with
        | error e => rw [hr] at h; simp at h
        | ok q =>
          obtain ⟨a, b, c2⟩ := q
          rw [hr] at h
          simp only [Except.ok.injEq, Prod.mk.injEq] at h
          obtain ⟨rfl, rfl, rfl⟩ := h
          have s1 := take_suf h7
          have s2 := take_suf h5
          have s3 := hv _ _ _ _ hr
          have l1 := s1.len
          have l2 := s2.len
          have l3 := s3.len
          refine ⟨s3.trans (s2.trans s1), by rw [snoc_len, snoc_len]; omega, by rw [List.length_append]; simp; omega⟩
theorem val_suf (l : List UInt8) : ∀ f, (∀ deep ts h k r, valP l f deep ts = .ok (h, k, r) → Suf r ts) ∧ (∀ obj d fr ts ms L h k r, restP l f obj d fr ts ms L = .ok (h, k, r) → Suf r ts) := by
  intro f
  induction f with
  | zero => exact ⟨fun deep ts h k r e => by simp [valP] at e, fun obj d fr ts ms L h k r e => by simp [restP] at e⟩
  | succ f ih =>
    obtain ⟨iv, ir⟩ := ih
    refine ⟨fun deep ts h k r e => ?_, fun obj d fr ts ms L h k r e => ?_⟩
    · cases ts with
      | nil => simp [valP] at e
      | cons t r0 =>
        unfold valP at e
        simp only at e
        by_cases h7 : t.1 = 7
        · rw [if_pos h7] at e
          simp only [Except.ok.injEq, Prod.mk.injEq] at e
          rw [← e.2.2]; exact Suf.one t r0
        · rw [if_neg h7] at e
          by_cases h8 : t.1 = 8
          · rw [if_pos h8] at e
            simp only [Except.ok.injEq, Prod.mk.injEq] at e
            rw [← e.2.2]; exact Suf.one t r0
          · rw [if_neg h8] at e
            by_cases h9 : t.1 = 9 ∨ t.1 = 10 ∨ t.1 = 11
            · rw [if_pos h9] at e
              simp only [Except.ok.injEq, Prod.mk.injEq] at e
              rw [← e.2.2]; exact Suf.one t r0
            · rw [if_neg h9] at e
              by_cases h1 : t.1 = 1 ∨ t.1 = 3
              · rw [if_pos h1] at e
                cases deep with
                | zero => simp at e
                | succ d =>
                  simp only at e
                  by_cases hk : kindP r0 = t.1 + 1
                  · rw [if_pos hk] at e
                    exact (ir _ _ _ _ _ _ _ _ _ e).trans (Suf.one t r0)
                  · rw [if_neg hk] at e
                    cases hi : itemW l (valP l f d) (decide (t.1 = 1)) r0 [] .nil with
                    | error x => rw [hi] at e; simp at e
                    | ok q =>
                      obtain ⟨ms, L, r2⟩ := q
                      rw [hi] at e
                      exact (ir _ _ _ _ _ _ _ _ _ e).trans ((item_suf (iv d) _ _ _ _ _ _ _ hi).1.trans (Suf.one t r0))
              · rw [if_neg h1] at e; simp at e
    · unfold restP at e
      by_cases hk : kindP ts = shL obj
      · rw [if_pos hk] at e
        cases ht : takeP l.length (shL obj) ts with
        | error x => rw [ht] at e; simp at e
        | ok q =>
          obtain ⟨t, r1⟩ := q
          rw [ht] at e
          simp only [Except.ok.injEq, Prod.mk.injEq] at e
          rw [← e.2.2]; exact take_suf ht
      · rw [if_neg hk] at e
        cases ht : takeP l.length 6 ts with
        | error x => rw [ht] at e; simp at e
        | ok q =>
          obtain ⟨t, r1⟩ := q
          rw [ht] at e
          simp only at e
          cases hi : itemW l (valP l f d) obj r1 (ms ++ [(t.2.1 : Int)]) L with
          | error x => rw [hi] at e; simp at e
          | ok q =>
            obtain ⟨ms2, L2, r2⟩ := q
            rw [hi] at e
            exact (ir _ _ _ _ _ _ _ _ _ e).trans ((item_suf (iv d) _ _ _ _ _ _ _ hi).1.trans (take_suf ht))
end Go.Proofs.YtlobinjdgcidmaaGreatDoor
/- jparse.Units of the program. -/
namespace Go.Proofs.YtlobinjdgcidmaaGreatDoor
open Go.RowKit
set_option linter.unusedVariables false
set_option linter.unusedSimpArgs false

def uS (t : List UInt8) : Option (List Nat) := M.uF (t.length + 1) t
theorem uF_fuel (f g : Nat) (t : List UInt8) (hf : t.length < f) (hg : t.length < g) : M.uF f t = M.uF g t := by rw [M.uF_iff f t hf, M.uF_iff g t hg]
theorem uS_nil (t : List UInt8) (h : t.length = 0) : uS t = some [] := by unfold uS M.uF; rw [if_pos h]
theorem uS_cons (t : List UInt8) (h : 0 < t.length) : uS t = if (M.elS t).2 = 0 then none else (uS (t.drop (M.elS t).2)).map (M.pairU (M.elS t).1 ++ ·) := by
  conv => lhs; unfold uS M.uF
  rw [if_neg (by omega)]
  by_cases h0 : (M.elS t).2 = 0
  · rw [if_pos h0, if_pos h0]
  · rw [if_neg h0, if_neg h0]
    unfold uS
    rw [uF_fuel t.length ((t.drop (M.elS t).2).length + 1) _ (by rw [List.length_drop]; omega) (by omega)]
theorem pairU_two (r : Nat) : (M.pairU r).length ≤ 2 := by unfold M.pairU; split <;> simp
def UnQ (B : Nat) (r : Option (List Nat)) (w : World) (e : Ending) (w' : World) : Prop := match r with
  | some us => ∃ v', e = .returned (.tuple #[v', .bool true]) ∧ OwnI B w' v' (iN us) ∧ Below B w w'
  | none => e = .returned (.tuple #[nilV, .bool false]) ∧ Below B w w'
set_option maxRecDepth 100000 in
set_option maxHeartbeats 4000000 in
theorem unitsz_any (v : Value) (s : List UInt8) (w : World) (hT : TabX w) (hb : Bs w v s) (hl : s.length ≤ 1048000) :
    Calls Tryz.prog 72 #[v] w (UnQ w.heap.size (unitsV s) w) := by
  obtain ⟨n, hn⟩ : ∃ n, s.length = n := ⟨_, rfl⟩
  unfold unitsV
  rw [hn]
  have hb' := hb
  obtain ⟨a, cap, rfl, g1, g2, g3⟩ := hb'
  clear g3
  rw [hn] at hb g1 hl ⊢
  by_cases h2 : n < 2
  · rw [if_neg (by omega)]
    unfold UnQ
    simp only
    have h2' : (n : Int) - 1 < 1 := by omega
    clear hT hb hn h2 g1 g2
    go_enter Tryz.func72, Tryz.ntmps72
    go_wp2
    go_ret2
    exact ⟨rfl, Below.refl _ _⟩
  · obtain ⟨b, off, cap2, e, c1, c2, c3, hc⟩ := bs_open hb (by omega)
    rw [hn] at e c1 hc
    simp only [Value.slice.injEq, true_and] at e
    obtain ⟨rfl, rfl⟩ := e
    have e0 := hc 0 (by omega)
    have eN := hc (n - 1) (by omega)
    rw [Nat.add_zero] at e0
    have h2' : ¬ ((n : Int) - 1 < 1) := by omega
    have h3' : (n : Int) - 1 < n := by omega
    have hne : ∀ x : UInt8, ¬ x = 34 → ¬ (x.toNat : Int) = 34 := fun x h e => h (UInt8.toNat_inj.mp (by have : (34 : UInt8).toNat = 34 := rfl; omega))
    have h4' : ((n - 1 : Nat) : Int) = (n : Int) - 1 := by omega
    have h5' : ((n : Int) - 1).toNat = n - 1 := by omega
    by_cases hx : s.getD 0 0 = 34
    · rw [hx] at e0
      have e0' : w.cell? ⟨b, off, none⟩ = some (.int .u8 34) := e0
      by_cases hy : s.getD (n - 1) 0 = 34
      · rw [hy] at eN
        have eN' : w.cell? ⟨b, off + (n - 1), none⟩ = some (.int .u8 34) := eN
        rw [if_pos ⟨by omega, hx, hy⟩]
        obtain ⟨inn, hinn⟩ : ∃ t, (s.drop 1).take (n - 2) = t := ⟨_, rfl⟩
        have hp := bs_part hb 1 (n - 1) (by omega) (by omega)
        rw [show n - 1 - 1 = n - 2 by omega, hinn] at hp
        have hil : inn.length = n - 2 := by rw [← hinn]; simp; omega
        rw [hinn]
        have hR0 : M.uF n inn = uS inn := uF_fuel _ _ _ (by omega) (by omega)
        rw [hR0]
        obtain ⟨R, hR⟩ : ∃ R, uS inn = R := ⟨_, rfl⟩
        rw [hR]
        obtain ⟨m, hm⟩ : ∃ m, n - 2 = m := ⟨_, rfl⟩
        obtain ⟨cp, hcp⟩ : ∃ c, cap - 1 = c := ⟨_, rfl⟩
        rw [hm, hcp] at hp
        rw [hm] at hil
        have HP := Lib.hid hp
        have HT := Lib.hid hT
        have HR := Lib.hid hR
        have HIL := Lib.hid hil
        have q1 : (n : Int) - 1 - 1 = m := by omega
        have q2 : n - 1 - 1 = m := by omega
        have q3 : 1 ≤ (n : Int) - 1 := by omega
        have q4 : (n : Int) - 1 ≤ cap := by omega
        have q5 : ¬ cap - 1 = 0 := by omega
        have q6 : ¬ cp = 0 := by omega
        have q7 : m < cp := by omega
        have q8 : (cap : Int) ≤ maxLen := by omega
        have HM := Lib.hid (show m ≤ 1048000 by omega)
        clear hT hb hn h2 g1 g2 hc hp hR hR0 hil hinn hx hy hne hm e0 eN c1
        go_enter Tryz.func72, Tryz.ntmps72
        go_wp2
        go_loopw [6, 7, 8, 9] (fun ov iv _ _ wr => ∃ (i : Nat) (pre : List Nat), iv = .int .i64 (i : Int) ∧ i ≤ m ∧ (uS (inn.drop i)).map (pre ++ ·) = R ∧ pre.length ≤ 2 * i ∧ OwnI w.heap.size wr ov (iN pre) ∧ Below w.heap.size w wr) (fun _ iv _ _ _ => m - (intOf iv).toNat)
        case atStart => exact ⟨0, [], rfl, Nat.zero_le _, by rw [List.drop_zero, HR.out]; cases R <;> simp, by simp, World.ownsRow_nil _ _ _ _, Below.refl _ _⟩
        case round =>
          obtain ⟨i, pre, rfl, hi, hrel, hpl, ho, hb1⟩ := hrel
          have hsz := hb1.size
          by_cases hlt : i < m
          · have hil : 0 < (inn.drop i).length := by simp only [List.length_drop]; rw [HIL.out]; omega
            rw [uS_cons _ hil, List.drop_drop] at hrel
            have hpt := bs_part HP.out i m (by omega) (Nat.le_refl _)
            have etk : (inn.drop i).take (m - i) = inn.drop i := List.take_of_length_le (by simp only [List.length_drop]; rw [HIL.out]; omega)
            rw [etk] at hpt
            have EL := Lib.hid (elementz_any _ (inn.drop i) wr (HT.out.keep hb1) (hpt.keep hb1) hil (by simp only [List.length_drop]; rw [HIL.out]; have := HM.out; omega))
            unfold ElQ at EL
            have ev := M.elS_val (inn.drop i)
            have el := M.elS_le (inn.drop i) hil
            have ell : (inn.drop i).length = m - i := by simp only [List.length_drop]; rw [HIL.out]
            rw [ell] at el
            obtain ⟨⟨E1, E2⟩, hE⟩ : ∃ r, M.elS (inn.drop i) = r := ⟨_, rfl⟩
            rw [hE] at EL hrel ev el
            simp only at EL hrel ev el
            have i1 : (i : Int) < m := by omega
            have i2 : (m : Int) ≤ cp := by omega
            have i3 : ¬ cp - i = 0 := by omega
            have HM2 := HM.out
            by_cases hz : E2 = 0
            · subst hz
              rw [if_pos rfl] at hrel
              have hRn : R = none := by rw [← hrel]; rfl
              subst hRn
              clear hrel hpt etk hE ev el ell hil hlt
              go_wp2_with fail
              refine EL.out.mono ?_
              rintro e w2 ⟨rfl, hb2⟩
              have hb4 := hb1.trans (hb2.mono hsz)
              clear ho hb1 hb2
              go_wp2
              go_ret2
              unfold UnQ
              exact ⟨rfl, hb4⟩
            · rw [if_neg hz] at hrel
              have hrel2 : (uS (inn.drop (i + E2))).map ((pre ++ M.pairU E1) ++ ·) = R := by
                rw [← hrel]
                cases uS (inn.drop (i + E2)) with
                | none => rfl
                | some u => simp
              have HRL := Lib.hid hrel2
              have hp2 := pairU_two E1
              have hz2 : ¬ (E2 : Int) = 0 := by omega
              have UA := Lib.hid (fun (v : Value) (W : World) (ho : OwnI w.heap.size W v (iN pre)) (hs : w.heap.size ≤ W.heap.size) => uappz_any w.heap.size v pre E1 _ W ho ev (by omega) hs rfl)
              obtain ⟨RI, hRI⟩ : ∃ R : Int, (E1 : Int) = R := ⟨_, rfl⟩
              rw [hRI] at EL UA
              clear hrel hrel2 hpt etk hE ell hil hlt hRI ev
              go_wp2_with fail
              refine EL.out.mono ?_
              rintro e w2 ⟨rfl, hb2⟩
              have ho2 := ownsRow_keep ho hb2
              have hb4 := hb1.trans (hb2.mono hsz)
              have hs3 := hb4.size
              clear ho hb1 hb2
              go_wp2_with fail
              refine (UA.out _ w2 ho2 hs3).mono ?_
              rintro e w3 ⟨v3, rfl, ho4, hb5⟩
              have hb7 := hb4.trans hb5
              clear hb4 hb5 ho2
              go_wp2
              go_roundw
              case rel => exact ⟨i + E2, pre ++ M.pairU E1, by go_num, by omega, HRL.out, by simp; omega, ho4, hb7⟩
              case measure => simp [intOf]; omega
          · have him : i = m := by omega
            subst him
            rw [uS_nil _ (by simp only [List.length_drop]; rw [HIL.out]; omega)] at hrel
            have hRs : R = some pre := by rw [← hrel]; simp
            subst hRs
            clear hrel hlt
            go_wp2
            go_ret2
            unfold UnQ
            exact ⟨_, rfl, ho, hb1⟩
      · rw [if_neg (fun h => hy h.2.2)]
        unfold UnQ
        simp only
        have hy' := hne _ hy
        obtain ⟨D, hD⟩ : ∃ D : Int, ((s.getD (n - 1) 0).toNat : Int) = D := ⟨_, rfl⟩
        rw [hD] at eN hy'
        clear hT hb hn h2 g1 g2 hc hx hy hne hD e0
        go_enter Tryz.func72, Tryz.ntmps72
        go_wp2
        go_ret2
        exact ⟨rfl, Below.refl _ _⟩
    · rw [if_neg (fun h => hx h.2.1)]
      unfold UnQ
      simp only
      have hx' := hne _ hx
      obtain ⟨D, hD⟩ : ∃ D : Int, ((s.getD 0 0).toNat : Int) = D := ⟨_, rfl⟩
      rw [hD] at e0 hx'
      clear hT hb hn h2 g1 g2 hc hx hne hD eN
      go_enter Tryz.func72, Tryz.ntmps72
      go_wp2
      go_ret2
      exact ⟨rfl, Below.refl _ _⟩
end Go.Proofs.YtlobinjdgcidmaaGreatDoor
