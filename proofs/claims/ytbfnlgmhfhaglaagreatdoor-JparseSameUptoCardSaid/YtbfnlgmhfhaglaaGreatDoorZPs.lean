/- jparse: the parser's state in memory; kind, unfit, take. -/
import Derived.Test.YtbfnlgmhfhaglaaGreatDoorYRow
import Derived.Test.YtbfnlgmhfhaglaaGreatDoorJgP
import Derived.Test.YtbfnlgmhfhaglaaGreatDoorWTabs
import Derived.Test.YtbfnlgmhfhaglaaGreatDoorARight
import Derived.Deep.DeepCutAuto
import Derived.WalkLawsBesides
namespace Go.Proofs.YtbfnlgmhfhaglaaGreatDoor
open Go.RowKit
set_option linter.unusedVariables false
set_option linter.unusedSimpArgs false

/-- Where the next token begins; the text's end behind the last one. -/
def atP (n : Nat) : M.Toks → Int
  | [] => n
  | t :: _ => t.2.1
def kindP : M.Toks → Nat
  | [] => 0
  | t :: _ => t.1
/-- A syntax fault at the next token. -/
def synP (n : Nat) (ts : M.Toks) : Int × Int := (3, atP n ts)
/-- The parser in memory, in the block that came behind the world w0: what is left of the tokens is ts. -/
structure PsW (w0 : World) (bv : Value) (D : Int) (l : List UInt8) (w : World) (tv : Value) (ts : M.Toks) : Prop where
  blk : BK 61 w w0.heap.size #[bv, tv, .int .i64 D]
  lo : Below w0.heap.size w0 w
  bs : Bs w0 bv l
  tk : Ts w0 tv ts
  tb : Tabs w0
  ll : l.length ≤ 1048576
/-- What a call of the parser's leaves: all but the parser's own block. -/
structure Fr (pb : Nat) (w w' : World) : Prop where
  lo : Below pb w w'
  oth : ∀ j, j < w.heap.size → j ≠ pb → w'.heap[j]? = w.heap[j]?
theorem Fr.refl (pb : Nat) (w : World) : Fr pb w w := ⟨Below.refl _ _, fun _ _ _ => rfl⟩
theorem Fr.trans {pb : Nat} {a b c : World} (h : Fr pb a b) (k : Fr pb b c) : Fr pb a c :=
  ⟨h.lo.trans k.lo, fun j hj hn => (k.oth j (Nat.lt_of_lt_of_le hj h.lo.size) hn).trans (h.oth j hj hn)⟩
theorem Fr.of {pb : Nat} {w w' : World} (h : Below w.heap.size w w') (hp : pb ≤ w.heap.size) : Fr pb w w' := ⟨h.mono hp, fun j hj _ => h.block j hj⟩
theorem PsW.keep {w0 w w' : World} {bv tv : Value} {D : Int} {l : List UInt8} {ts : M.Toks} (x : PsW w0 bv D l w tv ts) (hb : Below w.heap.size w w') : PsW w0 bv D l w' tv ts :=
  ⟨x.blk.keep hb, x.lo.trans (hb.mono x.lo.size), x.bs, x.tk, x.tb, x.ll⟩
theorem PsW.lt {w0 w : World} {bv tv : Value} {D : Int} {l : List UInt8} {ts : M.Toks} (x : PsW w0 bv D l w tv ts) : w0.heap.size < w.heap.size := x.blk.lt
/-- The panic that a stop is. -/
def Pan (e : Ending) (r : Int × Int) : Prop := e = .panicked [{ v := .iface 57 (.agg #[.int .i64 r.1, .int .i64 r.2]), recovered := false }]
def ptrP (w0 : World) : Value := .pointer (some ⟨w0.heap.size, 0, none⟩)
/-- The tokens, in the world that the parser is in. -/
theorem PsW.toks {w0 w : World} {bv tw : Value} {D : Int} {l : List UInt8} {ts : M.Toks} (x : PsW w0 bv D l w tw ts) :
    ∃ a cap, tw = .slice a ts.length cap ∧ ts.length ≤ cap ∧ cap ≤ maxLen ∧ (0 < ts.length → ∃ b off, a = some ⟨b, off, none⟩ ∧ b < w0.heap.size ∧ ∀ j (h : j < ts.length) i u, (tv ts[j])[i]? = some u → w.cell? ⟨b, off + (j * 3 + i), none⟩ = some u) := by
  obtain ⟨a, cap, e, h1, h2, h3⟩ := x.tk
  rw [tvs_len] at e h1
  refine ⟨a, cap, e, h1, h2, fun h0 => ?_⟩
  obtain ⟨b, off, e2, hb, hc⟩ := h3 (by rw [tvs_len]; exact h0)
  refine ⟨b, off, e2, hb, fun j hj i u hu => ?_⟩
  rw [x.lo.cell (p := ⟨b, off + (j * 3 + i), none⟩) hb]
  exact hc j (by rw [tvs_len]; exact hj) i u (by simpa [tvs] using hu)
/-- The first of the tokens. -/
theorem PsW.first {w0 w : World} {bv tv : Value} {D : Int} {l : List UInt8} {t : Nat × Nat × Nat} {r : M.Toks} (x : PsW w0 bv D l w tv (t :: r)) :
    ∃ b off cap, tv = .slice (some ⟨b, off, none⟩) (r.length + 1) cap ∧ r.length + 1 ≤ cap ∧ cap ≤ maxLen ∧ b < w0.heap.size ∧ w.cell? ⟨b, off, none⟩ = some (.int .i64 (t.1 : Int)) ∧ w.cell? ⟨b, off + 1, none⟩ = some (.int .i64 (t.2.1 : Int)) ∧ w.cell? ⟨b, off + 2, none⟩ = some (.int .i64 (t.2.2 : Int)) ∧
      Ts w0 (.slice (some ⟨b, off + 3, none⟩) r.length (cap - 1)) r := by
  obtain ⟨a, cap, e, h1, h2, h3⟩ := x.toks
  obtain ⟨b, off, rfl, hb, hc⟩ := h3 (by simp)
  have c := hc 0 (by simp)
  simp only [List.length_cons] at e h1
  refine ⟨b, off, cap, e, h1, h2, hb, c 0 _ rfl, c 1 _ rfl, c 2 _ rfl, _, _, by rw [tvs_len], by rw [tvs_len]; omega, by omega, fun h0 => ⟨b, off + 3, rfl, hb, fun j hj i u hu => ?_⟩⟩
  rw [tvs_len] at hj
  have := hc (j + 1) (by simp; omega) i u (by simpa [tvs] using hu)
  rw [x.lo.cell (p := ⟨b, off + ((j + 1) * 3 + i), none⟩) hb] at this
  rw [show off + 3 + (j * 3 + i) = off + ((j + 1) * 3 + i) by omega]
  exact this
theorem PsW.cells {w0 w : World} {bv tv : Value} {D : Int} {l : List UInt8} {ts : M.Toks} (x : PsW w0 bv D l w tv ts) :
    w.cell? ⟨w0.heap.size, 0, none⟩ = some bv ∧ w.cell? ⟨w0.heap.size, 1, none⟩ = some tv ∧ w.cell? ⟨w0.heap.size, 2, none⟩ = some (.int .i64 D) := ⟨x.blk.cell 0, x.blk.cell 1, x.blk.cell 2⟩
/-- What is left of the tokens is stored anew. -/
theorem PsW.move {w0 w : World} {bv tv tv' : Value} {D : Int} {l : List UInt8} {ts ts' : M.Toks} (x : PsW w0 bv D l w tv ts) (h : Ts w0 tv' ts') :
    PsW w0 bv D l (w.setCell ⟨w0.heap.size, 1, none⟩ tv') tv' ts' ∧ Fr w0.heap.size w (w.setCell ⟨w0.heap.size, 1, none⟩ tv') :=
  ⟨⟨x.blk.setCell 1 tv', x.lo.setCell (p := ⟨w0.heap.size, 1, none⟩) (Nat.le_refl _) tv', x.bs, h, x.tb, x.ll⟩, (Below.refl _ w).setCell (p := ⟨w0.heap.size, 1, none⟩) (Nat.le_refl _) tv', fun j _ hn => heap_setCell_other _ _ _ _ hn⟩
set_option maxRecDepth 100000 in
set_option maxHeartbeats 2000000 in
theorem kind_any {w0 w : World} {bv tv : Value} {D : Int} {l : List UInt8} {ts : M.Toks} (x : PsW w0 bv D l w tv ts) :
    Calls Tryz.prog 43 #[ptrP w0] w fun e w' => e = .returned (.int .i64 (kindP ts : Int)) ∧ w' = w := by
  unfold ptrP
  obtain ⟨c0, c1, c2⟩ := x.cells
  cases ts with
  | nil =>
    obtain ⟨a, cap, rfl, h1, h2, h3⟩ := x.toks
    simp only [List.length_nil] at *
    clear x h3 h1
    go_enter Tryz.func43, Tryz.ntmps43
    go_wp2
    go_ret
    exact ⟨rfl, rfl⟩
  | cons t r =>
    obtain ⟨b, off, cap, rfl, h1, h2, hb, d0, d1, d2, h3⟩ := x.first
    obtain ⟨n, hn⟩ : ∃ n, r.length = n := ⟨_, rfl⟩
    obtain ⟨k, hk⟩ : ∃ k : Int, (t.1 : Int) = k := ⟨_, rfl⟩
    simp only [kindP]
    rw [hn] at h1 h3 c1
    rw [hk] at d0 ⊢
    have q1 : ¬ ((n : Int) + 1 = 0) := by omega
    have q2 : (0 : Int) < (n : Int) + 1 := by omega
    clear x h3
    go_enter Tryz.func43, Tryz.ntmps43
    go_wp2
    go_ret
    exact ⟨rfl, rfl⟩
theorem infoTok1 : (Tryz.prog.info? 51).map (·.size) = some 3 := by kernel_rfl
theorem infoStop1 : (Tryz.prog.info? 57).map (·.size) = some 2 := by kernel_rfl
set_option maxRecDepth 100000 in
set_option maxHeartbeats 2000000 in
theorem unfit_any {w0 w : World} {bv tv : Value} {D : Int} {l : List UInt8} {ts : M.Toks} (x : PsW w0 bv D l w tv ts) :
    Calls Tryz.prog 28 #[ptrP w0] w fun e w' => e = .returned (.agg #[.int .i64 3, .int .i64 (atP l.length ts)]) ∧ Below w.heap.size w w' := by
  unfold ptrP
  have b0 := Lib.hid ((Below.refl w.heap.size w).alloc (Nat.le_refl _) (.cells #[.int .i64 0, .int .i64 0] 57))
  have K0 := Lib.hid (BK.new 57 w #[.int .i64 0, .int .i64 0])
  obtain ⟨W1, hW1⟩ : ∃ x, w.alloc (.cells #[.int .i64 0, .int .i64 0] 57) = x := ⟨_, rfl⟩
  rw [hW1] at b0 K0
  have x1 := x.keep b0.out
  have HW1 := Lib.hid hW1
  have k0 : W1.cell? ⟨w.heap.size, 0, none⟩ = some (.int .i64 0) := K0.out.cell 0
  have k1 : W1.cell? ⟨w.heap.size, 1, none⟩ = some (.int .i64 0) := K0.out.cell 1
  have z0 : W1.frozen? ⟨w.heap.size, 0, none⟩ = false := frozen_of_row _ _ _ _ _ K0.out
  have z1 : W1.frozen? ⟨w.heap.size, 1, none⟩ = false := frozen_of_row _ _ _ _ _ K0.out
  obtain ⟨c0, c1, c2⟩ := x1.cells
  obtain ⟨ba, bcap, hbv, g1, g2, g3⟩ := x.bs
  subst hbv
  obtain ⟨m, hm⟩ : ∃ n, l.length = n := ⟨_, rfl⟩
  rw [hm] at c0 ⊢
  clear hW1
  cases ts with
  | nil =>
    obtain ⟨a, cap, rfl, h1, h2, h3⟩ := x1.toks
    simp only [List.length_nil] at *
    clear x x1 h3 h1 g3 g1
    go_enter Tryz.func28, Tryz.ntmps28
    go_upto_region 1 with fail
    rw [HW1.out]
    go_wp2
    refine bodyPost_ret (res_bk Tryz.underlying57 rfl infoStop1 rfl _ _ w.heap.size [.int .i64 3, .int .i64 (m : Int)] rfl ((K0.out.setCell 0 _).setCell 1 _) rfl) rfl ⟨rfl, (b0.out.setCell (p := ⟨w.heap.size, 0, none⟩) (Nat.le_refl _) _).setCell (p := ⟨w.heap.size, 1, none⟩) (Nat.le_refl _) _⟩
  | cons t r =>
    obtain ⟨b, off, cap, rfl, h1, h2, hb, d0, d1, d2, h3⟩ := x1.first
    obtain ⟨n, hn⟩ : ∃ n, r.length = n := ⟨_, rfl⟩
    obtain ⟨k, hk⟩ : ∃ k : Int, (t.2.1 : Int) = k := ⟨_, rfl⟩
    simp only [atP]
    rw [hn] at h1 h3 c1
    rw [hk] at d1 ⊢
    have q2 : (0 : Int) < (n : Int) + 1 := by omega
    clear x x1 h3 g3 g1
    go_enter Tryz.func28, Tryz.ntmps28
    go_upto_region 1 with fail
    rw [HW1.out]
    go_wp2
    refine bodyPost_ret (res_bk Tryz.underlying57 rfl infoStop1 rfl _ _ w.heap.size [.int .i64 3, .int .i64 k] rfl ((K0.out.setCell 0 _).setCell 1 _) rfl) rfl ⟨rfl, (b0.out.setCell (p := ⟨w.heap.size, 0, none⟩) (Nat.le_refl _) _).setCell (p := ⟨w.heap.size, 1, none⟩) (Nat.le_refl _) _⟩
end Go.Proofs.YtbfnlgmhfhaglaaGreatDoor
