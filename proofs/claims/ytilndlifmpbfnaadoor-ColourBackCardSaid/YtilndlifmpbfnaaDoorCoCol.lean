/- Colours: which colour a name is, which names a colour has. -/
import Derived.Test.YtilndlifmpbfnaaDoorCoNam
import Derived.Laws.Tables
import Derived.Laws.Rows
import Derived.Laws.ResultCell
import Derived.Deep.Cut
namespace Go.Proofs.YtilndlifmpbfnaaDoor
open Go.RowKit
set_option linter.unusedVariables false
set_option linter.unusedSimpArgs false

def arrC (c : M.C4) : Array Value := #[.int .i64 c.1, .int .i64 c.2.1, .int .i64 c.2.2.1, .int .i64 c.2.2.2]
def arrV (c : M.C4) : Value := .agg (arrC c)
theorem infoA4 : (Tryd.prog.info? 22).map (·.size) = some 4 := by kernel_rfl
theorem arrC_one (c : M.C4) : (arrC c).all (·.oneCell') = true := by
  rw [Array.all_eq_true_iff_forall_mem]
  intro x hx
  simp only [arrC, List.mem_toArray, List.mem_cons, List.mem_nil_iff, or_false] at hx
  rcases hx with rfl | rfl | rfl | rfl <;> rfl
/-- A block that holds four numbers. -/
def AB (w : World) (b : Nat) (c : M.C4) : Prop := w.heap[b]? = some (.cells (arrC c) 22 (0, 0))
theorem AB.lt {w : World} {b : Nat} {c : M.C4} (h : AB w b c) : b < w.heap.size := (Array.getElem?_eq_some_iff.1 h).1
theorem AB.keep {w w' : World} {b : Nat} {c : M.C4} (h : AB w b c) {B : Nat} (hb : Below B w w') (hB : b < B) : AB w' b c := by
  unfold AB; rw [hb.block b hB]; exact h
theorem AB.new (w : World) (c : M.C4) : AB (w.alloc (.cells (arrC c) 22)) w.heap.size c := heap_alloc_new w _
theorem AB.set {w : World} {b : Nat} {c : M.C4} (h : AB w b c) (d : M.C4) : AB (w.setRow b (arrC d)) b d := setRow_heap w b (arrC c) (arrC d) _ _ h
theorem below_setRowA {B : Nat} {a w : World} (h : Below B a w) {g : Nat} (hg : B ≤ g) (cs : Array Value) : Below B a (w.setRow g cs) :=
  ⟨h.os, h.tape, h.output, by rw [size_setRow]; exact h.size, fun k hk => by rw [setRow_other w g k cs (by omega)]; exact h.block k hk⟩
theorem wpl_stA {ops : Array Oper} {rest : List Oper} {o : Oper} {a : Act} {w : World} {Q : Exit → Act → World → Prop} (hgd : o.guard = none) (x y : Operand) (ho : o.op = .store 22 x y)
    (g : Nat) (old c : M.C4) (hx : a.eval x = .pointer (some ⟨g, 0, none⟩)) (hy : a.eval y = .agg (arrC c)) (hg : AB w g old)
    (h : wpList Tryd.prog ops Q rest (a.put o.dst undef) (w.setRow g (arrC c))) : wpList Tryd.prog ops Q (o :: rest) a w :=
  wpList_store_row hgd 22 x y ho g (arrC c) hx hy 22 (arrC old) hg infoA4 rfl (arrC_one c) h
theorem wpl_ldA {ops : Array Oper} {rest : List Oper} {o : Oper} {a : Act} {w : World} {Q : Exit → Act → World → Prop} (hgd : o.guard = none) (x : Operand) (ho : o.op = .load 22 x)
    (g : Nat) (c : M.C4) (hx : a.eval x = .pointer (some ⟨g, 0, none⟩)) (hg : AB w g c)
    (h : wpList Tryd.prog ops Q rest (a.put o.dst (.agg (arrC c))) w) : wpList Tryd.prog ops Q (o :: rest) a w :=
  wpList_load_row hgd 22 x ho g hx 22 (arrC c) (0, 0) _ hg Tryd.underlying22 rfl infoA4 h
/-- Four numbers and an answer are returned. -/
theorem res_arr {fn : Func} {p u : Tmp} (h : fn.results = #[.cell p 22, .tmp u]) (tmps : Array Value) (w : World) (g : Nat) (c : M.C4) (k : Bool)
    (hp : tmps.getD p undef = .pointer (some ⟨g, 0, none⟩)) (hu : tmps.getD u undef = .bool k) (hg : AB w g c) :
    (results fn tmps).run Tryd.prog w = .ok (.tuple #[arrV c, .bool k]) w := by
  rw [results_cell_tmp h, hp, hu]
  have : (asAddr (.pointer (some ⟨g, 0, none⟩))).run Tryd.prog w = .ok ⟨g, 0, none⟩ w := rfl
  rw [this]
  simp only [Result.andThen]
  rw [run_loadVar_row w g 22 22 (arrC c) (0, 0) _ hg Tryd.underlying22 rfl infoA4]
  rfl
set_option maxRecDepth 100000 in
set_option maxHeartbeats 2000000 in
theorem cecol_any (S : ByteArray) (r g b : Int) (w : World) : Calls Tryd.prog 16 #[.agg #[.string S, .int .i64 r, .int .i64 g, .int .i64 b]] w fun e w' => e = .returned (.agg (arrC (r, g, b, 255))) ∧ Below w.heap.size w w' := by
  go_enter Tryd.func16, Tryd.ntmps16
  go_wp2
  refine bodyPost_ret (results_cell_row rfl _ _ (w.heap.size + 1) 22 _ (0, 0) _ rfl (heap_alloc2_new _ _ _) Tryd.underlying22 rfl rfl) rfl ⟨rfl, ?_⟩
  exact ((Below.refl _ _).alloc (Nat.le_refl _) _).alloc (by simp) _
def zE : M.CE := ([], 0, 0, 0)
def namedV (s : List UInt8) : M.C4 × Bool := match M.namedC s with | some e => (M.colE e, true) | none => ((0, 0, 0, 0), false)
theorem named_at (s : List UInt8) (j : Nat) (hj : j < 38) (h : ∀ i, i < j → (M.ceT.getD i zE).1 ≠ M.lowL s) (h2 : (M.ceT.getD j zE).1 = M.lowL s) : namedV s = (M.colE (M.ceT.getD j zE), true) := by
  have hl := M.ce_len
  have : M.namedC s = some (M.ceT.getD j zE) := by
    unfold M.namedC
    have e : ∀ i (hi : i < 38), M.ceT.getD i zE = M.ceT[i] := fun i hi => by rw [List.getD_eq_getElem?_getD, List.getElem?_eq_getElem (by omega)]; rfl
    rw [List.find?_eq_some_iff_getElem]
    refine ⟨by simpa using h2, j, by omega, (e j hj).symm, fun i hi => ?_⟩
    have := h i hi
    rw [e i (by omega)] at this
    rw [Bool.not_eq_true', decide_eq_false_iff_not]
    exact this
  unfold namedV; rw [this]
theorem named_no (s : List UInt8) (h : ∀ i, i < 38 → (M.ceT.getD i zE).1 ≠ M.lowL s) : namedV s = ((0, 0, 0, 0), false) := by
  have hl := M.ce_len
  have : M.namedC s = none := by
    unfold M.namedC
    rw [List.find?_eq_none]
    intro e he
    obtain ⟨i, hi, rfl⟩ := List.getElem_of_mem he
    have := h i (by omega)
    rw [List.getD_eq_getElem?_getD, List.getElem?_eq_getElem (by omega)] at this
    simpa using this
  unfold namedV; rw [this]
theorem tl_bytes (l : List UInt8) : (bytes l).toList = l := by rw [ByteArray.toList_eq]; exact bytes_list l
theorem bytes_inj {a b : List UInt8} (h : bytes a = bytes b) : a = b := by
  have := congrArg (fun x : ByteArray => x.data.toList) h
  simpa [bytes] using this
set_option maxRecDepth 100000 in
set_option maxHeartbeats 4000000 in
theorem named_any (s : List UInt8) (w : World) (hl : s.length ≤ 4000000) : Calls Tryd.prog 9 #[.string (bytes s)] w fun e w' => e = .returned (.tuple #[arrV (namedV s).1, .bool (namedV s).2]) ∧ Below w.heap.size w w' := by
  have LW := Lib.hid (fun w => flower_any s w hl)
  have TB := Lib.hid table_any
  have CC := Lib.hid cecol_any
  have N1 := Lib.hid (named_at s)
  have N2 := Lib.hid (named_no s)
  obtain ⟨R, hR⟩ : ∃ R, namedV s = R := ⟨_, rfl⟩
  obtain ⟨R1, R2⟩ := R
  rw [hR] at N1 N2 ⊢
  obtain ⟨LO, hLO⟩ : ∃ x, M.lowL s = x := ⟨_, rfl⟩
  rw [hLO] at N1 N2
  simp only [hLO] at LW
  obtain ⟨LB, hLB⟩ : ∃ x, bytes LO = x := ⟨_, rfl⟩
  simp only [hLB] at LW
  have HLB := Lib.hid hLB
  clear hR hLO hLB hl
  have a0 := AB.new w (0, 0, 0, 0)
  have b0 := (Below.refl w.heap.size w).alloc (Nat.le_refl _) (.cells (arrC (0, 0, 0, 0)) 22)
  have z0 : (w.alloc (.cells (arrC (0, 0, 0, 0)) 22)).heap.size = w.heap.size + 1 := by simp
  have EXP := Lib.hid (show arrC (0, 0, 0, 0) = #[.int .i64 0, .int .i64 0, .int .i64 0, .int .i64 0] from rfl)
  obtain ⟨W0, hW0⟩ : ∃ x, w.alloc (.cells (arrC (0, 0, 0, 0)) 22) = x := ⟨_, rfl⟩
  rw [hW0] at a0 b0 z0
  rw [EXP.out] at hW0
  have A0 := Lib.hid a0
  have B0 := Lib.hid b0
  have HW0 := Lib.hid hW0
  clear a0 b0 hW0
  go_enter Tryd.func9, Tryd.ntmps9
  go_wp2_with fail
  rw [HW0.out]
  refine (LW.out _).mono ?_
  rintro e w1 ⟨rfl, hb1⟩
  have z1 := hb1.size
  have a1 := A0.out.keep hb1 (by omega)
  have b1 := B0.out.trans (hb1.mono (by omega))
  have X := Lib.hid (ceAt_new w1)
  have b2 := b1.alloc (by omega) (.cells ceCells 51)
  have a2 := a1.keep ((Below.refl w1.heap.size w1).alloc (Nat.le_refl _) (.cells ceCells 51)) (by omega)
  have z2 : (w1.alloc (.cells ceCells 51)).heap.size = w1.heap.size + 1 := by simp
  obtain ⟨W2, hW2⟩ : ∃ x, w1.alloc (.cells ceCells 51) = x := ⟨_, rfl⟩
  rw [hW2] at X b2 a2 z2
  have HW2 := Lib.hid hW2
  have A2 := Lib.hid a2
  have B2 := Lib.hid b2
  clear hW2 a1 b1 a2 b2 hb1 A0 B0
  go_wp2_with fail
  refine (TB.out w1).mono ?_
  rintro e w' ⟨rfl, rfl⟩
  rw [HW2.out]
  go_wp2
  go_loopw [11] (fun iv wr => ∃ j : Nat, iv = .int .i64 (j : Int) ∧ j ≤ 38 ∧ (∀ i, i < j → (M.ceT.getD i zE).1 ≠ LO) ∧ Below (w1.heap.size + 1) W2 wr) (fun iv _ => 38 - (intOf iv).toNat)
  case atStart => exact ⟨0, rfl, by omega, fun i hi => by omega, Below.refl _ _⟩
  case round =>
    obtain ⟨j, rfl, hj, hn, hb⟩ := hrel
    have hz := hb.size
    by_cases hj2 : j < 38
    · obtain ⟨c0, c1, c2, c3⟩ := X.out.keep hb (by omega) j hj2
      have hat := N1.out j hj2 hn
      have j1 : (j : Int) < 38 := by omega
      obtain ⟨E, hE⟩ : ∃ E, M.ceT.getD j zE = E := ⟨_, rfl⟩
      have hE' : M.ceT.getD j ([], 0, 0, 0) = E := hE
      rw [hE'] at c0 c1 c2 c3
      rw [hE] at hat
      have hnx : E.1 ≠ LO → ∀ i, i < j + 1 → (M.ceT.getD i zE).1 ≠ LO := by
        intro h i hi
        by_cases e : i < j
        · exact hn i e
        · obtain rfl : i = j := by omega
          rw [hE]; exact h
      obtain ⟨E0, E1, E2, E3⟩ := E
      obtain ⟨S, hS⟩ : ∃ S, bytes E0 = S := ⟨_, rfl⟩
      simp only at c0 c1 c2 c3 hnx hat
      rw [hS] at c0
      have HB := Lib.hid hb
      have HN := Lib.hid hnx
      have HAT := Lib.hid hat
      by_cases hq : E0 = LO
      · obtain rfl : S = LB := by rw [← hS, hq, HLB.out]
        have HQ := Lib.hid hq
        clear hS hb hE hE' hn hnx hat hq
        have hw := HAT.out HQ.out
        simp only [Prod.mk.injEq, M.colE] at hw
        obtain ⟨rfl, rfl⟩ := hw
        go_wp2_with fail
        refine (CC.out _ _ _ _ _).mono ?_
        rintro e w3 ⟨rfl, hb3⟩
        have hb4 := (HB.out.alloc (by omega) (.cells #[.string S, .int .i64 E1, .int .i64 E2, .int .i64 E3] 51)).trans (hb3.mono (by simp; omega))
        have a4 := A2.out.keep hb4 (by omega)
        have b4 := B2.out.trans (hb4.mono (by omega))
        have A4 := Lib.hid a4
        have B4 := Lib.hid b4
        clear hb3 hb4 a4 b4
        go_wp2_with (refine wpl_stA rfl _ _ rfl w.heap.size (0, 0, 0, 0) (E1, E2, E3, 255) rfl rfl A4.out ?_)
        go_wp2
        (try simp only [Exit.inBlock, Exit.then])
        exact bodyPost_ret (res_arr rfl _ _ w.heap.size _ _ rfl rfl (A4.out.set _)) rfl ⟨rfl, below_setRowA B4.out (Nat.le_refl _) _⟩
      · have hsl : (S.toList == LB.toList) = false := by
          rw [← hS, ← HLB.out, tl_bytes, tl_bytes]
          simpa using hq
        have HQ := Lib.hid hq
        clear hS hb hE hE' hn hnx hat hq
        go_wp2
        go_roundw
        case rel => exact ⟨j + 1, by go_num, by omega, HN.out HQ.out, HB.out.alloc (by omega) _⟩
        case measure => simp [intOf]; omega
    · obtain rfl : j = 38 := by omega
      have NO := N2.out hn
      simp only [Prod.mk.injEq] at NO
      obtain ⟨rfl, rfl⟩ := NO
      have a4 := A2.out.keep hb (by omega)
      have b4 := B2.out.trans (hb.mono (by omega))
      have A4 := Lib.hid a4
      have B4 := Lib.hid b4
      clear hb hn a4 b4
      go_wp2_with (refine wpl_stA rfl _ _ rfl w.heap.size (0, 0, 0, 0) (0, 0, 0, 0) rfl rfl A4.out ?_)
      go_wp2
      (try simp only [Exit.inBlock, Exit.then])
      exact bodyPost_ret (res_arr rfl _ _ w.heap.size _ _ rfl rfl (A4.out.set _)) rfl ⟨rfl, below_setRowA B4.out (Nat.le_refl _) _⟩
end Go.Proofs.YtilndlifmpbfnaaDoor
