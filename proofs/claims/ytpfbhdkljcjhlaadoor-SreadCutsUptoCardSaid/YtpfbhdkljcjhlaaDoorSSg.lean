/- sread.segment: what is returned, for any text and any segment ahead. -/
import Derived.Test.YtpfbhdkljcjhlaaDoorVqGet
import Derived.Test.YtpfbhdkljcjhlaaDoorSGMath
import Derived.Test.YtpfbhdkljcjhlaaDoorSBase
import Derived.Test.YtpfbhdkljcjhlaaDoorWTk
import Derived.Laws.Tables
import Derived.Laws.Rows
import Derived.Laws.ResultCell
import Derived.Deep.QuietTactic
import Derived.BigQuiet
import Derived.OrdersHeld
import Derived.Deep.RegionHeld3
import Derived.Deep.Cut
namespace Go.Proofs.YtpfbhdkljcjhlaaDoor
open Go.RowKit
set_option linter.unusedVariables false
set_option linter.unusedSimpArgs false

def s4q (x : M.S4) : Array Value := #[.int .i64 x.1, .int .i64 x.2.1, .int .i64 x.2.2.1, .int .i64 x.2.2.2]
theorem s4q_one (c : M.S4) : (s4q c).all (·.oneCell') = true := by
  rw [Array.all_eq_true_iff_forall_mem]
  intro x hx
  simp only [s4q, List.mem_toArray, List.mem_cons, List.mem_nil_iff, or_false] at hx
  rcases hx with rfl | rfl | rfl | rfl <;> rfl
theorem infoSeg4 : (Tryd.prog.info? 35).map (·.size) = some 4 := by kernel_rfl
/-- A block of four ints of some type. -/
def RB (E : TypeId) (w : World) (b : Nat) (x : M.S4) : Prop := w.heap[b]? = some (.cells (s4q x) E (0, 0))
theorem RB.lt {E : TypeId} {w : World} {b : Nat} {c : M.S4} (h : RB E w b c) : b < w.heap.size := (Array.getElem?_eq_some_iff.1 h).1
theorem RB.keep {E : TypeId} {w w' : World} {b : Nat} {c : M.S4} (h : RB E w b c) {B : Nat} (hb : Below B w w') (hB : b < B) : RB E w' b c := by
  unfold RB; rw [hb.block b hB]; exact h
theorem RB.new (E : TypeId) (w : World) (c : M.S4) : RB E (w.alloc (.cells (s4q c) E)) w.heap.size c := heap_alloc_new w _
theorem RB.set {E : TypeId} {w : World} {b : Nat} {c : M.S4} (h : RB E w b c) (d : M.S4) : RB E (w.setRow b (s4q d)) b d := setRow_heap w b (s4q c) (s4q d) _ _ h
theorem RB.put {E : TypeId} {w : World} {b : Nat} {c d : M.S4} (h : RB E w b c) (j : Nat) (u : Value) (hd : (s4q c).setIfInBounds j u = s4q d) : RB E (w.setCell ⟨b, j, none⟩ u) b d := by
  unfold RB; rw [setCell_eq_setRow w b j (s4q c) _ _ u h, hd]; exact setRow_heap w b (s4q c) _ _ _ h
theorem RB.other {E : TypeId} {w : World} {b : Nat} {c : M.S4} (h : RB E w b c) {g : Nat} (hne : b ≠ g) (j : Nat) (u : Value) : RB E (w.setCell ⟨g, j, none⟩ u) b c := by
  unfold RB; rw [Below.heap_setCell _ _ _ _ (fun e => hne e)]; exact h
theorem below_setRowR {B : Nat} {a w : World} (h : Below B a w) {g : Nat} (hg : B ≤ g) (cs : Array Value) : Below B a (w.setRow g cs) :=
  ⟨h.os, h.tape, h.output, by rw [size_setRow]; exact h.size, fun k hk => by rw [setRow_other w g k cs (by omega)]; exact h.block k hk⟩
theorem wpl_stR {ops : Array Oper} {rest : List Oper} {o : Oper} {a : Act} {w : World} {Q : Exit → Act → World → Prop} (hgd : o.guard = none) (x y : Operand) (ho : o.op = .store 35 x y)
    (g : Nat) (old c : M.S4) (hx : a.eval x = .pointer (some ⟨g, 0, none⟩)) (hy : a.eval y = .agg (s4q c)) (hg : RB 35 w g old)
    (h : wpList Tryd.prog ops Q rest (a.put o.dst undef) (w.setRow g (s4q c))) : wpList Tryd.prog ops Q (o :: rest) a w :=
  wpList_store_row hgd 35 x y ho g (s4q c) hx hy 35 (s4q old) hg infoSeg4 rfl (s4q_one c) h
/-- A segment and an answer are returned. -/
theorem res_seg {fn : Func} {p u : Tmp} (h : fn.results = #[.cell p 35, .tmp u]) (tmps : Array Value) (w : World) (g : Nat) (c : M.S4) (k : Bool)
    (hp : tmps.getD p undef = .pointer (some ⟨g, 0, none⟩)) (hu : tmps.getD u undef = .bool k) (hg : RB 35 w g c) :
    (results fn tmps).run Tryd.prog w = .ok (.tuple #[.agg (s4q c), .bool k]) w := by
  rw [results_cell_tmp h, hp, hu]
  have : (asAddr (.pointer (some ⟨g, 0, none⟩))).run Tryd.prog w = .ok ⟨g, 0, none⟩ w := rfl
  rw [this]
  simp only [Result.andThen]
  rw [run_loadVar_row w g 35 35 (s4q c) (0, 0) _ hg Tryd.underlying35 rfl infoSeg4]
theorem s4q_get (m : M.S4) (k : Nat) (hk : k < 4) : (s4q m)[k]? = some (.int .i64 (M.nth4 m k)) := by
  have : k = 0 ∨ k = 1 ∨ k = 2 ∨ k = 3 := by omega
  rcases this with rfl | rfl | rfl | rfl <;> rfl
theorem put4_set (m : M.S4) (k : Nat) (v : Int) (hk : k < 4) : (s4q m).setIfInBounds k (.int .i64 v) = s4q (M.put4 m k v) := by
  have : k = 0 ∨ k = 1 ∨ k = 2 ∨ k = 3 := by omega
  rcases this with rfl | rfl | rfl | rfl <;> rfl
theorem nth4_b (m : M.S4) (k : Nat) (h : M.B4 m) : 0 ≤ M.nth4 m k ∧ M.nth4 m k ≤ 1073741824 := by
  obtain ⟨a, b, c, d⟩ := h
  unfold M.nth4
  split
  · exact a
  · split
    · exact b
    · split
      · exact c
      · exact d
set_option maxRecDepth 100000 in
set_option maxHeartbeats 4000000 in
theorem sseg_any (T : ByteArray) (t : List UInt8) (s : M.S4) (r : M.S4 × Bool) (w : World) (hT : bytes t = T) (hz : T.size ≤ 1048576)
    (h0 : 0 ≤ s.2.1 ∧ s.2.1 ≤ 1073741824) (h2 : 0 ≤ s.2.2.1 ∧ s.2.2.1 ≤ 1073741824) (h3 : 0 ≤ s.2.2.2 ∧ s.2.2.2 ≤ 1073741824) (hr : M.segV t s = r) :
    Calls Tryd.prog 13 #[.string T, .agg (s4q s)] w fun e w' => e = .returned (.tuple #[.agg (s4q r.1), .bool r.2]) ∧ Below w.heap.size w w' := by
  have HR := Lib.hid hr
  have hts : T.size = t.length := by rw [← hT, bytes_size]
  have GT := Lib.hid (fun (a : Int) (U : World) => vq_get_any T a (M.rd t a) U hz (by rw [← hT]; show V.gN a (V.getAt (bytes t).data.toList a) = _; rw [bytes_list]; rfl))
  obtain ⟨s1, s2, s3, s4⟩ := s
  have EXP := Lib.hid (show s4q (s1, s2, s3, s4) = #[.int .i64 s1, .int .i64 s2, .int .i64 s3, .int .i64 s4] from rfl)
  have EXZ := Lib.hid (show s4q (0, 0, 0, 0) = #[.int .i64 0, .int .i64 0, .int .i64 0, .int .i64 0] from rfl)
  have EXN := Lib.hid (show s4q (s2, 0, s3, s4) = #[.int .i64 s2, .int .i64 0, .int .i64 s3, .int .i64 s4] from rfl)
  -- the three blocks
  have ax : RB 35 (w.alloc (.cells (s4q (s1, s2, s3, s4)) 35)) w.heap.size (s1, s2, s3, s4) := RB.new _ w _
  have bx := (Below.refl w.heap.size w).alloc (Nat.le_refl _) (.cells (s4q (s1, s2, s3, s4)) 35)
  have zx : (w.alloc (.cells (s4q (s1, s2, s3, s4)) 35)).heap.size = w.heap.size + 1 := by simp
  obtain ⟨Wa, hWa⟩ : ∃ x, w.alloc (.cells (s4q (s1, s2, s3, s4)) 35) = x := ⟨_, rfl⟩
  rw [hWa] at ax bx zx
  have ay : RB 35 (Wa.alloc (.cells (s4q (0, 0, 0, 0)) 35)) Wa.heap.size (0, 0, 0, 0) := RB.new _ Wa _
  have by1 := (Below.refl Wa.heap.size Wa).alloc (Nat.le_refl _) (.cells (s4q (0, 0, 0, 0)) 35)
  have ax2 := ax.keep by1 (by omega)
  have bx2 := bx.trans (by1.mono (by omega))
  have zy : (Wa.alloc (.cells (s4q (0, 0, 0, 0)) 35)).heap.size = w.heap.size + 1 + 1 := by simp [zx]
  obtain ⟨Wb, hWb⟩ : ∃ x, Wa.alloc (.cells (s4q (0, 0, 0, 0)) 35) = x := ⟨_, rfl⟩
  rw [hWb] at ay ax2 bx2 zy
  rw [zx] at ay
  have az : RB 43 (Wb.alloc (.cells (s4q (s2, 0, s3, s4)) 43)) Wb.heap.size (s2, 0, s3, s4) := RB.new _ Wb _
  have bz1 := (Below.refl Wb.heap.size Wb).alloc (Nat.le_refl _) (.cells (s4q (s2, 0, s3, s4)) 43)
  have ax3 := ax2.keep bz1 (by omega)
  have ay3 := ay.keep bz1 (by omega)
  have bx3 := bx2.trans (bz1.mono (by omega))
  obtain ⟨Wc, hWc⟩ : ∃ x, Wb.alloc (.cells (s4q (s2, 0, s3, s4)) 43) = x := ⟨_, rfl⟩
  rw [hWc] at az ax3 ay3 bx3
  rw [zy] at az
  rw [← hWb, ← hWa, EXP.out, EXZ.out, EXN.out] at hWc
  have HWc := Lib.hid hWc
  have A0 := Lib.hid ax3
  have A1 := Lib.hid ay3
  have A2 := Lib.hid az
  have B0 := Lib.hid bx3
  have H0 := Lib.hid h0
  have H2 := Lib.hid h2
  have H3 := Lib.hid h3
  rw [EXP.out]
  clear ax bx zx ay by1 ax2 bx2 zy az bz1 ax3 ay3 bx3 hWa hWb hWc hr h0 h2 h3 hT
  go_enter Tryd.func13, Tryd.ntmps13
  go_upto_region 2 with (fail)
  rw [HWc.out]
  go_wp2
  go_loopw [7, 20] (fun av kv wr => ∃ (k : Nat) (a : Int) (m : M.S4), kv = .int .i64 (k : Int) ∧ av = .int .i64 a ∧ k ≤ 4 ∧ M.segSt t (s1, s2, s3, s4) k = some (m, a) ∧ M.B4 m ∧ RB 35 wr w.heap.size (s1, s2, s3, s4) ∧ RB 35 wr (w.heap.size + 1) (0, 0, 0, 0) ∧ RB 43 wr (w.heap.size + 1 + 1) m ∧ Below w.heap.size w wr) (fun _ kv _ => 4 - (intOf kv).toNat)
  case atStart => exact ⟨0, 0, _, rfl, rfl, by omega, rfl, ⟨H0.out, by simp, H2.out, H3.out⟩, A0.out, A1.out, A2.out, B0.out⟩
  case round =>
    obtain ⟨k, a, m, rfl, rfl, hk, hst, hB, r0, r1, r2, hb⟩ := hrel
    by_cases hk4 : k < 4
    · obtain ⟨v0, v1⟩ := nth4_b m k hB
      have ce := (cell_of_row _ _ k _ _ _ r2).trans (s4q_get m k hk4)
      have fz := frozen_of_row _ _ k _ _ r2
      have pk := fun v => put4_set m k v hk4
      obtain ⟨X, hX⟩ : ∃ X, M.nth4 m k = X := ⟨_, rfl⟩
      obtain ⟨⟨n, nx, ok⟩, hrd⟩ : ∃ p, M.rd t a = p := ⟨_, rfl⟩
      have hle := M.rd_le t a
      have g := GT.out a
      have hgo := M.segSt_go t (s1, s2, s3, s4) m a k hst
      have hno := M.segSt_no t (s1, s2, s3, s4) m a k hk4 hst
      rw [hrd, hX] at hgo hno
      rw [hrd] at hle g
      rw [hX] at ce v0 v1
      unfold vq_tri at g
      simp only at hle g hgo hno
      obtain ⟨l0, l1⟩ := hle
      have k4 : (k : Int) < 4 := by omega
      have G := Lib.hid g
      have HGO := Lib.hid hgo
      have HNO := Lib.hid hno
      have HB4 := Lib.hid (fun v h1 h2 => M.put4_b m k v hB h1 h2)
      have R0 := Lib.hid r0
      have R1 := Lib.hid r1
      have R2 := Lib.hid r2
      have PK := Lib.hid pk
      have HB := Lib.hid hb
      clear g hgo hno hrd hst hB r0 r1 r2 hb pk hX
      go_wp2_with fail
      refine (G.out _).mono ?_
      rintro e w' ⟨rfl, rfl⟩
      have c5 : (wr.setCell ⟨w.heap.size + 1 + 1, k, none⟩ (.int .i64 (X + n))).cell? ⟨w.heap.size + 1 + 1, k, none⟩ = some (.int .i64 (X + n)) := World.cell?_setCell_same _ _ _ ce
      have p5 := R2.out.put k (.int .i64 (X + n)) (PK.out _)
      have p0 := R0.out.other (g := w.heap.size + 1 + 1) (by omega) k (.int .i64 (X + n))
      have p1 := R1.out.other (g := w.heap.size + 1 + 1) (by omega) k (.int .i64 (X + n))
      have pb := Below.setCell HB.out (show w.heap.size ≤ (⟨w.heap.size + 1 + 1, k, none⟩ : Addr).block by show w.heap.size ≤ w.heap.size + 1 + 1; omega) (.int .i64 (X + n))
      obtain ⟨W5, hW5⟩ : ∃ x, wr.setCell ⟨w.heap.size + 1 + 1, k, none⟩ (.int .i64 (X + n)) = x := ⟨_, rfl⟩
      rw [hW5] at c5 p5 p0 p1 pb
      have HW5 := Lib.hid hW5
      have P5 := Lib.hid p5
      have P0 := Lib.hid p0
      have P1 := Lib.hid p1
      have PB := Lib.hid pb
      clear hW5 p5 p0 p1 pb R0 R1 R2 HB
      go_upto_region 9 with (fail)
      rw [HW5.out]
      clear ce fz
      cases ok with
      | false =>
        obtain rfl : r = ((0, 0, 0, 0), false) := by
          rw [← HR.out]
          exact HNO.out (fun h => absurd h.1 (by decide))
        go_wp2_with (refine wpl_stR rfl _ _ rfl (w.heap.size + 1) (0, 0, 0, 0) (0, 0, 0, 0) rfl rfl P1.out ?_)
        go_wp2
        (try simp only [Exit.inBlock, Exit.then])
        exact bodyPost_ret (res_seg rfl _ _ (w.heap.size + 1) _ _ rfl rfl (P1.out.set _)) rfl ⟨rfl, below_setRowR PB.out (by omega) _⟩
      | true =>
        by_cases g0 : X + n < 0
        · obtain rfl : r = ((0, 0, 0, 0), false) := by
            rw [← HR.out]
            exact HNO.out (fun h => by omega)
          go_wp2_with (refine wpl_stR rfl _ _ rfl (w.heap.size + 1) (0, 0, 0, 0) (0, 0, 0, 0) rfl rfl P1.out ?_)
          go_wp2
          (try simp only [Exit.inBlock, Exit.then])
          exact bodyPost_ret (res_seg rfl _ _ (w.heap.size + 1) _ _ rfl rfl (P1.out.set _)) rfl ⟨rfl, below_setRowR PB.out (by omega) _⟩
        · by_cases g1 : 1073741824 < X + n
          · obtain rfl : r = ((0, 0, 0, 0), false) := by
              rw [← HR.out]
              exact HNO.out (fun h => by omega)
            go_wp2_with (refine wpl_stR rfl _ _ rfl (w.heap.size + 1) (0, 0, 0, 0) (0, 0, 0, 0) rfl rfl P1.out ?_)
            go_wp2
            (try simp only [Exit.inBlock, Exit.then])
            exact bodyPost_ret (res_seg rfl _ _ (w.heap.size + 1) _ _ rfl rfl (P1.out.set _)) rfl ⟨rfl, below_setRowR PB.out (by omega) _⟩
          · have hs5 := HGO.out rfl (by omega) (by omega)
            have HS5 := Lib.hid hs5
            clear hs5
            go_wp2
            go_roundw
            case rel => exact ⟨k + 1, nx, _, by go_num, rfl, by omega, HS5.out, HB4.out _ (by omega) (by omega), P0.out, P1.out, P5.out, PB.out⟩
            case measure => simp [intOf]; omega
    · obtain rfl : k = 4 := by omega
      have hr2 := HR.out
      rw [M.segV_yes t (s1, s2, s3, s4) m a hst] at hr2
      subst hr2
      obtain ⟨m1, m2, m3, m4⟩ := m
      have y0 : wr.cell? ⟨w.heap.size, 0, none⟩ = some (.int .i64 s1) := cell_of_row _ _ 0 _ _ _ r0
      have d0 : wr.cell? ⟨w.heap.size + 1 + 1, 0, none⟩ = some (.int .i64 m1) := cell_of_row _ _ 0 _ _ _ r2
      have d1 : wr.cell? ⟨w.heap.size + 1 + 1, 1, none⟩ = some (.int .i64 m2) := cell_of_row _ _ 1 _ _ _ r2
      have d2 : wr.cell? ⟨w.heap.size + 1 + 1, 2, none⟩ = some (.int .i64 m3) := cell_of_row _ _ 2 _ _ _ r2
      have d3 : wr.cell? ⟨w.heap.size + 1 + 1, 3, none⟩ = some (.int .i64 m4) := cell_of_row _ _ 3 _ _ _ r2
      have hlt1 : w.heap.size + 1 < wr.heap.size := r1.lt
      have bl := (Below.refl wr.heap.size wr).alloc (Nat.le_refl _) (.cells #[.int .i64 s1, .int .i64 m1, .int .i64 m3, .int .i64 m4] 35)
      have q1 := r1.keep bl r1.lt
      have q3 : RB 35 (wr.alloc (.cells #[.int .i64 s1, .int .i64 m1, .int .i64 m3, .int .i64 m4] 35)) wr.heap.size (s1, m1, m3, m4) := RB.new _ wr (s1, m1, m3, m4)
      have qb := hb.trans (bl.mono hb.size)
      have e1 := (bl.cell (p := ⟨w.heap.size + 1 + 1, 1, none⟩) r2.lt).trans d1
      have x0 := cell_of_row _ _ 0 _ _ _ q3
      have x1 := cell_of_row _ _ 1 _ _ _ q3
      have x2 := cell_of_row _ _ 2 _ _ _ q3
      have x3 := cell_of_row _ _ 3 _ _ _ q3
      simp only [s4q] at x0 x1 x2 x3
      obtain ⟨W6, hW6⟩ : ∃ x, wr.alloc (.cells #[.int .i64 s1, .int .i64 m1, .int .i64 m3, .int .i64 m4] 35) = x := ⟨_, rfl⟩
      rw [hW6] at q1 qb e1 x0 x1 x2 x3
      have HW6 := Lib.hid hW6
      have Q1 := Lib.hid q1
      have QB := Lib.hid qb
      clear hst hB r0 r1 r2 hb q1 q3 qb hW6 bl
      go_upto_region 13 with (fail)
      rw [HW6.out]
      clear d0 d1 d2 d3 y0
      have hlt6 : w.heap.size + 1 < wr.heap.size := hlt1
      by_cases h1 : a = (T.size : Int)
      · have t1 : (a == (T.size : Int)) = true := by rw [beq_iff_eq]; exact h1
        by_cases h2 : m2 = 0
        · have t2 : (m2 == 0) = true := by rw [beq_iff_eq]; exact h2
          have ans : (a == (t.length : Int)) = true := by rw [← hts, t1]
          have ANS := Lib.hid ans
          clear h1 h2 ans hts
          refine wp_region_noPanic ?_
          refine wp_region_held_drew (S := fun V => V.cell? ⟨wr.heap.size, 0, none⟩ = some (.int .i64 s1) ∧ V.cell? ⟨wr.heap.size, 1, none⟩ = some (.int .i64 m1) ∧ V.cell? ⟨wr.heap.size, 2, none⟩ = some (.int .i64 m3) ∧ V.cell? ⟨wr.heap.size, 3, none⟩ = some (.int .i64 m4) ∧ V.cell? ⟨w.heap.size + 1 + 1, 1, none⟩ = some (.int .i64 m2)) (by kernel_rfl) ⟨x0, x1, x2, x3, e1⟩ (fun hS => ?_)
          refine rtk 0 ?_
          refine rtk 1 ?_
          refine rtk 2 ?_
          refine rtk 3 ?_
          refine rtk 4 ?_
          refine rtk 5 ?_
          refine rtk 6 ?_
          refine rtk 7 ?_
          refine rtk 8 ?_
          refine rtk 9 ?_
          refine wpAnyH_ready (rs := [10]) (by kernel_rfl) (by simp) ?_
          refine AllReadyH.cons rfl (fun K hK => ?_) AllReadyH.nil
          rw [if_pos (by rfl)]
          refine wp_store_row 35 _ _ rfl (w.heap.size + 1) (s4q (s1, m1, m3, m4)) rfl rfl 35 (s4q (0, 0, 0, 0)) (Q1.out.keep (Below.refl W6.heap.size W6).drew Q1.out.lt) infoSeg4 rfl (s4q_one _) ?_
          refine hK.out _ _ ?_ (fun hS2 => ?_)
          · obtain ⟨a0, a1, a2, a3, a4⟩ := hS
            exact ⟨by rw [cell_setRow_other _ _ _ _ (by simp; omega)]; exact a0, by rw [cell_setRow_other _ _ _ _ (by simp; omega)]; exact a1, by rw [cell_setRow_other _ _ _ _ (by simp; omega)]; exact a2, by rw [cell_setRow_other _ _ _ _ (by simp; omega)]; exact a3, by rw [cell_setRow_other _ _ _ _ (by simp)]; exact a4⟩
          clear hK K
          refine rtk 11 ?_
          refine wpAnyH_done (by kernel_rfl) ?_ _
          refine NoPanic.normal ?_
          go_wp2
          (try simp only [Exit.inBlock, Exit.then])
          exact bodyPost_ret (res_seg rfl _ _ (w.heap.size + 1) _ _ rfl rfl (RB.set (Q1.out.keep (Below.refl W6.heap.size W6).drew Q1.out.lt) _)) rfl ⟨by rw [ANS.out], below_setRowR QB.out.drew (by omega) _⟩
        · have t2 : (m2 == 0) = false := by rw [beq_eq_false_iff_ne]; exact h2
          have ans : (a == (t.length : Int) && m2 == 0) = false := by rw [← hts, t1, t2]; rfl
          have ANS := Lib.hid ans
          clear h1 h2 ans hts
          refine wp_region_noPanic ?_
          refine wp_region_held_drew (S := fun V => V.cell? ⟨wr.heap.size, 0, none⟩ = some (.int .i64 s1) ∧ V.cell? ⟨wr.heap.size, 1, none⟩ = some (.int .i64 m1) ∧ V.cell? ⟨wr.heap.size, 2, none⟩ = some (.int .i64 m3) ∧ V.cell? ⟨wr.heap.size, 3, none⟩ = some (.int .i64 m4) ∧ V.cell? ⟨w.heap.size + 1 + 1, 1, none⟩ = some (.int .i64 m2)) (by kernel_rfl) ⟨x0, x1, x2, x3, e1⟩ (fun hS => ?_)
          refine rtk 0 ?_
          refine rtk 1 ?_
          refine rtk 2 ?_
          refine rtk 3 ?_
          refine rtk 4 ?_
          refine rtk 5 ?_
          refine rtk 6 ?_
          refine rtk 7 ?_
          refine rtk 8 ?_
          refine rtk 9 ?_
          refine wpAnyH_ready (rs := [10]) (by kernel_rfl) (by simp) ?_
          refine AllReadyH.cons rfl (fun K hK => ?_) AllReadyH.nil
          rw [if_pos (by rfl)]
          refine wp_store_row 35 _ _ rfl (w.heap.size + 1) (s4q (s1, m1, m3, m4)) rfl rfl 35 (s4q (0, 0, 0, 0)) (Q1.out.keep (Below.refl W6.heap.size W6).drew Q1.out.lt) infoSeg4 rfl (s4q_one _) ?_
          refine hK.out _ _ ?_ (fun hS2 => ?_)
          · obtain ⟨a0, a1, a2, a3, a4⟩ := hS
            exact ⟨by rw [cell_setRow_other _ _ _ _ (by simp; omega)]; exact a0, by rw [cell_setRow_other _ _ _ _ (by simp; omega)]; exact a1, by rw [cell_setRow_other _ _ _ _ (by simp; omega)]; exact a2, by rw [cell_setRow_other _ _ _ _ (by simp; omega)]; exact a3, by rw [cell_setRow_other _ _ _ _ (by simp)]; exact a4⟩
          clear hK K
          refine rtk 11 ?_
          refine wpAnyH_done (by kernel_rfl) ?_ _
          refine NoPanic.normal ?_
          go_wp2
          (try simp only [Exit.inBlock, Exit.then])
          exact bodyPost_ret (res_seg rfl _ _ (w.heap.size + 1) _ _ rfl rfl (RB.set (Q1.out.keep (Below.refl W6.heap.size W6).drew Q1.out.lt) _)) rfl ⟨rfl, below_setRowR QB.out.drew (by omega) _⟩
      · have t1 : (a == (T.size : Int)) = false := by rw [beq_eq_false_iff_ne]; exact h1
        have ans : (a == (t.length : Int) && m2 == 0) = false := by rw [← hts, t1]; rfl
        have ANS := Lib.hid ans
        clear h1 ans hts
        refine wp_region_noPanic ?_
        refine wp_region_held_drew (S := fun V => V.cell? ⟨wr.heap.size, 0, none⟩ = some (.int .i64 s1) ∧ V.cell? ⟨wr.heap.size, 1, none⟩ = some (.int .i64 m1) ∧ V.cell? ⟨wr.heap.size, 2, none⟩ = some (.int .i64 m3) ∧ V.cell? ⟨wr.heap.size, 3, none⟩ = some (.int .i64 m4) ∧ V.cell? ⟨w.heap.size + 1 + 1, 1, none⟩ = some (.int .i64 m2)) (by kernel_rfl) ⟨x0, x1, x2, x3, e1⟩ (fun hS => ?_)
        refine rtk 0 ?_
        refine rtk 1 ?_
        refine rtk 2 ?_
        refine rtk 3 ?_
        refine rtk 4 ?_
        refine rtk 5 ?_
        refine rts 6 ?_
        refine rts 7 ?_
        refine rts 8 ?_
        refine rtk 9 ?_
        refine wpAnyH_ready (rs := [10]) (by kernel_rfl) (by simp) ?_
        refine AllReadyH.cons rfl (fun K hK => ?_) AllReadyH.nil
        rw [if_pos (by rfl)]
        refine wp_store_row 35 _ _ rfl (w.heap.size + 1) (s4q (s1, m1, m3, m4)) rfl rfl 35 (s4q (0, 0, 0, 0)) (Q1.out.keep (Below.refl W6.heap.size W6).drew Q1.out.lt) infoSeg4 rfl (s4q_one _) ?_
        refine hK.out _ _ ?_ (fun hS2 => ?_)
        · obtain ⟨a0, a1, a2, a3, a4⟩ := hS
          exact ⟨by rw [cell_setRow_other _ _ _ _ (by simp; omega)]; exact a0, by rw [cell_setRow_other _ _ _ _ (by simp; omega)]; exact a1, by rw [cell_setRow_other _ _ _ _ (by simp; omega)]; exact a2, by rw [cell_setRow_other _ _ _ _ (by simp; omega)]; exact a3, by rw [cell_setRow_other _ _ _ _ (by simp)]; exact a4⟩
        clear hK K
        refine rtk 11 ?_
        refine wpAnyH_done (by kernel_rfl) ?_ _
        refine NoPanic.normal ?_
        go_wp2
        (try simp only [Exit.inBlock, Exit.then])
        exact bodyPost_ret (res_seg rfl _ _ (w.heap.size + 1) _ _ rfl rfl (RB.set (Q1.out.keep (Below.refl W6.heap.size W6).drew Q1.out.lt) _)) rfl ⟨by rw [ANS.out], below_setRowR QB.out.drew (by omega) _⟩
end Go.Proofs.YtpfbhdkljcjhlaaDoor
