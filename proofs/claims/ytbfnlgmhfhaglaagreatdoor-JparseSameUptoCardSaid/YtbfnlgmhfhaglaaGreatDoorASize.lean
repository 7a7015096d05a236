/- Values of any shape: chapter 7's own size and Few. -/
import Derived.Test.YtbfnlgmhfhaglaaGreatDoorAVal
import Derived.Deep.DeepCutAuto
namespace Go.Proofs.YtbfnlgmhfhaglaaGreatDoor
open Go.RowKit
set_option linter.unusedVariables false
set_option linter.unusedSimpArgs false

/-- What is counted, from a number on. -/
def sizeVo : Vo → Nat → Nat → Nat
  | .nil, _, n => n
  | .cons h kids rest, d, n => if n < 1000 then sizeVo rest d (n + (if 100 < d + 1 ∨ 100 < h.dg.length ∨ 100 < h.ex.length then 1000 else sizeVo kids (d + 1) (1 + h.tx.length + h.ms.length))) else n
def sizeH (h : Vh) (kids : Vo) (d : Nat) : Nat := if 100 < d ∨ 100 < h.dg.length ∨ 100 < h.ex.length then 1000 else sizeVo kids d (1 + h.tx.length + h.ms.length)
theorem sizeVo_cons (h : Vh) (kids rest : Vo) (d n : Nat) : sizeVo (.cons h kids rest) d n = if n < 1000 then sizeVo rest d (n + sizeH h kids (d + 1)) else n := rfl
theorem sizeVo_ge (L : Vo) : ∀ d n, n ≤ sizeVo L d n := by
  induction L with
  | nil => intro d n; exact Nat.le_refl _
  | cons h kids rest _ ih2 =>
    intro d n
    rw [sizeVo_cons]
    split
    · exact Nat.le_trans (Nat.le_add_right _ _) (ih2 d _)
    · exact Nat.le_refl _
/-- How many there are, in all. -/
def VoN : Vo → Nat
  | .nil => 0
  | .cons _ kids rest => 1 + VoN kids + VoN rest
/-- All that is counted. -/
def VoC : Vo → Nat
  | .nil => 0
  | .cons h kids rest => 1 + h.tx.length + h.ms.length + VoC kids + VoC rest
/-- Numbers that are not long. -/
def VoL (A : Nat) : Vo → Prop
  | .nil => True
  | .cons h kids rest => (h.dg.length ≤ A ∧ h.ex.length ≤ A) ∧ VoL A kids ∧ VoL A rest
theorem sizeVo_few (L : Vo) : ∀ d n, sizeVo L d n ≤ 300 → n + VoC L = sizeVo L d n ∧ VoL 100 L := by
  induction L with
  | nil => intro d n _; exact ⟨rfl, trivial⟩
  | cons h kids rest ih1 ih2 =>
    intro d n hh
    rw [sizeVo_cons] at hh ⊢
    by_cases hn : n < 1000
    · rw [if_pos hn] at hh ⊢
      have hg := sizeVo_ge rest d (n + sizeH h kids (d + 1))
      obtain ⟨e1, e2⟩ := ih2 d _ hh
      have hs : sizeH h kids (d + 1) ≤ 300 := by omega
      unfold sizeH at hs e1 ⊢
      split at hs
      · omega
      · rename_i hc
        obtain ⟨e3, e4⟩ := ih1 (d + 1) _ hs
        rw [if_neg hc] at e1 ⊢
        simp only [VoC, VoL]
        exact ⟨by omega, ⟨by omega, by omega⟩, e4, e2⟩
    · rw [if_neg hn] at hh; omega
/-- A value that is few. -/
theorem fewH {h : Vh} {kids : Vo} (hh : sizeH h kids 0 ≤ 300) : VoC (.cons h kids .nil) ≤ 300 ∧ VoL 100 (.cons h kids .nil) := by
  unfold sizeH at hh
  split at hh
  · omega
  · obtain ⟨e1, e2⟩ := sizeVo_few kids 0 _ hh
    simp only [VoC, VoL]
    exact ⟨by omega, ⟨by omega, by omega⟩, e2, trivial⟩
theorem VoL.mono {A B : Nat} (hAB : A ≤ B) (L : Vo) : VoL A L → VoL B L := by
  induction L with
  | nil => intro _; trivial
  | cons h kids rest ih1 ih2 => rintro ⟨⟨a, b⟩, c, d⟩; exact ⟨⟨by omega, by omega⟩, ih1 c, ih2 d⟩
theorem voL_at {A : Nat} (L : Vo) : VoL A L → ∀ j h kids, L.at? j = some (h, kids) → (h.dg.length ≤ A ∧ h.ex.length ≤ A) ∧ VoL A kids := by
  induction L with
  | nil => intro _ j h kids e; simp [Vo.at?] at e
  | cons h0 kids0 rest _ ih =>
    rintro ⟨x, y, z⟩ j h kids e
    cases j with
    | zero => simp only [Vo.at?, Option.some.injEq, Prod.mk.injEq] at e; obtain ⟨rfl, rfl⟩ := e; exact ⟨x, y⟩
    | succ j => exact ih z j h kids e
theorem voC_at (L : Vo) : ∀ j h kids, L.at? j = some (h, kids) → 1 + h.tx.length + h.ms.length + VoC kids ≤ VoC L := by
  induction L with
  | nil => intro j h kids e; simp [Vo.at?] at e
  | cons h0 kids0 rest _ ih =>
    intro j h kids e
    cases j with
    | zero => simp only [Vo.at?, Option.some.injEq, Prod.mk.injEq] at e; obtain ⟨rfl, rfl⟩ := e; simp only [VoC]; omega
    | succ j => have := ih j h kids e; simp only [VoC]; omega
theorem voC_len (L : Vo) : L.len ≤ VoC L := by
  induction L with
  | nil => exact Nat.le_refl _
  | cons h kids rest _ ih => simp only [Vo.len, VoC]; omega
theorem IsP.le {P : Nat → Prop} {w : World} {v : Value} {l : List Int} (h : IsP P w v l) : l.length ≤ maxLen := by
  obtain ⟨_, _, _, h1, h2, _⟩ := h; exact Nat.le_trans h1 h2
theorem sizeVo_le (L : Vo) : ∀ d n, sizeVo L d n ≤ n + 1000 * VoC L := by
  induction L with
  | nil => intro d n; exact Nat.le_add_right _ _
  | cons h kids rest ih1 ih2 =>
    intro d n
    rw [sizeVo_cons]
    split
    · have h2 := ih2 d (n + sizeH h kids (d + 1))
      have h1 : sizeH h kids (d + 1) ≤ 1000 * (1 + h.tx.length + h.ms.length + VoC kids) := by
        unfold sizeH
        split
        · omega
        · have := ih1 (d + 1) (1 + h.tx.length + h.ms.length); omega
      simp only [VoC]; omega
    · omega
theorem sizeH_le (h : Vh) (kids : Vo) (d : Nat) : sizeH h kids d ≤ 1000 * (1 + h.tx.length + h.ms.length + VoC kids) := by
  unfold sizeH
  split
  · omega
  · have := sizeVo_le kids d (1 + h.tx.length + h.ms.length); omega
theorem infoVal : (Tryz.prog.info? 27).map (·.size) = some 9 := by kernel_rfl
/-- A whole value is loaded out of a row. -/
theorem wpl_ldV {ops : Array Oper} {rest : List Oper} {o : Oper} {a : Act} {w : World} {Q : Exit → Act → World → Prop} (hgd : o.guard = none) (x : Operand) (ho : o.op = .load 27 x)
    (b off : Nat) (h : Vh) (tv v mv : Value) (hx : a.eval x = .pointer (some ⟨b, off, none⟩)) (hr : w.rangeAt b off (vvl h tv v mv))
    (hK : wpList Tryz.prog ops Q rest (a.put o.dst (.agg (vv h tv v mv))) w) : wpList Tryz.prog ops Q (o :: rest) a w :=
  wpList_load_mid hgd 27 x ho b off hx (vvl h tv v mv) _ hr Tryz.underlying27 rfl infoVal hK
/-- A whole value is loaded out of a row, at an operation that is guarded. -/
theorem wpl_ldVg {ops : Array Oper} {rest : List Oper} {o : Oper} {a : Act} {w : World} {Q : Exit → Act → World → Prop} (hw : Region.wanted o (yielded ops a.tmps) = true) (x : Operand) (ho : o.op = .load 27 x)
    (b off : Nat) (h : Vh) (tv v mv : Value) (hx : a.eval x = .pointer (some ⟨b, off, none⟩)) (hr : w.rangeAt b off (vvl h tv v mv))
    (hK : wpList Tryz.prog ops Q rest (a.put o.dst (.agg (vv h tv v mv))) w) : wpList Tryz.prog ops Q (o :: rest) a w := by
  unfold wpList
  rw [if_pos hw]
  refine .inl ?_
  exact wp_load_mid 27 x ho b off hx (vvl h tv v mv) _ hr Tryz.underlying27 rfl infoVal hK
theorem vv_one (h : Vh) {tv v mv : Value} (h1 : tv.oneCell' = true) (h2 : v.oneCell' = true) (h3 : mv.oneCell' = true) : (vv h tv v mv).all (·.oneCell') = true := by
  rw [Array.all_eq_true_iff_forall_mem]
  intro c hc
  simp only [vv, vvl, List.mem_toArray, List.mem_cons, List.mem_nil_iff, or_false] at hc
  rcases hc with rfl | rfl | rfl | rfl | rfl | rfl | rfl | rfl | rfl
  all_goals first | rfl | assumption
theorem IsP.one {P : Nat → Prop} {w : World} {v : Value} {l : List Int} (h : IsP P w v l) : v.oneCell' = true := by obtain ⟨a, c, rfl⟩ := h.slice; rfl
theorem VoP.one {P : Nat → Prop} {w : World} {v : Value} {L : Vo} (h : VoP P w v L) : v.oneCell' = true := by obtain ⟨a, c, rfl⟩ := h.slice; rfl
/-- A whole value is stored into a block of its own. -/
theorem wpl_stV {ops : Array Oper} {rest : List Oper} {o : Oper} {a : Act} {w : World} {Q : Exit → Act → World → Prop} (hgd : o.guard = none) (x y : Operand) (ho : o.op = .store 27 x y)
    (g : Nat) (old : Array Value) (h : Vh) (tv v mv : Value) (hx : a.eval x = .pointer (some ⟨g, 0, none⟩)) (hy : a.eval y = .agg (vv h tv v mv)) (hg : w.heap[g]? = some (.cells old 27 (0, 0))) (hs : old.size = 9)
    (h1 : tv.oneCell' = true) (h2 : v.oneCell' = true) (h3 : mv.oneCell' = true)
    (hK : wpList Tryz.prog ops Q rest (a.put o.dst undef) (w.setRow g (vv h tv v mv))) : wpList Tryz.prog ops Q (o :: rest) a w :=
  wpList_store_row hgd 27 x y ho g (vv h tv v mv) hx hy 27 old hg infoVal (by rw [hs]; rfl) (vv_one h h1 h2 h3) hK
/-- A value of nothing, as it is allocated. -/
def zv : Array Value := #[.int .i64 0, .slice none 0 0, .bool false, .string ⟨#[]⟩, .string ⟨#[]⟩, .slice none 0 0, .int .i64 0, .int .i64 0, .slice none 0 0]
def SZV (h : Vh) (kids : Vo) : Prop :=
  ∀ (d : Nat) (w : World) (tv v mv : Value), d ≤ 101 → 1 + h.tx.length + h.ms.length + VoC kids ≤ 2097152 → HdS w h tv mv → VoS w v kids → Calls Tryz.prog 22 #[.agg (vv h tv v mv), .int .i64 (d : Int)] w fun e w' => e = .returned (.int .i64 (sizeH h kids d : Nat)) ∧ Below w.heap.size w w'
set_option maxRecDepth 100000 in
set_option maxHeartbeats 2000000 in
theorem szv_big (h : Vh) (kids : Vo) (ta : Option Addr) (tn tc : Nat) (a : Option Addr) (n c : Nat) (ma : Option Addr) (mn mc : Nat) (d : Nat) (w : World) (hh : 100 < d ∨ 100 < h.dg.length ∨ 100 < h.ex.length) :
    Calls Tryz.prog 22 #[.agg (vv h (.slice ta tn tc) (.slice a n c) (.slice ma mn mc)), .int .i64 (d : Int)] w fun e w' => e = .returned (.int .i64 1000) ∧ Below w.heap.size w w' := by
  have b0 : Hid (∀ o, Below w.heap.size w (w.alloc o)) := Lib.hid fun o => (Below.refl _ _).alloc (Nat.le_refl _) o
  have z1 : (bytes h.dg).size = h.dg.length := bytes_size _
  have z2 : (bytes h.ex).size = h.ex.length := bytes_size _
  obtain ⟨D, hD⟩ : ∃ x, bytes h.dg = x := ⟨_, rfl⟩
  obtain ⟨E, hE⟩ : ∃ x, bytes h.ex = x := ⟨_, rfl⟩
  unfold vv vvl
  rw [hD] at z1 ⊢
  rw [hE] at z2 ⊢
  rw [← z1, ← z2] at hh
  clear hD hE z1 z2
  by_cases h1 : 100 < d
  · have h2 : (100 : Int) < d := by omega
    clear hh h1
    go_enter Tryz.func22, Tryz.ntmps22
    go_wp2
    go_ret
    exact ⟨rfl, b0.out _⟩
  · have h2 : ¬ (100 : Int) < d := by omega
    by_cases h3 : 100 < D.size
    · have h4 : (100 : Int) < D.size := by omega
      clear hh h1 h3
      go_enter Tryz.func22, Tryz.ntmps22
      go_wp2
      go_ret
      exact ⟨rfl, b0.out _⟩
    · have h4 : ¬ (100 : Int) < D.size := by omega
      have h5 : (100 : Int) < E.size := by omega
      clear hh h1 h3
      go_enter Tryz.func22, Tryz.ntmps22
      go_wp2
      go_ret
      exact ⟨rfl, b0.out _⟩
/-- On the way through a list. -/
def SzV (L R : Vo) (d j n : Nat) (T : Nat) : Prop := R.len + j = L.len ∧ (∀ i, R.at? i = L.at? (j + i)) ∧ sizeVo R d n = T
set_option maxRecDepth 100000 in
set_option maxHeartbeats 4000000 in
theorem szv_node (h : Vh) (L : Vo) (SZ0 : ∀ j h kids, L.at? j = some (h, kids) → SZV h kids) (d : Nat) (hd : d ≤ 100) (hC : 1 + h.tx.length + h.ms.length + VoC L ≤ 2097152) (hs : h.dg.length ≤ 100 ∧ h.ex.length ≤ 100) (tv v mv : Value) (w : World) (ht : HdS w h tv mv) (hv : VoS w v L) :
    Calls Tryz.prog 22 #[.agg (vv h tv v mv), .int .i64 (d : Int)] w fun e w' => e = .returned (.int .i64 (sizeVo L d (1 + h.tx.length + h.ms.length) : Nat)) ∧ Below w.heap.size w w' := by
  have hv' := hv
  have htl : h.tx.length ≤ 2097152 := by omega
  have hml : h.ms.length ≤ 2097152 := by omega
  have hLL : L.len ≤ 2097152 := by have := voC_len L; omega
  have hcat := Lib.hid (fun j h kids hj => voC_at L j h kids hj)
  have hCC := Lib.hid hC
  obtain ⟨ta, tc, htv⟩ := ht.t.slice
  obtain ⟨ma, mc, hmv⟩ := ht.m.slice
  obtain ⟨a, cap, rfl, h1, h2, h3, h4⟩ := hv
  obtain ⟨n, hn⟩ : ∃ n, L.len = n := ⟨_, rfl⟩
  obtain ⟨tn, htn⟩ : ∃ n, h.tx.length = n := ⟨_, rfl⟩
  obtain ⟨mn, hmn⟩ : ∃ n, h.ms.length = n := ⟨_, rfl⟩
  have hll : n ≤ 2097152 := by rw [← hn]; exact hLL
  have HR := Lib.hid (fun j h kids (hj : L.at? j = some (h, kids)) W tv v mv ht hv => SZ0 j h kids hj (d + 1) W tv v mv (by omega) (by have := voC_at L j h kids hj; omega) ht hv)
  have HKB := Lib.hid (fun j h' kids' (hj : L.at? j = some (h', kids')) => (Nat.le_trans (sizeH_le h' kids' (d + 1)) (Nat.mul_le_mul_left 1000 (show 1 + h'.tx.length + h'.ms.length + VoC kids' ≤ 2097152 by have := voC_at L j h' kids' hj; omega)) : sizeH h' kids' (d + 1) ≤ 1000 * 2097152))
  have HN := Lib.hid hn
  rw [htn] at htl htv ⊢
  rw [hmn] at hml hmv ⊢
  subst htv hmv
  have FW0 := Lib.hid (show SzV L L d 0 (1 + tn + mn) (sizeVo L d (1 + tn + mn)) from ⟨by omega, fun i => by rw [Nat.zero_add], rfl⟩)
  rw [hn] at h4
  have H4 := Lib.hid h4
  rw [hn]
  obtain ⟨T, hT⟩ : ∃ T, sizeVo L d (1 + tn + mn) = T := ⟨_, rfl⟩
  have HT := Lib.hid hT
  rw [hT] at FW0 ⊢
  have z1 : (bytes h.dg).size = h.dg.length := bytes_size _
  have z2 : (bytes h.ex).size = h.ex.length := bytes_size _
  obtain ⟨D, hD⟩ : ∃ x, bytes h.dg = x := ⟨_, rfl⟩
  obtain ⟨E, hE⟩ : ∃ x, bytes h.ex = x := ⟨_, rfl⟩
  unfold vv vvl
  rw [hD] at z1 ⊢
  rw [hE] at z2 ⊢
  rw [← z1, ← z2] at hs
  obtain ⟨K, hK⟩ : ∃ x, h.k = x := ⟨_, rfl⟩
  obtain ⟨NG, hNG⟩ : ∃ x, h.ng = x := ⟨_, rfl⟩
  obtain ⟨FR, hFR⟩ : ∃ x, h.fr = x := ⟨_, rfl⟩
  obtain ⟨TO, hTO⟩ : ∃ x, h.tt = x := ⟨_, rfl⟩
  rw [hK, hNG, hFR, hTO]
  have b0 := Lib.hid ((Below.refl w.heap.size w).alloc (Nat.le_refl _) (.cells #[.int .i64 K, .slice ta tn tc, .bool NG, .string D, .string E, .slice a n cap, .int .i64 FR, .int .i64 TO, .slice ma mn mc] 27))
  obtain ⟨W1, hW1⟩ : ∃ W, w.alloc (.cells #[.int .i64 K, .slice ta tn tc, .bool NG, .string D, .string E, .slice a n cap, .int .i64 FR, .int .i64 TO, .slice ma mn mc] 27) = W := ⟨_, rfl⟩
  have cl : ∀ j, W1.cell? ⟨w.heap.size, j, none⟩ = #[.int .i64 K, .slice ta tn tc, .bool NG, .string D, .string E, .slice a n cap, .int .i64 FR, .int .i64 TO, .slice ma mn mc][j]? := fun j => by rw [← hW1]; exact World.cell?_alloc_at _ _ _ _ rfl
  rw [hW1] at b0
  have c1 := cl 1
  have c3 := cl 3
  have c4 := cl 4
  have c5 := cl 5
  have c8 := cl 8
  simp only [List.getElem?_toArray, List.getElem?_cons_zero, List.getElem?_cons_succ] at c1 c3 c4 c5 c8
  have zz : w.heap.size < W1.heap.size := by rw [← hW1]; simp
  have HW1 := Lib.hid hW1
  have C5 := Lib.hid c5
  have d1 : ¬ (100 : Int) < d := by omega
  have d2 : ¬ (100 : Int) < D.size := by omega
  have d6 : ¬ (100 : Int) < E.size := by omega
  have d3 : (0 : Int) ≤ d := by omega
  have d4 : (d : Int) ≤ 100 := by omega
  have d5 : Hid (((d + 1 : Nat) : Int) = (d : Int) + 1) := Lib.hid (by omega)
  have t0 : (tn : Int) ≤ 2097152 := by omega
  have m0 : (mn : Int) ≤ 2097152 := by omega
  have t00 : (0 : Int) ≤ tn := by omega
  have m00 : (0 : Int) ≤ mn := by omega
  clear hn SZ0 h3 h4 hW1 hT c5 hd hs h1 h2 hv' hD hE z1 z2 hK hNG hFR hTO htn hmn ht hC hcat hLL
  go_enter Tryz.func22, Tryz.ntmps22
  go_upto_region 1 with fail
  rw [HW1.out]
  go_wp2
  go_loopw [5, 6] (fun nv iv wr => ∃ (j : Nat) (R : Vo) (m : Nat), iv = .int .i64 (j : Int) ∧ j ≤ n ∧ nv = .int .i64 (m : Int) ∧ m ≤ 3000000000 ∧ SzV L R d j m T ∧ Below W1.heap.size W1 wr) (fun _ iv _ => n - (intOf iv).toNat)
  case atStart => exact ⟨0, L, 1 + tn + mn, rfl, by omega, by push_cast; rfl, by omega, FW0.out, Below.refl _ _⟩
  case round =>
    obtain ⟨j, R, m, rfl, hj, rfl, hm, hfw, hb⟩ := hrel
    have HB := Lib.hid (b0.out.trans (hb.mono b0.out.size))
    have HBR := Lib.hid hb
    have c5r := (hb.cell (p := ⟨w.heap.size, 5, none⟩) zz).trans C5.out
    clear hb
    by_cases hlt : j < n
    · cases R with
      | nil => exfalso; have := hfw.1; have := HN.out; simp [Vo.len] at *; omega
      | cons h' kids rest =>
        by_cases hm2 : m < 1000
        · have m0 : (m : Int) < 1000 := by omega
          have m1 : (0 : Int) ≤ m := by omega
          have hat : L.at? j = some (h', kids) := (hfw.2.1 0).symm
          obtain ⟨b, off, rfl, hbk, hfo⟩ := H4.out (by omega)
          obtain ⟨tv, mv, u, hd, hr, hu⟩ := voAt_get L b off j h' kids hfo hat
          have R1 := Lib.hid (HR.out j h' kids hat wr tv u mv (hd.below HB.out) (hu.below HB.out))
          have hrr := Lib.hid (range_same hr (HB.out.block b hbk))
          have j0 : (0 : Int) ≤ j := by omega
          have j1 : (j : Int) < n := by omega
          have hsz := HKB.out j h' kids hat
          have FW2 : Hid (SzV L rest d (j + 1) (m + sizeH h' kids (d + 1)) T) := Lib.hid ⟨by have := hfw.1; simp only [Vo.len] at this; omega, fun i => by
            have := hfw.2.1 (i + 1)
            rw [show j + (i + 1) = j + 1 + i by omega] at this
            exact this, by have := hfw.2.2; rw [sizeVo_cons, if_pos hm2] at this; exact this⟩
          rw [d5.out] at R1
          obtain ⟨r, hr⟩ : ∃ x, sizeH h' kids (d + 1) = x := ⟨_, rfl⟩
          rw [hr] at R1 FW2 hsz
          have r0 : (0 : Int) ≤ r := by omega
          have r1 : (r : Int) ≤ 2097152000 := by omega
          clear hat hfo hu hfw hr hsz hd
          as_aux_lemma =>
            go_wp2_with (first | (refine wpl_ldV rfl _ rfl b (off + j * 9) h' tv u mv rfl hrr.out ?_) | fail)
            refine (R1.out).mono ?_
            rintro e w2 ⟨rfl, hb2⟩
            have e2 := HBR.out.trans (hb2.mono HBR.out.size)
            clear hb2
            go_wp2
            go_roundw
            case rel => exact ⟨j + 1, rest, m + r, by go_num, by omega, by go_num, by omega, FW2.out, e2⟩
            case measure => simp [intOf]; omega
        · have m0 : ¬ (m : Int) < 1000 := by omega
          have hfin : m = T := by have := hfw.2.2; rw [sizeVo_cons, if_neg hm2] at this; exact this
          subst hfin
          have j1 : (j : Int) < n := by omega
          clear hfw
          as_aux_lemma =>
            go_wp2
            go_ret
            exact ⟨rfl, HB.out⟩
    · obtain rfl : j = n := by omega
      have t1 : decide ((j : Int) < j) = false := by simp
      have hnil : R = .nil := by
        have h1 := hfw.1
        have h2 := HN.out
        cases R with
        | nil => rfl
        | cons _ _ _ => simp [Vo.len] at h1; omega
      subst hnil
      have hfin : m = T := by have := hfw.2.2; simp only [sizeVo] at this; exact this
      subst hfin
      clear hlt hfw
      as_aux_lemma =>
        go_wp2
        go_ret
        exact ⟨rfl, HB.out⟩
theorem szv_one (h : Vh) (kids : Vo) (SZ0 : ∀ j h' kids', kids.at? j = some (h', kids') → SZV h' kids') : SZV h kids := by
  intro d w tv v mv hd hC ht hv
  have hv' := hv
  obtain ⟨a, c, rfl⟩ := hv.slice
  obtain ⟨ta, tc, rfl⟩ := ht.t.slice
  obtain ⟨ma, mc, rfl⟩ := ht.m.slice
  unfold sizeH
  by_cases hh : 100 < d ∨ 100 < h.dg.length ∨ 100 < h.ex.length
  · rw [if_pos hh]
    exact szv_big h kids ta _ tc a _ c ma _ mc d w hh
  · rw [if_neg hh]
    exact szv_node h kids SZ0 d (by omega) hC (by omega) _ _ _ w ht hv'
theorem szv_list (L : Vo) : ∀ j h kids, L.at? j = some (h, kids) → SZV h kids := by
  induction L with
  | nil => intro j h kids e; simp [Vo.at?] at e
  | cons h0 kids0 rest ih1 ih2 =>
    intro j h kids e
    cases j with
    | zero =>
      simp only [Vo.at?, Option.some.injEq, Prod.mk.injEq] at e
      obtain ⟨rfl, rfl⟩ := e
      exact szv_one h0 kids0 ih1
    | succ j => exact ih2 j h kids e
theorem szv_any (h : Vh) (kids : Vo) : SZV h kids := szv_one h kids (szv_list kids)
set_option maxRecDepth 100000 in
set_option maxHeartbeats 2000000 in
theorem fewv_any (h : Vh) (kids : Vo) (tv v mv : Value) (w : World) (hC : 1 + h.tx.length + h.ms.length + VoC kids ≤ 2097152) (ht : HdS w h tv mv) (hv : VoS w v kids) :
    Calls Tryz.prog 11 #[.agg (vv h tv v mv)] w fun e w' => e = .returned (.bool (decide (sizeH h kids 0 ≤ 300))) ∧ Below w.heap.size w w' := by
  have b0 := Lib.hid ((Below.refl w.heap.size w).alloc (Nat.le_refl _) (.cells (vv h tv v mv) 27))
  have R := Lib.hid (szv_any h kids 0 _ tv v mv (by decide) hC (ht.below b0.out) (hv.below b0.out))
  obtain ⟨a, c, rfl⟩ := hv.slice
  obtain ⟨ta, tc, htv⟩ := ht.t.slice
  obtain ⟨ma, mc, hmv⟩ := ht.m.slice
  subst htv hmv
  obtain ⟨n, hn⟩ : ∃ n, kids.len = n := ⟨_, rfl⟩
  obtain ⟨tn, htn⟩ : ∃ n, h.tx.length = n := ⟨_, rfl⟩
  obtain ⟨mn, hmn⟩ : ∃ n, h.ms.length = n := ⟨_, rfl⟩
  rw [hn, htn, hmn] at R b0 ⊢
  generalize sizeH h kids 0 = m at R ⊢
  have HD := Lib.hid (show decide (m ≤ 300) = decide ((m : Int) ≤ 300) by apply decide_eq_decide.2; omega)
  rw [HD.out]
  obtain ⟨D, hD⟩ : ∃ x, bytes h.dg = x := ⟨_, rfl⟩
  obtain ⟨E, hE⟩ : ∃ x, bytes h.ex = x := ⟨_, rfl⟩
  obtain ⟨K, hK⟩ : ∃ x, h.k = x := ⟨_, rfl⟩
  obtain ⟨NG, hNG⟩ : ∃ x, h.ng = x := ⟨_, rfl⟩
  obtain ⟨FR, hFR⟩ : ∃ x, h.fr = x := ⟨_, rfl⟩
  obtain ⟨TO, hTO⟩ : ∃ x, h.tt = x := ⟨_, rfl⟩
  unfold vv vvl at R b0 ⊢
  rw [hD, hE, hK, hNG, hFR, hTO] at R b0 ⊢
  clear hn hC ht hv hD hE hK hNG hFR hTO htn hmn
  go_enter Tryz.func11, Tryz.ntmps11
  go_wp2_with fail
  refine (R.out).mono ?_
  rintro e w1 ⟨rfl, hb1⟩
  have hfin := b0.out.trans (hb1.mono b0.out.size)
  clear hb1
  go_wp2
  go_ret
  exact ⟨rfl, hfin⟩
end Go.Proofs.YtbfnlgmhfhaglaaGreatDoor
