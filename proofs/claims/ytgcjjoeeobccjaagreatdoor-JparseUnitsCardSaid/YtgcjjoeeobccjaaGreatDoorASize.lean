/- Values of any shape: chapter 7's own size and Few. -/
import Derived.Test.YtgcjjoeeobccjaaGreatDoorAVal
import Derived.Deep.DeepCutAuto
namespace Go.Proofs.YtgcjjoeeobccjaaGreatDoor
open Go.RowKit
set_option linter.unusedVariables false
set_option linter.unusedSimpArgs false

/-- What is counted, from a number on. -/
def sizeVo : Vo → Nat → Nat → Nat
  | .nil, _, n => n
  | .cons h kids rest, d, n => if n < 1000 then sizeVo rest d (n + (if 100 < d + 1 ∨ 100 < h.dg.length ∨ 100 < h.ex.length then 1000 else sizeVo kids (d + 1) (1 + h.tx.length + h.ms.length))) else n
def sizeH (h : Vh) (kids : Vo) (d : Nat) : Nat := if 100 < d ∨ 100 < h.dg.length ∨ 100 < h.ex.length then 1000 else sizeVo kids d (1 + h.tx.length + h.ms.length)
theorem sizeVo_cons (h : Vh) (kids rest : Vo) (d n : Nat) : sizeVo (.cons h kids rest) d n = if n < 1000 then sizeVo rest d (n + sizeH h kids (d + 1)) else n := rfl
theorem sizeVo_ge (L : Vo) : ∀ d n, n ≤ sizeVo L d n := by
  induction L with
  | nil => intro d n; exact Nat.le_refl _
  | cons h kids rest _ ih2 =>
    intro d n
    rw [sizeVo_cons]
    split
    · exact Nat.le_trans (Nat.le_add_right _ _) (ih2 d _)
    · exact Nat.le_refl _
/-- How many there are, in all. -/
def VoN : Vo → Nat
  | .nil => 0
  | .cons _ kids rest => 1 + VoN kids + VoN rest
/-- All that is counted. -/
def VoC : Vo → Nat
  | .nil => 0
  | .cons h kids rest => 1 + h.tx.length + h.ms.length + VoC kids + VoC rest
/-- Numbers that are not long. -/
def VoL (A : Nat) : Vo → Prop
  | .nil => True
  | .cons h kids rest => (h.dg.length ≤ A ∧ h.ex.length ≤ A) ∧ VoL A kids ∧ VoL A rest
theorem sizeVo_few (L : Vo) : ∀ d n, sizeVo L d n ≤ 300 → n + VoC L = sizeVo L d n ∧ VoL 100 L := by
  induction L with
  | nil => intro d n _; exact ⟨rfl, trivial⟩
  | cons h kids rest ih1 ih2 =>
    intro d n hh
    rw [sizeVo_cons] at hh ⊢
    by_cases hn : n < 1000
    · rw [if_pos hn] at hh ⊢
      have hg := sizeVo_ge rest d (n + sizeH h kids (d + 1))
      obtain ⟨e1, e2⟩ := ih2 d _ hh
      have hs : sizeH h kids (d + 1) ≤ 300 := by omega
      unfold sizeH at hs e1 ⊢
      split at hs
      · omega
      · rename_i hc
        obtain ⟨e3, e4⟩ := ih1 (d + 1) _ hs
        rw [if_neg hc] at e1 ⊢
        simp only [VoC, VoL]
        exact ⟨by omega, ⟨by omega, by omega⟩, e4, e2⟩
    · rw [if_neg hn] at hh; omega
/-- A value that is few. -/
theorem fewH {h : Vh} {kids : Vo} (hh : sizeH h kids 0 ≤ 300) : VoC (.cons h kids .nil) ≤ 300 ∧ VoL 100 (.cons h kids .nil) := by
  unfold sizeH at hh
  split at hh
  · omega
  · obtain ⟨e1, e2⟩ := sizeVo_few kids 0 _ hh
    simp only [VoC, VoL]
    exact ⟨by omega, ⟨by omega, by omega⟩, e2, trivial⟩
theorem VoL.mono {A B : Nat} (hAB : A ≤ B) (L : Vo) : VoL A L → VoL B L := by
  induction L with
  | nil => intro _; trivial
  | cons h kids rest ih1 ih2 => rintro ⟨⟨a, b⟩, c, d⟩; exact ⟨⟨by omega, by omega⟩, ih1 c, ih2 d⟩
theorem voL_at {A : Nat} (L : Vo) : VoL A L → ∀ j h kids, L.at? j = some (h, kids) → (h.dg.length ≤ A ∧ h.ex.length ≤ A) ∧ VoL A kids := by
  induction L with
  | nil => intro _ j h kids e; simp [Vo.at?] at e
  | cons h0 kids0 rest _ ih =>
    rintro ⟨x, y, z⟩ j h kids e
    cases j with
    | zero => simp only [Vo.at?, Option.some.injEq, Prod.mk.injEq] at e; obtain ⟨rfl, rfl⟩ := e; exact ⟨x, y⟩
    | succ j => exact ih z j h kids e
theorem voC_at (L : Vo) : ∀ j h kids, L.at? j = some (h, kids) → 1 + h.tx.length + h.ms.length + VoC kids ≤ VoC L := by
  induction L with
  | nil => intro j h kids e; simp [Vo.at?] at e
  | cons h0 kids0 rest _ ih =>
    intro j h kids e
    cases j with
    | zero => simp only [Vo.at?, Option.some.injEq, Prod.mk.injEq] at e; obtain ⟨rfl, rfl⟩ := e; simp only [VoC]; omega
    | succ j => have := ih j h kids e; simp only [VoC]; omega
theorem voC_len (L : Vo) : L.len ≤ VoC L := by
  induction L with
  | nil => exact Nat.le_refl _
  | cons h kids rest _ ih => simp only [Vo.len, VoC]; omega
theorem IsP.le {P : Nat → Prop} {w : World} {v : Value} {l : List Int} (h : IsP P w v l) : l.length ≤ maxLen := by
  obtain ⟨_, _, _, h1, h2, _⟩ := h; exact Nat.le_trans h1 h2
theorem sizeVo_le (L : Vo) : ∀ d n, sizeVo L d n ≤ n + 1000 * VoC L := by
  induction L with
  | nil => intro d n; exact Nat.le_add_right _ _
  | cons h kids rest ih1 ih2 =>
    intro d n
    rw [sizeVo_cons]
    split
    · have h2 := ih2 d (n + sizeH h kids (d + 1))
      have h1 : sizeH h kids (d + 1) ≤ 1000 * (1 + h.tx.length + h.ms.length + VoC kids) := by
        unfold sizeH
        split
        · omega
        · have := ih1 (d + 1) (1 + h.tx.length + h.ms.length); omega
      simp only [VoC]; omega
    · omega
theorem sizeH_le (h : Vh) (kids : Vo) (d : Nat) : sizeH h kids d ≤ 1000 * (1 + h.tx.length + h.ms.length + VoC kids) := by
  unfold sizeH
  split
  · omega
  · have := sizeVo_le kids d (1 + h.tx.length + h.ms.length); omega
theorem infoVal : (Tryz.prog.info? 33).map (·.size) = some 9 := by kernel_rfl
/-- A whole value is loaded out of a row. -/
theorem wpl_ldV {ops : Array Oper} {rest : List Oper} {o : Oper} {a : Act} {w : World} {Q : Exit → Act → World → Prop} (hgd : o.guard = none) (x : Operand) (ho : o.op = .load 33 x)
    (b off : Nat) (h : Vh) (tv v mv : Value) (hx : a.eval x = .pointer (some ⟨b, off, none⟩)) (hr : w.rangeAt b off (vvl h tv v mv))
    (hK : wpList Tryz.prog ops Q rest (a.put o.dst (.agg (vv h tv v mv))) w) : wpList Tryz.prog ops Q (o :: rest) a w :=
  wpList_load_mid hgd 33 x ho b off hx (vvl h tv v mv) _ hr Tryz.underlying33 rfl infoVal hK
/-- A whole value is loaded out of a row, at an operation that is guarded. -/
theorem wpl_ldVg {ops : Array Oper} {rest : List Oper} {o : Oper} {a : Act} {w : World} {Q : Exit → Act → World → Prop} (hw : Region.wanted o (yielded ops a.tmps) = true) (x : Operand) (ho : o.op = .load 33 x)
    (b off : Nat) (h : Vh) (tv v mv : Value) (hx : a.eval x = .pointer (some ⟨b, off, none⟩)) (hr : w.rangeAt b off (vvl h tv v mv))
    (hK : wpList Tryz.prog ops Q rest (a.put o.dst (.agg (vv h tv v mv))) w) : wpList Tryz.prog ops Q (o :: rest) a w := by
  unfold wpList
  rw [if_pos hw]
  refine .inl ?_
  exact wp_load_mid 33 x ho b off hx (vvl h tv v mv) _ hr Tryz.underlying33 rfl infoVal hK
theorem vv_one (h : Vh) {tv v mv : Value} (h1 : tv.oneCell' = true) (h2 : v.oneCell' = true) (h3 : mv.oneCell' = true) : (vv h tv v mv).all (·.oneCell') = true := by
  rw [Array.all_eq_true_iff_forall_mem]
  intro c hc
  simp only [vv, vvl, List.mem_toArray, List.mem_cons, List.mem_nil_iff, or_false] at hc
  rcases hc with rfl | rfl | rfl | rfl | rfl | rfl | rfl | rfl | rfl
  all_goals first | rfl | assumption
theorem IsP.one {P : Nat → Prop} {w : World} {v : Value} {l : List Int} (h : IsP P w v l) : v.oneCell' = true := by obtain ⟨a, c, rfl⟩ := h.slice; rfl
theorem VoP.one {P : Nat → Prop} {w : World} {v : Value} {L : Vo} (h : VoP P w v L) : v.oneCell' = true := by obtain ⟨a, c, rfl⟩ := h.slice; rfl
/-- A whole value is stored into a block of its own. -/
theorem wpl_stV {ops : Array Oper} {rest : List Oper} {o : Oper} {a : Act} {w : World} {Q : Exit → Act → World → Prop} (hgd : o.guard = none) (x y : Operand) (ho : o.op = .store 33 x y)
    (g : Nat) (old : Array Value) (h : Vh) (tv v mv : Value) (hx : a.eval x = .pointer (some ⟨g, 0, none⟩)) (hy : a.eval y = .agg (vv h tv v mv)) (hg : w.heap[g]? = some (.cells old 33 (0, 0))) (hs : old.size = 9)
    (h1 : tv.oneCell' = true) (h2 : v.oneCell' = true) (h3 : mv.oneCell' = true)
    (hK : wpList Tryz.prog ops Q rest (a.put o.dst undef) (w.setRow g (vv h tv v mv))) : wpList Tryz.prog ops Q (o :: rest) a w :=
  wpList_store_row hgd 33 x y ho g (vv h tv v mv) hx hy 33 old hg infoVal (by rw [hs]; rfl) (vv_one h h1 h2 h3) hK
/-- A value of nothing, as it is allocated. -/
def zv : Array Value := #[.int .i64 0, .slice none 0 0, .bool false, .string ⟨#[]⟩, .string ⟨#[]⟩, .slice none 0 0, .int .i64 0, .int .i64 0, .slice none 0 0]
/-- On the way through a list. -/
def SzV (L R : Vo) (d j n : Nat) (T : Nat) : Prop := R.len + j = L.len ∧ (∀ i, R.at? i = L.at? (j + i)) ∧ sizeVo R d n = T
end Go.Proofs.YtgcjjoeeobccjaaGreatDoor
