/- Texts of ours in one: ASize. -/
import Derived.Test.YtbfnlgmhfhaglaaGreatDoorQl12
import Derived.Deep.DeepCutAuto
/- Values of any shape: chapter 7's own size and Few. -/
namespace Go.Proofs.YtbfnlgmhfhaglaaGreatDoor
open Go.RowKit
set_option linter.unusedVariables false
set_option linter.unusedSimpArgs false

def VoN : Vo → Nat
  | .nil => 0
  | .cons _ kids rest => 1 + VoN kids + VoN rest
def VoC : Vo → Nat
  | .nil => 0
  | .cons h kids rest => 1 + h.tx.length + h.ms.length + VoC kids + VoC rest
def VoL (A : Nat) : Vo → Prop
  | .nil => True
  | .cons h kids rest => (h.dg.length ≤ A ∧ h.ex.length ≤ A) ∧ VoL A kids ∧ VoL A rest
theorem VoL.mono {A B : Nat} (hAB : A ≤ B) (L : Vo) : VoL A L → VoL B L := by
  induction L with
  | nil => intro _; trivial
  | cons h kids rest ih1 ih2 => rintro ⟨⟨a, b⟩, c, d⟩; exact ⟨⟨by omega, by omega⟩, ih1 c, ih2 d⟩
theorem voL_at {A : Nat} (L : Vo) : VoL A L → ∀ j h kids, L.at? j = some (h, kids) → (h.dg.length ≤ A ∧ h.ex.length ≤ A) ∧ VoL A kids := by
  induction L with
  | nil => intro _ j h kids e; simp [Vo.at?] at e
  | cons h0 kids0 rest _ ih =>
    rintro ⟨x, y, z⟩ j h kids e
    cases j with
    | zero => simp only [Vo.at?, Option.some.injEq, Prod.mk.injEq] at e; obtain ⟨rfl, rfl⟩ := e; exact ⟨x, y⟩
    | succ j => exact ih z j h kids e
theorem voC_at (L : Vo) : ∀ j h kids, L.at? j = some (h, kids) → 1 + h.tx.length + h.ms.length + VoC kids ≤ VoC L := by
  induction L with
  | nil => intro j h kids e; simp [Vo.at?] at e
  | cons h0 kids0 rest _ ih =>
    intro j h kids e
    cases j with
    | zero => simp only [Vo.at?, Option.some.injEq, Prod.mk.injEq] at e; obtain ⟨rfl, rfl⟩ := e; simp only [VoC]; omega
    | succ j => have := ih j h kids e; simp only [VoC]; omega
theorem voC_len (L : Vo) : L.len ≤ VoC L := by
  induction L with
  | nil => exact Nat.le_refl _
  | cons h kids rest _ ih => simp only [Vo.len, VoC]; omega
theorem IsP.le {P : Nat → Prop} {w : World} {v : Value} {l : List Int} (h : IsP P w v l) : l.length ≤ maxLen := by
  obtain ⟨_, _, _, h1, h2, _⟩ := h; exact Nat.le_trans h1 h2
theorem infoVal : (Tryz.prog.info? 27).map (·.size) = some 9 := by kernel_rfl
theorem wpl_ldV {ops : Array Oper} {rest : List Oper} {o : Oper} {a : Act} {w : World} {Q : Exit → Act → World → Prop} (hgd : o.guard = none) (x : Operand) (ho : o.op = .load 27 x)
    (b off : Nat) (h : Vh) (tv v mv : Value) (hx : a.eval x = .pointer (some ⟨b, off, none⟩)) (hr : w.rangeAt b off (vvl h tv v mv))
    (hK : wpList Tryz.prog ops Q rest (a.put o.dst (.agg (vv h tv v mv))) w) : wpList Tryz.prog ops Q (o :: rest) a w :=
  wpList_load_mid hgd 27 x ho b off hx (vvl h tv v mv) _ hr Tryz.underlying27 rfl infoVal hK
theorem wpl_ldVg {ops : Array Oper} {rest : List Oper} {o : Oper} {a : Act} {w : World} {Q : Exit → Act → World → Prop} (hw : Region.wanted o (yielded ops a.tmps) = true) (x : Operand) (ho : o.op = .load 27 x)
    (b off : Nat) (h : Vh) (tv v mv : Value) (hx : a.eval x = .pointer (some ⟨b, off, none⟩)) (hr : w.rangeAt b off (vvl h tv v mv))
    (hK : wpList Tryz.prog ops Q rest (a.put o.dst (.agg (vv h tv v mv))) w) : wpList Tryz.prog ops Q (o :: rest) a w := by
  unfold wpList
  rw [if_pos hw]
  refine .inl ?_
  exact wp_load_mid 27 x ho b off hx (vvl h tv v mv) _ hr Tryz.underlying27 rfl infoVal hK
theorem vv_one (h : Vh) {tv v mv : Value} (h1 : tv.oneCell' = true) (h2 : v.oneCell' = true) (h3 : mv.oneCell' = true) : (vv h tv v mv).all (·.oneCell') = true := by
  rw [Array.all_eq_true_iff_forall_mem]
  intro c hc
  simp only [vv, vvl, List.mem_toArray, List.mem_cons, List.mem_nil_iff, or_false] at hc
  rcases hc with rfl | rfl | rfl | rfl | rfl | rfl | rfl | rfl | rfl
  all_goals first | rfl | assumption
theorem IsP.one {P : Nat → Prop} {w : World} {v : Value} {l : List Int} (h : IsP P w v l) : v.oneCell' = true := by obtain ⟨a, c, rfl⟩ := h.slice; rfl
theorem VoP.one {P : Nat → Prop} {w : World} {v : Value} {L : Vo} (h : VoP P w v L) : v.oneCell' = true := by obtain ⟨a, c, rfl⟩ := h.slice; rfl
theorem wpl_stV {ops : Array Oper} {rest : List Oper} {o : Oper} {a : Act} {w : World} {Q : Exit → Act → World → Prop} (hgd : o.guard = none) (x y : Operand) (ho : o.op = .store 27 x y)
    (g : Nat) (old : Array Value) (h : Vh) (tv v mv : Value) (hx : a.eval x = .pointer (some ⟨g, 0, none⟩)) (hy : a.eval y = .agg (vv h tv v mv)) (hg : w.heap[g]? = some (.cells old 27 (0, 0))) (hs : old.size = 9)
    (h1 : tv.oneCell' = true) (h2 : v.oneCell' = true) (h3 : mv.oneCell' = true)
    (hK : wpList Tryz.prog ops Q rest (a.put o.dst undef) (w.setRow g (vv h tv v mv))) : wpList Tryz.prog ops Q (o :: rest) a w :=
  wpList_store_row hgd 27 x y ho g (vv h tv v mv) hx hy 27 old hg infoVal (by rw [hs]; rfl) (vv_one h h1 h2 h3) hK
def zv : Array Value := #[.int .i64 0, .slice none 0 0, .bool false, .string ⟨#[]⟩, .string ⟨#[]⟩, .slice none 0 0, .int .i64 0, .int .i64 0, .slice none 0 0]
end Go.Proofs.YtbfnlgmhfhaglaaGreatDoor
