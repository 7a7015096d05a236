/- Several texts of ours in one: FTk1 FTk2 FTk3 FTk4. -/
import Derived.Test.YtilndlifmpbfnaaDoorFBase
import Derived.Test.YtilndlifmpbfnaaDoorBgK
import Derived.Test.YtilndlifmpbfnaaDoorENTake
import Derived.StillTail
import Derived.StillTactics
/- Tokens of CSS: the program's functions of one token: a hash, a comment. -/
namespace Go.Proofs.YtilndlifmpbfnaaDoor
open Go.RowKit
set_option linter.unusedVariables false
set_option linter.unusedSimpArgs false

/-- The world behind the result's block, and what is known of it. -/
theorem w0_facts (w : World) : ∃ W0, w.alloc (.cells #[.int .i64 0, .string ⟨#[]⟩, .string ⟨#[]⟩, .bool false, .string ⟨#[]⟩, .string ⟨#[]⟩, .bool false, .bool false, .int .i64 0, .int .i64 0, .int .i64 0, .int .i64 0, .int .i64 0] 36) = W0 ∧ CB W0 w.heap.size (ctv {} 0) ∧ Below w.heap.size w W0 ∧ W0.heap.size = w.heap.size + 1 :=
  ⟨_, rfl, CB.new w _, (Below.refl _ _).alloc (Nat.le_refl _) _, by simp⟩
theorem etup_ai {x : Array Value} {a b : Int} (h : a = b) : Ending.returned (.tuple #[.agg x, .int .i64 a]) = .returned (.tuple #[.agg x, .int .i64 b]) := by rw [h]
theorem cmT_end (c : List Int) (j : Nat) (h : c.length ≤ j) : M.cmT (c.drop j) = ([], 0) := by rw [List.drop_eq_nil_of_le h]; rfl
theorem stC_two (a b : Int) (c : List Int) (i : Nat) (ha : a ≠ -1) (hb : b ≠ -1) : M.stC [a, b] (c.drop i) = (decide (c.getD i (-1) = a) && decide (c.getD (i + 1) (-1) = b)) := by
  by_cases hi : i < c.length
  · have e := stC_one b c (i + 1) hb
    rw [drop_cons c i hi, getD_lt c i hi]
    show (a == c[i] && M.stC [b] (c.drop (i + 1))) = _
    rw [e]
    congr 1
    by_cases h : c[i] = a
    · simp [h]
    · simp [h, Ne.symm h]
  · rw [List.drop_eq_nil_of_le (by omega)]
    simp [M.stC, List.getD, List.getElem?_eq_none (show c.length ≤ i by omega), Ne.symm ha]
theorem cmT_at (c : List Int) (j : Nat) (h : j < c.length) : M.cmT (c.drop j) = if M.stC [42, 47] (c.drop j) = true then ([], 2) else (c.getD j (-1) :: (M.cmT (c.drop (j + 1))).1, 1 + (M.cmT (c.drop (j + 1))).2) := by
  rw [stC_two 42 47 c j (by decide) (by decide), drop_cons c j h]
  simp only [M.cmT]
  rw [getD_drop, Nat.add_zero, getD_lt c j h]
  by_cases h2 : c[j] = 42 ∧ c.getD (j + 1) (-1) = 47
  · rw [if_pos h2, if_pos (by rw [h2.1, h2.2]; rfl)]
  · rw [if_neg h2, if_neg (by simpa using h2)]
/-- A part of code points that lie somewhere. -/
theorem rs_sub {w : World} {L : List (Int × Int)} {a : Option Addr} {n cap : Nat} (h : Rs w (.slice a n cap) L) (i j : Nat) (hij : i ≤ j) (hj : j ≤ n) :
    ∀ b off, a = some ⟨b, off, none⟩ → Rs w (.slice (some ⟨b, off + i * 2, none⟩) (j - i) (cap - i)) ((L.drop i).take (j - i)) := by
  obtain ⟨a', cap', e, h1, h2, h3⟩ := h
  simp only [Value.slice.injEq] at e
  obtain ⟨rfl, rfl, rfl⟩ := e
  have hrl := rvs_len L
  have hlen : ((L.drop i).take (j - i)).length = j - i := by simp; omega
  have hrl2 := rvs_len ((L.drop i).take (j - i))
  intro b off ha
  refine ⟨_, _, by rw [hrl2, hlen], by omega, by omega, fun h0 => ?_⟩
  obtain ⟨b', off', hb', hlt, hc⟩ := h3 (by omega)
  rw [ha] at hb'
  simp only [Option.some.injEq, Addr.mk.injEq, and_true] at hb'
  obtain ⟨rfl, rfl⟩ := hb'
  refine ⟨b, _, rfl, hlt, fun k hk q u hu => ?_⟩
  have := hc (i + k) (by omega) q u (by simpa [rvs] using hu)
  rw [show off + i * 2 + (k * 2 + q) = off + ((i + k) * 2 + q) by omega]
  exact this
theorem rs_keep {w w' : World} {v : Value} {l : List (Int × Int)} (h : Rs w v l) (hb : Below w.heap.size w w') : Rs w' v l := Vs.keep h hb
theorem cps_sub (L : List (Int × Int)) (i k : Nat) : M.encR ((L.drop i).take k) = M.encZs (((cps L).drop i).take k) := by
  unfold M.encR M.encZs cps
  rw [← List.map_drop, ← List.map_take, List.flatMap_map]
theorem take_more (c : List Int) (i j : Nat) (hij : i ≤ j) (hj : j < c.length) : (c.drop i).take (j + 1 - i) = (c.drop i).take (j - i) ++ [c.getD j (-1)] := by
  rw [show j + 1 - i = (j - i) + 1 by omega, List.take_add_one, List.getElem?_drop, show i + (j - i) = j by omega, List.getElem?_eq_getElem hj, getD_lt c j hj]
  rfl
end Go.Proofs.YtilndlifmpbfnaaDoor

/- Tokens of CSS: the program's functions of one token: a comment. -/
namespace Go.Proofs.YtilndlifmpbfnaaDoor
open Go.RowKit
set_option linter.unusedVariables false
set_option linter.unusedSimpArgs false

end Go.Proofs.YtilndlifmpbfnaaDoor

/- Tokens of CSS: the program's functions of one token: single code points, blanks. -/
namespace Go.Proofs.YtilndlifmpbfnaaDoor
open Go.RowKit
set_option linter.unusedVariables false
set_option linter.unusedSimpArgs false

theorem still_ldT {ops : Array Oper} {w : World} {Q : Act → Prop} {a : Act} {o : Oper} {rest : List Oper} (hgd : o.guard = none) (x : Operand) (ho : o.op = .load 36 x)
    (g : Nat) (cs : Array Value) (hx : a.eval x = .pointer (some ⟨g, 0, none⟩)) (hg : CB w g cs) (hs : cs.size = 13)
    (h : wpStill Tryd.prog ops w Q rest (a.put o.dst (.agg cs))) : wpStill Tryd.prog ops w Q (o :: rest) a := by
  refine wpStill_step (fun K hK => ?_)
  simp only [Region.wanted, hgd, if_true]
  unfold Oper.still execOp
  simp only [ho, hx, Instr.loadAt, Instr.sureAddr, Sem.run_bind, Sem.run_pure, Result.andThen_ok, run_loadVar_row w g 36 36 cs (0, 0) _ hg Tryd.underlying36 rfl (by rw [hs]; exact infoC13)]
  exact ⟨rfl, hK _ h⟩
end Go.Proofs.YtilndlifmpbfnaaDoor

/- Tokens of CSS: the program's function of texts between marks. -/
namespace Go.Proofs.YtilndlifmpbfnaaDoor
open Go.RowKit
set_option linter.unusedVariables false
set_option linter.unusedSimpArgs false

theorem strT_atq (q : Int) (c : List Int) (j : Nat) (hj : j < c.length) (h : c.getD j (-1) = q) : M.strT q (c.drop j) = (false, [], 1) := by
  rw [drop_cons c j hj, ← getD_lt c j hj (-1), h]; exact M.strT_end q _
theorem strT_atb (q : Int) (c : List Int) (j : Nat) (hj : j < c.length) (h : c.getD j (-1) = 10) (hq : q ≠ 10) : M.strT q (c.drop j) = (true, [], 0) := by
  rw [drop_cons c j hj, ← getD_lt c j hj (-1), h]; exact M.strT_bad q _ hq
theorem strT_atl (q : Int) (c : List Int) (j : Nat) (hj : j + 1 = c.length) (h : c.getD j (-1) = 92) (hq : q ≠ 92) : M.strT q (c.drop j) = (false, [], 1) := by
  rw [drop_cons c j (by omega), ← getD_lt c j (by omega) (-1), h, List.drop_eq_nil_of_le (by omega)]; exact M.strT_last q hq
theorem strT_atn (q : Int) (c : List Int) (j : Nat) (hj : j + 1 < c.length) (h : c.getD j (-1) = 92) (h2 : c.getD (j + 1) (-1) = 10) (hq : q ≠ 92) : M.strT q (c.drop j) = ((M.strT q (c.drop (j + 2))).1, (M.strT q (c.drop (j + 2))).2.1, 2 + (M.strT q (c.drop (j + 2))).2.2) := by
  rw [drop_cons c j (by omega), ← getD_lt c j (by omega) (-1), h, drop_cons c (j + 1) hj, ← getD_lt c (j + 1) hj (-1), h2]; exact M.strT_line q _ hq
theorem strT_ate (q : Int) (c : List Int) (j : Nat) (hj : j + 1 < c.length) (h : c.getD j (-1) = 92) (h2 : c.getD (j + 1) (-1) ≠ 10) (hq : q ≠ 92) (r : Int) (k : Nat) (hr : M.escV (c.drop (j + 1)) = (r, k)) :
    M.strT q (c.drop j) = ((M.strT q (c.drop (j + 1 + k))).1, r :: (M.strT q (c.drop (j + 1 + k))).2.1, 1 + k + (M.strT q (c.drop (j + 1 + k))).2.2) := by
  have h3 : (c.drop (j + 1)).getD 0 (-1) ≠ 10 := by rw [getD_drop]; exact h2
  have h4 : c.drop (j + 1) ≠ [] := fun e => by have := congrArg List.length e; simp at this; omega
  rw [drop_cons c j (by omega), ← getD_lt c j (by omega) (-1), h, M.strT_esc q _ hq h4 h3, hr, List.drop_drop]
theorem strT_ato (q : Int) (c : List Int) (j : Nat) (hj : j < c.length) (h : c.getD j (-1) ≠ q) (h1 : c.getD j (-1) ≠ 10) (h2 : c.getD j (-1) ≠ 92) :
    M.strT q (c.drop j) = ((M.strT q (c.drop (j + 1))).1, c.getD j (-1) :: (M.strT q (c.drop (j + 1))).2.1, 1 + (M.strT q (c.drop (j + 1))).2.2) := by
  have e := drop_cons c j hj
  rw [← getD_lt c j hj (-1)] at e
  rw [e, M.strT_one q _ _ h h1 h2]
theorem strT_atx (q : Int) (c : List Int) (j : Nat) (hj : c.length ≤ j) : M.strT q (c.drop j) = (false, [], 0) := by rw [List.drop_eq_nil_of_le hj]; exact M.strT_nil q
/-- What is known of a text's tokens on the way. -/
def StAt (q : Int) (c : List Int) (i j : Nat) (pre : List Int) : Prop :=
  M.strT q (c.drop (i + 1)) = ((M.strT q (c.drop j)).1, pre ++ (M.strT q (c.drop j)).2.1, (j - (i + 1)) + (M.strT q (c.drop j)).2.2) ∧ i + 1 ≤ j
theorem StAt.go {q : Int} {c : List Int} {i j : Nat} {pre : List Int} (h : StAt q c i j pre) (m : Nat) (a : List Int) (e : M.strT q (c.drop j) = ((M.strT q (c.drop (j + m))).1, a ++ (M.strT q (c.drop (j + m))).2.1, m + (M.strT q (c.drop (j + m))).2.2)) : StAt q c i (j + m) (pre ++ a) := by
  obtain ⟨h1, h2⟩ := h
  refine ⟨?_, by omega⟩
  rw [h1, e]
  simp
  omega
theorem cps_append (a b : List (Int × Int)) : cps (a ++ b) = cps a ++ cps b := by simp [cps]
theorem encR_cps (l : List (Int × Int)) : M.encR l = M.encZs (cps l) := by unfold M.encR M.encZs cps; rw [List.flatMap_map]
/-- Both cells of code points that lie somewhere. -/
theorem rs_at {w : World} {v : Value} {L : List (Int × Int)} (hv : Rs w v L) {n : Nat} (hn : L.length = n) : ∃ a cap, v = .slice a n cap ∧ n ≤ cap ∧ cap ≤ maxLen ∧ ∀ i, i < n → ∃ b off, a = some ⟨b, off, none⟩ ∧ b < w.heap.size ∧
    w.cell? ⟨b, off + i * 2, none⟩ = some (.int .i64 ((cps L).getD i (-1))) ∧ w.cell? ⟨b, off + i * 2 + 1, none⟩ = some (.int .i64 ((L.map Prod.snd).getD i 0)) := by
  obtain ⟨a, cap, rfl, h1, h2, h3⟩ := rs_open hv hn
  refine ⟨a, cap, rfl, h1, h2, fun i hi => ?_⟩
  obtain ⟨b, off, rfl, hb, hc⟩ := h3 (by omega)
  have := hc i (by omega)
  refine ⟨b, off, rfl, hb, ?_, ?_⟩
  · rw [this.1]; simp [cps, List.getD, show i < L.length by omega]
  · rw [this.2]; simp [List.getD, show i < L.length by omega]
end Go.Proofs.YtilndlifmpbfnaaDoor
