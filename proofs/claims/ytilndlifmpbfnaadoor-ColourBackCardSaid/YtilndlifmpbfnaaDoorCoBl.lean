/- Colours: each spelling is one token, that colour: plain. -/
import Derived.Test.YtilndlifmpbfnaaDoorCoBk
import Derived.Test.YtilndlifmpbfnaaDoorCoRd0
namespace Go.Proofs.YtilndlifmpbfnaaDoor
open Go.RowKit
set_option linter.unusedVariables false
set_option linter.unusedSimpArgs false

theorem hx_facts (h : Int) (h0 : 0 ≤ h) (h1 : h < 16) : M.hexN (M.hxd h) = h.toNat ∧ M.alN (M.hxd h) = true := by
  have : ∀ n : Fin 16, M.hexN (M.hxd (n.val : Int)) = n.val ∧ M.alN (M.hxd (n.val : Int)) = true := by decide +kernel
  have h2 := this ⟨h.toNat, by omega⟩
  simp only [Int.toNat_of_nonneg h0] at h2
  exact h2
theorem name_tok : ∀ e ∈ M.ceT, M.tksC (M.rn e.1 0) = [({ kind := 1, text := e.1 }, 0)] := by decide +kernel
theorem name_col : ∀ e ∈ M.ceT, namedV e.1 = (M.colE e, true) := by decide +kernel
theorem ok_hl (v : Int) (h : M.okN v = true) : 0 ≤ M.hi v ∧ M.hi v < 16 ∧ 0 ≤ M.lo v ∧ M.lo v < 16 ∧ v = M.hi v * 16 + M.lo v := by
  unfold M.okN at h
  simp only [Bool.and_eq_true, decide_eq_true_eq] at h
  unfold M.hi M.lo
  omega
theorem two_hex (v : Int) (h : M.okN v = true) : (M.hexNum [M.hxd (M.hi v), M.hxd (M.lo v)] : Int) = v ∧ M.isXB (M.hxd (M.hi v)) = true ∧ M.isXB (M.hxd (M.lo v)) = true ∧ M.alN (M.hxd (M.hi v)) = true ∧ M.alN (M.hxd (M.lo v)) = true := by
  obtain ⟨a, b, c, d, e⟩ := ok_hl v h
  obtain ⟨f1, f2⟩ := hx_facts _ a b
  obtain ⟨g1, g2⟩ := hx_facts _ c d
  refine ⟨?_, by unfold M.isXB; rw [f1]; simp; omega, by unfold M.isXB; rw [g1]; simp; omega, f2, g2⟩
  unfold M.hexNum
  simp only [List.foldl_cons, List.foldl_nil, f1, g1]
  omega
/-- What the law asks of each spelling. -/
def BackP (c : M.C4) (p : List UInt8) : Prop := ∃ t : M.CT, M.tksC (M.rn p 0) = [(t, 0)] ∧ t.text.length ≤ 100 ∧ ((t.kind = 1 ∧ namedV t.text = (c, true)) ∨ (t.kind = 4 ∧ M.numX t.text = (c, true)))
theorem back_name (c : M.C4) (p : List UInt8) (h : p ∈ M.namesC c) : BackP c p := by
  unfold M.namesC at h
  obtain ⟨e, he, rfl⟩ := List.mem_map.1 h
  obtain ⟨he1, he2⟩ := List.mem_filter.1 he
  have hc : M.colE e = c := by simpa using he2
  exact ⟨_, name_tok e he1, by have := M.ce_names e he1; show e.1.length ≤ 100; omega, .inl ⟨rfl, by rw [← hc]; exact name_col e he1⟩⟩
theorem back_hash (c : M.C4) (d : UInt8) (ds : List UInt8) (ha : ∀ b ∈ d :: ds, M.alN b = true) (hl : (d :: ds).length ≤ 100) (hn : M.numX (d :: ds) = (c, true)) : BackP c (35 :: d :: ds) := by
  obtain ⟨f, hf⟩ := M.hash_one d ds ha
  exact ⟨_, hf, hl, .inr ⟨rfl, hn⟩⟩
theorem back_long3 (a b e : Int) (ha : M.okN a = true) (hb : M.okN b = true) (he : M.okN e = true) : BackP (a, b, e, 255) (M.longL [a, b, e]) := by
  obtain ⟨a1, a2, a3, a4, a5⟩ := two_hex a ha
  obtain ⟨b1, b2, b3, b4, b5⟩ := two_hex b hb
  obtain ⟨e1, e2, e3, e4, e5⟩ := two_hex e he
  refine back_hash _ (M.hxd (M.hi a)) [M.hxd (M.lo a), M.hxd (M.hi b), M.hxd (M.lo b), M.hxd (M.hi e), M.hxd (M.lo e)] (by simp [a4, a5, b4, b5, e4, e5]) (by simp) ?_
  unfold M.numX
  rw [if_pos (by simp [a2, a3, b2, b3, e2, e3])]
  simp only [List.length_cons, List.length_nil, Nat.zero_add, Nat.reduceAdd, Nat.reduceEqDiff, if_true, if_false]
  simp only [Prod.mk.injEq, and_true]
  exact ⟨a1, b1, e1⟩
theorem back_long4 (a b e f : Int) (ha : M.okN a = true) (hb : M.okN b = true) (he : M.okN e = true) (hf : M.okN f = true) : BackP (a, b, e, f) (M.longL [a, b, e, f]) := by
  obtain ⟨a1, a2, a3, a4, a5⟩ := two_hex a ha
  obtain ⟨b1, b2, b3, b4, b5⟩ := two_hex b hb
  obtain ⟨e1, e2, e3, e4, e5⟩ := two_hex e he
  obtain ⟨f1, f2, f3, f4, f5⟩ := two_hex f hf
  refine back_hash _ (M.hxd (M.hi a)) [M.hxd (M.lo a), M.hxd (M.hi b), M.hxd (M.lo b), M.hxd (M.hi e), M.hxd (M.lo e), M.hxd (M.hi f), M.hxd (M.lo f)] (by simp [a4, a5, b4, b5, e4, e5, f4, f5]) (by simp) ?_
  unfold M.numX
  rw [if_pos (by simp [a2, a3, b2, b3, e2, e3, f2, f3])]
  simp only [List.length_cons, List.length_nil, Nat.zero_add, Nat.reduceAdd, Nat.reduceEqDiff, if_true, if_false]
  simp only [Prod.mk.injEq, and_true]
  exact ⟨a1, b1, e1, f1⟩
theorem even_hex (v : Int) (h : M.okN v = true) (he : M.hi v = M.lo v) : (M.hexNum [M.hxd (M.hi v), M.hxd (M.hi v)] : Int) = v := by
  have := (two_hex v h).1
  rw [← he] at this
  exact this
theorem back_short3 (a b e : Int) (ha : M.okN a = true) (hb : M.okN b = true) (he : M.okN e = true) (ea : M.hi a = M.lo a) (eb : M.hi b = M.lo b) (ee : M.hi e = M.lo e) : BackP (a, b, e, 255) (M.shortL [a, b, e]) := by
  obtain ⟨_, a2, _, a4, _⟩ := two_hex a ha
  obtain ⟨_, b2, _, b4, _⟩ := two_hex b hb
  obtain ⟨_, e2, _, e4, _⟩ := two_hex e he
  refine back_hash _ (M.hxd (M.hi a)) [M.hxd (M.hi b), M.hxd (M.hi e)] (by simp [a4, b4, e4]) (by simp) ?_
  unfold M.numX
  rw [if_pos (by simp [a2, b2, e2])]
  simp only [List.length_cons, List.length_nil, Nat.zero_add, Nat.reduceAdd, Nat.reduceEqDiff, if_true, if_false]
  simp only [Prod.mk.injEq, and_true]
  exact ⟨even_hex a ha ea, even_hex b hb eb, even_hex e he ee⟩
theorem back_short4 (a b e f : Int) (ha : M.okN a = true) (hb : M.okN b = true) (he : M.okN e = true) (hf : M.okN f = true) (ea : M.hi a = M.lo a) (eb : M.hi b = M.lo b) (ee : M.hi e = M.lo e) (ef : M.hi f = M.lo f) : BackP (a, b, e, f) (M.shortL [a, b, e, f]) := by
  obtain ⟨_, a2, _, a4, _⟩ := two_hex a ha
  obtain ⟨_, b2, _, b4, _⟩ := two_hex b hb
  obtain ⟨_, e2, _, e4, _⟩ := two_hex e he
  obtain ⟨_, f2, _, f4, _⟩ := two_hex f hf
  refine back_hash _ (M.hxd (M.hi a)) [M.hxd (M.hi b), M.hxd (M.hi e), M.hxd (M.hi f)] (by simp [a4, b4, e4, f4]) (by simp) ?_
  unfold M.numX
  rw [if_pos (by simp [a2, b2, e2, f2])]
  simp only [List.length_cons, List.length_nil, Nat.zero_add, Nat.reduceAdd, Nat.reduceEqDiff, if_true, if_false]
  simp only [Prod.mk.injEq, and_true]
  exact ⟨even_hex a ha ea, even_hex b hb eb, even_hex e he ee, even_hex f hf ef⟩
/-- Each spelling of a colour in range is one token, that colour. -/
theorem back_all (c : M.C4) (h1 : M.okN c.1 = true) (h2 : M.okN c.2.1 = true) (h3 : M.okN c.2.2.1 = true) (h4 : M.okN c.2.2.2 = true) (p : List UInt8) (hp : p ∈ M.spellC c) : BackP c p := by
  obtain ⟨a, b, e, f⟩ := c
  simp only at h1 h2 h3 h4
  unfold M.spellC at hp
  by_cases hf : f = 255
  · subst hf
    have hn : M.numsC (a, b, e, 255) = [a, b, e] := by unfold M.numsC; rw [if_pos rfl]
    rw [hn, if_pos (by simp [h1, h2, h3]), List.mem_append] at hp
    rcases hp with hp | hp
    · split at hp
      · rename_i hev
        simp only [M.evenL, List.all_cons, List.all_nil, Bool.and_eq_true, decide_eq_true_eq, and_true] at hev
        simp only [List.mem_cons, List.not_mem_nil, or_false] at hp
        rcases hp with rfl | rfl
        · exact back_short3 a b e h1 h2 h3 hev.1 hev.2.1 hev.2.2
        · exact back_long3 a b e h1 h2 h3
      · simp only [List.mem_cons, List.not_mem_nil, or_false] at hp
        subst hp
        exact back_long3 a b e h1 h2 h3
    · exact back_name _ p hp
  · have hn : M.numsC (a, b, e, f) = [a, b, e, f] := by unfold M.numsC; rw [if_neg hf]
    rw [hn, if_pos (by simp [h1, h2, h3, h4]), List.mem_append] at hp
    rcases hp with hp | hp
    · split at hp
      · rename_i hev
        simp only [M.evenL, List.all_cons, List.all_nil, Bool.and_eq_true, decide_eq_true_eq, and_true] at hev
        simp only [List.mem_cons, List.not_mem_nil, or_false] at hp
        rcases hp with rfl | rfl
        · exact back_short4 a b e f h1 h2 h3 h4 hev.1 hev.2.1 hev.2.2.1 hev.2.2.2
        · exact back_long4 a b e f h1 h2 h3 h4
      · simp only [List.mem_cons, List.not_mem_nil, or_false] at hp
        subst hp
        exact back_long4 a b e f h1 h2 h3 h4
    · exact back_name _ p hp
end Go.Proofs.YtilndlifmpbfnaaDoor
