/- Tokens of JSON as the reference finds them: Jlex, for any bytes. -/
import Derived.Test.YtakgkdgielkieaaDoorQR2
import Derived.Test.YtakgkdgielkieaaDoorQJ7
import Derived.Test.YtakgkdgielkieaaDoorQMath7
import Derived.Test.YtakgkdgielkieaaDoorRNext
import Derived.Deep.QuietTactic
import Derived.BigQuiet
namespace Go.Proofs.YtakgkdgielkieaaDoor
open Go.RowKit
set_option linter.unusedVariables false
set_option linter.unusedSimpArgs false

/-- The token under way: its three cells. -/
def TB (m : Nat) (w : World) (K P T : Int) : Prop := w.cell? ⟨m, 0, none⟩ = some (.int .i64 K) ∧ w.cell? ⟨m, 1, none⟩ = some (.int .i64 P) ∧ w.cell? ⟨m, 2, none⟩ = some (.int .i64 T) ∧ (w.frozen? ⟨m, 0, none⟩ = false ∧ w.frozen? ⟨m, 2, none⟩ = false) ∧ m < w.heap.size
theorem TB.set0 {m : Nat} {w : World} {K P T : Int} (h : TB m w K P T) (K' : Int) : TB m (w.setCell ⟨m, 0, none⟩ (.int .i64 K')) K' P T := by
  obtain ⟨h0, h1, h2, ⟨h3, h4⟩, h5⟩ := h
  refine ⟨World.cell?_setCell_same _ _ _ h0, ?_, ?_, ⟨by rw [World.frozen?_setCell]; exact h3, by rw [World.frozen?_setCell]; exact h4⟩, by rw [World.size_setCell]; exact h5⟩
  · rw [World.cell?_setCell_other _ _ _ _ (by simp)]; exact h1
  · rw [World.cell?_setCell_other _ _ _ _ (by simp)]; exact h2
theorem TB.set2 {m : Nat} {w : World} {K P T : Int} (h : TB m w K P T) (T' : Int) : TB m (w.setCell ⟨m, 2, none⟩ (.int .i64 T')) K P T' := by
  obtain ⟨h0, h1, h2, ⟨h3, h4⟩, h5⟩ := h
  refine ⟨?_, ?_, World.cell?_setCell_same _ _ _ h2, ⟨by rw [World.frozen?_setCell]; exact h3, by rw [World.frozen?_setCell]; exact h4⟩, by rw [World.size_setCell]; exact h5⟩
  · rw [World.cell?_setCell_other _ _ _ _ (by simp)]; exact h0
  · rw [World.cell?_setCell_other _ _ _ _ (by simp)]; exact h1
theorem TB.drewN {m : Nat} {w : World} {K P T : Int} (h : TB m w K P T) (q : Nat) : TB m (w.drewN q) K P T := h
theorem TB.keep {m : Nat} {w w' : World} {K P T : Int} (h : TB m w K P T) (hb : Below w.heap.size w w') : TB m w' K P T := by
  obtain ⟨h0, h1, h2, ⟨h3, h4⟩, h5⟩ := h
  exact ⟨(hb.cell (p := ⟨m, 0, none⟩) h5).trans h0, (hb.cell (p := ⟨m, 1, none⟩) h5).trans h1, (hb.cell (p := ⟨m, 2, none⟩) h5).trans h2, ⟨(hb.frozen (p := ⟨m, 0, none⟩) h5).trans h3, (hb.frozen (p := ⟨m, 2, none⟩) h5).trans h4⟩, Nat.lt_of_lt_of_le h5 hb.size⟩
theorem tb_new (w : World) (P : Int) : TB w.heap.size (w.alloc (.cells #[.int .i64 0, .int .i64 P, .int .i64 (-1)] 33)) 0 P (-1) := by
  refine ⟨by simp, by simp, by simp, ⟨by simp, by simp⟩, by simp⟩
theorem sgE_at (j : Nat) (h : j < (ByteArray.mk #[123, 125, 91, 93, 58, 44]).size) : (ByteArray.mk #[123, 125, 91, 93, 58, 44])[j]'h = M.sgn6.getD j 0 := by
  have h6 : j < 6 := h
  have : j = 0 ∨ j = 1 ∨ j = 2 ∨ j = 3 ∨ j = 4 ∨ j = 5 := by omega
  rcases this with rfl | rfl | rfl | rfl | rfl | rfl <;> rfl
theorem sgK_succ (c : UInt8) (k : Nat) : (M.sgn6.getD k 0 = c → M.sgK c (k + 1) = k + 1 ∧ ∀ i, M.sgT c i (k + 1) = (i : Int) + 1) ∧ (M.sgn6.getD k 0 ≠ c → M.sgK c (k + 1) = M.sgK c k ∧ ∀ i, M.sgT c i (k + 1) = M.sgT c i k) := by
  constructor
  · intro h; exact ⟨by simp only [M.sgK, if_pos h], fun i => by simp only [M.sgT, if_pos h]⟩
  · intro h; exact ⟨by simp only [M.sgK, if_neg h], fun i => by simp only [M.sgT, if_neg h]⟩
theorem wd_succ (s : List UInt8) (i K : Nat) (T : Int) (k : Nat) : (M.wOk s k = true → M.wK s K (k + 1) = 9 + k ∧ M.wT s i T (k + 1) = ((i + (M.wds k).length : Nat) : Int)) ∧ (M.wOk s k = false → M.wK s K (k + 1) = M.wK s K k ∧ M.wT s i T (k + 1) = M.wT s i T k) := by
  constructor
  · intro h; exact ⟨by simp only [M.wK, if_pos h], by simp only [M.wT, if_pos h]⟩
  · intro h; exact ⟨by simp only [M.wK, h]; rfl, by simp only [M.wT, h]; rfl⟩
theorem lexAt_blank (l : List UInt8) (pre : M.Toks) (i : Nat) (h : i < l.length) (hb : M.blB (l.getD i 0) = true) : lexAt l pre i = lexAt l pre (i + 1) := by
  unfold lexAt
  have e : l.drop i = l[i] :: l.drop (i + 1) := List.drop_eq_getElem_cons h
  have g : l.getD i 0 = l[i] := by simp [h]
  have hl : 1 ≤ M.lead (l.drop i) := by rw [e]; unfold M.lead; rw [← g, if_pos hb]; omega
  have := M.lexS_skip (l.drop i) i 1 hl
  rw [List.drop_drop] at this
  rw [this]
theorem lead_none (l : List UInt8) (i : Nat) (hb : M.blB (l.getD i 0) = false) : M.lead (l.drop i) = 0 := by
  have := (lead_at l i).2 hb
  omega
theorem lexAt_tok (l : List UInt8) (pre : M.Toks) (i k m : Nat) (h : i < l.length) (h0 : M.lead (l.drop i) = 0) (ht : M.tokL (l.drop i) = some (k, m)) :
    lexAt l pre i = lexAt l (pre ++ [(k, i, i + m)]) (i + m) := by
  rw [lexAt_in l pre i k m h h0 ht]
  unfold lexAt
  have e := M.lexS_skip (l.drop (i + m)) (i + m) (M.lead (l.drop (i + m))) (Nat.le_refl _)
  rw [List.drop_drop] at e
  rw [e]
def wblk : Obj := .cells #[.string ⟨#[116, 114, 117, 101]⟩, .string ⟨#[102, 97, 108, 115, 101]⟩, .string ⟨#[110, 117, 108, 108]⟩] 9
theorem wblk_cell (w : World) (k : Nat) (hk : k < 3) : (w.alloc wblk).cell? ⟨w.heap.size, k, none⟩ = some (.string (bytes (M.wds k))) := by
  unfold wblk
  rw [World.cell?_alloc_at _ _ _ _ rfl]
  have : k = 0 ∨ k = 1 ∨ k = 2 := by omega
  rcases this with rfl | rfl | rfl <;> rfl
/-- What the token that begins there comes to: the number of its kind and where it ends. -/
def TokR (l : List UInt8) (i : Nat) (K T : Int) : Prop := (∃ k m, M.tokL (l.drop i) = some (k, m) ∧ K = k ∧ T = ((i + m : Nat) : Int) ∧ 1 ≤ m ∧ i + m ≤ l.length ∧ k ≤ 11) ∨ (M.tokL (l.drop i) = none ∧ T = -1)
theorem tokR_text (l : List UInt8) (i : Nat) (h : i < l.length) (hc : l.getD i 0 = 34) : TokR l i 7 (jtI l (i + 1)) := by
  have ht : M.tokL (l.drop i) = (M.jtS (l.drop (i + 1))).map fun n => (7, n + 1) := by
    unfold M.tokL
    rw [M.drop_getD, Nat.add_zero, hc, if_neg (by decide), if_neg (by decide), if_neg (by decide), if_neg (by decide), if_neg (by decide), if_neg (by decide), if_pos rfl, List.drop_drop]
  unfold TokR jtI
  rw [ht]
  cases hj : M.jtS (l.drop (i + 1)) with
  | none => right; exact ⟨rfl, rfl⟩
  | some m =>
    left
    have := M.jtS_le _ m hj
    rw [List.length_drop] at this
    exact ⟨7, m + 1, rfl, rfl, by simp only; omega, by omega, by omega, by omega⟩
theorem tokR_num (l : List UInt8) (i : Nat) (h : i < l.length) (hc : l.getD i 0 = 45 ∨ M.dgB (l.getD i 0) = true) : TokR l i 8 (jnI (M.numL (l.drop i)) i) := by
  have hne : ∀ k : UInt8, M.dgB k = false → k ≠ 45 → l.getD i 0 ≠ k := by
    intro k hk h45 e
    rcases hc with h1 | h1
    · exact h45 (by rw [← e, h1])
    · rw [e, hk] at h1; exact absurd h1 (by simp)
  have ht : M.tokL (l.drop i) = (M.numL (l.drop i)).map fun n => (8, n) := by
    unfold M.tokL
    rw [M.drop_getD, Nat.add_zero, if_neg (hne 123 (by decide) (by decide)), if_neg (hne 125 (by decide) (by decide)), if_neg (hne 91 (by decide) (by decide)), if_neg (hne 93 (by decide) (by decide)), if_neg (hne 58 (by decide) (by decide)), if_neg (hne 44 (by decide) (by decide)),
      if_neg (hne 34 (by decide) (by decide)), if_neg (hne 116 (by decide) (by decide)), if_neg (hne 102 (by decide) (by decide)), if_neg (hne 110 (by decide) (by decide))]
  unfold TokR jnI
  rw [ht]
  cases hj : M.numL (l.drop i) with
  | none => right; exact ⟨rfl, rfl⟩
  | some m =>
    left
    have := M.numL_le _ m hj
    rw [List.length_drop] at this
    exact ⟨8, m, rfl, rfl, rfl, by omega, by omega, by omega⟩
theorem tokR_other (l : List UInt8) (i : Nat) (h : i < l.length) (h34 : l.getD i 0 ≠ 34) (h45 : l.getD i 0 ≠ 45) (hd : M.dgB (l.getD i 0) = false) :
    TokR l i (M.wK (l.drop i) (M.sgK (l.getD i 0) 6) 3 : Nat) (M.wT (l.drop i) i (M.sgT (l.getD i 0) i 6) 3) := by
  rcases M.tok_other (l.drop i) i (l.getD i 0) (by rw [M.drop_getD, Nat.add_zero]) h34 h45 hd with ⟨k, m, h1, h2, h3⟩ | ⟨h1, h2⟩
  · left
    have := M.tok_le (l.drop i) (by rw [List.length_drop]; omega) k m h1
    rw [List.length_drop] at this
    exact ⟨k, m, h1, by rw [h2], h3, by omega, by omega, by omega⟩
  · right; exact ⟨h1, h2⟩
end Go.Proofs.YtakgkdgielkieaaDoor
