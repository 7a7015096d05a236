/- Layouts: RenderFits, RenderHard: what their loops put together, plain. -/
import Derived.Test.YtehofomfblfhaaaYTx
import Derived.Test.YtehofomfblfhaaaYHard
import Derived.Test.YtehofomfblfhaaaMgWN
namespace Go.Proofs.Ytehofomfblfhaaa
open Go.RowKit
set_option linter.unusedVariables false
set_option linter.unusedSimpArgs false

/-- Documents without kids, as a forest. -/
def lfF : List Lf → Fo
  | [] => .nil
  | (k, f, s) :: r => .cons k f (bytes s) .nil (lfF r)
theorem lfF_len (l : List Lf) : (lfF l).len = l.length := by
  induction l with
  | nil => rfl
  | cons x r ih => obtain ⟨k, f, s⟩ := x; simp [lfF, Fo.len, ih]
theorem lfF_append (a b : List Lf) : lfF (a ++ b) = Fo.glue (lfF a) (lfF b) := by
  induction a with
  | nil => rfl
  | cons x r ih => obtain ⟨k, f, s⟩ := x; simp only [List.cons_append, lfF, Fo.glue, ih]
theorem lfF_at {w : World} {b : Nat} (l : List Lf) : ∀ off, (∀ x ∈ l, x.2.2.length ≤ 1000000) → (∀ j (hj : j < l.length), w.cell? ⟨b, off + j * 4, none⟩ = some (.int .i64 (l[j]).1) ∧ w.cell? ⟨b, off + j * 4 + 1, none⟩ = some (.int .i64 (l[j]).2.1) ∧ w.cell? ⟨b, off + j * 4 + 2, none⟩ = some (.string (bytes (l[j]).2.2)) ∧ w.cell? ⟨b, off + j * 4 + 3, none⟩ = some (.slice none 0 0)) → FoAt w (lfF l) b off := by
  induction l with
  | nil => intro off _ _; trivial
  | cons x r ih =>
    intro off hs hc
    obtain ⟨k, f, s⟩ := x
    obtain ⟨c0, c1, c2, c3⟩ := hc 0 (by simp)
    simp only [Nat.zero_mul, Nat.add_zero, List.getElem_cons_zero] at c0 c1 c2 c3
    have h0 := hs (k, f, s) (by simp)
    simp only at h0
    refine ⟨⟨by rw [bytes_size]; unfold maxLen; omega, c0, c1, c2, none, 0, c3, Nat.le_refl _, by decide, fun _ => rfl, fun h => by simp [Fo.len] at h⟩, ih (off + 4) (fun y hy => hs y (by simp [hy])) fun j hj => ?_⟩
    have := hc (j + 1) (by simp; omega)
    rw [show off + (j + 1) * 4 = off + 4 + j * 4 by omega] at this
    simpa using this
theorem lf_fos {w : World} {v : Value} {l : List Lf} (h : Ds w v l) (hnn : NNv v) (hs : ∀ x ∈ l, x.2.2.length ≤ 1000000) : FoS w v (lfF l) := by
  obtain ⟨a, cap, rfl, h1, h2, h3⟩ := ds_get h rfl
  refine ⟨a, cap, by rw [lfF_len], by rw [lfF_len]; exact h1, h2, fun e => by subst e; exact hnn _ _ rfl, fun h0 => ?_⟩
  rw [lfF_len] at h0
  obtain ⟨b, off, e, hb, -⟩ := h3 0 h0
  refine ⟨b, off, e, hb, lfF_at l off hs fun j hj => ?_⟩
  obtain ⟨b', off', e', -, hc⟩ := h3 j hj
  rw [e] at e'
  simp only [Option.some.injEq, Addr.mk.injEq, and_true] at e'
  obtain ⟨rfl, rfl⟩ := e'
  exact hc
theorem lfF_sz (l : List Lf) (M : Nat) (h : ∀ x ∈ l, x.2.2.length ≤ M) : FoSz (lfF l) ≤ l.length * (M + 1) := by
  induction l with
  | nil => simp [lfF, FoSz]
  | cons x r ih =>
    obtain ⟨k, f, s⟩ := x
    have h0 := h (k, f, s) (by simp)
    have := ih fun y hy => h y (by simp [hy])
    simp only [lfF, FoSz, bytes_size, List.length_cons, Nat.succ_mul]
    simp only at h0
    omega
theorem lfF_n (l : List Lf) : FoN (lfF l) = l.length := by
  induction l with
  | nil => rfl
  | cons x r ih => obtain ⟨k, f, s⟩ := x; simp only [lfF, FoN, ih, List.length_cons]; omega
/-- May be: texts, blanks, soft ones, hard ones. -/
def lfOk (x : Lf) : Prop := x.1 = 1 ∨ ((x.1 = 2 ∨ x.1 = 3 ∨ x.1 = 4) ∧ x.2.2 = [] ∧ x.2.1 = 0)
theorem lfF_right (l : List Lf) (d : Nat) (h : ∀ x ∈ l, lfOk x) : rightF (lfF l) d = true := by
  induction l with
  | nil => rfl
  | cons x r ih =>
    obtain ⟨k, f, s⟩ := x
    have h0 := h (k, f, s) (by simp)
    have h1 := ih fun y hy => h y (by simp [hy])
    simp only [lfF, rightF, h1, Bool.and_true]
    rcases h0 with h0 | ⟨h0, h2, h3⟩
    · simp only at h0; rw [if_pos h0]; simp [Fo.len]
    · simp only at h0 h2 h3
      subst h2 h3
      rw [if_neg (by omega), if_pos h0]
      simp [Fo.len, bytes]
/-- What RenderFits has put together after i words. -/
def fitD (k : Int) (ts : List Nat) : Nat → List Lf
  | 0 => []
  | i + 1 => fitD k ts i ++ (if 0 < i then [(k, 0, [])] else []) ++ [(1, (i : Int), List.replicate (ts.getD i 0) 120)]
def fitS (k : Int) (ts : List Nat) : Nat → List UInt8
  | 0 => []
  | i + 1 => fitS k ts i ++ (if 0 < i then gapK k else []) ++ List.replicate (ts.getD i 0) 120
def fitB (n : Nat) (ts : List Nat) : Nat → List UInt8
  | 0 => []
  | i + 1 => fitB n ts i ++ (if 0 < i then 10 :: List.replicate n 32 else []) ++ List.replicate (ts.getD i 0) 120
theorem fitL_glue (k : Int) (ts : List Nat) (t : Nat) : ∀ i, fitL k i (ts ++ [t]) = Fo.glue (fitL k i ts) (.cons k 0 ⟨#[]⟩ .nil (.cons 1 ((i + ts.length : Nat) : Int) (bytes (List.replicate t 120)) .nil .nil)) := by
  induction ts with
  | nil => intro i; rfl
  | cons u r ih =>
    intro i
    simp only [List.cons_append, fitL, Fo.glue, ih, List.length_cons]
    rw [show i + 1 + r.length = i + (r.length + 1) by omega]
theorem fitA_snoc (k : Int) (l : List Nat) (t : Nat) : fitA k (l ++ [t]) = Fo.glue (fitA k l) (lfF ((if 0 < l.length then [(k, 0, [])] else []) ++ [(1, (l.length : Int), List.replicate t 120)])) := by
  cases l with
  | nil => rfl
  | cons u r =>
    simp only [List.cons_append, fitA, Fo.glue, fitL_glue, List.length_cons]
    rw [if_pos (by omega), show 1 + r.length = r.length + 1 by omega]
    rfl
theorem fitD_is (k : Int) (ts : List Nat) : ∀ i, i ≤ ts.length → lfF (fitD k ts i) = fitA k (ts.take i) := by
  intro i
  induction i with
  | zero => intro _; rfl
  | succ i ih =>
    intro h
    have e : ts.take (i + 1) = ts.take i ++ [ts.getD i 0] := by
      rw [List.take_succ_eq_append_getElem (by omega)]
      simp [List.getD, List.getElem?_eq_getElem (show i < ts.length by omega)]
    rw [e, fitA_snoc, ← ih (by omega), List.length_take, Nat.min_eq_left (by omega), ← lfF_append]
    simp only [fitD, List.append_assoc]
theorem fitS_is (k : Int) (ts : List Nat) : ∀ i, i ≤ ts.length → fitS k ts i = (match ts.take i with | [] => [] | t :: r => List.replicate t 120 ++ flT k r) := by
  intro i
  induction i with
  | zero => intro _; rfl
  | succ i ih =>
    intro h
    have e : ts.take (i + 1) = ts.take i ++ [ts.getD i 0] := by
      rw [List.take_succ_eq_append_getElem (by omega)]
      simp [List.getD, List.getElem?_eq_getElem (show i < ts.length by omega)]
    rw [e]
    simp only [fitS]
    rw [ih (by omega)]
    have hl : (ts.take i).length = i := by rw [List.length_take]; omega
    cases hh : ts.take i with
    | nil =>
      rw [hh] at hl
      simp only [List.length_nil] at hl
      subst hl
      simp [flT]
    | cons t r =>
      rw [hh] at hl
      simp only [List.length_cons] at hl
      rw [if_pos (by omega)]
      simp [flT, List.append_assoc]
theorem fitB_is (n : Nat) (ts : List Nat) : ∀ i, i ≤ ts.length → fitB n ts i = (match ts.take i with | [] => [] | t :: r => List.replicate t 120 ++ brT n r) := by
  intro i
  induction i with
  | zero => intro _; rfl
  | succ i ih =>
    intro h
    have e : ts.take (i + 1) = ts.take i ++ [ts.getD i 0] := by
      rw [List.take_succ_eq_append_getElem (by omega)]
      simp [List.getD, List.getElem?_eq_getElem (show i < ts.length by omega)]
    rw [e]
    simp only [fitB]
    rw [ih (by omega)]
    have hl : (ts.take i).length = i := by rw [List.length_take]; omega
    cases hh : ts.take i with
    | nil =>
      rw [hh] at hl
      simp only [List.length_nil] at hl
      subst hl
      simp [brT]
    | cons t r =>
      rw [hh] at hl
      simp only [List.length_cons] at hl
      rw [if_pos (by omega)]
      simp [brT, List.append_assoc]
theorem fitD_ok (k : Int) (hk : k = 2 ∨ k = 3) (ts : List Nat) (hts : ∀ t ∈ ts, t ≤ 8) : ∀ i, (∀ x ∈ fitD k ts i, lfOk x ∧ x.2.2.length ≤ 8) ∧ (fitD k ts i).length ≤ 2 * i := by
  have hg : ∀ i, ts.getD i 0 ≤ 8 := fun i => by
    by_cases h : i < ts.length
    · simp only [List.getD, List.getElem?_eq_getElem h, Option.getD_some]; exact hts _ (List.getElem_mem h)
    · simp [List.getD, List.getElem?_eq_none (show ts.length ≤ i by omega)]
  intro i
  induction i with
  | zero => exact ⟨fun x hx => by simp [fitD] at hx, by simp [fitD]⟩
  | succ i ih =>
    refine ⟨fun x hx => ?_, ?_⟩
    · simp only [fitD, List.mem_append, List.mem_singleton] at hx
      rcases hx with (hx | hx) | rfl
      · exact ih.1 x hx
      · split at hx
        · rw [List.mem_singleton.1 hx]; exact ⟨.inr ⟨by simp only; omega, rfl, rfl⟩, by simp⟩
        · simp at hx
      · exact ⟨.inl rfl, by simp only [List.length_replicate]; exact hg i⟩
    · simp only [fitD, List.length_append, List.length_singleton]
      have := ih.2
      split <;> simp <;> omega
theorem fitS_len (k : Int) (ts : List Nat) (hts : ∀ t ∈ ts, t ≤ 8) : ∀ i, (fitS k ts i).length ≤ 9 * i := by
  have hg : ∀ i, ts.getD i 0 ≤ 8 := fun i => by
    by_cases h : i < ts.length
    · simp only [List.getD, List.getElem?_eq_getElem h, Option.getD_some]; exact hts _ (List.getElem_mem h)
    · simp [List.getD, List.getElem?_eq_none (show ts.length ≤ i by omega)]
  have hk : (gapK k).length ≤ 1 := by unfold gapK; split <;> simp
  intro i
  induction i with
  | zero => simp [fitS]
  | succ i ih =>
    have := hg i
    simp only [fitS, List.length_append, List.length_replicate]
    split
    · omega
    · simp only [List.length_nil]; omega
theorem fitB_len (n : Nat) (ts : List Nat) (hts : ∀ t ∈ ts, t ≤ 8) : ∀ i, (fitB n ts i).length ≤ (9 + n) * i := by
  have hg : ∀ i, ts.getD i 0 ≤ 8 := fun i => by
    by_cases h : i < ts.length
    · simp only [List.getD, List.getElem?_eq_getElem h, Option.getD_some]; exact hts _ (List.getElem_mem h)
    · simp [List.getD, List.getElem?_eq_none (show ts.length ≤ i by omega)]
  intro i
  induction i with
  | zero => simp [fitB]
  | succ i ih =>
    have := hg i
    simp only [fitB, List.length_append, List.length_replicate, Nat.mul_succ]
    split
    · simp only [List.length_cons, List.length_replicate]; omega
    · simp only [List.length_nil]; omega
end Go.Proofs.Ytehofomfblfhaaa
