/- Several texts of ours in one: YFitP YFitW YKidV YHardP YHardW YLinP YLinW. -/
import Derived.Test.YtehofomfblfhaaaYTx
import Derived.Test.YtehofomfblfhaaaYHard
import Derived.Test.YtehofomfblfhaaaMgWN
import Derived.Test.YtehofomfblfhaaaYSeg
/- Layouts: RenderFits, RenderHard: what their loops put together, plain. -/
namespace Go.Proofs.Ytehofomfblfhaaa
open Go.RowKit
set_option linter.unusedVariables false
set_option linter.unusedSimpArgs false

/-- Documents without kids, as a forest. -/
def lfF : List Lf → Fo
  | [] => .nil
  | (k, f, s) :: r => .cons k f (bytes s) .nil (lfF r)
theorem lfF_len (l : List Lf) : (lfF l).len = l.length := by
  induction l with
  | nil => rfl
  | cons x r ih => obtain ⟨k, f, s⟩ := x; simp [lfF, Fo.len, ih]
theorem lfF_append (a b : List Lf) : lfF (a ++ b) = Fo.glue (lfF a) (lfF b) := by
  induction a with
  | nil => rfl
  | cons x r ih => obtain ⟨k, f, s⟩ := x; simp only [List.cons_append, lfF, Fo.glue, ih]
theorem lfF_at {w : World} {b : Nat} (l : List Lf) : ∀ off, (∀ x ∈ l, x.2.2.length ≤ 1000000) → (∀ j (hj : j < l.length), w.cell? ⟨b, off + j * 4, none⟩ = some (.int .i64 (l[j]).1) ∧ w.cell? ⟨b, off + j * 4 + 1, none⟩ = some (.int .i64 (l[j]).2.1) ∧ w.cell? ⟨b, off + j * 4 + 2, none⟩ = some (.string (bytes (l[j]).2.2)) ∧ w.cell? ⟨b, off + j * 4 + 3, none⟩ = some (.slice none 0 0)) → FoAt w (lfF l) b off := by
  induction l with
  | nil => intro off _ _; trivial
  | cons x r ih =>
    intro off hs hc
    obtain ⟨k, f, s⟩ := x
    obtain ⟨c0, c1, c2, c3⟩ := hc 0 (by simp)
    simp only [Nat.zero_mul, Nat.add_zero, List.getElem_cons_zero] at c0 c1 c2 c3
    have h0 := hs (k, f, s) (by simp)
    simp only at h0
    refine ⟨⟨by rw [bytes_size]; unfold maxLen; omega, c0, c1, c2, none, 0, c3, Nat.le_refl _, by decide, fun _ => rfl, fun h => by simp [Fo.len] at h⟩, ih (off + 4) (fun y hy => hs y (by simp [hy])) fun j hj => ?_⟩
    have := hc (j + 1) (by simp; omega)
    rw [show off + (j + 1) * 4 = off + 4 + j * 4 by omega] at this
    simpa using this
theorem lf_fos {w : World} {v : Value} {l : List Lf} (h : Ds w v l) (hnn : NNv v) (hs : ∀ x ∈ l, x.2.2.length ≤ 1000000) : FoS w v (lfF l) := by
  obtain ⟨a, cap, rfl, h1, h2, h3⟩ := ds_get h rfl
  refine ⟨a, cap, by rw [lfF_len], by rw [lfF_len]; exact h1, h2, fun e => by subst e; exact hnn _ _ rfl, fun h0 => ?_⟩
  rw [lfF_len] at h0
  obtain ⟨b, off, e, hb, -⟩ := h3 0 h0
  refine ⟨b, off, e, hb, lfF_at l off hs fun j hj => ?_⟩
  obtain ⟨b', off', e', -, hc⟩ := h3 j hj
  rw [e] at e'
  simp only [Option.some.injEq, Addr.mk.injEq, and_true] at e'
  obtain ⟨rfl, rfl⟩ := e'
  exact hc
theorem lfF_sz (l : List Lf) (M : Nat) (h : ∀ x ∈ l, x.2.2.length ≤ M) : FoSz (lfF l) ≤ l.length * (M + 1) := by
  induction l with
  | nil => simp [lfF, FoSz]
  | cons x r ih =>
    obtain ⟨k, f, s⟩ := x
    have h0 := h (k, f, s) (by simp)
    have := ih fun y hy => h y (by simp [hy])
    simp only [lfF, FoSz, bytes_size, List.length_cons, Nat.succ_mul]
    simp only at h0
    omega
theorem lfF_n (l : List Lf) : FoN (lfF l) = l.length := by
  induction l with
  | nil => rfl
  | cons x r ih => obtain ⟨k, f, s⟩ := x; simp only [lfF, FoN, ih, List.length_cons]; omega
/-- May be: texts, blanks, soft ones, hard ones. -/
def lfOk (x : Lf) : Prop := x.1 = 1 ∨ ((x.1 = 2 ∨ x.1 = 3 ∨ x.1 = 4) ∧ x.2.2 = [] ∧ x.2.1 = 0)
theorem lfF_right (l : List Lf) (d : Nat) (h : ∀ x ∈ l, lfOk x) : rightF (lfF l) d = true := by
  induction l with
  | nil => rfl
  | cons x r ih =>
    obtain ⟨k, f, s⟩ := x
    have h0 := h (k, f, s) (by simp)
    have h1 := ih fun y hy => h y (by simp [hy])
    simp only [lfF, rightF, h1, Bool.and_true]
    rcases h0 with h0 | ⟨h0, h2, h3⟩
    · simp only at h0; rw [if_pos h0]; simp [Fo.len]
    · simp only at h0 h2 h3
      subst h2 h3
      rw [if_neg (by omega), if_pos h0]
      simp [Fo.len, bytes]
/-- What RenderFits has put together after i words. -/
def fitD (k : Int) (ts : List Nat) : Nat → List Lf
  | 0 => []
  | i + 1 => fitD k ts i ++ (if 0 < i then [(k, 0, [])] else []) ++ [(1, (i : Int), List.replicate (ts.getD i 0) 120)]
def fitS (k : Int) (ts : List Nat) : Nat → List UInt8
  | 0 => []
  | i + 1 => fitS k ts i ++ (if 0 < i then gapK k else []) ++ List.replicate (ts.getD i 0) 120
def fitB (n : Nat) (ts : List Nat) : Nat → List UInt8
  | 0 => []
  | i + 1 => fitB n ts i ++ (if 0 < i then 10 :: List.replicate n 32 else []) ++ List.replicate (ts.getD i 0) 120
theorem fitL_glue (k : Int) (ts : List Nat) (t : Nat) : ∀ i, fitL k i (ts ++ [t]) = Fo.glue (fitL k i ts) (.cons k 0 ⟨#[]⟩ .nil (.cons 1 ((i + ts.length : Nat) : Int) (bytes (List.replicate t 120)) .nil .nil)) := by
  induction ts with
  | nil => intro i; rfl
  | cons u r ih =>
    intro i
    simp only [List.cons_append, fitL, Fo.glue, ih, List.length_cons]
    rw [show i + 1 + r.length = i + (r.length + 1) by omega]
theorem fitA_snoc (k : Int) (l : List Nat) (t : Nat) : fitA k (l ++ [t]) = Fo.glue (fitA k l) (lfF ((if 0 < l.length then [(k, 0, [])] else []) ++ [(1, (l.length : Int), List.replicate t 120)])) := by
  cases l with
  | nil => rfl
  | cons u r =>
    simp only [List.cons_append, fitA, Fo.glue, fitL_glue, List.length_cons]
    rw [if_pos (by omega), show 1 + r.length = r.length + 1 by omega]
    rfl
theorem fitD_is (k : Int) (ts : List Nat) : ∀ i, i ≤ ts.length → lfF (fitD k ts i) = fitA k (ts.take i) := by
  intro i
  induction i with
  | zero => intro _; rfl
  | succ i ih =>
    intro h
    have e : ts.take (i + 1) = ts.take i ++ [ts.getD i 0] := by
      rw [List.take_succ_eq_append_getElem (by omega)]
      simp [List.getD, List.getElem?_eq_getElem (show i < ts.length by omega)]
    rw [e, fitA_snoc, ← ih (by omega), List.length_take, Nat.min_eq_left (by omega), ← lfF_append]
    simp only [fitD, List.append_assoc]
theorem fitS_is (k : Int) (ts : List Nat) : ∀ i, i ≤ ts.length → fitS k ts i = (match ts.take i with | [] => [] | t :: r => List.replicate t 120 ++ flT k r) := by
  intro i
  induction i with
  | zero => intro _; rfl
  | succ i ih =>
    intro h
    have e : ts.take (i + 1) = ts.take i ++ [ts.getD i 0] := by
      rw [List.take_succ_eq_append_getElem (by omega)]
      simp [List.getD, List.getElem?_eq_getElem (show i < ts.length by omega)]
    rw [e]
    simp only [fitS]
    rw [ih (by omega)]
    have hl : (ts.take i).length = i := by rw [List.length_take]; omega
    cases hh : ts.take i with
    | nil =>
      rw [hh] at hl
      simp only [List.length_nil] at hl
      subst hl
      simp [flT]
    | cons t r =>
      rw [hh] at hl
      simp only [List.length_cons] at hl
      rw [if_pos (by omega)]
      simp [flT, List.append_assoc]
theorem fitB_is (n : Nat) (ts : List Nat) : ∀ i, i ≤ ts.length → fitB n ts i = (match ts.take i with | [] => [] | t :: r => List.replicate t 120 ++ brT n r) := by
  intro i
  induction i with
  | zero => intro _; rfl
  | succ i ih =>
    intro h
    have e : ts.take (i + 1) = ts.take i ++ [ts.getD i 0] := by
      rw [List.take_succ_eq_append_getElem (by omega)]
      simp [List.getD, List.getElem?_eq_getElem (show i < ts.length by omega)]
    rw [e]
    simp only [fitB]
    rw [ih (by omega)]
    have hl : (ts.take i).length = i := by rw [List.length_take]; omega
    cases hh : ts.take i with
    | nil =>
      rw [hh] at hl
      simp only [List.length_nil] at hl
      subst hl
      simp [brT]
    | cons t r =>
      rw [hh] at hl
      simp only [List.length_cons] at hl
      rw [if_pos (by omega)]
      simp [brT, List.append_assoc]
theorem fitD_ok (k : Int) (hk : k = 2 ∨ k = 3) (ts : List Nat) (hts : ∀ t ∈ ts, t ≤ 8) : ∀ i, (∀ x ∈ fitD k ts i, lfOk x ∧ x.2.2.length ≤ 8) ∧ (fitD k ts i).length ≤ 2 * i := by
  have hg : ∀ i, ts.getD i 0 ≤ 8 := fun i => by
    by_cases h : i < ts.length
    · simp only [List.getD, List.getElem?_eq_getElem h, Option.getD_some]; exact hts _ (List.getElem_mem h)
    · simp [List.getD, List.getElem?_eq_none (show ts.length ≤ i by omega)]
  intro i
  induction i with
  | zero => exact ⟨fun x hx => by simp [fitD] at hx, by simp [fitD]⟩
  | succ i ih =>
    refine ⟨fun x hx => ?_, ?_⟩
    · simp only [fitD, List.mem_append, List.mem_singleton] at hx
      rcases hx with (hx | hx) | rfl
      · exact ih.1 x hx
      · split at hx
        · rw [List.mem_singleton.1 hx]; exact ⟨.inr ⟨by simp only; omega, rfl, rfl⟩, by simp⟩
        · simp at hx
      · exact ⟨.inl rfl, by simp only [List.length_replicate]; exact hg i⟩
    · simp only [fitD, List.length_append, List.length_singleton]
      have := ih.2
      split <;> simp <;> omega
theorem fitS_len (k : Int) (ts : List Nat) (hts : ∀ t ∈ ts, t ≤ 8) : ∀ i, (fitS k ts i).length ≤ 9 * i := by
  have hg : ∀ i, ts.getD i 0 ≤ 8 := fun i => by
    by_cases h : i < ts.length
    · simp only [List.getD, List.getElem?_eq_getElem h, Option.getD_some]; exact hts _ (List.getElem_mem h)
    · simp [List.getD, List.getElem?_eq_none (show ts.length ≤ i by omega)]
  have hk : (gapK k).length ≤ 1 := by unfold gapK; split <;> simp
  intro i
  induction i with
  | zero => simp [fitS]
  | succ i ih =>
    have := hg i
    simp only [fitS, List.length_append, List.length_replicate]
    split
    · omega
    · simp only [List.length_nil]; omega
theorem fitB_len (n : Nat) (ts : List Nat) (hts : ∀ t ∈ ts, t ≤ 8) : ∀ i, (fitB n ts i).length ≤ (9 + n) * i := by
  have hg : ∀ i, ts.getD i 0 ≤ 8 := fun i => by
    by_cases h : i < ts.length
    · simp only [List.getD, List.getElem?_eq_getElem h, Option.getD_some]; exact hts _ (List.getElem_mem h)
    · simp [List.getD, List.getElem?_eq_none (show ts.length ≤ i by omega)]
  intro i
  induction i with
  | zero => simp [fitB]
  | succ i ih =>
    have := hg i
    simp only [fitB, List.length_append, List.length_replicate, Nat.mul_succ]
    split
    · simp only [List.length_cons, List.length_replicate]; omega
    · simp only [List.length_nil]; omega
end Go.Proofs.Ytehofomfblfhaaa

/- Layouts: RenderFits' walk. -/
namespace Go.Proofs.Ytehofomfblfhaaa
open Go.RowKit
set_option linter.unusedVariables false
set_option linter.unusedSimpArgs false

theorem and7_any (z : Int) : ∃ a : Nat, bits .and .i64 z 7 = (a : Int) ∧ a < 8 := by
  refine ⟨(BitVec.ofInt 64 z &&& BitVec.ofInt 64 7).toNat, ?_, ?_⟩
  · have h : (BitVec.ofInt 64 z &&& BitVec.ofInt 64 7).toNat ≤ 7 := by
      rw [BitVec.toNat_and]
      exact Nat.le_trans Nat.and_le_right (by decide)
    show IntKind.i64.wrap ((BitVec.ofInt 64 z &&& BitVec.ofInt 64 7).toNat : Int) = _
    rw [IntKind.wrap_i64]
    omega
  · rw [BitVec.toNat_and]
    exact Nat.lt_of_le_of_lt Nat.and_le_right (by decide)
def lowS (z : Int) : Nat := (bits .and .i64 z 7).toNat
theorem lowS_is (z : Int) : bits .and .i64 z 7 = (lowS z : Int) ∧ lowS z < 8 := by
  obtain ⟨a, h1, h2⟩ := and7_any z
  unfold lowS
  rw [h1]
  exact ⟨by simp, by simpa using h2⟩
theorem xcut : ∀ t : Fin 10, (ByteArray.mk #[120, 120, 120, 120, 120, 120, 120, 120, 120]).extract 0 t.val = bytes (List.replicate t.val 120) := by decide +kernel
theorem bcut : ∀ t : Fin 17, (ByteArray.mk #[32, 32, 32, 32, 32, 32, 32, 32, 32, 32, 32, 32, 32, 32, 32, 32]).extract 0 t.val = bytes (List.replicate t.val 32) := by decide +kernel
theorem one_lf (w : World) (x : Lf) : Vs 4 (w.alloc (.cells #[.int .i64 x.1, .int .i64 x.2.1, .string (bytes x.2.2), .slice none 0 0] 24)) (.slice (some ⟨w.heap.size, 0, none⟩) 1 1) ([x].map lfv) := vs_cells 4 24 w ([x].map lfv) _ 1 rfl (lfv_four _) rfl (by simp)
theorem wpl_lf {w : World} {ops : Array Oper} {rest : List Oper} {o : Oper} {a : Act} {Q : Exit → Act → World → Prop} (hgd : o.guard = none) (s x : Operand)
    (ho : o.op = .call { callee := .builtin .append, args := #[s, x], argTypes := #[22, 22] })
    (B : Nat) (v u : Value) (l : List Lf) (p : Lf) (hs : a.eval s = v) (hown : OwnD B w v l) (hx : a.eval x = u) (hu : Vs 4 w u ([p].map lfv)) (hnn : NNv u) (hlen : l.length ≤ 1000000) (hB : B ≤ w.heap.size)
    (h : ∀ v' w', OwnD B w' v' (l ++ [p]) → Below B w w' → wpList Try.prog ops Q rest (a.put o.dst v') w') : wpList Try.prog ops Q (o :: rest) a w :=
  wpl_appendV hgd s x ho Try.underlying22 infoD rfl (by decide) B v u (l.map lfv) ([p].map lfv) ((l ++ [p]).map lfv) hs hown hx hu hnn (lfv_four _) (lfv_one _) (by rw [List.length_map, List.length_map]; simp only [List.length_singleton]; omega) (by decide) hB (by simp) h
theorem fits_ren (wn ind : Nat) (k : Int) (hk : k = 2 ∨ k = 3) (ts : List Nat) (ht : ∀ t ∈ ts, t ≤ 8) (i : Nat) (hi : ts.length = i) (h1 : 1 ≤ i) :
    ptext (renP 6 0 ⟨#[]⟩ (Fo.one 7 0 ⟨#[]⟩ (lfF (fitD k ts i))) wn ind) = if (fitS k ts i).length ≤ wn then fitS k ts i else fitB ind ts i := by
  have hok := fitD_ok k hk ts ht i
  have e1 := fitD_is k ts i (by omega)
  have e2 := fitS_is k ts i (by omega)
  have e3 := fitB_is ind ts i (by omega)
  have e : ts.take i = ts := by rw [← hi]; exact List.take_length
  rw [e] at e1 e2 e3
  have hr : rightD 6 0 ⟨#[]⟩ (Fo.one 7 0 ⟨#[]⟩ (lfF (fitD k ts i))) 200 = true := by
    rw [rightD_is, if_neg (by decide), if_neg (by decide), if_pos (by decide), rightF_one, rightD_is, if_neg (by decide), if_neg (by decide), if_pos (by decide), lfF_right _ _ (fun x hx => (hok.1 x hx).1)]
    decide
  unfold renP
  rw [if_pos hr]
  cases ts with
  | nil => simp at hi; omega
  | cons t r =>
    simp only at e2 e3
    rw [e1, e2, e3]
    exact fits_plain wn ind k hk t r
theorem cap_same (z : Nat) (a b : Int) (h1 : a ≤ z) (h2 : (z : Int) ≤ b) : capZ z a b = (z : Int) := by
  unfold capZ
  repeat' split
  all_goals omega
set_option maxRecDepth 100000 in
set_option maxHeartbeats 8000000 in
theorem rfits_T (a0 : Option Addr) (len0 cap0 : Nat) (z0 : List Int) (x1 x2 : Int) (w : World) (w0 : RowI w a0 len0 cap0 z0) {P1 P2 : Prop} (m1 : P1) (m2 : P2) :
    Calls Try.prog 4 #[.slice a0 len0 cap0, .int .i64 x1, .int .i64 x2, .bool true] w fun e w' => e = .returned (.bool true) ∧ Below w.heap.size w w' := by
  obtain ⟨zs, hl, b0, n0⟩ := row_is w0
  clear w0 n0 m1 m2
  have al := Lib.hid (alive_c w)
  have early : ∀ (P : Prop), True := fun _ => trivial
  by_cases hc : 1 ≤ len0 ∧ len0 ≤ 30 ∧ 1 ≤ x1 ∧ x1 ≤ 200 ∧ 0 ≤ x2 ∧ x2 ≤ 16
  case neg =>
    have hh : (len0 : Int) < 1 ∨ (¬ (len0 : Int) < 1 ∧ 30 < (len0 : Int)) ∨ (¬ (len0 : Int) < 1 ∧ ¬ 30 < (len0 : Int) ∧ x1 < 1) ∨ (¬ (len0 : Int) < 1 ∧ ¬ 30 < (len0 : Int) ∧ ¬ x1 < 1 ∧ 200 < x1) ∨ (¬ (len0 : Int) < 1 ∧ ¬ 30 < (len0 : Int) ∧ ¬ x1 < 1 ∧ ¬ 200 < x1 ∧ x2 < 0) ∨ (¬ (len0 : Int) < 1 ∧ ¬ 30 < (len0 : Int) ∧ ¬ x1 < 1 ∧ ¬ 200 < x1 ∧ ¬ x2 < 0 ∧ 16 < x2) := by omega
    clear hc b0 hl early
    rcases hh with h1 | ⟨h1, h2⟩ | ⟨h1, h2, h3⟩ | ⟨h1, h2, h3, h4⟩ | ⟨h1, h2, h3, h4, h5⟩ | ⟨h1, h2, h3, h4, h5, h6⟩
    all_goals (
      go_enter Try.func4, Try.ntmps4
      go_wp2_with fail
      refine al.out.mono ?_
      rintro e w1 ⟨rfl, hb⟩
      have HB := Lib.hid hb
      clear hb
      go_wp2
      go_ret
      exact ⟨rfl, HB.out⟩)
  obtain ⟨q1, q2, q3, q4, q5, q6⟩ := hc
  obtain ⟨wn, rfl⟩ : ∃ k : Nat, x1 = (k : Int) := ⟨x1.toNat, by omega⟩
  obtain ⟨ind, rfl⟩ : ∃ k : Nat, x2 = (k : Int) := ⟨x2.toNat, by omega⟩
  have p1 : ¬ (len0 : Int) < 1 := by omega
  have p2 : ¬ 30 < (len0 : Int) := by omega
  have p3 : ¬ (wn : Int) < 1 := by omega
  have p4 : ¬ 200 < (wn : Int) := by omega
  have p6 : ¬ 16 < (ind : Int) := by omega
  have p5 : ¬ (ind : Int) < 0 := by omega
  obtain ⟨ts, hts⟩ : ∃ ts, zs.map (fun z => 1 + lowS z) = ts := ⟨_, rfl⟩
  have htl : ts.length = len0 := by rw [← hts, List.length_map, hl]
  have ht8 : ∀ t ∈ ts, t ≤ 8 := by
    intro t ht
    rw [← hts] at ht
    obtain ⟨z, -, rfl⟩ := List.mem_map.1 ht
    have := (lowS_is z).2
    omega
  have htg : ∀ j (hj : j < zs.length), ts.getD j 0 = 1 + lowS zs[j] := by
    intro j hj
    rw [← hts]
    simp [List.getD, List.getElem?_eq_getElem hj]
  have hbc := bcut ⟨ind, by omega⟩
  simp only at hbc
  obtain ⟨a1, cap1, he, k1, k2, k3⟩ := b0
  simp only [Value.slice.injEq] at he
  obtain ⟨rfl, hq, rfl⟩ := he
  clear hq
  have K3 := Lib.hid k3
  have HL := Lib.hid hl
  have HTG := Lib.hid htg
  have HT8 := Lib.hid ht8
  have HTL := Lib.hid htl
  clear k3 hl hts htg ht8 htl k1 early
  go_enter Try.func4, Try.ntmps4
  go_wp2_with fail
  refine al.out.mono ?_
  rintro e w1 ⟨rfl, hb⟩
  have HB1 := Lib.hid hb
  clear hb
  go_upto_region 13 with fail
  obtain ⟨IB, hIB⟩ : ∃ x, bytes (List.replicate ind 32) = x := ⟨_, rfl⟩
  have hIBz : IB.size = ind := by rw [← hIB, bytes_size, List.length_replicate]
  rw [hIB]
  have HIB := Lib.hid hIB
  have b2 : Below w1.heap.size w1 (w1.alloc (.cells #[] 24)) := (Below.refl _ _).alloc (Nat.le_refl _) _
  have ho : OwnD w1.heap.size (w1.alloc (.cells #[] 24)) (.slice (some ⟨w1.heap.size, 0, none⟩) 0 0) [] := ⟨World.ownsRow_made w1 #[] 0 (Nat.le_refl _) (Nat.zero_le _) rfl, by simp, by simp⟩
  obtain ⟨W2, hW2⟩ : ∃ x, w1.alloc (.cells #[] 24) = x := ⟨_, rfl⟩
  rw [hW2] at b2 ho ⊢
  have HO2 := Lib.hid ho
  have B2 := Lib.hid b2
  clear hW2 b2 ho hIB hbc
  go_upto_region 14 with fail
  go_loopw [12, 13, 14, 16] (fun dv fv bv iv wr => ∃ i : Nat, iv = .int .i64 (i : Int) ∧ i ≤ len0 ∧ OwnD w1.heap.size wr dv (fitD 3 ts i) ∧ fv = .string (bytes (fitS 3 ts i)) ∧ bv = .string (bytes (fitB ind ts i)) ∧ Below w1.heap.size w1 wr) (fun _ _ _ iv _ => len0 - (intOf iv).toNat)
  case atStart => exact ⟨0, rfl, by omega, HO2.out, rfl, rfl, B2.out⟩
  case round =>
    obtain ⟨i, rfl, hi, ho, rfl, rfl, hb⟩ := hrel
    have HBR := Lib.hid (HB1.out.trans (hb.mono HB1.out.size))
    have HB := Lib.hid hb
    have HO := Lib.hid ho
    have hsl := fitS_len 3 ts HT8.out
    have hbl := fitB_len ind ts HT8.out
    have hdl := (fitD_ok 3 (by decide) ts HT8.out i).2
    have hsi := hsl i
    have hbi := hbl i
    clear hb ho
    by_cases hlt : i < len0
    · have hil : i < zs.length := by rw [HL.out]; exact hlt
      obtain ⟨b, off, rfl, hbk, hcc⟩ := K3.out (by omega)
      have c0 := (HBR.out.cell (p := ⟨b, off + i, none⟩) hbk).trans (hcc i hil)
      obtain ⟨z, hz⟩ : ∃ z, zs[i] = z := ⟨_, rfl⟩
      have htg := HTG.out i hil
      rw [hz] at c0 htg
      obtain ⟨e7, l7⟩ := lowS_is z
      obtain ⟨t, ht⟩ : ∃ t, 1 + lowS z = t := ⟨_, rfl⟩
      rw [ht] at htg
      obtain ⟨lo, hlo⟩ : ∃ lo : Int, (lowS z : Int) = lo := ⟨_, rfl⟩
      rw [hlo] at e7
      have e8 : (1 : Int) + lo = (t : Int) := by omega
      have lo0 : 0 ≤ lo := by omega
      have lo1 : lo < 8 := by omega
      have hxc := xcut ⟨t, by omega⟩
      simp only at hxc
      obtain ⟨TX, hTX⟩ : ∃ x, bytes (List.replicate t 120) = x := ⟨_, rfl⟩
      have hTXz : TX.size = t := by rw [← hTX, bytes_size, List.length_replicate]
      rw [hTX] at hxc
      have hwz : wr.heap.size ≥ w1.heap.size := HB.out.size
      obtain ⟨F, hF⟩ : ∃ x, bytes (fitS 3 ts i) = x := ⟨_, rfl⟩
      obtain ⟨R, hR⟩ : ∃ x, bytes (fitB ind ts i) = x := ⟨_, rfl⟩
      obtain ⟨F1, hF1⟩ : ∃ x, bytes (fitS 3 ts (i + 1)) = x := ⟨_, rfl⟩
      obtain ⟨R1, hR1⟩ : ∃ x, bytes (fitB ind ts (i + 1)) = x := ⟨_, rfl⟩
      have hFz : F.size ≤ 1000 := by rw [← hF, bytes_size]; omega
      have hRz : R.size ≤ 1000 := by
        rw [← hR, bytes_size]
        have : (9 + ind) * i ≤ 25 * 30 := Nat.mul_le_mul (by omega) (by omega)
        omega
      have HF1 := Lib.hid hF1
      have HR1 := Lib.hid hR1
      have j1 : (i : Int) < len0 := by omega
      rw [hF, hR]
      rcases Nat.eq_zero_or_pos i with h0 | h0
      · subst h0
        rw [Nat.add_zero] at c0
        have a2 : ∀ W, (Op.stringOp .add F TX).run Try.prog W = .ok (.string F1) W := fun W => by
          have e : F1 = F ++ TX := by
            rw [← hF1, ← hF, ← hTX, bytes_app]; simp only [fitS]; rw [if_neg (by omega), htg]; simp
          rw [e]; exact run_string_add W _ _ (by omega) (by omega)
        have b3 : ∀ W, (Op.stringOp .add R TX).run Try.prog W = .ok (.string R1) W := fun W => by
          have e : R1 = R ++ TX := by
            rw [← hR1, ← hR, ← hTX, bytes_app]; simp only [fitB]; rw [if_neg (by omega), htg]; simp
          rw [e]; exact run_string_add W _ _ (by omega) (by omega)
        have NX : Hid (fitD 3 ts 1 = [] ++ [(1, ((0 : Nat) : Int), List.replicate t 120)]) := Lib.hid (by simp only [fitD]; rw [htg]; rfl)
        have HTX := Lib.hid hTX
        clear hz htg ht hlo hTX hF hR hF1 hR1 hcc l7 hsl hbl hsi hbi hFz hRz hdl
        have HX : Hid (Vs 4 (wr.alloc (.cells #[.int .i64 1, .int .i64 ((0 : Nat) : Int), .string TX, .slice none 0 0] 24)) (.slice (some ⟨wr.heap.size, 0, none⟩) 1 1) ([((1 : Int), ((0 : Nat) : Int), List.replicate t 120)].map lfv)) := Lib.hid (by rw [← HTX.out]; exact one_lf wr (1, ((0 : Nat) : Int), List.replicate t 120))
        go_wp2_with (at_builtin; refine wpl_lf rfl _ _ rfl w1.heap.size _ _ [] (1, ((0 : Nat) : Int), List.replicate t 120) rfl ?_ rfl ?_ (nnv_some _ _ _) (by simp) ?_ ?_)
        · exact OwnV.keep HO.out ((Below.refl _ _).alloc (Nat.le_refl _) _)
        · exact HX.out
        · rw [World.size_alloc]; omega
        · intro v' w' ho' hb'
          have HO' : Hid (OwnD w1.heap.size w' v' (fitD 3 ts 1)) := Lib.hid (by rw [NX.out]; exact ho')
          have HB' := Lib.hid (HB.out.trans (((Below.refl _ wr).alloc hwz _).trans hb'))
          clear ho' hb'
          go_wp2
          exact ⟨⟨1, rfl, by omega, HO'.out, congrArg Value.string HF1.out.symm, congrArg Value.string HR1.out.symm, HB'.out⟩, by simp only [intOf]; omega⟩
      · obtain ⟨FG, hFG⟩ : ∃ x, bytes (fitS 3 ts i ++ gapK 3) = x := ⟨_, rfl⟩
        obtain ⟨RA, hRA⟩ : ∃ x, bytes (fitB ind ts i ++ [10]) = x := ⟨_, rfl⟩
        obtain ⟨RG, hRG⟩ : ∃ x, bytes (fitB ind ts i ++ 10 :: List.replicate ind 32) = x := ⟨_, rfl⟩
        have gz : (gapK 3).length ≤ 1 := by decide
        have hFGz : FG.size ≤ 1001 := by rw [← hFG, bytes_size, List.length_append]; rw [← hF, bytes_size] at hFz; omega
        have hRAz : RA.size ≤ 1001 := by rw [← hRA, bytes_size, List.length_append]; rw [← hR, bytes_size] at hRz; simp only [List.length_singleton]; omega
        have hRGz : RG.size ≤ 1020 := by rw [← hRG, bytes_size, List.length_append]; rw [← hR, bytes_size] at hRz; simp only [List.length_cons, List.length_replicate]; omega
        have a1 : ∀ W, (Op.stringOp .add F ⟨#[]⟩).run Try.prog W = .ok (.string FG) W := fun W => by
          have e : FG = F ++ ⟨#[]⟩ := by
            rw [← hFG, ← hF]; exact (bytes_app _ _).symm
          rw [e]; exact run_string_add W _ _ (by omega) (by decide)
        have a2 : ∀ W, (Op.stringOp .add FG TX).run Try.prog W = .ok (.string F1) W := fun W => by
          have e : F1 = FG ++ TX := by
            rw [← hF1, ← hFG, ← hTX, bytes_app]; simp only [fitS]; rw [if_pos h0, htg]
          rw [e]; exact run_string_add W _ _ (by omega) (by omega)
        have b1 : ∀ W, (Op.stringOp .add R ⟨#[10]⟩).run Try.prog W = .ok (.string RA) W := fun W => by
          have e : RA = R ++ ⟨#[10]⟩ := by
            rw [← hRA, ← hR]; exact (bytes_app _ _).symm
          rw [e]; exact run_string_add W _ _ (by omega) (by decide)
        have b2 : ∀ W, (Op.stringOp .add RA IB).run Try.prog W = .ok (.string RG) W := fun W => by
          have e : RG = RA ++ IB := by
            rw [← hRG, ← hRA, ← HIB.out, bytes_app, List.append_assoc]; rfl
          rw [e]; exact run_string_add W _ _ (by omega) (by omega)
        have b3 : ∀ W, (Op.stringOp .add RG TX).run Try.prog W = .ok (.string R1) W := fun W => by
          have e : R1 = RG ++ TX := by
            rw [← hR1, ← hRG, ← hTX, bytes_app]; simp only [fitB]; rw [if_pos h0, htg]
          rw [e]; exact run_string_add W _ _ (by omega) (by omega)
        have NX : Hid (fitD 3 ts (i + 1) = (fitD 3 ts i ++ [((3 : Int), (0 : Int), ([] : List UInt8))]) ++ [(1, (i : Int), List.replicate t 120)]) := Lib.hid (by simp only [fitD]; rw [htg, if_pos h0])
        have HTX := Lib.hid hTX
        have HDL : Hid ((fitD 3 ts i).length ≤ 2 * i) := Lib.hid hdl
        have HX1 : Hid (Vs 4 (wr.alloc (.cells #[.int .i64 3, .int .i64 0, .string ⟨#[]⟩, .slice none 0 0] 24)) (.slice (some ⟨wr.heap.size, 0, none⟩) 1 1) ([((3 : Int), (0 : Int), ([] : List UInt8))].map lfv)) := Lib.hid (one_lf wr (3, 0, []))
        have HX2 : Hid (∀ W : World, Vs 4 (W.alloc (.cells #[.int .i64 1, .int .i64 (i : Int), .string TX, .slice none 0 0] 24)) (.slice (some ⟨W.heap.size, 0, none⟩) 1 1) ([((1 : Int), (i : Int), List.replicate t 120)].map lfv)) := Lib.hid (fun W => by rw [← HTX.out]; exact one_lf W (1, (i : Int), List.replicate t 120))
        have j0 : (0 : Int) < i := by omega
        clear hz htg ht hlo hTX hF hR hF1 hR1 hcc l7 hsl hbl hsi hbi hFz hRz hdl hFG hRA hRG gz hFGz hRAz hRGz
        go_wp2_with (at_builtin; refine wpl_lf rfl _ _ rfl w1.heap.size _ _ (fitD 3 ts i) (3, (0 : Int), []) rfl ?_ rfl ?_ (nnv_some _ _ _) ?_ ?_ ?_)
        · exact OwnV.keep HO.out ((Below.refl _ _).alloc (Nat.le_refl _) _)
        · exact HX1.out
        · have := HDL.out; omega
        · rw [World.size_alloc]; omega
        · intro v1 w2 ho1 hb1
          have hb2 := HB.out.trans (((Below.refl _ wr).alloc hwz _).trans hb1)
          have hwz2 : w2.heap.size ≥ w1.heap.size := hb2.size
          have HO1 := Lib.hid ho1
          have HB2 := Lib.hid hb2
          clear ho1 hb1 hb2
          go_wp2_with (at_builtin; refine wpl_lf rfl _ _ rfl w1.heap.size _ _ (fitD 3 ts i ++ [((3 : Int), (0 : Int), ([] : List UInt8))]) (1, (i : Int), List.replicate t 120) rfl ?_ rfl ?_ (nnv_some _ _ _) ?_ ?_ ?_)
          · exact OwnV.keep HO1.out ((Below.refl _ _).alloc (Nat.le_refl _) _)
          · exact HX2.out _
          · have := HDL.out; rw [List.length_append, List.length_singleton]; omega
          · rw [World.size_alloc]; omega
          · intro v' w' ho' hb'
            have HO' : Hid (OwnD w1.heap.size w' v' (fitD 3 ts (i + 1))) := Lib.hid (by rw [NX.out, List.append_assoc]; exact ho')
            have HB' := Lib.hid (HB2.out.trans (((Below.refl _ w2).alloc hwz2 _).trans hb'))
            clear ho' hb'
            go_wp2
            exact ⟨⟨i + 1, by push_cast; rfl, by omega, HO'.out, congrArg Value.string HF1.out.symm, congrArg Value.string HR1.out.symm, HB'.out⟩, by simp only [intOf]; omega⟩
    · obtain rfl : i = len0 := by omega
      have hok := fitD_ok 3 (by decide) ts HT8.out i
      have hRen := fits_ren wn ind 3 (by decide) ts HT8.out i HTL.out q1
      obtain ⟨ua, uc, hu, -⟩ := OwnV.vs HO.out
      obtain ⟨ul, hul⟩ : ∃ n, ((fitD 3 ts i).map lfv).length = n := ⟨_, rfl⟩
      rw [hul] at hu
      subst hu
      have F0 := lf_fos (OwnV.vs HO.out) (OwnV.nn HO.out) (fun x hx => by have := (hok.1 x hx).2; omega)
      have F1 := one_fos (k0 := 7) (f0 := 0) (s0 := ⟨#[]⟩) F0 (by decide)
      have hz1 := lfF_sz (fitD 3 ts i) 8 (fun x hx => (hok.1 x hx).2)
      have hz2 := lfF_n (fitD 3 ts i)
      have hz3 : (⟨#[]⟩ : ByteArray).size + 1 + FoSz (Fo.one 7 0 ⟨#[]⟩ (lfF (fitD 3 ts i))) ≤ 600 := by
        simp only [Fo.one, FoSz, ByteArray.size]; simp; omega
      have hz4 : FoN (Fo.one 7 0 ⟨#[]⟩ (lfF (fitD 3 ts i))) ≤ 100 := by simp only [Fo.one, FoN]; omega
      have hsm := (renP_small 6 0 ⟨#[]⟩ (Fo.one 7 0 ⟨#[]⟩ (lfF (fitD 3 ts i))) wn ind (by omega) (by omega) (by omega)).1
      have PX := pieces_any 6 0 ⟨#[]⟩ _ _ wn ind wn ind _ F1 (by omega) (by omega) (cap_same wn 1 1000 (by omega) (by omega)) (cap_same ind 0 16 (by omega) (by omega))
      obtain ⟨la, hla⟩ : ∃ l, renP 6 0 ⟨#[]⟩ (Fo.one 7 0 ⟨#[]⟩ (lfF (fitD 3 ts i))) wn ind = l := ⟨_, rfl⟩
      rw [hla] at PX hRen hsm
      obtain ⟨FL, hFL⟩ : ∃ x, fitS 3 ts i = x := ⟨_, rfl⟩
      obtain ⟨RL, hRL⟩ : ∃ x, fitB ind ts i = x := ⟨_, rfl⟩
      rw [hFL] at hRen hsi ⊢
      rw [hRL] at hRen hbi ⊢
      have hRl : RL.length ≤ 1000 := by
        have : (9 + ind) * i ≤ 25 * 30 := Nat.mul_le_mul (by omega) (by omega)
        omega
      have hFl : FL.length ≤ 1000 := by omega
      obtain ⟨F, hF⟩ : ∃ x, bytes FL = x := ⟨_, rfl⟩
      obtain ⟨R, hR⟩ : ∃ x, bytes RL = x := ⟨_, rfl⟩
      have hFz : F.size = FL.length := by rw [← hF, bytes_size]
      have hCs : ∃ T, ptext la = T ∧ T.length ≤ 1000 ∧ ((F.size ≤ wn ∧ bytes T = F) ∨ (¬ F.size ≤ wn ∧ bytes T = R)) := by
        refine ⟨_, rfl, ?_, ?_⟩
        · rw [hRen]; split <;> omega
        · rw [hRen, hFz]
          by_cases hh : FL.length ≤ wn
          · left; rw [if_pos hh]; exact ⟨hh, hF⟩
          · right; rw [if_neg hh]; exact ⟨hh, hR⟩
      obtain ⟨T, hT, hTl, hcs⟩ := hCs
      have HCS := Lib.hid hcs
      have HT := Lib.hid hT
      have HSM := Lib.hid hsm
      have HTl := Lib.hid hTl
      have PXH := Lib.hid PX
      unfold dv at PXH
      have DA := Lib.hid (HBR.out.trans (((Below.refl _ wr).alloc (Nat.le_refl _) (.cells #[.int .i64 7, .int .i64 0, .string ⟨#[]⟩, .slice ua ul uc] 24)).mono HBR.out.size))
      rw [hF, hR]
      clear hul hla hok hRen F0 F1 hz1 hz2 hz3 hz4 PX hFL hRL hRl hFl hFz hT hTl hcs hsm hsl hbl hdl hsi hbi hF hR hi hlt
      go_wp2_with fail
      refine PXH.out.mono ?_
      rintro e w6 ⟨u6, rfl, hu6, hb6⟩
      have d6 := DA.out.trans (hb6.mono DA.out.size)
      have TX := Lib.hid (text_c la u6 T w6 (OwnV.vs hu6) HT.out (by have := HTl.out; omega) (by have := HSM.out; omega))
      have D6 := Lib.hid d6
      clear hu6 hb6 d6
      go_wp2_with fail
      refine TX.out.mono ?_
      rintro e w7 ⟨rfl, hb7⟩
      have D7 := Lib.hid (D6.out.trans (hb7.mono D6.out.size))
      clear hb7
      rcases HCS.out with ⟨g1, g2⟩ | ⟨g1, g2⟩
      all_goals (
        have g3 := g1
        rw [g2]
        go_wp2
        go_ret
        exact ⟨rfl, D7.out⟩)
set_option maxRecDepth 100000 in
set_option maxHeartbeats 8000000 in
theorem rfits_F (a0 : Option Addr) (len0 cap0 : Nat) (z0 : List Int) (x1 x2 : Int) (w : World) (w0 : RowI w a0 len0 cap0 z0) {P1 P2 : Prop} (m1 : P1) (m2 : P2) :
    Calls Try.prog 4 #[.slice a0 len0 cap0, .int .i64 x1, .int .i64 x2, .bool false] w fun e w' => e = .returned (.bool true) ∧ Below w.heap.size w w' := by
  obtain ⟨zs, hl, b0, n0⟩ := row_is w0
  clear w0 n0 m1 m2
  have al := Lib.hid (alive_c w)
  have early : ∀ (P : Prop), True := fun _ => trivial
  by_cases hc : 1 ≤ len0 ∧ len0 ≤ 30 ∧ 1 ≤ x1 ∧ x1 ≤ 200 ∧ 0 ≤ x2 ∧ x2 ≤ 16
  case neg =>
    have hh : (len0 : Int) < 1 ∨ (¬ (len0 : Int) < 1 ∧ 30 < (len0 : Int)) ∨ (¬ (len0 : Int) < 1 ∧ ¬ 30 < (len0 : Int) ∧ x1 < 1) ∨ (¬ (len0 : Int) < 1 ∧ ¬ 30 < (len0 : Int) ∧ ¬ x1 < 1 ∧ 200 < x1) ∨ (¬ (len0 : Int) < 1 ∧ ¬ 30 < (len0 : Int) ∧ ¬ x1 < 1 ∧ ¬ 200 < x1 ∧ x2 < 0) ∨ (¬ (len0 : Int) < 1 ∧ ¬ 30 < (len0 : Int) ∧ ¬ x1 < 1 ∧ ¬ 200 < x1 ∧ ¬ x2 < 0 ∧ 16 < x2) := by omega
    clear hc b0 hl early
    rcases hh with h1 | ⟨h1, h2⟩ | ⟨h1, h2, h3⟩ | ⟨h1, h2, h3, h4⟩ | ⟨h1, h2, h3, h4, h5⟩ | ⟨h1, h2, h3, h4, h5, h6⟩
    all_goals (
      go_enter Try.func4, Try.ntmps4
      go_wp2_with fail
      refine al.out.mono ?_
      rintro e w1 ⟨rfl, hb⟩
      have HB := Lib.hid hb
      clear hb
      go_wp2
      go_ret
      exact ⟨rfl, HB.out⟩)
  obtain ⟨q1, q2, q3, q4, q5, q6⟩ := hc
  obtain ⟨wn, rfl⟩ : ∃ k : Nat, x1 = (k : Int) := ⟨x1.toNat, by omega⟩
  obtain ⟨ind, rfl⟩ : ∃ k : Nat, x2 = (k : Int) := ⟨x2.toNat, by omega⟩
  have p1 : ¬ (len0 : Int) < 1 := by omega
  have p2 : ¬ 30 < (len0 : Int) := by omega
  have p3 : ¬ (wn : Int) < 1 := by omega
  have p4 : ¬ 200 < (wn : Int) := by omega
  have p6 : ¬ 16 < (ind : Int) := by omega
  have p5 : ¬ (ind : Int) < 0 := by omega
  obtain ⟨ts, hts⟩ : ∃ ts, zs.map (fun z => 1 + lowS z) = ts := ⟨_, rfl⟩
  have htl : ts.length = len0 := by rw [← hts, List.length_map, hl]
  have ht8 : ∀ t ∈ ts, t ≤ 8 := by
    intro t ht
    rw [← hts] at ht
    obtain ⟨z, -, rfl⟩ := List.mem_map.1 ht
    have := (lowS_is z).2
    omega
  have htg : ∀ j (hj : j < zs.length), ts.getD j 0 = 1 + lowS zs[j] := by
    intro j hj
    rw [← hts]
    simp [List.getD, List.getElem?_eq_getElem hj]
  have hbc := bcut ⟨ind, by omega⟩
  simp only at hbc
  obtain ⟨a1, cap1, he, k1, k2, k3⟩ := b0
  simp only [Value.slice.injEq] at he
  obtain ⟨rfl, hq, rfl⟩ := he
  clear hq
  have K3 := Lib.hid k3
  have HL := Lib.hid hl
  have HTG := Lib.hid htg
  have HT8 := Lib.hid ht8
  have HTL := Lib.hid htl
  clear k3 hl hts htg ht8 htl k1 early
  go_enter Try.func4, Try.ntmps4
  go_wp2_with fail
  refine al.out.mono ?_
  rintro e w1 ⟨rfl, hb⟩
  have HB1 := Lib.hid hb
  clear hb
  go_upto_region 13 with fail
  obtain ⟨IB, hIB⟩ : ∃ x, bytes (List.replicate ind 32) = x := ⟨_, rfl⟩
  have hIBz : IB.size = ind := by rw [← hIB, bytes_size, List.length_replicate]
  rw [hIB]
  have HIB := Lib.hid hIB
  have b2 : Below w1.heap.size w1 (w1.alloc (.cells #[] 24)) := (Below.refl _ _).alloc (Nat.le_refl _) _
  have ho : OwnD w1.heap.size (w1.alloc (.cells #[] 24)) (.slice (some ⟨w1.heap.size, 0, none⟩) 0 0) [] := ⟨World.ownsRow_made w1 #[] 0 (Nat.le_refl _) (Nat.zero_le _) rfl, by simp, by simp⟩
  obtain ⟨W2, hW2⟩ : ∃ x, w1.alloc (.cells #[] 24) = x := ⟨_, rfl⟩
  rw [hW2] at b2 ho ⊢
  have HO2 := Lib.hid ho
  have B2 := Lib.hid b2
  clear hW2 b2 ho hIB hbc
  go_upto_region 14 with fail
  go_loopw [12, 13, 14, 16] (fun dv fv bv iv wr => ∃ i : Nat, iv = .int .i64 (i : Int) ∧ i ≤ len0 ∧ OwnD w1.heap.size wr dv (fitD 2 ts i) ∧ fv = .string (bytes (fitS 2 ts i)) ∧ bv = .string (bytes (fitB ind ts i)) ∧ Below w1.heap.size w1 wr) (fun _ _ _ iv _ => len0 - (intOf iv).toNat)
  case atStart => exact ⟨0, rfl, by omega, HO2.out, rfl, rfl, B2.out⟩
  case round =>
    obtain ⟨i, rfl, hi, ho, rfl, rfl, hb⟩ := hrel
    have HBR := Lib.hid (HB1.out.trans (hb.mono HB1.out.size))
    have HB := Lib.hid hb
    have HO := Lib.hid ho
    have hsl := fitS_len 2 ts HT8.out
    have hbl := fitB_len ind ts HT8.out
    have hdl := (fitD_ok 2 (by decide) ts HT8.out i).2
    have hsi := hsl i
    have hbi := hbl i
    clear hb ho
    by_cases hlt : i < len0
    · have hil : i < zs.length := by rw [HL.out]; exact hlt
      obtain ⟨b, off, rfl, hbk, hcc⟩ := K3.out (by omega)
      have c0 := (HBR.out.cell (p := ⟨b, off + i, none⟩) hbk).trans (hcc i hil)
      obtain ⟨z, hz⟩ : ∃ z, zs[i] = z := ⟨_, rfl⟩
      have htg := HTG.out i hil
      rw [hz] at c0 htg
      obtain ⟨e7, l7⟩ := lowS_is z
      obtain ⟨t, ht⟩ : ∃ t, 1 + lowS z = t := ⟨_, rfl⟩
      rw [ht] at htg
      obtain ⟨lo, hlo⟩ : ∃ lo : Int, (lowS z : Int) = lo := ⟨_, rfl⟩
      rw [hlo] at e7
      have e8 : (1 : Int) + lo = (t : Int) := by omega
      have lo0 : 0 ≤ lo := by omega
      have lo1 : lo < 8 := by omega
      have hxc := xcut ⟨t, by omega⟩
      simp only at hxc
      obtain ⟨TX, hTX⟩ : ∃ x, bytes (List.replicate t 120) = x := ⟨_, rfl⟩
      have hTXz : TX.size = t := by rw [← hTX, bytes_size, List.length_replicate]
      rw [hTX] at hxc
      have hwz : wr.heap.size ≥ w1.heap.size := HB.out.size
      obtain ⟨F, hF⟩ : ∃ x, bytes (fitS 2 ts i) = x := ⟨_, rfl⟩
      obtain ⟨R, hR⟩ : ∃ x, bytes (fitB ind ts i) = x := ⟨_, rfl⟩
      obtain ⟨F1, hF1⟩ : ∃ x, bytes (fitS 2 ts (i + 1)) = x := ⟨_, rfl⟩
      obtain ⟨R1, hR1⟩ : ∃ x, bytes (fitB ind ts (i + 1)) = x := ⟨_, rfl⟩
      have hFz : F.size ≤ 1000 := by rw [← hF, bytes_size]; omega
      have hRz : R.size ≤ 1000 := by
        rw [← hR, bytes_size]
        have : (9 + ind) * i ≤ 25 * 30 := Nat.mul_le_mul (by omega) (by omega)
        omega
      have HF1 := Lib.hid hF1
      have HR1 := Lib.hid hR1
      have j1 : (i : Int) < len0 := by omega
      rw [hF, hR]
      rcases Nat.eq_zero_or_pos i with h0 | h0
      · subst h0
        rw [Nat.add_zero] at c0
        have a2 : ∀ W, (Op.stringOp .add F TX).run Try.prog W = .ok (.string F1) W := fun W => by
          have e : F1 = F ++ TX := by
            rw [← hF1, ← hF, ← hTX, bytes_app]; simp only [fitS]; rw [if_neg (by omega), htg]; simp
          rw [e]; exact run_string_add W _ _ (by omega) (by omega)
        have b3 : ∀ W, (Op.stringOp .add R TX).run Try.prog W = .ok (.string R1) W := fun W => by
          have e : R1 = R ++ TX := by
            rw [← hR1, ← hR, ← hTX, bytes_app]; simp only [fitB]; rw [if_neg (by omega), htg]; simp
          rw [e]; exact run_string_add W _ _ (by omega) (by omega)
        have NX : Hid (fitD 2 ts 1 = [] ++ [(1, ((0 : Nat) : Int), List.replicate t 120)]) := Lib.hid (by simp only [fitD]; rw [htg]; rfl)
        have HTX := Lib.hid hTX
        clear hz htg ht hlo hTX hF hR hF1 hR1 hcc l7 hsl hbl hsi hbi hFz hRz hdl
        have HX : Hid (Vs 4 (wr.alloc (.cells #[.int .i64 1, .int .i64 ((0 : Nat) : Int), .string TX, .slice none 0 0] 24)) (.slice (some ⟨wr.heap.size, 0, none⟩) 1 1) ([((1 : Int), ((0 : Nat) : Int), List.replicate t 120)].map lfv)) := Lib.hid (by rw [← HTX.out]; exact one_lf wr (1, ((0 : Nat) : Int), List.replicate t 120))
        go_wp2_with (at_builtin; refine wpl_lf rfl _ _ rfl w1.heap.size _ _ [] (1, ((0 : Nat) : Int), List.replicate t 120) rfl ?_ rfl ?_ (nnv_some _ _ _) (by simp) ?_ ?_)
        · exact OwnV.keep HO.out ((Below.refl _ _).alloc (Nat.le_refl _) _)
        · exact HX.out
        · rw [World.size_alloc]; omega
        · intro v' w' ho' hb'
          have HO' : Hid (OwnD w1.heap.size w' v' (fitD 2 ts 1)) := Lib.hid (by rw [NX.out]; exact ho')
          have HB' := Lib.hid (HB.out.trans (((Below.refl _ wr).alloc hwz _).trans hb'))
          clear ho' hb'
          go_wp2
          exact ⟨⟨1, rfl, by omega, HO'.out, congrArg Value.string HF1.out.symm, congrArg Value.string HR1.out.symm, HB'.out⟩, by simp only [intOf]; omega⟩
      · obtain ⟨FG, hFG⟩ : ∃ x, bytes (fitS 2 ts i ++ gapK 2) = x := ⟨_, rfl⟩
        obtain ⟨RA, hRA⟩ : ∃ x, bytes (fitB ind ts i ++ [10]) = x := ⟨_, rfl⟩
        obtain ⟨RG, hRG⟩ : ∃ x, bytes (fitB ind ts i ++ 10 :: List.replicate ind 32) = x := ⟨_, rfl⟩
        have gz : (gapK 2).length ≤ 1 := by decide
        have hFGz : FG.size ≤ 1001 := by rw [← hFG, bytes_size, List.length_append]; rw [← hF, bytes_size] at hFz; omega
        have hRAz : RA.size ≤ 1001 := by rw [← hRA, bytes_size, List.length_append]; rw [← hR, bytes_size] at hRz; simp only [List.length_singleton]; omega
        have hRGz : RG.size ≤ 1020 := by rw [← hRG, bytes_size, List.length_append]; rw [← hR, bytes_size] at hRz; simp only [List.length_cons, List.length_replicate]; omega
        have a1 : ∀ W, (Op.stringOp .add F ⟨#[32]⟩).run Try.prog W = .ok (.string FG) W := fun W => by
          have e : FG = F ++ ⟨#[32]⟩ := by
            rw [← hFG, ← hF]; exact (bytes_app _ _).symm
          rw [e]; exact run_string_add W _ _ (by omega) (by decide)
        have a2 : ∀ W, (Op.stringOp .add FG TX).run Try.prog W = .ok (.string F1) W := fun W => by
          have e : F1 = FG ++ TX := by
            rw [← hF1, ← hFG, ← hTX, bytes_app]; simp only [fitS]; rw [if_pos h0, htg]
          rw [e]; exact run_string_add W _ _ (by omega) (by omega)
        have b1 : ∀ W, (Op.stringOp .add R ⟨#[10]⟩).run Try.prog W = .ok (.string RA) W := fun W => by
          have e : RA = R ++ ⟨#[10]⟩ := by
            rw [← hRA, ← hR]; exact (bytes_app _ _).symm
          rw [e]; exact run_string_add W _ _ (by omega) (by decide)
        have b2 : ∀ W, (Op.stringOp .add RA IB).run Try.prog W = .ok (.string RG) W := fun W => by
          have e : RG = RA ++ IB := by
            rw [← hRG, ← hRA, ← HIB.out, bytes_app, List.append_assoc]; rfl
          rw [e]; exact run_string_add W _ _ (by omega) (by omega)
        have b3 : ∀ W, (Op.stringOp .add RG TX).run Try.prog W = .ok (.string R1) W := fun W => by
          have e : R1 = RG ++ TX := by
            rw [← hR1, ← hRG, ← hTX, bytes_app]; simp only [fitB]; rw [if_pos h0, htg]
          rw [e]; exact run_string_add W _ _ (by omega) (by omega)
        have NX : Hid (fitD 2 ts (i + 1) = (fitD 2 ts i ++ [((2 : Int), (0 : Int), ([] : List UInt8))]) ++ [(1, (i : Int), List.replicate t 120)]) := Lib.hid (by simp only [fitD]; rw [htg, if_pos h0])
        have HTX := Lib.hid hTX
        have HDL : Hid ((fitD 2 ts i).length ≤ 2 * i) := Lib.hid hdl
        have HX1 : Hid (Vs 4 (wr.alloc (.cells #[.int .i64 2, .int .i64 0, .string ⟨#[]⟩, .slice none 0 0] 24)) (.slice (some ⟨wr.heap.size, 0, none⟩) 1 1) ([((2 : Int), (0 : Int), ([] : List UInt8))].map lfv)) := Lib.hid (one_lf wr (2, 0, []))
        have HX2 : Hid (∀ W : World, Vs 4 (W.alloc (.cells #[.int .i64 1, .int .i64 (i : Int), .string TX, .slice none 0 0] 24)) (.slice (some ⟨W.heap.size, 0, none⟩) 1 1) ([((1 : Int), (i : Int), List.replicate t 120)].map lfv)) := Lib.hid (fun W => by rw [← HTX.out]; exact one_lf W (1, (i : Int), List.replicate t 120))
        have j0 : (0 : Int) < i := by omega
        clear hz htg ht hlo hTX hF hR hF1 hR1 hcc l7 hsl hbl hsi hbi hFz hRz hdl hFG hRA hRG gz hFGz hRAz hRGz
        go_wp2_with (at_builtin; refine wpl_lf rfl _ _ rfl w1.heap.size _ _ (fitD 2 ts i) (2, (0 : Int), []) rfl ?_ rfl ?_ (nnv_some _ _ _) ?_ ?_ ?_)
        · exact OwnV.keep HO.out ((Below.refl _ _).alloc (Nat.le_refl _) _)
        · exact HX1.out
        · have := HDL.out; omega
        · rw [World.size_alloc]; omega
        · intro v1 w2 ho1 hb1
          have hb2 := HB.out.trans (((Below.refl _ wr).alloc hwz _).trans hb1)
          have hwz2 : w2.heap.size ≥ w1.heap.size := hb2.size
          have HO1 := Lib.hid ho1
          have HB2 := Lib.hid hb2
          clear ho1 hb1 hb2
          go_wp2_with (at_builtin; refine wpl_lf rfl _ _ rfl w1.heap.size _ _ (fitD 2 ts i ++ [((2 : Int), (0 : Int), ([] : List UInt8))]) (1, (i : Int), List.replicate t 120) rfl ?_ rfl ?_ (nnv_some _ _ _) ?_ ?_ ?_)
          · exact OwnV.keep HO1.out ((Below.refl _ _).alloc (Nat.le_refl _) _)
          · exact HX2.out _
          · have := HDL.out; rw [List.length_append, List.length_singleton]; omega
          · rw [World.size_alloc]; omega
          · intro v' w' ho' hb'
            have HO' : Hid (OwnD w1.heap.size w' v' (fitD 2 ts (i + 1))) := Lib.hid (by rw [NX.out, List.append_assoc]; exact ho')
            have HB' := Lib.hid (HB2.out.trans (((Below.refl _ w2).alloc hwz2 _).trans hb'))
            clear ho' hb'
            go_wp2
            exact ⟨⟨i + 1, by push_cast; rfl, by omega, HO'.out, congrArg Value.string HF1.out.symm, congrArg Value.string HR1.out.symm, HB'.out⟩, by simp only [intOf]; omega⟩
    · obtain rfl : i = len0 := by omega
      have hok := fitD_ok 2 (by decide) ts HT8.out i
      have hRen := fits_ren wn ind 2 (by decide) ts HT8.out i HTL.out q1
      obtain ⟨ua, uc, hu, -⟩ := OwnV.vs HO.out
      obtain ⟨ul, hul⟩ : ∃ n, ((fitD 2 ts i).map lfv).length = n := ⟨_, rfl⟩
      rw [hul] at hu
      subst hu
      have F0 := lf_fos (OwnV.vs HO.out) (OwnV.nn HO.out) (fun x hx => by have := (hok.1 x hx).2; omega)
      have F1 := one_fos (k0 := 7) (f0 := 0) (s0 := ⟨#[]⟩) F0 (by decide)
      have hz1 := lfF_sz (fitD 2 ts i) 8 (fun x hx => (hok.1 x hx).2)
      have hz2 := lfF_n (fitD 2 ts i)
      have hz3 : (⟨#[]⟩ : ByteArray).size + 1 + FoSz (Fo.one 7 0 ⟨#[]⟩ (lfF (fitD 2 ts i))) ≤ 600 := by
        simp only [Fo.one, FoSz, ByteArray.size]; simp; omega
      have hz4 : FoN (Fo.one 7 0 ⟨#[]⟩ (lfF (fitD 2 ts i))) ≤ 100 := by simp only [Fo.one, FoN]; omega
      have hsm := (renP_small 6 0 ⟨#[]⟩ (Fo.one 7 0 ⟨#[]⟩ (lfF (fitD 2 ts i))) wn ind (by omega) (by omega) (by omega)).1
      have PX := pieces_any 6 0 ⟨#[]⟩ _ _ wn ind wn ind _ F1 (by omega) (by omega) (cap_same wn 1 1000 (by omega) (by omega)) (cap_same ind 0 16 (by omega) (by omega))
      obtain ⟨la, hla⟩ : ∃ l, renP 6 0 ⟨#[]⟩ (Fo.one 7 0 ⟨#[]⟩ (lfF (fitD 2 ts i))) wn ind = l := ⟨_, rfl⟩
      rw [hla] at PX hRen hsm
      obtain ⟨FL, hFL⟩ : ∃ x, fitS 2 ts i = x := ⟨_, rfl⟩
      obtain ⟨RL, hRL⟩ : ∃ x, fitB ind ts i = x := ⟨_, rfl⟩
      rw [hFL] at hRen hsi ⊢
      rw [hRL] at hRen hbi ⊢
      have hRl : RL.length ≤ 1000 := by
        have : (9 + ind) * i ≤ 25 * 30 := Nat.mul_le_mul (by omega) (by omega)
        omega
      have hFl : FL.length ≤ 1000 := by omega
      obtain ⟨F, hF⟩ : ∃ x, bytes FL = x := ⟨_, rfl⟩
      obtain ⟨R, hR⟩ : ∃ x, bytes RL = x := ⟨_, rfl⟩
      have hFz : F.size = FL.length := by rw [← hF, bytes_size]
      have hCs : ∃ T, ptext la = T ∧ T.length ≤ 1000 ∧ ((F.size ≤ wn ∧ bytes T = F) ∨ (¬ F.size ≤ wn ∧ bytes T = R)) := by
        refine ⟨_, rfl, ?_, ?_⟩
        · rw [hRen]; split <;> omega
        · rw [hRen, hFz]
          by_cases hh : FL.length ≤ wn
          · left; rw [if_pos hh]; exact ⟨hh, hF⟩
          · right; rw [if_neg hh]; exact ⟨hh, hR⟩
      obtain ⟨T, hT, hTl, hcs⟩ := hCs
      have HCS := Lib.hid hcs
      have HT := Lib.hid hT
      have HSM := Lib.hid hsm
      have HTl := Lib.hid hTl
      have PXH := Lib.hid PX
      unfold dv at PXH
      have DA := Lib.hid (HBR.out.trans (((Below.refl _ wr).alloc (Nat.le_refl _) (.cells #[.int .i64 7, .int .i64 0, .string ⟨#[]⟩, .slice ua ul uc] 24)).mono HBR.out.size))
      rw [hF, hR]
      clear hul hla hok hRen F0 F1 hz1 hz2 hz3 hz4 PX hFL hRL hRl hFl hFz hT hTl hcs hsm hsl hbl hdl hsi hbi hF hR hi hlt
      go_wp2_with fail
      refine PXH.out.mono ?_
      rintro e w6 ⟨u6, rfl, hu6, hb6⟩
      have d6 := DA.out.trans (hb6.mono DA.out.size)
      have TX := Lib.hid (text_c la u6 T w6 (OwnV.vs hu6) HT.out (by have := HTl.out; omega) (by have := HSM.out; omega))
      have D6 := Lib.hid d6
      clear hu6 hb6 d6
      go_wp2_with fail
      refine TX.out.mono ?_
      rintro e w7 ⟨rfl, hb7⟩
      have D7 := Lib.hid (D6.out.trans (hb7.mono D6.out.size))
      clear hb7
      rcases HCS.out with ⟨g1, g2⟩ | ⟨g1, g2⟩
      all_goals (
        have g3 := g1
        rw [g2]
        go_wp2
        go_ret
        exact ⟨rfl, D7.out⟩)
theorem rfits_walk (a0 : Option Addr) (len0 cap0 : Nat) (z0 : List Int) (x1 x2 : Int) (x3 : Bool) (w : World) (w0 : RowI w a0 len0 cap0 z0) {P1 P2 : Prop} (m1 : P1) (m2 : P2) :
    Calls Try.prog 4 #[.slice a0 len0 cap0, .int .i64 x1, .int .i64 x2, .bool x3] w fun e w' => e = .returned (.bool true) ∧ Below w.heap.size w w' := by
  cases x3
  · exact rfits_F a0 len0 cap0 z0 x1 x2 w w0 m1 m2
  · exact rfits_T a0 len0 cap0 z0 x1 x2 w w0 m1 m2
end Go.Proofs.Ytehofomfblfhaaa

/- Layouts: a row of documents of the call's own, each with kids of its own (RenderHard, RenderLines, RenderCat). -/
namespace Go.Proofs.Ytehofomfblfhaaa
open Go.RowKit
set_option linter.unusedVariables false
set_option linter.unusedSimpArgs false

/-- These cells are those documents; what their kids lie in is as P says. -/
def KidsV (P : Nat → Prop) (w : World) : List (List Value) → Fo → Prop
  | L, .nil => L = []
  | L, .cons k f s kids rest => ∃ v L', L = [.int .i64 k, .int .i64 f, .string s, v] :: L' ∧ s.size ≤ maxLen ∧ FoP P w v kids ∧ KidsV P w L' rest
theorem KidsV.keep {P P' : Nat → Prop} {w w' : World} (hf : ∀ b, P b → w'.heap[b]? = w.heap[b]?) (hP : ∀ b, P b → P' b) (F : Fo) : ∀ L, KidsV P w L F → KidsV P' w' L F := by
  induction F with
  | nil => intro L h; exact h
  | cons k f s kids rest ih1 ih2 =>
    rintro L ⟨v, L', rfl, h1, h2, h3⟩
    exact ⟨v, L', rfl, h1, (h2.keep hf).mono hP, ih2 L' h3⟩
theorem KidsV.len {P : Nat → Prop} {w : World} (F : Fo) : ∀ L, KidsV P w L F → L.length = F.len := by
  induction F with
  | nil => intro L h; rw [show L = [] from h]; rfl
  | cons k f s kids rest ih1 ih2 =>
    rintro L ⟨v, L', rfl, h1, h2, h3⟩
    simp only [List.length_cons, Fo.len, ih2 L' h3]
theorem KidsV.snoc {P : Nat → Prop} {w : World} {k f : Int} {s : ByteArray} {v : Value} {kids : Fo} (hs : s.size ≤ maxLen) (hv : FoP P w v kids) (F : Fo) : ∀ L, KidsV P w L F → KidsV P w (L ++ [[.int .i64 k, .int .i64 f, .string s, v]]) (Fo.glue F (Fo.one k f s kids)) := by
  induction F with
  | nil => intro L h; rw [show L = [] from h]; exact ⟨v, [], rfl, hs, hv, rfl⟩
  | cons k1 f1 s1 kids1 rest ih1 ih2 =>
    rintro L ⟨v1, L', rfl, h1, h2, h3⟩
    exact ⟨v1, L' ++ [[.int .i64 k, .int .i64 f, .string s, v]], rfl, h1, h2, ih2 L' h3⟩
theorem kidsV_at {P : Nat → Prop} {w : World} {b : Nat} (hP : ∀ b, P b → b < w.heap.size) (F : Fo) : ∀ L off, KidsV P w L F → (∀ j (h : j < L.length) i u, L[j][i]? = some u → w.cell? ⟨b, off + (j * 4 + i), none⟩ = some u) → FoAt w F b off := by
  induction F with
  | nil => intro L off _ _; trivial
  | cons k f s kids rest ih1 ih2 =>
    rintro L off ⟨v, L', rfl, h1, h2, h3⟩ hc
    obtain ⟨a, cap, rfl, p1, p2, p3, p4⟩ := (h2.mono hP).to
    have c := hc 0 (by simp)
    refine ⟨⟨h1, c 0 _ rfl, c 1 _ rfl, c 2 _ rfl, a, cap, c 3 _ rfl, p1, p2, p3, p4⟩, ih2 L' (off + 4) h3 fun j hj i u hu => ?_⟩
    have := hc (j + 1) (by simp only [List.length_cons]; omega) i u (by simpa using hu)
    rw [show off + ((j + 1) * 4 + i) = off + 4 + (j * 4 + i) by omega] at this
    exact this
theorem kidsV_fos {P : Nat → Prop} {w : World} {v : Value} {L : List (List Value)} {F : Fo} (hP : ∀ b, P b → b < w.heap.size) (h : Vs 4 w v L) (hnn : NNv v) (hk : KidsV P w L F) : FoS w v F := by
  obtain ⟨a, cap, rfl, h1, h2, h3⟩ := h
  have hl := KidsV.len F L hk
  refine ⟨a, cap, by rw [← hl], by rw [← hl]; exact h1, h2, fun e => by subst e; exact hnn _ _ rfl, fun h0 => ?_⟩
  obtain ⟨b, off, e, hb, hc⟩ := h3 (by rw [hl]; exact h0)
  exact ⟨b, off, e, hb, kidsV_at hP F L off hk hc⟩
theorem kidsV_four {P : Nat → Prop} {w : World} (F : Fo) : ∀ L, KidsV P w L F → ∀ y ∈ L, y.length = 4 ∧ ∀ c ∈ y, c.oneCell' = true := by
  induction F with
  | nil => intro L h; rw [show L = [] from h]; simp
  | cons k f s kids rest ih1 ih2 =>
    rintro L ⟨v, L', rfl, h1, h2, h3⟩ y hy
    rcases List.mem_cons.1 hy with rfl | hy
    · obtain ⟨a, cap, rfl, -⟩ := h2
      refine ⟨rfl, fun c hc => ?_⟩
      simp only [List.mem_cons, List.mem_nil_iff, or_false] at hc
      rcases hc with rfl | rfl | rfl | rfl <;> rfl
    · exact ih2 L' h3 y hy
/-- A document of the call's own that is to be appended. -/
theorem one_vs (w : World) (k f : Int) (s : ByteArray) (a : Option Addr) (n cap : Nat) : Vs 4 (w.alloc (.cells #[.int .i64 k, .int .i64 f, .string s, .slice a n cap] 24)) (.slice (some ⟨w.heap.size, 0, none⟩) 1 1) [[.int .i64 k, .int .i64 f, .string s, .slice a n cap]] := vs_cells 4 24 w [[.int .i64 k, .int .i64 f, .string s, .slice a n cap]] _ 1 rfl (by simp) rfl (by simp)
/-- A row of the call's own that holds these documents; none of their kids lies in the row's own block. -/
def OwnK (B : Nat) (w : World) (v : Value) (F : Fo) : Prop := ∃ L, OwnV 24 4 B w v L ∧ KidsV (fun b => b < w.heap.size ∧ some b ≠ v.ownBlock) w L F
theorem OwnK.keep {B : Nat} {w w' : World} {v : Value} {F : Fo} (h : OwnK B w v F) (hb : Below w.heap.size w w') : OwnK B w' v F := by
  obtain ⟨L, h1, h2⟩ := h
  exact ⟨L, OwnV.keep h1 hb, h2.keep (fun b hb' => hb.block b hb'.1) (fun b hb' => ⟨Nat.lt_of_lt_of_le hb'.1 hb.size, hb'.2⟩) F⟩
theorem OwnK.fos {B : Nat} {w : World} {v : Value} {F : Fo} (h : OwnK B w v F) : FoS w v F := by
  obtain ⟨L, h1, h2⟩ := h
  exact kidsV_fos (fun b hb => hb.1) (OwnV.vs h1) (OwnV.nn h1) h2
theorem OwnK.own {B : Nat} {w : World} {v : Value} {F : Fo} (h : OwnK B w v F) : ∀ j, v.ownBlock = some j → B ≤ j ∧ j < w.heap.size := by
  obtain ⟨L, h1, h2⟩ := h
  exact own_in h1
theorem ownK_nil (B : Nat) (w : World) : OwnK B w (.slice none 0 0) .nil := ⟨[], ownV_nil _ _ _ _, rfl⟩
/-- A document whose kids lie from N on is put into a block of its own. -/
theorem one_fop {N : Nat} {W : World} {k0 f0 : Int} {s0 : ByteArray} {v0 : Value} {L0 : Fo} (h0 : FoP (fun b => N ≤ b ∧ b < W.heap.size) W v0 L0) (hN : N ≤ W.heap.size) (z0 : s0.size ≤ 100) :
    FoP (fun b => N ≤ b ∧ b < (W.alloc (.cells #[.int .i64 k0, .int .i64 f0, .string s0, v0] 24)).heap.size) (W.alloc (.cells #[.int .i64 k0, .int .i64 f0, .string s0, v0] 24)) (.slice (some ⟨W.heap.size, 0, none⟩) 1 1) (Fo.one k0 f0 s0 L0) := by
  have b := (Below.refl W.heap.size W).alloc (Nat.le_refl _) (.cells #[.int .i64 k0, .int .i64 f0, .string s0, v0] 24)
  have g0 := (h0.keep (w' := W.alloc (.cells #[.int .i64 k0, .int .i64 f0, .string s0, v0] 24)) (fun c hc => b.block c hc.2)).mono (Q := fun b => N ≤ b ∧ b < (W.alloc (.cells #[.int .i64 k0, .int .i64 f0, .string s0, v0] 24)).heap.size) (fun c hc => ⟨hc.1, Nat.lt_of_lt_of_le hc.2 b.size⟩)
  have hc : ∀ j, (W.alloc (.cells #[.int .i64 k0, .int .i64 f0, .string s0, v0] 24)).cell? ⟨W.heap.size, j, none⟩ = #[.int .i64 k0, .int .i64 f0, .string s0, v0][j]? := fun j => World.cell?_alloc_at _ _ _ _ rfl
  refine ⟨_, 1, rfl, (by show 1 ≤ 1; omega), by decide, by simp, fun _ => ⟨W.heap.size, 0, rfl, ⟨hN, by simp⟩, ?_⟩⟩
  obtain ⟨a0, c0, rfl, p1, p2, p3, p4⟩ := g0
  exact ⟨⟨by unfold maxLen; omega, hc 0, hc 1, hc 2, a0, c0, hc 3, p1, p2, p3, p4⟩, trivial⟩
/-- A document is appended to such a row: its kids lie outside of the row's own block. -/
theorem wpl_kid {w : World} {ops : Array Oper} {rest : List Oper} {o : Oper} {a : Act} {Q : Exit → Act → World → Prop} (hgd : o.guard = none) (s x : Operand)
    (ho : o.op = .call { callee := .builtin .append, args := #[s, x], argTypes := #[22, 22] })
    (B : Nat) (v u : Value) (F : Fo) (k f : Int) (t : ByteArray) (ka : Option Addr) (kn kc : Nat) (kids : Fo) (hs : a.eval s = v) (hown : OwnK B w v F) (hx : a.eval x = u)
    (hu : Vs 4 w u [[.int .i64 k, .int .i64 f, .string t, .slice ka kn kc]]) (hnn : NNv u) (ht : t.size ≤ maxLen) (hlen : F.len ≤ 1000000) (hB : B ≤ w.heap.size)
    (hkids : FoP (fun b => b < w.heap.size ∧ some b ≠ v.ownBlock) w (.slice ka kn kc) kids)
    (h : ∀ v' w', OwnK B w' v' (Fo.glue F (Fo.one k f t kids)) → Below B w w' → wpList Try.prog ops Q rest (a.put o.dst v') w') : wpList Try.prog ops Q (o :: rest) a w := by
  obtain ⟨L, h1, h2⟩ := hown
  have hl := KidsV.len F L h2
  exact wpl_appendVG hgd s x ho Try.underlying22 infoD rfl (by decide) B v u L [[.int .i64 k, .int .i64 f, .string t, .slice ka kn kc]] (L ++ [[.int .i64 k, .int .i64 f, .string t, .slice ka kn kc]]) hs h1 hx hu hnn (by simp) (by simp [Value.oneCell']) (by simp only [List.length_singleton]; omega) (by decide) hB rfl
    (fun v' w' ho' hb' hfr hob => by
      have hf : ∀ b, (b < w.heap.size ∧ some b ≠ v.ownBlock) → w'.heap[b]? = w.heap[b]? := fun b hb => hfr b hb.1 hb.2
      have hp : ∀ b, (b < w.heap.size ∧ some b ≠ v.ownBlock) → (b < w'.heap.size ∧ some b ≠ v'.ownBlock) := fun b hb => by
        refine ⟨Nat.lt_of_lt_of_le hb.1 hb'.size, ?_⟩
        rcases hob with e | e
        · rw [e]; exact hb.2
        · rw [e]; intro h; rw [Option.some.injEq] at h; omega
      exact h v' w' ⟨_, ho', KidsV.snoc ht ((hkids.keep hf).mono hp) F L (h2.keep hf hp F)⟩ hb')
end Go.Proofs.Ytehofomfblfhaaa

/- Layouts: RenderHard: what its loops put together, plain. -/
namespace Go.Proofs.Ytehofomfblfhaaa
open Go.RowKit
set_option linter.unusedVariables false
set_option linter.unusedSimpArgs false

theorem glue_nil (A : Fo) : Fo.glue A .nil = A := by
  induction A with
  | nil => rfl
  | cons k f s kids rest ih1 ih2 => simp only [Fo.glue, ih2]
theorem glue_assoc (A B C : Fo) : Fo.glue (Fo.glue A B) C = Fo.glue A (Fo.glue B C) := by
  induction A with
  | nil => rfl
  | cons k f s kids rest ih1 ih2 => simp only [Fo.glue, ih2]
theorem glue_len (A B : Fo) : (Fo.glue A B).len = A.len + B.len := by
  induction A with
  | nil => simp [Fo.glue, Fo.len]
  | cons k f s kids rest ih1 ih2 => simp only [Fo.glue, Fo.len, ih2]; omega
theorem glue_sz (A B : Fo) : FoSz (Fo.glue A B) = FoSz A + FoSz B := by
  induction A with
  | nil => simp [Fo.glue, FoSz]
  | cons k f s kids rest ih1 ih2 => simp only [Fo.glue, FoSz, ih2]; omega
theorem glue_n (A B : Fo) : FoN (Fo.glue A B) = FoN A + FoN B := by
  induction A with
  | nil => simp [Fo.glue, FoN]
  | cons k f s kids rest ih1 ih2 => simp only [Fo.glue, FoN, ih2]; omega
theorem glue_right (A B : Fo) (d : Nat) : rightF (Fo.glue A B) d = (rightF A d && rightF B d) := by
  induction A with
  | nil => simp [Fo.glue, rightF]
  | cons k f s kids rest ih1 ih2 => simp only [Fo.glue, rightF, ih2, Bool.and_assoc]
theorem hardL_snoc (ns : List Nat) (n : Nat) : hardL (ns ++ [n]) = Fo.glue (hardL ns) (nests n hb) := by
  induction ns with
  | nil => simp only [List.nil_append, hardL, Fo.glue, glue_nil]
  | cons m r ih => simp only [List.cons_append, hardL, ih, glue_assoc]
theorem hardT_snoc (ind : Nat) (ns : List Nat) (n : Nat) : hardT ind (ns ++ [n]) = hardT ind ns ++ (10 :: List.replicate (n * ind) 32 ++ [98]) := by
  simp [hardT]
/-- The document that the inner loop holds after k rounds: its kind, its kids. -/
def dkK : Nat → Int
  | 0 => 5
  | _ + 1 => 7
def dkF : Nat → Fo
  | 0 => hb
  | k + 1 => nests k hb
theorem nests_dk (k : Nat) : nests k hb = Fo.one (dkK k) 0 ⟨#[]⟩ (dkF k) := by cases k <;> rfl
theorem hardL_len (ns : List Nat) : (hardL ns).len = ns.length := by
  induction ns with
  | nil => rfl
  | cons m r ih =>
    simp only [hardL, glue_len, ih, List.length_cons, nests_dk, Fo.one, Fo.len]; omega
theorem nests_sz (n : Nat) : FoSz (nests n hb) = n + 4 := by
  induction n with
  | zero =>
    show 0 + 1 + (0 + 1 + 0 + ((bytes [98]).size + 1 + 0 + 0)) + 0 = 4
    rw [bytes_size]; rfl
  | succ n ih =>
    show 0 + 1 + FoSz (nests n hb) + 0 = n + 1 + 4
    rw [ih]; omega
theorem nests_n (n : Nat) : FoN (nests n hb) = n + 3 := by
  induction n with
  | zero => simp [nests, Fo.one, hb, FoN]
  | succ n ih => simp only [nests, Fo.one, FoN, ih]; omega
theorem nests_right (n : Nat) : ∀ d, n < d → rightF (nests n hb) d = true := by
  induction n with
  | zero =>
    intro d hd
    have h1 : rightF hb (d - 1) = true := by
      simp [hb, rightF, Fo.len]
    rw [nests, rightF_one, rightD_is, if_neg (by decide), if_neg (by decide), if_pos (by decide), h1]
    simp; omega
  | succ n ih =>
    intro d hd
    rw [nests, rightF_one, rightD_is, if_neg (by decide), if_neg (by decide), if_pos (by decide), ih (d - 1) (by omega)]
    simp; omega
theorem hardL_right (ns : List Nat) (h : ∀ n ∈ ns, n ≤ 7) (d : Nat) (hd : 8 ≤ d) : rightF (hardL ns) d = true := by
  induction ns with
  | nil => rfl
  | cons m r ih =>
    have h1 := h m (by simp)
    rw [hardL, glue_right, nests_right m d (by omega), ih (fun n hn => h n (by simp [hn]))]
    rfl
theorem hardL_sz (ns : List Nat) (h : ∀ n ∈ ns, n ≤ 7) : FoSz (hardL ns) ≤ 11 * ns.length := by
  induction ns with
  | nil => simp [hardL, FoSz]
  | cons m r ih =>
    have h1 := h m (by simp)
    have h2 := ih fun n hn => h n (by simp [hn])
    rw [hardL, glue_sz, nests_sz, List.length_cons]
    omega
theorem hardL_n (ns : List Nat) (h : ∀ n ∈ ns, n ≤ 7) : FoN (hardL ns) ≤ 10 * ns.length := by
  induction ns with
  | nil => simp [hardL, FoN]
  | cons m r ih =>
    have h1 := h m (by simp)
    have h2 := ih fun n hn => h n (by simp [hn])
    rw [hardL, glue_n, nests_n, List.length_cons]
    omega
theorem hardT_len (ind : Nat) (ns : List Nat) (h : ∀ n ∈ ns, n ≤ 7) : (hardT ind ns).length ≤ (2 + 7 * ind) * ns.length := by
  induction ns with
  | nil => simp [hardT]
  | cons m r ih =>
    have h1 := h m (by simp)
    have h2 := ih fun n hn => h n (by simp [hn])
    have h3 : m * ind ≤ 7 * ind := Nat.mul_le_mul_right _ h1
    have e : hardT ind (m :: r) = (10 :: List.replicate (m * ind) 32 ++ [98]) ++ hardT ind r := rfl
    rw [e, List.length_append, List.length_cons, Nat.mul_succ]
    simp only [List.cons_append, List.length_cons, List.length_append, List.length_replicate, List.length_nil]
    omega
/-- RenderHard: what the layout's text is. -/
theorem hard_ren (ind : Nat) (ns : List Nat) (h : ∀ n ∈ ns, n ≤ 7) :
    ptext (renP 6 0 ⟨#[]⟩ (.cons 1 (-1) (bytes [97]) .nil (hardL ns)) 1000 ind) = 97 :: hardT ind ns := by
  have hr : rightD 6 0 ⟨#[]⟩ (.cons 1 (-1) (bytes [97]) .nil (hardL ns)) 200 = true := by
    have h1 : rightF (.cons 1 (-1) (bytes [97]) .nil (hardL ns)) (200 - 1) = true := by
      rw [rightF, hardL_right ns h _ (by decide)]
      simp [Fo.len]
    rw [rightD_is, if_neg (by decide), if_neg (by decide), if_pos (by decide), h1]
    decide
  unfold renP
  rw [if_pos hr]
  exact hard_plain 1000 ind ns
end Go.Proofs.Ytehofomfblfhaaa

/- Layouts: RenderHard's walk. -/
namespace Go.Proofs.Ytehofomfblfhaaa
open Go.RowKit
set_option linter.unusedVariables false
set_option linter.unusedSimpArgs false

theorem infoD1 : (Try.prog.info? 24).map (·.size) = some 4 := by kernel_rfl
/-- The inner loop's step: what d held is put into a block of its own, and d holds it as its kid. -/
theorem hard_step {N k : Nat} {w0 wx : World} {ka : Option Addr} {kn kc : Nat} (hN : N + 1 < wx.heap.size) (bd : BK 24 wx (N + 1) #[.int .i64 (dkK k), .int .i64 0, .string ⟨#[]⟩, .slice ka kn kc])
    (fk : FoP (fun b => N ≤ b ∧ b < wx.heap.size ∧ b ≠ N + 1) wx (.slice ka kn kc) (dkF k)) (bw : Below N w0 wx) (W2 : World)
    (hW : (wx.alloc (.cells #[.int .i64 (dkK k), .int .i64 0, .string ⟨#[]⟩, .slice ka kn kc] 24)).setRow (N + 1) #[.int .i64 7, .int .i64 0, .string ⟨#[]⟩, .slice (some ⟨wx.heap.size, 0, none⟩) 1 1] = W2) :
    BK 24 W2 (N + 1) #[.int .i64 (dkK (k + 1)), .int .i64 0, .string ⟨#[]⟩, .slice (some ⟨wx.heap.size, 0, none⟩) 1 1] ∧ FoP (fun b => N ≤ b ∧ b < W2.heap.size ∧ b ≠ N + 1) W2 (.slice (some ⟨wx.heap.size, 0, none⟩) 1 1) (dkF (k + 1)) ∧ Below N w0 W2 := by
  subst hW
  have b := (Below.refl wx.heap.size wx).alloc (Nat.le_refl _) (.cells #[.int .i64 (dkK k), .int .i64 0, .string ⟨#[]⟩, .slice ka kn kc] 24)
  have cX := BK.new 24 wx #[.int .i64 (dkK k), .int .i64 0, .string ⟨#[]⟩, .slice ka kn kc]
  have zX : (wx.alloc (.cells #[.int .i64 (dkK k), .int .i64 0, .string ⟨#[]⟩, .slice ka kn kc] 24)).heap.size = wx.heap.size + 1 := by rw [World.size_alloc]
  obtain ⟨X, hX⟩ : ∃ X, wx.alloc (.cells #[.int .i64 (dkK k), .int .i64 0, .string ⟨#[]⟩, .slice ka kn kc] 24) = X := ⟨_, rfl⟩
  rw [hX] at b cX zX ⊢
  refine ⟨(bd.keep b).set _, ?_, below_setRowK (bw.trans (b.mono (by omega))) (by omega) _⟩
  have f1 : FoP (fun c => N ≤ c ∧ c < (X.setRow (N + 1) #[.int .i64 7, .int .i64 0, .string ⟨#[]⟩, .slice (some ⟨wx.heap.size, 0, none⟩) 1 1]).heap.size ∧ c ≠ N + 1) X (.slice ka kn kc) (dkF k) :=
    (fk.keep (w' := X) (fun c hc => b.block c hc.2.1)).mono fun c hc => ⟨hc.1, by rw [setRow_size]; omega, hc.2.2⟩
  have f2 := f1.keep (w' := X.setRow (N + 1) #[.int .i64 7, .int .i64 0, .string ⟨#[]⟩, .slice (some ⟨wx.heap.size, 0, none⟩) 1 1]) fun c hc => setRow_other _ _ _ _ hc.2.2
  have c2 := (cX.frame (setRow_other X (N + 1) wx.heap.size #[.int .i64 7, .int .i64 0, .string ⟨#[]⟩, .slice (some ⟨wx.heap.size, 0, none⟩) 1 1] (by omega))).cell
  obtain ⟨a0, c0, he, p1, p2, p3, p4⟩ := f2
  simp only [Value.slice.injEq] at he
  obtain ⟨rfl, rfl, rfl⟩ := he
  refine ⟨_, 1, ?_, ?_, by decide, by simp, fun _ => ⟨wx.heap.size, 0, rfl, ⟨by omega, by rw [setRow_size]; omega, by omega⟩, ?_⟩⟩
  · show _ = Value.slice _ (nests k hb).len 1
    rw [nests_dk]; rfl
  · show (nests k hb).len ≤ 1
    rw [nests_dk]; exact Nat.le_refl 1
  · show FoPA _ _ (nests k hb) _ _
    rw [nests_dk]
    exact ⟨⟨by decide, c2 0, c2 1, c2 2, _, _, c2 3, p1, p2, p3, p4⟩, trivial⟩
set_option maxRecDepth 100000 in
set_option maxHeartbeats 8000000 in
theorem rhard_walk (a0 : Option Addr) (len0 cap0 : Nat) (z0 : List Int) (x1 : Int) (w : World) (w0 : RowI w a0 len0 cap0 z0) {P1 : Prop} (m1 : P1) :
    Calls Try.prog 6 #[.slice a0 len0 cap0, .int .i64 x1] w fun e w' => e = .returned (.bool true) ∧ Below w.heap.size w w' := by
  obtain ⟨zs, hl, b0, n0⟩ := row_is w0
  clear w0 n0 m1
  have al := Lib.hid (alive_c w)
  by_cases hc : len0 ≤ 20 ∧ 0 ≤ x1 ∧ x1 ≤ 16
  case neg =>
    have hh : 20 < (len0 : Int) ∨ (¬ 20 < (len0 : Int) ∧ x1 < 0) ∨ (¬ 20 < (len0 : Int) ∧ ¬ x1 < 0 ∧ 16 < x1) := by omega
    clear hc b0 hl
    rcases hh with h1 | ⟨h1, h2⟩ | ⟨h1, h2, h3⟩
    all_goals (
      go_enter Try.func6, Try.ntmps6
      go_wp2_with fail
      refine al.out.mono ?_
      rintro e w1 ⟨rfl, hb⟩
      have HB := Lib.hid hb
      clear hb
      go_wp2
      go_ret
      exact ⟨rfl, HB.out⟩)
  obtain ⟨q1, q2, q3⟩ := hc
  obtain ⟨ind, rfl⟩ : ∃ k : Nat, x1 = (k : Int) := ⟨x1.toNat, by omega⟩
  have p2 : ¬ 20 < (len0 : Int) := by omega
  have p6 : ¬ 16 < (ind : Int) := by omega
  have p5 : ¬ (ind : Int) < 0 := by omega
  obtain ⟨ns, hns⟩ : ∃ ns, zs.map (fun z => lowS z) = ns := ⟨_, rfl⟩
  have hnl : ns.length = len0 := by rw [← hns, List.length_map, hl]
  have hn7 : ∀ n ∈ ns, n ≤ 7 := by
    intro n hn
    rw [← hns] at hn
    obtain ⟨z, -, rfl⟩ := List.mem_map.1 hn
    have := (lowS_is z).2
    omega
  have hng : ∀ j (hj : j < zs.length), ns.take (j + 1) = ns.take j ++ [lowS zs[j]] := by
    intro j hj
    rw [List.take_succ_eq_append_getElem (by rw [hnl]; omega)]
    simp [← hns]
  obtain ⟨a1, cap1, he, k1, k2, k3⟩ := b0
  simp only [Value.slice.injEq] at he
  obtain ⟨rfl, hq, rfl⟩ := he
  clear hq
  have K3 := Lib.hid k3
  have HL := Lib.hid hl
  have HNG := Lib.hid hng
  have HN7 := Lib.hid hn7
  have HNL := Lib.hid hnl
  clear k3 hl hns hng hn7 hnl k1
  go_enter Try.func6, Try.ntmps6
  go_wp2_with fail
  refine al.out.mono ?_
  rintro e w1 ⟨rfl, hb⟩
  have HB1 := Lib.hid hb
  have HX : Hid (Vs 4 (w1.alloc (.cells #[.int .i64 1, .int .i64 (-1), .string ⟨#[97]⟩, .slice none 0 0] 24)) (.slice (some ⟨w1.heap.size, 0, none⟩) 1 1) [[.int .i64 1, .int .i64 (-1), .string ⟨#[97]⟩, .slice none 0 0]]) := Lib.hid (one_vs w1 1 (-1) ⟨#[97]⟩ none 0 0)
  clear hb
  go_wp2_with (at_builtin; refine wpl_kid rfl _ _ rfl w1.heap.size _ _ .nil 1 (-1) ⟨#[97]⟩ none 0 0 .nil rfl ?_ rfl ?_ (nnv_some _ _ _) (by decide) (by decide) ?_ ?_ ?_)
  · exact ownK_nil _ _
  · exact HX.out
  · rw [World.size_alloc]; omega
  · exact ⟨none, 0, rfl, by decide, by decide, fun _ => rfl, fun h => absurd h (by decide)⟩
  · intro v2 w2 ho hb
    have HO2 := Lib.hid ho
    have HB2 := Lib.hid (((Below.refl _ w1).alloc (Nat.le_refl _) _).trans hb)
    clear ho hb
    go_upto_region 8 with fail
    go_loopw [6, 7, 8] (fun kv wv iv wr => ∃ i : Nat, iv = .int .i64 (i : Int) ∧ i ≤ len0 ∧ OwnK w1.heap.size wr kv (.cons 1 (-1) ⟨#[97]⟩ .nil (hardL (ns.take i))) ∧ wv = .string (bytes (97 :: hardT ind (ns.take i))) ∧ Below w1.heap.size w1 wr) (fun _ _ iv _ => len0 - (intOf iv).toNat)
    case atStart => exact ⟨0, rfl, by omega, HO2.out, rfl, HB2.out⟩
    case round =>
      obtain ⟨i, rfl, hi, ho, rfl, hb⟩ := hrel
      have HBR := Lib.hid (HB1.out.trans (hb.mono HB1.out.size))
      have HB := Lib.hid hb
      have HO := Lib.hid ho
      clear hb ho
      by_cases hlt : i < len0
      · have hil : i < zs.length := by rw [HL.out]; exact hlt
        obtain ⟨b, off, rfl, hbk, hcc⟩ := K3.out (by omega)
        have c0 := (HBR.out.cell (p := ⟨b, off + i, none⟩) hbk).trans (hcc i hil)
        have hng := HNG.out i hil
        obtain ⟨z, hz⟩ : ∃ z, zs[i] = z := ⟨_, rfl⟩
        rw [hz] at c0 hng
        obtain ⟨e7, l7⟩ := lowS_is z
        obtain ⟨n, hn⟩ : ∃ n, lowS z = n := ⟨_, rfl⟩
        rw [hn] at e7 l7 hng
        have hwz : wr.heap.size ≥ w1.heap.size := HB.out.size
        have j1 : (i : Int) < len0 := by omega
        clear hz hn hcc
        obtain ⟨PL, hPL⟩ : ∃ l, 97 :: hardT ind (ns.take i) = l := ⟨_, rfl⟩
        have hPl : PL.length ≤ 3000 := by
          have h1 := hardT_len ind (ns.take i) (fun m hm => HN7.out m (List.mem_of_mem_take hm))
          have h2 : (2 + 7 * ind) * (ns.take i).length ≤ 114 * 20 := Nat.mul_le_mul (by omega) (by rw [List.length_take]; omega)
          rw [← hPL, List.length_cons]; omega
        rw [hPL]
        obtain ⟨S, hS⟩ : ∃ x, bytes PL = x := ⟨_, rfl⟩
        rw [hS]
        obtain ⟨S1, hS1⟩ : ∃ x, bytes (PL ++ [10]) = x := ⟨_, rfl⟩
        have a1 : ∀ W, (Op.stringOp .add S ⟨#[10]⟩).run Try.prog W = .ok (.string S1) W := fun W => by
          have e : S1 = S ++ ⟨#[10]⟩ := by rw [← hS1, ← hS]; exact (bytes_app _ _).symm
          rw [e]; exact run_string_add W _ _ (by rw [← hS, bytes_size]; omega) (by decide)
        have HPL := Lib.hid hPL
        have HPl := Lib.hid hPl
        have HS1 := Lib.hid hS1
        obtain ⟨N, hN⟩ : ∃ N, wr.heap.size = N := ⟨_, rfl⟩
        have EW : Hid (∀ W0 : World, ((wr.alloc (.cells #[.int .i64 4, .int .i64 0, .string ⟨#[]⟩, .slice none 0 0, .int .i64 1, .int .i64 (-1), .string ⟨#[98]⟩, .slice none 0 0] 24)).alloc (.cells #[.int .i64 5, .int .i64 0, .string ⟨#[]⟩, .slice (some ⟨N, 0, none⟩) 2 2] 24)) = W0 →
            BK 24 W0 (N + 1) #[.int .i64 5, .int .i64 0, .string ⟨#[]⟩, .slice (some ⟨N, 0, none⟩) 2 2] ∧ FoP (fun b => N ≤ b ∧ b < W0.heap.size ∧ b ≠ N + 1) W0 (.slice (some ⟨N, 0, none⟩) 2 2) hb ∧ Below N wr W0) := Lib.hid (by
          rintro W0 rfl
          subst hN
          obtain ⟨X, hX⟩ : ∃ X, wr.alloc (.cells #[.int .i64 4, .int .i64 0, .string ⟨#[]⟩, .slice none 0 0, .int .i64 1, .int .i64 (-1), .string ⟨#[98]⟩, .slice none 0 0] 24) = X := ⟨_, rfl⟩
          have bX : Below wr.heap.size wr X := by rw [← hX]; exact (Below.refl _ wr).alloc (Nat.le_refl _) _
          have cX : BK 24 X wr.heap.size #[.int .i64 4, .int .i64 0, .string ⟨#[]⟩, .slice none 0 0, .int .i64 1, .int .i64 (-1), .string ⟨#[98]⟩, .slice none 0 0] := by rw [← hX]; exact BK.new _ wr _
          have zX : X.heap.size = wr.heap.size + 1 := by rw [← hX, World.size_alloc]
          rw [hX]
          have bY := (Below.refl X.heap.size X).alloc (Nat.le_refl _) (.cells #[.int .i64 5, .int .i64 0, .string ⟨#[]⟩, .slice (some ⟨wr.heap.size, 0, none⟩) 2 2] 24)
          have cY := BK.new 24 X #[.int .i64 5, .int .i64 0, .string ⟨#[]⟩, .slice (some ⟨wr.heap.size, 0, none⟩) 2 2]
          rw [zX] at cY
          refine ⟨cY, ?_, bX.trans (bY.mono (by omega))⟩
          have c := (cX.keep bY).cell
          refine ⟨_, 2, rfl, by decide, by decide, by simp, fun _ => ⟨wr.heap.size, 0, rfl, ⟨Nat.le_refl _, by rw [World.size_alloc]; omega, by omega⟩, ?_⟩⟩
          exact ⟨⟨by decide, c 0, c 1, c 2, none, 0, c 3, by decide, by decide, fun _ => rfl, fun h => absurd h (by decide)⟩, ⟨by decide, c 4, c 5, c 6, none, 0, c 7, by decide, by decide, fun _ => rfl, fun h => absurd h (by decide)⟩, trivial⟩)
        clear hPL hPl hS1
        go_upto_region 13 with fail
        obtain ⟨W0, hW0⟩ : ∃ x, ((wr.alloc (.cells #[.int .i64 4, .int .i64 0, .string ⟨#[]⟩, .slice none 0 0, .int .i64 1, .int .i64 (-1), .string ⟨#[98]⟩, .slice none 0 0] 24)).alloc (.cells #[.int .i64 5, .int .i64 0, .string ⟨#[]⟩, .slice (some ⟨N, 0, none⟩) 2 2] 24)) = x := ⟨_, rfl⟩
        rw [hW0]
        obtain ⟨BD, FK, B0⟩ := EW.out W0 hW0
        have HN := Lib.hid hN
        clear hW0 EW hN
        go_upto_region 14 with fail
        go_loopw [7, 11] (fun sv kv wx => ∃ (k : Nat) (ka : Option Addr) (kn kc : Nat), kv = .int .i64 (k : Int) ∧ k ≤ n ∧ sv = .string (bytes (PL ++ 10 :: List.replicate (k * ind) 32)) ∧ BK 24 wx (N + 1) #[.int .i64 (dkK k), .int .i64 0, .string ⟨#[]⟩, .slice ka kn kc] ∧ FoP (fun b => N ≤ b ∧ b < wx.heap.size ∧ b ≠ N + 1) wx (.slice ka kn kc) (dkF k) ∧ Below N wr wx) (fun _ kv _ => n - (intOf kv).toNat)
        case atStart => exact ⟨0, some ⟨N, 0, none⟩, 2, 2, rfl, by omega, congrArg Value.string (by rw [← HS1.out, Nat.zero_mul]; rfl), BD, FK, B0⟩
        case round =>
          obtain ⟨k, ka, kn, kc, rfl, hk, rfl, bd, fk, bw⟩ := hrel
          by_cases hkn : k < n
          · have ST := Lib.hid (hard_step bd.lt bd fk bw)
            have BD1 := Lib.hid bd
            have BD2 := Lib.hid (bd.keep ((Below.refl _ wr).alloc (Nat.le_refl _) (.cells #[.int .i64 (dkK k), .int .i64 0, .string ⟨#[]⟩, .slice ka kn kc] 24)))
            have HKi : Hid (k * ind + ind ≤ 112) := Lib.hid (by
              have : (k + 1) * ind ≤ 7 * 16 := Nat.mul_le_mul (by omega) (by omega)
              rw [Nat.succ_mul] at this; omega)
            have HAS : Hid (∀ m, m ≤ 112 → ∀ W, (Op.stringOp .add (bytes (PL ++ 10 :: List.replicate m 32)) ⟨#[32]⟩).run Try.prog W = .ok (.string (bytes (PL ++ 10 :: List.replicate (m + 1) 32))) W) := Lib.hid (fun m hm W => by
              have e : bytes (PL ++ 10 :: List.replicate (m + 1) 32) = bytes (PL ++ 10 :: List.replicate m 32) ++ ⟨#[32]⟩ := by
                rw [List.replicate_succ', show PL ++ 10 :: (List.replicate m 32 ++ [32]) = (PL ++ 10 :: List.replicate m 32) ++ [32] by simp]; exact (bytes_app _ _).symm
              rw [e]
              exact run_string_add W _ _ (by rw [bytes_size]; simp only [List.length_append, List.length_cons, List.length_replicate]; have := HPl.out; omega) (by decide))
            have j2 : (k : Int) < n := by omega
            clear bd fk bw
            go_upto_region 17 with (first | (refine wpl_ldK Try.underlying24 rfl infoD1 rfl _ rfl (N + 1) [.int .i64 (dkK k), .int .i64 0, .string ⟨#[]⟩, .slice ka kn kc] rfl BD1.out rfl ?_) | (refine wpl_stK infoD1 rfl _ _ rfl (N + 1) #[.int .i64 (dkK k), .int .i64 0, .string ⟨#[]⟩, .slice ka kn kc] #[.int .i64 7, .int .i64 0, .string ⟨#[]⟩, .slice (some ⟨wr.heap.size, 0, none⟩) 1 1] rfl rfl BD2.out rfl rfl (by first | rfl | simp [Value.oneCell'] | (rw [all_oneCell_toArray]; simp [Value.oneCell'])) ?_))
            obtain ⟨W2, hW2⟩ : ∃ x, ((wr.alloc (.cells #[.int .i64 (dkK k), .int .i64 0, .string ⟨#[]⟩, .slice ka kn kc] 24)).setRow (N + 1) #[.int .i64 7, .int .i64 0, .string ⟨#[]⟩, .slice (some ⟨wr.heap.size, 0, none⟩) 1 1]) = x := ⟨_, rfl⟩
            rw [hW2]
            obtain ⟨t1, t2, t3⟩ := ST.out W2 hW2
            have T1 := Lib.hid t1
            have T2 := Lib.hid t2
            have T3 := Lib.hid t3
            clear hW2 ST BD1 BD2 t1 t2 t3
            go_upto_region 18 with fail
            go_loopw [7, 12] (fun sv jv wx => ∃ j : Nat, jv = .int .i64 (j : Int) ∧ j ≤ ind ∧ sv = .string (bytes (PL ++ 10 :: List.replicate (k * ind + j) 32)) ∧ W2 = wx) (fun _ jv _ => ind - (intOf jv).toNat)
            case atStart => exact ⟨0, rfl, by omega, rfl, rfl⟩
            case round =>
              obtain ⟨j, rfl, hj, rfl, rfl⟩ := hrel
              by_cases hji : j < ind
              · have a3 := HAS.out (k * ind + j) (by have := HKi.out; omega)
                have j3 : (j : Int) < ind := by omega
                obtain ⟨S3, hS3⟩ : ∃ x, bytes (PL ++ 10 :: List.replicate (k * ind + j) 32) = x := ⟨_, rfl⟩
                obtain ⟨S4, hS4⟩ : ∃ x, bytes (PL ++ 10 :: List.replicate (k * ind + j + 1) 32) = x := ⟨_, rfl⟩
                rw [hS3, hS4] at a3
                rw [hS3]
                have HS4 := Lib.hid hS4
                clear hS3 hS4
                go_wp2
                exact ⟨⟨j + 1, by push_cast; rfl, by omega, congrArg Value.string HS4.out.symm, trivial⟩, by simp only [intOf]; omega⟩
              · have hje : j = ind := by omega
                have j3 : ¬ (j : Int) < ind := by omega
                obtain ⟨S3, hS3⟩ : ∃ x, bytes (PL ++ 10 :: List.replicate (k * ind + j) 32) = x := ⟨_, rfl⟩
                have HS3 := Lib.hid hS3
                have HJE := Lib.hid hje
                rw [hS3]
                clear hS3 hje
                go_wp2
                exact ⟨⟨k + 1, _, 1, 1, by push_cast; rfl, by omega, congrArg Value.string (by rw [← HS3.out, HJE.out, Nat.succ_mul]), T1.out, T2.out, T3.out⟩, by simp only [intOf]; omega⟩
          · have hke : k = n := by omega
            have j2 : ¬ (k : Int) < n := by omega
            subst hke
            have HOK := Lib.hid (OwnK.keep HO.out (by rw [HN.out]; exact bw))
            have FK1 := Lib.hid (fk.mono (Q := fun b => b < wr.heap.size ∧ some b ≠ u6.ownBlock) fun b hb => ⟨hb.2.1, fun h => by have := (HO.out.own b h.symm).2; rw [HN.out] at this; omega⟩)
            have BD1 := Lib.hid bd
            have HX1 := Lib.hid (one_vs wr (dkK k) 0 ⟨#[]⟩ ka kn kc)
            have hww := HB.out.trans (bw.mono (by rw [← HN.out]; exact hwz))
            have HW := Lib.hid hww
            have hsz := hww.size
            obtain ⟨S5, hS5⟩ : ∃ x, bytes (PL ++ 10 :: List.replicate (k * ind) 32) = x := ⟨_, rfl⟩
            obtain ⟨S6, hS6⟩ : ∃ x, bytes (97 :: hardT ind (ns.take (i + 1))) = x := ⟨_, rfl⟩
            have b5 : ∀ W, (Op.stringOp .add S5 ⟨#[98]⟩).run Try.prog W = .ok (.string S6) W := fun W => by
              have e : S6 = S5 ++ ⟨#[98]⟩ := by
                rw [← hS6, ← hS5, hng, hardT_snoc, ← HPL.out, show 97 :: (hardT ind (ns.take i) ++ (10 :: List.replicate (k * ind) 32 ++ [98])) = (97 :: hardT ind (ns.take i) ++ 10 :: List.replicate (k * ind) 32) ++ [98] by simp]
                exact (bytes_app _ _).symm
              have h1 : k * ind ≤ 7 * 16 := Nat.mul_le_mul (by omega) (by omega)
              rw [e]
              exact run_string_add W _ _ (by rw [← hS5, bytes_size]; simp only [List.length_append, List.length_cons, List.length_replicate]; have := HPl.out; omega) (by decide)
            have HNX : Hid (Fo.glue (.cons 1 (-1) ⟨#[97]⟩ .nil (hardL (ns.take i))) (Fo.one (dkK k) 0 ⟨#[]⟩ (dkF k)) = .cons 1 (-1) ⟨#[97]⟩ .nil (hardL (ns.take (i + 1)))) := Lib.hid (by rw [hng, hardL_snoc, nests_dk]; rfl)
            have HS6 := Lib.hid hS6
            rw [hS5]
            clear bd fk bw hww hS5 hS6 hng
            go_wp2_with (first | (refine wpl_ldK Try.underlying24 rfl infoD1 rfl _ rfl (N + 1) [.int .i64 (dkK k), .int .i64 0, .string ⟨#[]⟩, .slice ka kn kc] rfl BD1.out rfl ?_) | (at_builtin; refine wpl_kid rfl _ _ rfl w1.heap.size _ _ (.cons 1 (-1) ⟨#[97]⟩ .nil (hardL (ns.take i))) (dkK k) 0 ⟨#[]⟩ ka kn kc (dkF k) rfl ?_ rfl ?_ (nnv_some _ _ _) (by decide) ?_ ?_ ?_ ?_))
            · exact HOK.out.keep ((Below.refl _ _).alloc (Nat.le_refl _) _)
            · exact HX1.out
            · show (hardL (ns.take i)).len + 1 ≤ _
              rw [hardL_len, List.length_take]; omega
            · omega
            · exact (FK1.out.keep (fun b hb => ((Below.refl wr.heap.size wr).alloc (Nat.le_refl _) _).block b hb.1)).mono fun b hb => ⟨by have := hb.1; omega, hb.2⟩
            · intro v' w' ho' hb'
              rw [HNX.out] at ho'
              have HO' := Lib.hid ho'
              have HB' := Lib.hid (HW.out.trans (((Below.refl _ wr).alloc hsz _).trans hb'))
              clear ho' hb'
              go_wp2
              exact ⟨⟨i + 1, by push_cast; rfl, by omega, HO'.out, congrArg Value.string HS6.out.symm, HB'.out⟩, by simp only [intOf]; omega⟩
      · obtain rfl : i = len0 := by omega
        have etk : ns.take i = ns := by rw [← HNL.out]; exact List.take_length
        rw [etk] at HO ⊢
        have hRen := hard_ren ind ns HN7.out
        have F0 := OwnK.fos HO.out
        have hz1 := hardL_sz ns HN7.out
        have hz2 := hardL_n ns HN7.out
        have hz3 := hardT_len ind ns HN7.out
        have hz4 : (2 + 7 * ind) * ns.length ≤ 114 * 20 := Nat.mul_le_mul (by omega) (by rw [HNL.out]; omega)
        have hnl20 : ns.length ≤ 20 := by rw [HNL.out]; omega
        have hzs : (⟨#[]⟩ : ByteArray).size + 1 + FoSz (.cons 1 (-1) ⟨#[97]⟩ .nil (hardL ns)) ≤ 600 := by
          simp only [FoSz, ByteArray.size]; simp; omega
        have hzn : FoN (.cons 1 (-1) ⟨#[97]⟩ .nil (hardL ns)) ≤ 300 := by simp only [FoN]; omega
        have hsm := (renP_small 6 0 ⟨#[]⟩ (.cons 1 (-1) ⟨#[97]⟩ .nil (hardL ns)) 1000 ind (by omega) (by omega) (by omega)).1
        have PX := pieces_any 6 0 ⟨#[]⟩ _ _ 1000 ind 1000 ind _ F0 (by omega) (by omega) (cap_same 1000 1 1000 (by omega) (by omega)) (cap_same ind 0 16 (by omega) (by omega))
        obtain ⟨ua, uc, hu, -⟩ := OwnV.vs HO.out.choose_spec.1
        obtain ⟨ul, hul⟩ : ∃ n, (HO.out.choose).length = n := ⟨_, rfl⟩
        rw [hul] at hu
        subst hu
        obtain ⟨la, hla⟩ : ∃ l, renP 6 0 ⟨#[]⟩ (.cons 1 (-1) ⟨#[97]⟩ .nil (hardL ns)) 1000 ind = l := ⟨_, rfl⟩
        have hRen2 : ptext la = 97 :: hardT ind ns := by rw [← hla]; exact hRen
        rw [hla] at PX hsm
        obtain ⟨TL, hTL⟩ : ∃ x, 97 :: hardT ind ns = x := ⟨_, rfl⟩
        rw [hTL] at hRen2 ⊢
        have hTLz : TL.length ≤ 2400 := by rw [← hTL, List.length_cons]; omega
        obtain ⟨T, hT⟩ : ∃ x, bytes TL = x := ⟨_, rfl⟩
        have HT := Lib.hid hT
        have HR2 := Lib.hid hRen2
        have HSM := Lib.hid hsm
        have HTl := Lib.hid hTLz
        have PXH := Lib.hid PX
        unfold dv at PXH
        rw [hT]
        clear hul hla hRen hRen2 F0 hz1 hz2 hz3 hz4 hzs hzn PX hTL hTLz hT hsm hi hlt etk hnl20
        have j1 : ¬ (i : Int) < i := by omega
        go_wp2_with fail
        refine PXH.out.mono ?_
        rintro e w6 ⟨u6, rfl, hu6, hb6⟩
        have d6 := HBR.out.trans (hb6.mono HBR.out.size)
        have TX := Lib.hid (text_c la u6 TL w6 (OwnV.vs hu6) HR2.out (by have := HTl.out; omega) (by have := HSM.out; omega))
        have D6 := Lib.hid d6
        clear hu6 hb6 d6
        go_wp2_with fail
        refine TX.out.mono ?_
        rintro e w7 ⟨rfl, hb7⟩
        have D7 := Lib.hid (D6.out.trans (hb7.mono D6.out.size))
        clear hb7
        rw [HT.out]
        go_wp2
        go_ret
        exact ⟨rfl, D7.out⟩
end Go.Proofs.Ytehofomfblfhaaa

/- Layouts: RenderLines: what its loop puts together, plain. -/
namespace Go.Proofs.Ytehofomfblfhaaa
open Go.RowKit
set_option linter.unusedVariables false
set_option linter.unusedSimpArgs false

theorem linL_snoc (ts : List Nat) (t : Nat) : linL (ts ++ [t]) = Fo.glue (linL ts) (.cons 2 0 ⟨#[]⟩ .nil (.cons 6 0 ⟨#[]⟩ (gW t) .nil)) := by
  induction ts with
  | nil => rfl
  | cons u r ih => simp only [List.cons_append, linL, Fo.glue, ih]
theorem linA_one (t : Nat) : linA [t] = Fo.glue .nil (Fo.one 6 0 ⟨#[]⟩ (gW t)) := rfl
theorem linA_snoc (ts : List Nat) (t : Nat) (h : 0 < ts.length) : linA (ts ++ [t]) = Fo.glue (Fo.glue (linA ts) (Fo.one 2 0 ⟨#[]⟩ .nil)) (Fo.one 6 0 ⟨#[]⟩ (gW t)) := by
  cases ts with
  | nil => simp at h
  | cons u r =>
    rw [glue_assoc]
    simp only [List.cons_append, linA, Fo.glue, linL_snoc, Fo.one]
theorem gW_sz (t : Nat) : FoSz (gW t) = 2 * t + 3 := by
  have e : (bytes (yw t)).size = t := by rw [bytes_size]; simp [yw]
  have e0 : (⟨#[]⟩ : ByteArray).size = 0 := rfl
  simp only [gW, FoSz, e, e0]; omega
theorem gW_n (t : Nat) : FoN (gW t) = 3 := rfl
theorem gW_right (t d : Nat) : rightF (gW t) d = true := by simp [gW, rightF, Fo.len]
theorem linL_all (ts : List Nat) (h : ∀ t ∈ ts, t ≤ 8) : FoSz (linL ts) ≤ 21 * ts.length ∧ FoN (linL ts) = 5 * ts.length ∧ (linL ts).len = 2 * ts.length ∧ ∀ d, 2 ≤ d → rightF (linL ts) d = true := by
  induction ts with
  | nil => exact ⟨Nat.le_refl _, rfl, rfl, fun _ _ => rfl⟩
  | cons t r ih =>
    obtain ⟨h1, h2, h3, h4⟩ := ih fun u hu => h u (by simp [hu])
    have ht := h t (by simp)
    have e0 : (⟨#[]⟩ : ByteArray).size = 0 := rfl
    refine ⟨?_, ?_, ?_, fun d hd => ?_⟩
    · simp only [linL, FoSz, gW_sz, e0, List.length_cons]; omega
    · simp only [linL, FoN, gW_n, h2, List.length_cons]; omega
    · simp only [linL, Fo.len, h3, List.length_cons]; omega
    · simp only [linL, rightF, h4 d hd, gW_right]
      simp [Fo.len]; omega
theorem linA_all (ts : List Nat) (h : ∀ t ∈ ts, t ≤ 8) : FoSz (linA ts) ≤ 21 * ts.length ∧ FoN (linA ts) ≤ 5 * ts.length ∧ (linA ts).len ≤ 2 * ts.length ∧ ∀ d, 2 ≤ d → rightF (linA ts) d = true := by
  cases ts with
  | nil => exact ⟨Nat.le_refl _, Nat.le_refl _, Nat.le_refl _, fun _ _ => rfl⟩
  | cons t r =>
    obtain ⟨h1, h2, h3, h4⟩ := linL_all r fun u hu => h u (by simp [hu])
    have ht := h t (by simp)
    have e0 : (⟨#[]⟩ : ByteArray).size = 0 := rfl
    refine ⟨?_, ?_, ?_, fun d hd => ?_⟩
    · simp only [linA, FoSz, gW_sz, e0, List.length_cons]; omega
    · simp only [linA, FoN, gW_n, h2, List.length_cons]; omega
    · simp only [linA, Fo.len, h3, List.length_cons]; omega
    · simp only [linA, rightF, h4 d hd, gW_right]
      simp; omega
/-- RenderLines: what the layout's text is, and how long. -/
theorem lines_ren (w : Nat) (ts : List Nat) (h : ∀ t ∈ ts, t ≤ 8) (hl : ts.length ≤ 40) :
    ∃ hh ls, ptext (renP 6 0 ⟨#[]⟩ (linA ts) w 0) = hh ++ tlL ls ∧ okL w hh ∧ ∀ l ∈ ls, okL w l := by
  obtain ⟨h1, h2, h3, h4⟩ := linA_all ts h
  have hr : rightD 6 0 ⟨#[]⟩ (linA ts) 200 = true := by
    rw [rightD_is, if_neg (by decide), if_neg (by decide), if_pos (by decide), h4 _ (by decide)]
    decide
  unfold renP
  rw [if_pos hr]
  exact lines_plain w ts
theorem ycut : ∀ t : Fin 16, (ByteArray.mk #[121, 121, 121, 121, 121, 121, 121, 121, 121, 121, 121, 121, 121, 121, 121]).extract 0 t.val = bytes (yw t.val) := by decide +kernel
/-- A group of two words, a blank between, in memory. -/
theorem gw_fop {N : Nat} {w : World} (t : Nat) (ht : t ≤ 8) (hN : N ≤ w.heap.size) (S : ByteArray) (hS : bytes (yw t) = S) :
    FoP (fun b => N ≤ b ∧ b < w.heap.size + 1) (w.alloc (.cells #[.int .i64 1, .int .i64 (-1), .string S, .slice none 0 0, .int .i64 2, .int .i64 0, .string ⟨#[]⟩, .slice none 0 0, .int .i64 1, .int .i64 (-1), .string S, .slice none 0 0] 24)) (.slice (some ⟨w.heap.size, 0, none⟩) 3 3) (gW t) := by
  subst hS
  have c : ∀ j, (w.alloc (.cells #[.int .i64 1, .int .i64 (-1), .string (bytes (yw t)), .slice none 0 0, .int .i64 2, .int .i64 0, .string ⟨#[]⟩, .slice none 0 0, .int .i64 1, .int .i64 (-1), .string (bytes (yw t)), .slice none 0 0] 24)).cell? ⟨w.heap.size, j, none⟩ = #[.int .i64 1, .int .i64 (-1), .string (bytes (yw t)), .slice none 0 0, .int .i64 2, .int .i64 0, .string ⟨#[]⟩, .slice none 0 0, .int .i64 1, .int .i64 (-1), .string (bytes (yw t)), .slice none 0 0][j]? := fun j => World.cell?_alloc_at _ _ _ _ rfl
  have z : (bytes (yw t)).size ≤ maxLen := by rw [bytes_size]; simp only [yw, List.length_replicate]; unfold maxLen; omega
  refine ⟨_, 3, rfl, (by show 3 ≤ 3; omega), by decide, by simp, fun _ => ⟨w.heap.size, 0, rfl, ⟨hN, by omega⟩, ?_⟩⟩
  exact ⟨⟨z, c 0, c 1, c 2, none, 0, c 3, by decide, by decide, fun _ => rfl, fun h => absurd h (by decide)⟩, ⟨by decide, c 4, c 5, c 6, none, 0, c 7, by decide, by decide, fun _ => rfl, fun h => absurd h (by decide)⟩, ⟨z, c 8, c 9, c 10, none, 0, c 11, by decide, by decide, fun _ => rfl, fun h => absurd h (by decide)⟩, trivial⟩
/-- A document is appended to such a row, with word of what else stands. -/
theorem wpl_kidG {w : World} {ops : Array Oper} {rest : List Oper} {o : Oper} {a : Act} {Q : Exit → Act → World → Prop} (hgd : o.guard = none) (s x : Operand)
    (ho : o.op = .call { callee := .builtin .append, args := #[s, x], argTypes := #[22, 22] })
    (B : Nat) (v u : Value) (F : Fo) (k f : Int) (t : ByteArray) (ka : Option Addr) (kn kc : Nat) (kids : Fo) (hs : a.eval s = v) (hown : OwnK B w v F) (hx : a.eval x = u)
    (hu : Vs 4 w u [[.int .i64 k, .int .i64 f, .string t, .slice ka kn kc]]) (hnn : NNv u) (ht : t.size ≤ maxLen) (hlen : F.len ≤ 1000000) (hB : B ≤ w.heap.size)
    (hkids : FoP (fun b => b < w.heap.size ∧ some b ≠ v.ownBlock) w (.slice ka kn kc) kids)
    (h : ∀ v' w', OwnK B w' v' (Fo.glue F (Fo.one k f t kids)) → Below B w w' → (∀ b, b < w.heap.size ∧ some b ≠ v.ownBlock → w'.heap[b]? = w.heap[b]?) → (∀ b, b < w.heap.size ∧ some b ≠ v.ownBlock → b < w'.heap.size ∧ some b ≠ v'.ownBlock) → wpList Try.prog ops Q rest (a.put o.dst v') w') : wpList Try.prog ops Q (o :: rest) a w := by
  obtain ⟨L, h1, h2⟩ := hown
  have hl := KidsV.len F L h2
  exact wpl_appendVG hgd s x ho Try.underlying22 infoD rfl (by decide) B v u L [[.int .i64 k, .int .i64 f, .string t, .slice ka kn kc]] (L ++ [[.int .i64 k, .int .i64 f, .string t, .slice ka kn kc]]) hs h1 hx hu hnn (by simp) (by simp [Value.oneCell']) (by simp only [List.length_singleton]; omega) (by decide) hB rfl
    (fun v' w' ho' hb' hfr hob => by
      have hf : ∀ b, (b < w.heap.size ∧ some b ≠ v.ownBlock) → w'.heap[b]? = w.heap[b]? := fun b hb => hfr b hb.1 hb.2
      have hp : ∀ b, (b < w.heap.size ∧ some b ≠ v.ownBlock) → (b < w'.heap.size ∧ some b ≠ v'.ownBlock) := fun b hb => by
        refine ⟨Nat.lt_of_lt_of_le hb.1 hb'.size, ?_⟩
        rcases hob with e | e
        · rw [e]; exact hb.2
        · rw [e]; intro h; rw [Option.some.injEq] at h; omega
      exact h v' w' ⟨_, ho', KidsV.snoc ht ((hkids.keep hf).mono hp) F L (h2.keep hf hp F)⟩ hb' hf hp)
theorem byte_isL (c : UInt8) (n : Nat) (hn : n < 256) : ((c.toNat : Int) == (n : Int)) = (c == UInt8.ofNat n) := by
  rw [Bool.eq_iff_iff]
  simp only [beq_iff_eq]
  constructor
  · intro h
    apply UInt8.toNat_inj.1
    rw [UInt8.toNat_ofNat_of_lt' hn]
    omega
  · intro h
    rw [h, UInt8.toNat_ofNat_of_lt' hn]
/-- Is there a blank among so many bytes from a place on? -/
def hb32 (T : List UInt8) (a : Nat) : Nat → Bool
  | 0 => false
  | m + 1 => hb32 T a m || (T[a + m]? == some 32)
theorem hb32_no (T : List UInt8) (a i : Nat) (h : ∀ j, a ≤ j → j < i → T[j]? ≠ some 32) : ∀ m, a + m ≤ i → hb32 T a m = false := by
  intro m
  induction m with
  | zero => intro _; rfl
  | succ m ih =>
    intro hm
    have h1 := h (a + m) (by omega) (by omega)
    simp only [hb32, ih (by omega), Bool.false_or]
    simpa using h1
theorem bytes_at (T : List UInt8) (j : Nat) (h : j < (bytes T).size) : T[j]? = some (bytes T)[j] := by
  have h' : j < T.length := by rw [bytes_size] at h; exact h
  rw [List.getElem?_eq_getElem h']; rfl
theorem hb32_step (T : List UInt8) (a k : Nat) (hk : a ≤ k) (h : k < (bytes T).size) : hb32 T a (k + 1 - a) = (hb32 T a (k - a) || (((bytes T)[k].toNat : Int) == 32)) := by
  rw [show k + 1 - a = (k - a) + 1 by omega]
  simp only [hb32]
  rw [show a + (k - a) = k by omega, bytes_at T k h]
  have e1 : (((bytes T)[k].toNat : Int) == 32) = ((bytes T)[k] == 32) := byte_isL (bytes T)[k] 32 (by omega)
  rw [e1]
  simp
end Go.Proofs.Ytehofomfblfhaaa

/- Layouts: RenderLines' walk. -/
namespace Go.Proofs.Ytehofomfblfhaaa
open Go.RowKit
set_option linter.unusedVariables false
set_option linter.unusedSimpArgs false

set_option maxRecDepth 100000 in
set_option maxHeartbeats 8000000 in
theorem rlines_walk (a0 : Option Addr) (len0 cap0 : Nat) (z0 : List Int) (x1 : Int) (w : World) (w0 : RowI w a0 len0 cap0 z0) {P1 : Prop} (m1 : P1) :
    Calls Try.prog 7 #[.slice a0 len0 cap0, .int .i64 x1] w fun e w' => e = .returned (.bool true) ∧ Below w.heap.size w w' := by
  obtain ⟨zs, hl, b0, n0⟩ := row_is w0
  clear w0 n0 m1
  have al := Lib.hid (alive_c w)
  by_cases hc : len0 ≤ 40 ∧ 1 ≤ x1 ∧ x1 ≤ 60
  case neg =>
    have hh : 40 < (len0 : Int) ∨ (¬ 40 < (len0 : Int) ∧ x1 < 1) ∨ (¬ 40 < (len0 : Int) ∧ ¬ x1 < 1 ∧ 60 < x1) := by omega
    clear hc b0 hl
    rcases hh with h1 | ⟨h1, h2⟩ | ⟨h1, h2, h3⟩
    all_goals (
      go_enter Try.func7, Try.ntmps7
      go_wp2_with fail
      refine al.out.mono ?_
      rintro e w1 ⟨rfl, hb⟩
      have HB := Lib.hid hb
      clear hb
      go_wp2
      go_ret
      exact ⟨rfl, HB.out⟩)
  obtain ⟨q1, q2, q3⟩ := hc
  obtain ⟨wn, rfl⟩ : ∃ k : Nat, x1 = (k : Int) := ⟨x1.toNat, by omega⟩
  have p2 : ¬ 40 < (len0 : Int) := by omega
  have p6 : ¬ 60 < (wn : Int) := by omega
  have p5 : ¬ (wn : Int) < 1 := by omega
  obtain ⟨ts, hts⟩ : ∃ ts, zs.map (fun z => 1 + lowS z) = ts := ⟨_, rfl⟩
  have htl : ts.length = len0 := by rw [← hts, List.length_map, hl]
  have ht8 : ∀ t ∈ ts, t ≤ 8 := by
    intro n hn
    rw [← hts] at hn
    obtain ⟨z, -, rfl⟩ := List.mem_map.1 hn
    have := (lowS_is z).2
    omega
  have htg : ∀ j (hj : j < zs.length), ts.take (j + 1) = ts.take j ++ [1 + lowS zs[j]] := by
    intro j hj
    rw [List.take_succ_eq_append_getElem (by rw [htl]; omega)]
    simp [← hts]
  obtain ⟨a1, cap1, he, k1, k2, k3⟩ := b0
  simp only [Value.slice.injEq] at he
  obtain ⟨rfl, hq, rfl⟩ := he
  clear hq
  have K3 := Lib.hid k3
  have HL := Lib.hid hl
  have HTG := Lib.hid htg
  have HT8 := Lib.hid ht8
  have HTL := Lib.hid htl
  clear k3 hl hts htg ht8 htl k1
  go_enter Try.func7, Try.ntmps7
  go_wp2_with fail
  refine al.out.mono ?_
  rintro e w1 ⟨rfl, hb⟩
  have HB1 := Lib.hid hb
  have HN1 : Hid (OwnK w1.heap.size w1 (.slice none 0 0) .nil) := Lib.hid (ownK_nil _ _)
  clear hb
  go_upto_region 6 with fail
  go_loopw [6, 7] (fun kv iv wr => ∃ i : Nat, iv = .int .i64 (i : Int) ∧ i ≤ len0 ∧ OwnK w1.heap.size wr kv (linA (ts.take i)) ∧ Below w1.heap.size w1 wr) (fun _ iv _ => len0 - (intOf iv).toNat)
  case atStart => exact ⟨0, rfl, by omega, HN1.out, Below.refl _ _⟩
  case round =>
    obtain ⟨i, rfl, hi, ho, hb⟩ := hrel
    have HBR := Lib.hid (HB1.out.trans (hb.mono HB1.out.size))
    have HB := Lib.hid hb
    have HO := Lib.hid ho
    clear hb ho
    by_cases hlt : i < len0
    · have hil : i < zs.length := by rw [HL.out]; exact hlt
      obtain ⟨b, off, rfl, hbk, hcc⟩ := K3.out (by omega)
      have c0 := (HBR.out.cell (p := ⟨b, off + i, none⟩) hbk).trans (hcc i hil)
      obtain ⟨z, hz⟩ : ∃ z, zs[i] = z := ⟨_, rfl⟩
      have htg := HTG.out i hil
      rw [hz] at c0 htg
      obtain ⟨e7, l7⟩ := lowS_is z
      obtain ⟨t, ht⟩ : ∃ t, 1 + lowS z = t := ⟨_, rfl⟩
      rw [ht] at htg
      obtain ⟨lo, hlo⟩ : ∃ lo : Int, (lowS z : Int) = lo := ⟨_, rfl⟩
      rw [hlo] at e7
      have e8 : (1 : Int) + lo = (t : Int) := by omega
      have lo0 : 0 ≤ lo := by omega
      have lo1 : lo < 8 := by omega
      have hxc := ycut ⟨t, by omega⟩
      simp only at hxc
      obtain ⟨TX, hTX⟩ : ∃ x, bytes (yw t) = x := ⟨_, rfl⟩
      have hTXz : TX.size = t := by rw [← hTX, bytes_size]; simp [yw]
      rw [hTX] at hxc
      have hwz : wr.heap.size ≥ w1.heap.size := HB.out.size
      have j1 : (i : Int) < len0 := by omega
      have t8 : t ≤ 8 := by omega
      obtain ⟨N, hN⟩ : ∃ N, wr.heap.size = N := ⟨_, rfl⟩
      have EW : Hid (∀ W0 : World, wr.alloc (.cells #[.int .i64 1, .int .i64 (-1), .string TX, .slice none 0 0, .int .i64 2, .int .i64 0, .string ⟨#[]⟩, .slice none 0 0, .int .i64 1, .int .i64 (-1), .string TX, .slice none 0 0] 24) = W0 →
          OwnK w1.heap.size W0 u6 (linA (ts.take i)) ∧ FoP (fun b => b < W0.heap.size ∧ some b ≠ u6.ownBlock) W0 (.slice (some ⟨N, 0, none⟩) 3 3) (gW t) ∧ Below w1.heap.size w1 W0) := Lib.hid (by
        rintro W0 rfl
        subst hN
        have bX : Below wr.heap.size wr (wr.alloc (.cells #[.int .i64 1, .int .i64 (-1), .string TX, .slice none 0 0, .int .i64 2, .int .i64 0, .string ⟨#[]⟩, .slice none 0 0, .int .i64 1, .int .i64 (-1), .string TX, .slice none 0 0] 24)) := (Below.refl _ wr).alloc (Nat.le_refl _) _
        refine ⟨OwnK.keep HO.out bX, (gw_fop (N := wr.heap.size) t t8 (Nat.le_refl _) TX hTX).mono fun b hb => ⟨by rw [World.size_alloc]; exact hb.2, fun h => by have := (OwnK.own HO.out b h.symm).2; omega⟩, HB.out.trans (bX.mono hwz)⟩)
      have HTX := Lib.hid hTX
      clear hz ht hlo hTX hcc l7
      rcases Nat.eq_zero_or_pos i with h0 | h0
      · subst h0
        rw [Nat.add_zero] at c0
        go_upto_region 10 with fail
        obtain ⟨W0, hW0⟩ : ∃ x, wr.alloc (.cells #[.int .i64 1, .int .i64 (-1), .string TX, .slice none 0 0, .int .i64 2, .int .i64 0, .string ⟨#[]⟩, .slice none 0 0, .int .i64 1, .int .i64 (-1), .string TX, .slice none 0 0] 24) = x := ⟨_, rfl⟩
        rw [hW0]
        obtain ⟨ho0, fk0, b0'⟩ := EW.out W0 hW0
        have HO0 := Lib.hid ho0
        have FK0 := Lib.hid fk0
        have HB0 := Lib.hid b0'
        have NX : Hid (Fo.glue (linA (ts.take 0)) (Fo.one 6 0 ⟨#[]⟩ (gW t)) = linA (ts.take (0 + 1))) := Lib.hid (by rw [htg]; rfl)
        have HX1 := Lib.hid (one_vs W0 6 0 ⟨#[]⟩ (some ⟨N, 0, none⟩) 3 3)
        have hwz0 := b0'.size
        clear hW0 EW hN ho0 fk0 b0' htg
        go_wp2_with (at_builtin; refine wpl_kidG rfl _ _ rfl w1.heap.size _ _ (linA (ts.take 0)) 6 0 ⟨#[]⟩ (some ⟨N, 0, none⟩) 3 3 (gW t) rfl ?_ rfl ?_ (nnv_some _ _ _) (by decide) (by show (0 : Nat) ≤ 1000000; omega) ?_ ?_ ?_)
        · exact HO0.out.keep ((Below.refl _ _).alloc (Nat.le_refl _) _)
        · exact HX1.out
        · rw [World.size_alloc]; omega
        · exact (FK0.out.keep (fun b hb => ((Below.refl W0.heap.size W0).alloc (Nat.le_refl _) _).block b hb.1)).mono fun b hb => ⟨by rw [World.size_alloc]; have := hb.1; omega, hb.2⟩
        · intro v' w' ho' hb' hf' hp'
          have ho2 : OwnK w1.heap.size w' v' (Fo.glue (linA (ts.take 0)) (Fo.one 6 0 ⟨#[]⟩ (gW t))) := ho'
          rw [NX.out] at ho2
          have HO' := Lib.hid ho2
          clear ho2
          have HB' := Lib.hid (HB0.out.trans (((Below.refl _ W0).alloc hwz0 _).trans hb'))
          clear ho' hb' hf' hp'
          go_wp2
          exact ⟨⟨1, rfl, by omega, HO'.out, HB'.out⟩, by simp only [intOf]; omega⟩
      · have j0 : (0 : Int) < i := by omega
        go_upto_region 10 with fail
        obtain ⟨W0, hW0⟩ : ∃ x, wr.alloc (.cells #[.int .i64 1, .int .i64 (-1), .string TX, .slice none 0 0, .int .i64 2, .int .i64 0, .string ⟨#[]⟩, .slice none 0 0, .int .i64 1, .int .i64 (-1), .string TX, .slice none 0 0] 24) = x := ⟨_, rfl⟩
        rw [hW0]
        obtain ⟨ho0, fk0, b0'⟩ := EW.out W0 hW0
        have HO0 := Lib.hid ho0
        have FK0 := Lib.hid fk0
        have HB0 := Lib.hid b0'
        have hti : (ts.take i).length = i := by rw [List.length_take, HTL.out]; omega
        have NX : Hid (Fo.glue (Fo.glue (linA (ts.take i)) (Fo.one 2 0 ⟨#[]⟩ .nil)) (Fo.one 6 0 ⟨#[]⟩ (gW t)) = linA (ts.take (i + 1))) := Lib.hid (by rw [htg, linA_snoc _ _ (by omega)])
        have hal := (linA_all (ts.take i) (fun t ht => HT8.out t (List.mem_of_mem_take ht))).2.2.1
        have HAL : Hid ((linA (ts.take i)).len ≤ 80) := Lib.hid (by omega)
        have HX1 := Lib.hid (one_vs W0 2 0 ⟨#[]⟩ none 0 0)
        have hwz0 := b0'.size
        clear hW0 EW hN ho0 fk0 b0' htg hti hal
        go_wp2_with (at_builtin; refine wpl_kidG rfl _ _ rfl w1.heap.size _ _ (linA (ts.take i)) 2 0 ⟨#[]⟩ none 0 0 .nil rfl ?_ rfl ?_ (nnv_some _ _ _) (by decide) ?_ ?_ ?_ ?_)
        · exact HO0.out.keep ((Below.refl _ _).alloc (Nat.le_refl _) _)
        · exact HX1.out
        · have := HAL.out; omega
        · rw [World.size_alloc]; omega
        · exact ⟨none, 0, rfl, by decide, by decide, fun _ => rfl, fun h => absurd h (by decide)⟩
        · intro v1 w2 ho1 hb1 hf1 hp1
          have FK2 := Lib.hid (((FK0.out.keep (fun b hb => ((Below.refl W0.heap.size W0).alloc (Nat.le_refl _) _).block b hb.1)).mono (Q := fun b => b < W0.heap.size + 1 ∧ some b ≠ u6.ownBlock) fun b hb => ⟨by have := hb.1; omega, hb.2⟩).keep (fun b hb => hf1 b (by simpa using hb.1) hb.2) |>.mono (Q := fun b => b < w2.heap.size ∧ some b ≠ v1.ownBlock) (fun b hb => hp1 b (by simpa using hb.1) hb.2))
          have hb2 := HB0.out.trans (((Below.refl _ W0).alloc hwz0 _).trans hb1)
          have hwz2 := hb2.size
          have HO1 := Lib.hid ho1
          have HB2 := Lib.hid hb2
          have HX2 := Lib.hid (one_vs w2 6 0 ⟨#[]⟩ (some ⟨N, 0, none⟩) 3 3)
          clear ho1 hb1 hb2 hf1 hp1
          go_wp2_with (at_builtin; refine wpl_kidG rfl _ _ rfl w1.heap.size _ _ (Fo.glue (linA (ts.take i)) (Fo.one 2 0 ⟨#[]⟩ .nil)) 6 0 ⟨#[]⟩ (some ⟨N, 0, none⟩) 3 3 (gW t) rfl ?_ rfl ?_ (nnv_some _ _ _) (by decide) ?_ ?_ ?_ ?_)
          · exact HO1.out.keep ((Below.refl _ _).alloc (Nat.le_refl _) _)
          · exact HX2.out
          · have := HAL.out; rw [glue_len]; simp only [Fo.one, Fo.len]; omega
          · rw [World.size_alloc]; omega
          · exact (FK2.out.keep (fun b hb => ((Below.refl w2.heap.size w2).alloc (Nat.le_refl _) _).block b hb.1)).mono fun b hb => ⟨by rw [World.size_alloc]; have := hb.1; omega, hb.2⟩
          · intro v' w' ho' hb' hf' hp'
            rw [NX.out] at ho'
            have HO' := Lib.hid ho'
            have HB' := Lib.hid (HB2.out.trans (((Below.refl _ w2).alloc hwz2 _).trans hb'))
            clear ho' hb' hf' hp'
            go_wp2
            exact ⟨⟨i + 1, by push_cast; rfl, by omega, HO'.out, HB'.out⟩, by simp only [intOf]; omega⟩
    · obtain rfl : i = len0 := by omega
      have etk : ts.take i = ts := by rw [← HTL.out]; exact List.take_length
      rw [etk] at HO
      obtain ⟨hh, ls, hRen, ho1, ho2⟩ := lines_ren wn ts HT8.out (by rw [HTL.out]; omega)
      have SEG := seg_ok wn ls hh ho1 ho2
      have F0 := OwnK.fos HO.out
      obtain ⟨hz1, hz2, hz3, -⟩ := linA_all ts HT8.out
      have hnl20 : ts.length ≤ 40 := by rw [HTL.out]; omega
      have hzs : (⟨#[]⟩ : ByteArray).size + 1 + FoSz (linA ts) ≤ 900 := by
        simp only [ByteArray.size]; simp; omega
      have hzn : FoN (linA ts) ≤ 299 := by omega
      have hsm := (renP_small 6 0 ⟨#[]⟩ (linA ts) wn 0 (by omega) (by omega) (by omega)).1
      have hstx := renP_text 6 0 ⟨#[]⟩ (linA ts) wn 0 (by omega) hzn (by omega)
      have PX := pieces_any 6 0 ⟨#[]⟩ _ _ (wn : Int) 0 wn 0 _ F0 (by omega) (by omega) (cap_same wn 1 1000 (by omega) (by omega)) rfl
      obtain ⟨ua, uc, hu, -⟩ := OwnV.vs HO.out.choose_spec.1
      obtain ⟨ul, hul⟩ : ∃ n, (HO.out.choose).length = n := ⟨_, rfl⟩
      rw [hul] at hu
      subst hu
      obtain ⟨la, hla⟩ : ∃ l, renP 6 0 ⟨#[]⟩ (linA ts) wn 0 = l := ⟨_, rfl⟩
      rw [hla] at PX hsm hRen hstx
      rw [← hRen] at SEG
      obtain ⟨T, hT⟩ : ∃ x, ptext la = x := ⟨_, rfl⟩
      rw [hT] at SEG hstx
      have HT := Lib.hid hT
      have HSEG := Lib.hid SEG
      have HSM := Lib.hid hsm
      have HTl := Lib.hid hstx
      have PXH := Lib.hid PX
      unfold dv at PXH
      clear hul hla hRen F0 hz1 hz2 hz3 hzs hzn PX hT hsm hi hlt etk hnl20 hstx SEG ho1 ho2
      have j1 : ¬ (i : Int) < i := by omega
      go_wp2_with fail
      refine PXH.out.mono ?_
      rintro e w6 ⟨u6, rfl, hu6, hb6⟩
      have d6 := HBR.out.trans (hb6.mono HBR.out.size)
      have TX := Lib.hid (text_c la u6 T w6 (OwnV.vs hu6) HT.out HTl.out (by have := HSM.out; omega))
      have D6 := Lib.hid d6
      clear hu6 hb6 d6
      go_wp2_with fail
      refine TX.out.mono ?_
      rintro e w7 ⟨rfl, hb7⟩
      have D7 := Lib.hid (D6.out.trans (hb7.mono D6.out.size))
      have hSz : Hid ((bytes T).size = T.length) := Lib.hid (bytes_size T)
      have HST := Lib.hid (hb32_step T)
      have HNO := Lib.hid (hb32_no T)
      have HAT := Lib.hid (bytes_at T)
      obtain ⟨S, hS⟩ : ∃ x, bytes T = x := ⟨_, rfl⟩
      rw [hS] at hSz HST HAT ⊢
      have hSl : S.size ≤ 100000000 := by rw [hSz.out]; exact HTl.out
      clear hb7 hS
      go_upto_region 16 with fail
      go_loop [11, 12] (fun av iv => ∃ a m : Nat, av = .int .i64 (a : Int) ∧ iv = .int .i64 (m : Int) ∧ a ≤ m ∧ m ≤ S.size + 1 ∧ (m ≤ S.size → (a = 0 ∨ (0 < a ∧ T[a - 1]? = some 10)) ∧ (∀ j, a ≤ j → j < m → T[j]? ≠ some 10))) (fun _ iv => S.size + 1 - (intOf iv).toNat)
      case atStart => exact ⟨0, 0, rfl, rfl, by omega, by omega, fun _ => ⟨.inl rfl, fun j h1 h2 => by omega⟩⟩
      case round =>
        obtain ⟨a, m, rfl, rfl, h1, h2, h3⟩ := hrel
        by_cases hle : m ≤ S.size
        · obtain ⟨h4, h5⟩ := h3 hle
          have seg := Lib.hid (HSEG.out a m h1 (by rw [← hSz.out]; exact hle) h4 h5)
          have H4 := Lib.hid h4
          have H5 := Lib.hid h5
          have l1 : (m : Int) ≤ S.size := by omega
          have l0 : (0 : Int) ≤ m := by omega
          clear h3 h4 h5
          by_cases hc : m < S.size ∧ T[m]? ≠ some 10
          · obtain ⟨g1, g2⟩ := hc
            have at1 := HAT.out m g1
            have n10 : ((S[m].toNat : Int) == 10) = false := by
              rw [show ((S[m].toNat : Int) == 10) = (S[m] == 10) from byte_isL S[m] 10 (by omega)]
              rw [at1] at g2; simpa using g2
            have l2 : (m : Int) < S.size := by omega
            have G2 := Lib.hid g2
            obtain ⟨C, hC⟩ : ∃ x, S[m] = x := ⟨_, rfl⟩
            rw [hC] at n10
            clear at1 g2
            go_wp2
            exact ⟨⟨a, m + 1, rfl, by push_cast; rfl, by omega, by omega, fun h => ⟨H4.out, fun j e1 e2 => by
              rcases Nat.lt_succ_iff_lt_or_eq.1 e2 with e2 | rfl
              · exact H5.out j e1 e2
              · exact G2.out⟩⟩, by simp only [intOf]; omega⟩
          · have hend : m = T.length ∨ T[m]? = some 10 := by
              rw [← hSz.out]
              by_cases hz : m = S.size
              · exact .inl hz
              · exact .inr (by
                  by_cases hq : T[m]? = some 10
                  · exact hq
                  · exact absurd ⟨by omega, hq⟩ hc)
            have SEG2 := Lib.hid (seg.out hend)
            have NXT : Hid (m + 1 ≤ S.size → T[m + 1 - 1]? = some 10) := Lib.hid (fun h => by
              rw [Nat.add_sub_cancel]
              rcases hend with e | e
              · rw [← hSz.out] at e; omega
              · exact e)
            have body : True := trivial
            have hgo : (m = S.size ∧ ¬ (m : Int) < S.size) ∨ ∃ g1 : m < S.size, (m : Int) < S.size ∧ ((S[m].toNat : Int) == 10) = true := by
              by_cases hz : m = S.size
              · exact .inl ⟨hz, by omega⟩
              · refine .inr ⟨by omega, by omega, ?_⟩
                rw [show ((S[m].toNat : Int) == 10) = (S[m] == 10) from byte_isL S[m] 10 (by omega)]
                have at1 := HAT.out m (by omega)
                rcases hend with e | e
                · rw [← hSz.out] at e; omega
                · rw [at1] at e; simpa using e
            have HM1 : Hid (a ≤ m) := Lib.hid h1
            clear hc hend seg
            have a0 : (0 : Int) ≤ a := by omega
            have a1 : (a : Int) ≤ m := by omega
            have h11 : Hid (m ≤ S.size) := Lib.hid hle
            rcases hgo with ⟨g0, g1⟩ | ⟨g1, g2, g3⟩
            all_goals (
              go_upto_region 19 with fail
              go_upto_region 21 with fail
              go_loop [13, 14] (fun bv kv => ∃ k : Nat, kv = .int .i64 (k : Int) ∧ a ≤ k ∧ k ≤ m ∧ bv = .bool (hb32 T a (k - a))) (fun _ kv => m - (intOf kv).toNat)
              case atStart => exact ⟨a, rfl, Nat.le_refl _, HM1.out, by rw [Nat.sub_self]; rfl⟩
              case round =>
                obtain ⟨k, rfl, k1, k2, rfl⟩ := hrel
                by_cases hk : k < m
                · have hkS : k < S.size := by have := h11.out; omega
                  have bs := Lib.hid (HST.out a k k1 hkS)
                  have j1 : (k : Int) < m := by omega
                  have j2 : (k : Int) < S.size := by omega
                  have j0 : (0 : Int) ≤ k := by omega
                  obtain ⟨X, hX⟩ : ∃ X, hb32 T a (k - a) = X := ⟨_, rfl⟩
                  have HX := Lib.hid hX
                  rw [hX]
                  clear hX
                  cases X
                  all_goals (
                    go_wp2
                    all_goals (
                      go_round
                      case rel => exact ⟨k + 1, by go_num, by omega, by omega, by rw [bs.out, HX.out]; simp_all⟩
                      case measure => simp [intOf]; omega))
                · obtain rfl : k = m := by omega
                  have hB : k - a ≤ wn ∨ hb32 T a (k - a) = false := by
                    rcases SEG2.out with e | e
                    · exact .inl e
                    · exact .inr (HNO.out a k e (k - a) (by omega))
                  obtain ⟨X, hX⟩ : ∃ X, hb32 T a (k - a) = X := ⟨_, rfl⟩
                  rw [hX] at hB ⊢
                  have j1 : ¬ (k : Int) < k := by omega
                  clear hX
                  rcases hB with hB | rfl
                  · have j2 : ¬ (wn : Int) < (k : Int) - a := by omega
                    clear hB
                    go_wp2
                    exact ⟨⟨k + 1, k + 1, by push_cast; first | rfl | (simp only [Value.int.injEq, true_and]; omega), by push_cast; first | rfl | (simp only [Value.int.injEq, true_and]; omega), by omega, by omega, fun h => ⟨.inr ⟨by omega, NXT.out h⟩, fun j e1 e2 => by omega⟩⟩, by simp only [intOf]; omega⟩
                  · clear hk
                    by_cases j2 : (wn : Int) < (k : Int) - a
                    · go_wp2
                      exact ⟨⟨k + 1, k + 1, by push_cast; first | rfl | (simp only [Value.int.injEq, true_and]; omega), by push_cast; first | rfl | (simp only [Value.int.injEq, true_and]; omega), by omega, by omega, fun h => ⟨.inr ⟨by omega, NXT.out h⟩, fun j e1 e2 => by omega⟩⟩, by simp only [intOf]; omega⟩
                    · go_wp2
                      exact ⟨⟨k + 1, k + 1, by push_cast; first | rfl | (simp only [Value.int.injEq, true_and]; omega), by push_cast; first | rfl | (simp only [Value.int.injEq, true_and]; omega), by omega, by omega, fun h => ⟨.inr ⟨by omega, NXT.out h⟩, fun j e1 e2 => by omega⟩⟩, by simp only [intOf]; omega⟩)
        · have hx : ¬ (m : Int) ≤ S.size := by omega
          clear h3
          go_wp2
          go_ret
          exact ⟨rfl, D7.out⟩
end Go.Proofs.Ytehofomfblfhaaa
