/- What jlex.Split returns, for any bytes. -/
import Derived.Test.YtakgkdgielkieaaDoorQJ6
import Derived.Test.YtakgkdgielkieaaDoorUApp
namespace Go.Proofs.YtakgkdgielkieaaDoor
open Go.RowKit
set_option linter.unusedVariables false
set_option linter.unusedSimpArgs false

/-- A token, in cells. -/
def tv (t : Nat × Nat × Nat) : List Value := [.int .i64 (t.1 : Int), .int .i64 (t.2.1 : Int), .int .i64 (t.2.2 : Int)]
def tvs (l : M.Toks) : List (List Value) := l.map tv
theorem tvs_len (l : M.Toks) : (tvs l).length = l.length := by simp [tvs]
theorem tvs_append (k l : M.Toks) : tvs (k ++ l) = tvs k ++ tvs l := by simp [tvs]
theorem tvs_three (l : M.Toks) : ∀ y ∈ tvs l, y.length = 3 := by
  intro y hy
  simp only [tvs, List.mem_map] at hy
  obtain ⟨r, _, rfl⟩ := hy
  rfl
theorem tvs_one (l : M.Toks) : ∀ y ∈ tvs l, ∀ c ∈ y, c.oneCell' = true := by
  intro y hy
  simp only [tvs, List.mem_map] at hy
  obtain ⟨r, _, rfl⟩ := hy
  intro c hc
  simp [tv] at hc
  rcases hc with rfl | rfl | rfl <;> rfl
theorem infoT : (Tryd.prog.info? 33).map (fun i => (i.zero, i.size, i.bytes)) = some (some (.agg #[.int .i64 0, .int .i64 0, .int .i64 0]), 3, 24) := by kernel_rfl
def OwnT (B : Nat) (w : World) (v : Value) (l : M.Toks) : Prop := OwnV 33 3 B w v (tvs l)
def Ts (w : World) (v : Value) (l : M.Toks) : Prop := Vs 3 w v (tvs l)
theorem OwnT.keep {B : Nat} {w w' : World} {v : Value} {l : M.Toks} (h : OwnT B w v l) (hb : Below w.heap.size w w') : OwnT B w' v l := OwnV.keep h hb
theorem one_tok (w : World) (k a b : Nat) : Vs 3 (w.alloc (.cells #[.int .i64 (k : Int), .int .i64 (a : Int), .int .i64 (b : Int)] 33)) (.slice (some ⟨w.heap.size, 0, none⟩) 1 1) (tvs [(k, a, b)]) :=
  vs_cells 3 33 w (tvs [(k, a, b)]) _ 1 rfl (tvs_three _) rfl (by simp [tvs])
theorem wpl_tok {w : World} {ops : Array Oper} {rest : List Oper} {o : Oper} {a : Act} {Q : Exit → Act → World → Prop} (hgd : o.guard = none) (s x : Operand)
    (ho : o.op = .call { callee := .builtin .append, args := #[s, x], argTypes := #[25, 25] })
    (B : Nat) (v u : Value) (l t : M.Toks) (k p q : Nat) (hs : a.eval s = v) (hown : OwnT B w v l) (hx : a.eval x = u) (hu : Vs 3 w u (tvs [(k, p, q)])) (hnn : NNv u)
    (hlen : l.length ≤ 4294967296) (hB : B ≤ w.heap.size) (ht : l ++ [(k, p, q)] = t)
    (h : ∀ v' w', OwnT B w' v' t → Below B w w' → wpList Tryd.prog ops Q rest (a.put o.dst v') w') : wpList Tryd.prog ops Q (o :: rest) a w :=
  wpl_appendV hgd s x ho Tryd.underlying25 infoT rfl (by decide) B v u (tvs l) (tvs [(k, p, q)]) (tvs t) hs hown hx hu hnn (tvs_three _) (tvs_one _) (by rw [tvs_len, tvs_len]; simp; omega) (by decide) hB (by rw [← ht, tvs_append]) h

/-- A fault, as a value. -/
def fv (e a : Int) : Value := .agg #[.int .i64 e, .int .i64 a]
/-- What Split returns. -/
def SpP (w : World) (r : M.Toks × Int × Int) (e : Ending) (w' : World) : Prop := ∃ v', e = .returned (.tuple #[v', fv r.2.1 r.2.2]) ∧ OwnT w.heap.size w' v' r.1 ∧ Below w.heap.size w w'
theorem spP_ok {w w' : World} {r : M.Toks × Int × Int} {v' : Value} {a b : Int} (h1 : r.2.1 = a) (h2 : r.2.2 = b) (ho : OwnT w.heap.size w' v' r.1) (hb : Below w.heap.size w w') :
    SpP w r (.returned (.tuple #[v', .agg #[.int .i64 a, .int .i64 b]])) w' := ⟨v', by rw [h1, h2]; rfl, ho, hb⟩
/-- What is still to come, behind the tokens that there are. -/
def lexAt (l : List UInt8) (pre : M.Toks) (i : Nat) : Except Nat M.Toks := match M.lexS (l.drop i) i with | Except.error e => Except.error e | Except.ok r => Except.ok (pre ++ r)
theorem lexAt_end (l : List UInt8) (pre : M.Toks) (i : Nat) (h : l.length ≤ i) : lexAt l pre i = .ok pre := by
  unfold lexAt; rw [M.lexS_end _ _ (by rw [List.length_drop]; omega)]; simp
theorem lexAt_bad (l : List UInt8) (pre : M.Toks) (i : Nat) (h : i < l.length) (h0 : M.lead (l.drop i) = 0) (ht : M.tokL (l.drop i) = none) : lexAt l pre i = .error i := by
  unfold lexAt; rw [M.lexS_bad _ _ (by rw [h0, List.length_drop]; omega) (by rw [h0]; simpa using ht), h0]; rfl
theorem lexAt_in (l : List UInt8) (pre : M.Toks) (i k m : Nat) (h : i < l.length) (h0 : M.lead (l.drop i) = 0) (ht : M.tokL (l.drop i) = some (k, m)) :
    lexAt l pre i = lexAt l (pre ++ [(k, i, i + m)]) (i + m + M.lead (l.drop (i + m))) := by
  unfold lexAt
  rw [M.lexS_in _ _ k m (by rw [h0, List.length_drop]; omega) (by rw [h0]; simpa using ht), h0, List.drop_drop, Nat.zero_add, Nat.add_zero]
  have e := M.lexS_skip (l.drop (i + m)) (i + m) (M.lead (l.drop (i + m))) (Nat.le_refl _)
  rw [List.drop_drop] at e
  rw [e]
  cases M.lexS (l.drop (i + m + M.lead (l.drop (i + m)))) (i + m + M.lead (l.drop (i + m))) with
  | error e => rfl
  | ok r => simp
theorem lead_zero (l : List UInt8) (i : Nat) : M.lead (l.drop (i + M.lead (l.drop i))) = 0 := by
  have := M.lead_drop (l.drop i) (M.lead (l.drop i)) (Nat.le_refl _)
  rw [List.drop_drop] at this; omega
theorem okv_lead (l : List UInt8) (i : Nat) (h : Okv l i) : Okv l (i + M.lead (l.drop i)) ∧ i + M.lead (l.drop i) ≤ max i l.length := by
  have hle := M.lead_le (l.drop i)
  rw [List.length_drop] at hle
  refine ⟨?_, by omega⟩
  by_cases hi : i ≤ l.length
  · refine okv_ascii l i _ (by omega) (fun j hj => ?_) h
    have := M.lead_bl (l.drop i) j hj
    rw [M.drop_getD] at this
    unfold M.blB at this
    simp only [Bool.or_eq_true, beq_iff_eq] at this
    rcases this with ((e | e) | e) | e <;> (rw [e]; decide)
  · rw [show M.lead (l.drop i) = 0 by omega]; exact h
theorem okv_tok (l : List UInt8) (i k m : Nat) (hi : i < l.length) (h : Okv l i) (ht : M.tokL (l.drop i) = some (k, m)) : Okv l (i + m) ∧ 1 ≤ m ∧ i + m ≤ l.length := by
  have hm := M.tok_le (l.drop i) (by rw [List.length_drop]; omega) k m ht
  rw [List.length_drop] at hm
  refine ⟨?_, hm.1, by omega⟩
  exact tok_okv l i k m hi h ht

theorem ownT_base {B B' : Nat} {w : World} {v : Value} {l : M.Toks} (h : OwnT B w v l) (hB : B' ≤ B) : OwnT B' w v l := by
  obtain ⟨⟨h1, h2 | ⟨g, cap, cur, rfl, a, b, c⟩⟩, h3, h4⟩ := h
  · exact ⟨⟨h1, .inl h2⟩, h3, h4⟩
  · exact ⟨⟨h1, .inr ⟨g, cap, cur, rfl, Nat.le_trans hB a, b, c⟩⟩, h3, h4⟩
theorem ownT_set {B : Nat} {w : World} {v : Value} {l : M.Toks} (h : OwnT (B + 1) w v l) (i : Nat) (u : Value) : OwnT (B + 1) (w.setCell ⟨B, i, none⟩ u) v l := by
  obtain ⟨⟨h1, h2 | ⟨g, cap, cur, rfl, a, b, c⟩⟩, h3, h4⟩ := h
  · exact ⟨⟨h1, .inl h2⟩, h3, h4⟩
  · exact ⟨⟨h1, .inr ⟨g, cap, cur, rfl, a, by rw [Below.heap_setCell _ _ _ _ (by show g ≠ B; omega)]; exact b, c⟩⟩, h3, h4⟩
theorem ownT_nil (B : Nat) (w : World) : OwnT B w (.slice none 0 0) [] := ownV_nil _ _ _ _
set_option maxRecDepth 100000 in
set_option maxHeartbeats 4000000 in
theorem split_any (v : Value) (l : List UInt8) (R : M.Toks × Int × Int) (w : World) (hT : Tabs w) (hv : Bs w v l) (hl : l.length ≤ 1048576) (hr : M.splitV l = R) :
    Calls Tryd.prog 6 #[v] w (SpP w R) := by
  have hv2 := hv
  obtain ⟨a, cap, rfl, h1, h2, h3⟩ := hv2
  obtain ⟨n, hn⟩ : ∃ n, l.length = n := ⟨_, rfl⟩
  unfold M.splitV at hr
  by_cases hbig : 20000 < n
  · rw [if_pos (by omega)] at hr
    subst hr
    rw [hn] at h1 hl ⊢
    clear hv h3 h2 hn hT
    have u1 : (20000 : Int) < n := by omega
    go_enter Tryd.func6, Tryd.ntmps6
    go_wp2
    refine bodyPost_ret (v := .tuple #[.slice none 0 0, .agg #[.int .i64 5, .int .i64 20000]]) (by simp [results, Tryd.results6, go_sem]) rfl ?_
    exact spP_ok rfl rfl (ownT_nil _ _) ((Below.refl _ _).alloc (Nat.le_refl _) _)
  rw [if_neg (by omega)] at hr
  have u1 : ¬ (20000 : Int) < n := by omega
  have u2 : decide ((20000 : Int) < n) = false := by simp; omega
  obtain ⟨W1, hW1⟩ : ∃ W1, w.alloc (.cells #[.int .i64 0, .int .i64 0] 28) = W1 := ⟨_, rfl⟩
  have hWs : W1.heap.size = w.heap.size + 1 := by rw [← hW1]; simp
  have hWb : Below w.heap.size w W1 := by rw [← hW1]; exact (Below.refl _ _).alloc (Nat.le_refl _) _
  have hc0 : W1.cell? ⟨w.heap.size, 0, none⟩ = some (.int .i64 0) := by rw [← hW1]; simp
  have hc1 : W1.cell? ⟨w.heap.size, 1, none⟩ = some (.int .i64 0) := by rw [← hW1]; simp
  have hf : ∀ j, W1.frozen? ⟨w.heap.size, j, none⟩ = false := fun j => by rw [← hW1]; simp
  have Facts := Lib.hid (fun wr (hb : Below (w.heap.size + 1) W1 wr) => (⟨(hb.cell (p := ⟨w.heap.size, 0, none⟩) (by simp)).trans hc0, (hb.cell (p := ⟨w.heap.size, 1, none⟩) (by simp)).trans hc1, (hb.frozen (p := ⟨w.heap.size, 0, none⟩) (by simp)).trans (hf 0), (hb.frozen (p := ⟨w.heap.size, 1, none⟩) (by simp)).trans (hf 1), by have := hb.size; omega, hWb.trans (hb.mono (by omega))⟩ :
    wr.cell? ⟨w.heap.size, 0, none⟩ = some (.int .i64 0) ∧ wr.cell? ⟨w.heap.size, 1, none⟩ = some (.int .i64 0) ∧ wr.frozen? ⟨w.heap.size, 0, none⟩ = false ∧ wr.frozen? ⟨w.heap.size, 1, none⟩ = false ∧ w.heap.size < wr.heap.size ∧ Below w.heap.size w wr))
  have V1 := fun q ok h => valid_any _ l q ok W1 (hT.keep hWb) (hv.keep hWb) (by omega) h
  rw [hn, hWs] at V1
  have HW1 := Lib.hid hW1
  have HV := Lib.hid hv
  have HT := Lib.hid hT
  have HN := Lib.hid hn
  have hWs1 := Lib.hid hWs
  cases hok : (M.validAll l).2 with
  | false =>
    rw [if_pos hok] at hr
    have V2 := Lib.hid (V1 (M.validAll l).1 false (by rw [← hok]))
    obtain ⟨q, hq⟩ : ∃ q, (M.validAll l).1 = q := ⟨_, rfl⟩
    rw [hq] at hr V2
    subst hr
    rw [hn] at h1 hl ⊢
    clear V1 hv hT hn hok hq h3 h2 hW1 hWs hc0 hc1 hf hWb
    go_enter Tryd.func6, Tryd.ntmps6
    go_wp2_with fail
    rw [HW1.out]
    refine V2.out.mono ?_
    rintro e w2 ⟨rfl, hb2⟩
    obtain ⟨q0, q1, z0, z1, hlt, hbw⟩ := Facts.out _ hb2
    go_wp2
    refine bodyPost_ret (v := .tuple #[.slice none 0 0, .agg #[.int .i64 2, .int .i64 (q : Int)]]) (by simp [results, Tryd.results6, go_sem, q0, q1, hlt]) rfl ?_
    exact spP_ok rfl rfl (ownT_nil _ _) ((hbw.setCell (Nat.le_refl _) _).setCell (Nat.le_refl _) _)
  | true =>
    rw [if_neg (by rw [hok]; simp)] at hr
    have hall := M.all_len l hok
    have V2 := Lib.hid (V1 n true (by rw [← hok, ← hn, ← hall]))
    have hok0 : Okv l 0 := by unfold Okv; simpa using hok
    have ho1 := okv_lead l 0 hok0
    rw [Nat.zero_add] at ho1
    have hz1 := lead_zero l 0
    rw [Nat.zero_add] at hz1
    have hx0 : lexAt l [] (M.lead l) = M.lexS l 0 := by
      unfold lexAt
      have := M.lexS_skip l 0 (M.lead l) (Nat.le_refl _)
      rw [Nat.zero_add] at this
      rw [this]
      cases M.lexS (l.drop (M.lead l)) (M.lead l) with
      | error e => rfl
      | ok r => simp
    simp only [List.drop_zero] at ho1 hz1
    have hll := M.lead_le l
    obtain ⟨X, hX⟩ : ∃ X, M.lexS l 0 = X := ⟨_, rfl⟩
    rw [hX] at hr hx0
    have HR : Hid ((∀ e, X = .error e → R = ([], 3, (e : Int))) ∧ (∀ t, X = .ok t → R = (t, 0, 0))) := Lib.hid ⟨fun e h => by rw [← hr, h], fun t h => by rw [← hr, h]⟩
    obtain ⟨m0, hm0⟩ : ∃ m, M.lead l = m := ⟨_, rfl⟩
    rw [hm0] at ho1 hz1 hx0 hll
    have S0 := Lib.hid (fun wr (hb : Below (w.heap.size + 1) W1 wr) => skipb_any _ l 0 m0 wr ((hv.keep hWb).below hb (by omega)) (by omega) (by omega) (by simpa using hm0))
    have HX0 := Lib.hid hx0
    have HO1 := Lib.hid ho1.1
    have HZ1 := Lib.hid hz1
    rw [hn] at h1 hl hll S0 ⊢
    have HWb := Lib.hid hWb
    clear V1 hv hT hn hok h3 h2 hW1 hWs hc0 hc1 hf hWb hr hall hok0 ho1 hz1 hx0 hX hm0
    go_enter Tryd.func6, Tryd.ntmps6
    go_wp2_with fail
    rw [HW1.out]
    refine V2.out.mono ?_
    rintro e w2 ⟨rfl, hb2⟩
    go_wp2_with fail
    refine (S0.out _ hb2).mono ?_
    rintro e w' ⟨rfl, rfl⟩
    go_wp2
    go_loopw [6, 7, 8, 9] (fun ov iv _ _ wr => ∃ (i : Nat) (pre : M.Toks), iv = .int .i64 (i : Int) ∧ i ≤ n ∧ lexAt l pre i = X ∧ M.lead (l.drop i) = 0 ∧ Okv l i ∧ pre.length ≤ i ∧ OwnT (w.heap.size + 1) wr ov pre ∧ Below (w.heap.size + 1) W1 wr) (fun _ iv _ _ _ => n - (intOf iv).toNat)
    case atStart => exact ⟨m0, [], rfl, hll, HX0.out, HZ1.out, HO1.out, by simp, ownT_nil _ _, hb2⟩
    case round =>
      obtain ⟨i, pre, rfl, hi, hx, hz, ho, hpl, hown, hb⟩ := hrel
      have hsz := hb.size
      rw [hWs1.out] at hsz
      by_cases hlt : i < n
      · have hil : i < l.length := by rw [HN.out]; exact hlt
        have hvr : Bs wr (.slice a n cap) l := by have := (HV.out.keep HWb.out).below hb (by rw [hWs1.out]; omega); rwa [HN.out] at this
        have hTr : Tabs wr := (HT.out.keep HWb.out).keep (hb.mono (by rw [hWs1.out]; omega))
        have hbad := lexAt_bad l pre i hil hz
        have hin := fun k m h => lexAt_in l pre i k m hil hz h
        have htk := fun k m h => okv_tok l i k m hil ho h
        have hlz := fun m => lead_zero l (i + m)
        have hol := fun m h => okv_lead l (i + m) h
        rw [hx] at hbad hin
        cases htok : M.tokL (l.drop i) with
        | none =>
          have T1 := Lib.hid (token_any _ l i (0, 0) wr hTr hvr hil (by rw [HN.out]; omega) ho (by rw [htok]; rfl))
          have hRR := HR.out.1 i (hbad htok)
          have HRR := Lib.hid hRR
          clear hvr hTr hbad hin htk hlz hol htok hRR hz ho hx hown
          go_wp2_with fail
          refine T1.out.mono ?_
          rintro e w3 ⟨rfl, hb3⟩
          have hb4 := hb.trans (hb3.mono hsz)
          obtain ⟨q0, q1, z0, z1, hlt2, hbw⟩ := Facts.out _ hb4
          clear hb3 hb
          unfold pr
          go_wp2
          refine bodyPost_ret (v := .tuple #[.slice none 0 0, .agg #[.int .i64 3, .int .i64 (i : Int)]]) (by simp [results, Tryd.results6, go_sem, q0, q1, hlt2]) rfl ?_
          exact spP_ok (by rw [HRR.out]) (by rw [HRR.out]) (by rw [HRR.out]; exact ownT_nil _ _) ((hbw.setCell (Nat.le_refl _) _).setCell (Nat.le_refl _) _)
        | some km =>
          obtain ⟨k, m⟩ := km
          obtain ⟨ho2, hm1, hm2⟩ := htk k m htok
          have hx2 := hin k m htok
          have hz2 := hlz m
          have ho3 := hol m ho2
          have hkk := M.tok_le (l.drop i) (by rw [List.length_drop]; omega) k m htok
          obtain ⟨z, hzz⟩ : ∃ z, i + m + M.lead (l.drop (i + m)) = z := ⟨_, rfl⟩
          rw [hzz] at hx2 hz2 ho3
          have hzn : z ≤ n := by have := ho3.2; rw [HN.out] at this hm2; omega
          have hzm : i + m ≤ z := by omega
          have T1 := Lib.hid (token_any _ l i ((k : Int), ((i + m : Nat) : Int)) wr hTr hvr hil (by rw [HN.out]; omega) ho (by rw [htok]; rfl))
          have B1 := Lib.hid (fun ws hv => skipb_any (.slice a n cap) l (i + m) z ws hv hm2 (by rw [HN.out]; omega) hzz)
          have Hx2 := Lib.hid hx2
          have Hz2 := Lib.hid hz2
          have Ho3 := Lib.hid ho3.1
          have Hvr := Lib.hid hvr
          rw [HN.out] at hm2
          have t1 : ((k : Int) == 0) = false := by rw [beq_eq_false_iff_ne]; omega
          clear hvr hTr hbad hin htk hlz hol htok hz ho hx ho2 hx2 hz2 ho3 hzz hkk
          go_wp2_with fail
          refine T1.out.mono ?_
          rintro e w3 ⟨rfl, hb3⟩
          unfold pr
          have hv3 := Hvr.out.keep hb3
          have hb4 := hb.trans (hb3.mono hsz)
          have hown3 := OwnT.keep hown hb3
          have hsz4 := hb4.size
          rw [hWs1.out] at hsz4
          have Hv3 := Lib.hid hv3
          clear hb3 hb hown hv3
          go_wp2_with (at_builtin; refine wpl_tok rfl _ _ rfl (w.heap.size + 1) _ (.slice (some ⟨w3.heap.size, 0, none⟩) 1 1) pre (pre ++ [(k, i, i + m)]) k i (i + m) rfl (OwnT.keep hown3 ((Below.refl _ _).alloc (Nat.le_refl _) _)) rfl (one_tok w3 k i (i + m)) (nnv_some _ _ _) (by omega) (by simp; omega) rfl ?_)
          intro v5 w5 ho5 hb5
          have hb6 := (hb4.alloc hsz4 _).trans hb5
          have hv5' := (HV.out.keep HWb.out).below hb6 (by rw [hWs1.out]; omega)
          rw [HN.out] at hv5'
          have hv5 := Lib.hid hv5'
          clear hb4 hb5 hown3 hv5'
          go_wp2_with fail
          refine (B1.out _ hv5.out).mono ?_
          rintro e w' ⟨rfl, rfl⟩
          go_wp2
          go_roundw
          case rel => exact ⟨z, pre ++ [(k, i, i + m)], rfl, hzn, Hx2.out.symm, Hz2.out, Ho3.out, by simp; omega, ho5, hb6⟩
          case measure => simp [intOf]; omega
      · obtain rfl : i = n := by omega
        have hx2 := hx
        rw [lexAt_end l pre i (by rw [HN.out]; exact Nat.le_refl _)] at hx2
        have hRR := HR.out.2 pre hx2.symm
        have HRR := Lib.hid hRR
        obtain ⟨q0, q1, z0, z1, hlt2, hbw⟩ := Facts.out _ hb
        clear hx hx2 hRR hz ho hlt
        go_wp2
        refine bodyPost_ret (v := .tuple #[u6, .agg #[.int .i64 0, .int .i64 0]]) (by simp [results, Tryd.results6, go_sem, q0, q1, hlt2]) rfl ?_
        refine spP_ok (by rw [HRR.out]) (by rw [HRR.out]) ?_ ((hbw.setCell (Nat.le_refl _) _).setCell (Nat.le_refl _) _)
        rw [HRR.out]
        exact ownT_base (ownT_set (ownT_set hown 0 _) 1 _) (Nat.le_succ _)
end Go.Proofs.YtakgkdgielkieaaDoor
