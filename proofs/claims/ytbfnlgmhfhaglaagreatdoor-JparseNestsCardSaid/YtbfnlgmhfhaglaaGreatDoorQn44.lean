import Derived.Test.YtbfnlgmhfhaglaaGreatDoorQn43
import Derived.Test.YtbfnlgmhfhaglaaGreatDoorQn18
import Derived.Test.YtbfnlgmhfhaglaaGreatDoorQn29
import Derived.Test.YtbfnlgmhfhaglaaGreatDoorQn14
import Derived.Test.YtbfnlgmhfhaglaaGreatDoorQn00
import Derived.Test.YtbfnlgmhfhaglaaGreatDoorQn25
namespace Go.Proofs.YtbfnlgmhfhaglaaGreatDoor
set_option linter.unusedVariables false
set_option linter.unusedSimpArgs false
theorem word_len {nm s : List UInt8} {q k m : Nat} (h : M.wordL nm s q = some (k, m)) : k = q /\ m = nm.length := by
 unfold M.wordL at h
 split at h
 ·simp only [Option.some.injEq, Prod.mk.injEq] at h
  exact ⟨h.1.symm, h.2.symm⟩
 ·cases h
theorem tok_kinds (s : List UInt8) (k m : Nat) (h : M.tokL s = some (k, m)) : (1 <= k /\ k <= 6 /\ m = 1) \/ (k = 7 /\ 2 <= m /\ s.getD 0 0 = 34 /\ M.jtS (s.drop 1) = some (m - 1)) \/ (k = 8 /\ M.numL s = some m) \/ (k = 9 /\ m = 4) \/ (k = 10 /\ m = 5) \/ (k = 11 /\ m = 4) := by
 unfold M.tokL at h
 repeat' (split at h)
 any_goals (simp only [Option.some.injEq, Prod.mk.injEq] at h; obtain ⟨rfl, rfl⟩ := h; exact .inl ⟨by decide, by decide, rfl⟩)
 ·rename_i h34
  cases hj : M.jtS (s.drop 1) with
  | none => rw [hj] at h; simp at h
  | some n =>
   rw [hj] at h
   simp only [Option.map_some, Option.some.injEq, Prod.mk.injEq] at h
   obtain ⟨rfl, rfl⟩ := h
   have := M.jtS_le _ _ hj
   exact .inr (.inl ⟨rfl, by omega, h34, by rw [Nat.add_sub_cancel]⟩)
 ·obtain ⟨rfl, rfl⟩ := word_len h
  exact .inr (.inr (.inr (.inl ⟨rfl, rfl⟩)))
 ·obtain ⟨rfl, rfl⟩ := word_len h
  exact .inr (.inr (.inr (.inr (.inl ⟨rfl, rfl⟩))))
 ·obtain ⟨rfl, rfl⟩ := word_len h
  exact .inr (.inr (.inr (.inr (.inr ⟨rfl, rfl⟩))))
 ·cases hj : M.numL s with
  | none => rw [hj] at h; simp at h
  | some n =>
   rw [hj] at h
   simp only [Option.map_some, Option.some.injEq, Prod.mk.injEq] at h
   obtain ⟨rfl, rfl⟩ := h
   exact .inr (.inr (.inl ⟨rfl, rfl⟩))
theorem cov_sum (l : List UInt8) (r : M.Toks) : ∀ p, M.Cov l p r -> p + (r.map fun t => t.2.2 - t.2.1).sum <= l.length := by
 induction r with
 | nil => intro p h; have := h.1; simp; omega
 | cons x r ih =>
  rintro p ⟨h1, h2, h3, h4, h5⟩
  have := ih _ h5
  simp only [List.map_cons, List.sum_cons]
  omega
theorem par_ok {l : List UInt8} {deep : Nat} {ts : M.Toks} {h : Vh} {kids : Vo} (e : parP l deep ts = .ok (h, kids)) : valP l (2 * ts.length + 2) deep ts = .ok (h, kids, []) := by
 unfold parP at e
 split at e
 ·cases e
 ·rename_i h' k' hv
  simp only [Except.ok.injEq, Prod.mk.injEq] at e
  rw [hv, e.1, e.2]
 ·cases e
theorem lex_kinds (l : List UInt8) (ts : M.Toks) (hl : l.length <= 20000) (hs : M.splitV l = (ts, 0, 0)) : ∀ t ∈ ts, (1 <= t.1 /\ t.1 <= 11) /\ M.tokL (l.drop t.2.1) = some (t.1, t.2.2 - t.2.1) /\ t.2.1 < t.2.2 /\ t.2.2 <= l.length := by
 obtain ⟨hx, hv⟩ : M.lexS l 0 = .ok ts /\ (M.validAll l).2 = true := by
  rcases M.split_cases l hl with ⟨e, a, h1, h2, _⟩ | ⟨r, h1, h2, h3⟩
  ·rw [hs] at h1; simp only [Prod.mk.injEq] at h1; exact absurd h1.2.1.symm h2
  ·rw [hs] at h1; simp only [Prod.mk.injEq] at h1; rw [h1.1]; exact ⟨h2, h3⟩
 intro t ht
 obtain ⟨a, b, c, d⟩ := lex_each l.length l 0 ts (by omega) (by omega) (by unfold Okv; simpa using hv) (by simpa using hx) t ht
 refine ⟨?_, a, c, d⟩
 rcases tok_kinds _ _ _ a with h | h | h | h | h | h <;> omega
theorem synP_ne (n : Nat) (ts : M.Toks) : (synP n ts).1 ≠ 0 := by simp [synP]
theorem takeP_err {n k : Nat} {ts : M.Toks} {x : Int × Int} (h : takeP n k ts = .error x) : x.1 ≠ 0 := by
 cases ts with
 | nil => simp only [takeP, Except.error.injEq] at h; rw [<- h]; exact synP_ne _ _
 | cons t r =>
  by_cases hk : t.1 = k
  ·simp [takeP, hk] at h
  ·simp only [takeP, if_neg hk, Except.error.injEq] at h; rw [<- h]; exact synP_ne _ _
theorem item_err (l : List UInt8) (val : M.Toks -> PRes) (hv : ∀ ts x, val ts = .error x -> x.1 ≠ 0) (obj : Bool) (ts : M.Toks) (ms : List Int) (L : Vo) (x : Int × Int) (h : itemW l val obj ts ms L = .error x) : x.1 ≠ 0 := by
 unfold itemW at h
 cases obj with
 | false =>
  simp only [Bool.false_eq_true, if_false] at h
  cases hr : val ts with
  | error e => rw [hr] at h; simp only [Except.error.injEq] at h; rw [<- h]; exact hv _ _ hr
  | ok q => obtain ⟨a, b, c⟩ := q; rw [hr] at h; simp at h
 | true =>
  simp only [if_true] at h
  cases h7 : takeP l.length 7 ts with
  | error e => rw [h7] at h; simp only [Except.error.injEq] at h; rw [<- h]; exact takeP_err h7
  | ok q =>
   obtain ⟨t, r1⟩ := q
   rw [h7] at h
   simp only at h
   cases h5 : takeP l.length 5 r1 with
   | error e => rw [h5] at h; simp only [Except.error.injEq] at h; rw [<- h]; exact takeP_err h5
   | ok q =>
    obtain ⟨c, r2⟩ := q
    rw [h5] at h
    simp only at h
    cases hr : val r2 with
    | error e => rw [hr] at h; simp only [Except.error.injEq] at h; rw [<- h]; exact hv _ _ hr
    | ok q => obtain ⟨a, b, c2⟩ := q; rw [hr] at h; simp at h
theorem val_err (l : List UInt8) : ∀ f, (∀ d ts x, valP l f d ts = .error x -> x.1 ≠ 0) /\ (∀ obj d fr ts ms L x, restP l f obj d fr ts ms L = .error x -> x.1 ≠ 0) := by
 intro f
 induction f with
 | zero => exact ⟨fun d ts x e => by simp only [valP, Except.error.injEq] at e; rw [<- e]; exact synP_ne _ _, fun obj d fr ts ms L x e => by simp only [restP, Except.error.injEq] at e; rw [<- e]; exact synP_ne _ _⟩
 | succ f ih =>
  obtain ⟨iv, ir⟩ := ih
  refine ⟨fun d ts x e => ?_, fun obj d fr ts ms L x e => ?_⟩
  ·cases ts with
   | nil => simp only [valP, Except.error.injEq] at e; rw [<- e]; exact synP_ne _ _
   | cons t r =>
    unfold valP at e
    simp only at e
    by_cases h7 : t.1 = 7
    ·rw [if_pos h7] at e; cases e
    rw [if_neg h7] at e
    by_cases h8 : t.1 = 8
    ·rw [if_pos h8] at e; cases e
    rw [if_neg h8] at e
    by_cases h9 : t.1 = 9 \/ t.1 = 10 \/ t.1 = 11
    ·rw [if_pos h9] at e; cases e
    rw [if_neg h9] at e
    by_cases h1 : t.1 = 1 \/ t.1 = 3
    ·rw [if_pos h1] at e
     cases d with
     | zero => simp only [Except.error.injEq] at e; rw [<- e]; show (4 : Int) ≠ 0; decide
     | succ d =>
      simp only at e
      by_cases hk : kindP r = t.1 + 1
      ·rw [if_pos hk] at e; exact ir _ _ _ _ _ _ _ e
      ·rw [if_neg hk] at e
       cases hi : itemW l (valP l f d) (decide (t.1 = 1)) r [] .nil with
       | error y => rw [hi] at e; simp only [Except.error.injEq] at e; rw [<- e]; exact item_err l _ (iv d) _ _ _ _ _ hi
       | ok q => obtain ⟨ms, L, r2⟩ := q; rw [hi] at e; exact ir _ _ _ _ _ _ _ e
    ·rw [if_neg h1] at e; simp only [Except.error.injEq] at e; rw [<- e]; exact synP_ne _ _
  ·unfold restP at e
   by_cases hk : kindP ts = shL obj
   ·rw [if_pos hk] at e
    cases ht : takeP l.length (shL obj) ts with
    | error y => rw [ht] at e; simp only [Except.error.injEq] at e; rw [<- e]; exact takeP_err ht
    | ok q => obtain ⟨t, r1⟩ := q; rw [ht] at e; simp at e
   ·rw [if_neg hk] at e
    cases ht : takeP l.length 6 ts with
    | error y => rw [ht] at e; simp only [Except.error.injEq] at e; rw [<- e]; exact takeP_err ht
    | ok q =>
     obtain ⟨c, r1⟩ := q
     rw [ht] at e
     simp only at e
     cases hi : itemW l (valP l f d) obj r1 (ms ++ [(c.2.1 : Int)]) L with
     | error y => rw [hi] at e; simp only [Except.error.injEq] at e; rw [<- e]; exact item_err l _ (iv d) _ _ _ _ _ hi
     | ok q => obtain ⟨ms2, L2, r2⟩ := q; rw [hi] at e; exact ir _ _ _ _ _ _ _ e
theorem parV_err {l : List UInt8} {d : Int} {x : Int × Int} (h : parseV l d = .error x) : x.1 ≠ 0 := by
 unfold parseV at h
 split at h
 ·unfold parP at h
  split at h
  ·rename_i e hv; simp only [Except.error.injEq] at h; rw [<- h]; exact (val_err l _).1 _ _ _ hv
  ·cases h
  ·simp only [Except.error.injEq] at h; rw [<- h]; exact synP_ne _ _
 ·rename_i hn; simp only [Except.error.injEq] at h; rw [<- h]; exact hn
theorem parV_ok {l : List UInt8} {d : Int} {h : Vh} {kids : Vo} (e : parseV l d = .ok (h, kids)) : ∃ ts, M.splitV l = (ts, 0, 0) /\ parP l (dpN d) ts = .ok (h, kids) /\ l.length <= 20000 := by
 unfold parseV at e
 split at e
 ·rename_i h0
  obtain ⟨⟨ts, er, a⟩, hs⟩ : ∃ x, M.splitV l = x := ⟨_, rfl⟩
  rw [hs] at e h0
  simp only at e h0
  subst h0
  obtain ⟨p, q, _, _⟩ := split_zero l ts a hs
  subst q
  exact ⟨ts, hs, e, p⟩
 ·cases e
theorem body_ge (l : List Nat) (hl : ∀ u ∈ l, u <= 65535) : l.length <= (M.body l).length := by
 induction l using M.body.induct with
 | case1 => simp [M.body]
 | case2 u => have := M.spel_len u; simp only [M.body, List.length_cons, List.length_nil]; omega
 | case3 u v t hp ih =>
  have h1 := M.join_lt u v hp
  have h2 : (M.spel (M.joinU u v)).length = 4 := by
   rw [M.spel_join u v hp, M.enc_len _ (by simp [M.isCP]; omega)]
   unfold M.wid; rw [if_neg (by omega), if_neg (by omega), if_neg (by omega)]
  have := ih fun x hx => hl x (by simp [hx])
  simp only [M.body, if_pos hp, List.length_append, List.length_cons]; omega
 | case4 u v t hp ih =>
  have := M.spel_len u
  have := ih fun x hx => hl x (List.mem_cons_of_mem _ hx)
  simp only [M.body, if_neg hp, List.length_append, List.length_cons] at *; omega
theorem txt_le (l : List UInt8) (t : Nat × Nat × Nat) : (txtL l t).length <= (tokB l t).length := by
 unfold txtL
 rw [iN_len]
 cases hj : unitsV (tokB l t) with
 | none => simp
 | some us =>
  rw [units_page] at hj
  obtain ⟨a, b⟩ := junits_some _ _ hj
  have c := body_ge us a
  simp only [M.spell, List.length_cons, List.length_append] at b
  simp only [Option.getD_some]; omega
theorem VoC_snoc (L : Vo) (h : Vh) (k : Vo) : VoC (L.snoc h k) = VoC L + (1 + h.tx.length + h.ms.length + VoC k) := by
 induction L with
 | nil => simp [Vo.snoc, VoC]
 | cons a b r _ ih => simp only [Vo.snoc, VoC, ih]; omega
theorem VoL_snoc (A : Nat) (L : Vo) (h : Vh) (k : Vo) (h1 : VoL A L) (h2 : VoL A (.cons h k .nil)) : VoL A (L.snoc h k) := by
 induction L with
 | nil => exact h2
 | cons a b r _ ih => exact ⟨h1.1, h1.2.1, ih h1.2.2⟩
def tkS (p : M.Toks) : Nat := (p.map fun t => 1 + (t.2.2 - t.2.1)).sum
theorem tkS_app (a b : M.Toks) : tkS (a ++ b) = tkS a + tkS b := by simp [tkS]
theorem tkS_cons (a : Nat × Nat × Nat) (b : M.Toks) : tkS (a :: b) = 1 + (a.2.2 - a.2.1) + tkS b := by simp [tkS]
theorem tok_len {l : List UInt8} (t : Nat × Nat × Nat) : (tokB l t).length <= t.2.2 - t.2.1 /\ (tokB l t).length <= l.length := by
 unfold tokB; rw [List.length_take, List.length_drop]; omega
theorem text_sz (l : List UInt8) (t : Nat × Nat × Nat) : 1 + (textV l t).tx.length + (textV l t).ms.length + VoC .nil <= 1 + (t.2.2 - t.2.1) /\ VoL 700 (.cons (textV l t) .nil .nil) := by
 have a := txt_le l t
 have b := tok_len (l := l) t
 refine ⟨by simp [textV, VoC]; omega, ⟨⟨by simp [textV], by simp [textV]⟩, trivial, trivial⟩⟩
theorem numb_sz (l : List UInt8) (hl : l.length <= 600) (t : Nat × Nat × Nat) : 1 + (numbV l t).tx.length + (numbV l t).ms.length + VoC .nil <= 1 + (t.2.2 - t.2.1) /\ VoL 700 (.cons (numbV l t) .nil .nil) := by
 have b := tok_len (l := l) t
 have c := M.read_lens (tokB l t) (by omega)
 refine ⟨by simp [numbV, VoC], ⟨⟨?_, ?_⟩, trivial, trivial⟩⟩
 ·simp only [numbV]; omega
 ·simp only [numbV]; omega
theorem item_sz (l : List UInt8) (val : M.Toks -> PRes) (hv : ∀ ts h kids r, val ts = .ok (h, kids, r) -> ∃ p, ts = p ++ r /\ 1 + h.tx.length + h.ms.length + VoC kids <= tkS p /\ VoL 700 (.cons h kids .nil))
  (obj : Bool) (ts : M.Toks) (ms : List Int) (L : Vo) (ms2 : List Int) (L2 : Vo) (r : M.Toks) (h : itemW l val obj ts ms L = .ok (ms2, L2, r)) (hL : VoL 700 L) :
  ∃ p, ts = p ++ r /\ ms2.length + VoC L2 <= ms.length + VoC L + tkS p /\ VoL 700 L2 := by
 unfold itemW at h
 cases obj with
 | false =>
  simp only [Bool.false_eq_true, if_false] at h
  cases hr : val ts with
  | error e => rw [hr] at h; simp at h
  | ok q =>
   obtain ⟨a, b, c⟩ := q
   rw [hr] at h
   simp only [Except.ok.injEq, Prod.mk.injEq] at h
   obtain ⟨rfl, rfl, rfl⟩ := h
   obtain ⟨p, e1, e2, e3⟩ := hv _ _ _ _ hr
   exact ⟨p, e1, by rw [VoC_snoc]; omega, VoL_snoc _ _ _ _ hL e3⟩
 | true =>
  simp only [if_true] at h
  cases h7 : takeP l.length 7 ts with
  | error e => rw [h7] at h; simp at h
  | ok q =>
   obtain ⟨t, r1⟩ := q
   rw [h7] at h
   simp only at h
   cases h5 : takeP l.length 5 r1 with
   | error e => rw [h5] at h; simp at h
   | ok q =>
    obtain ⟨c, r2⟩ := q
    rw [h5] at h
    simp only at h
    cases hr : val r2 with
    | error e => rw [hr] at h; simp at h
    | ok q =>
     obtain ⟨a, b, c2⟩ := q
     rw [hr] at h
     simp only [Except.ok.injEq, Prod.mk.injEq] at h
     obtain ⟨rfl, rfl, rfl⟩ := h
     obtain ⟨p, e1, e2, e3⟩ := hv _ _ _ _ hr
     obtain ⟨s1, s2⟩ := text_sz l t
     refine ⟨t :: c :: p, by rw [take_len h7, take_len h5, e1]; rfl, ?_, VoL_snoc _ _ _ _ (VoL_snoc _ _ _ _ hL s2) e3⟩
     rw [VoC_snoc, VoC_snoc, List.length_append, List.length_singleton, tkS_cons, tkS_cons]
     simp only [VoC] at s1 ⊢
     omega
theorem val_sz (l : List UInt8) (hl : l.length <= 600) : ∀ f, (∀ d ts h kids r, valP l f d ts = .ok (h, kids, r) -> ∃ p, ts = p ++ r /\ 1 + h.tx.length + h.ms.length + VoC kids <= tkS p /\ VoL 700 (.cons h kids .nil)) /\
  (∀ obj d fr ts ms L h kids r, restP l f obj d fr ts ms L = .ok (h, kids, r) -> VoL 700 L -> ∃ p, ts = p ++ r /\ h.tx = [] /\ h.ms.length + VoC kids <= ms.length + VoC L + tkS p /\ VoL 700 (.cons h kids .nil)) := by
 intro f
 induction f with
 | zero => exact ⟨fun d ts h kids r e => by simp [valP] at e, fun obj d fr ts ms L h kids r e => by simp [restP] at e⟩
 | succ f ih =>
  obtain ⟨iv, ir⟩ := ih
  refine ⟨fun d ts h kids r e => ?_, fun obj d fr ts ms L h kids r e hL => ?_⟩
  ·cases ts with
   | nil => simp [valP] at e
   | cons t r0 =>
    unfold valP at e
    simp only at e
    by_cases h7 : t.1 = 7
    ·rw [if_pos h7] at e
     simp only [Except.ok.injEq, Prod.mk.injEq] at e
     obtain ⟨rfl, rfl, rfl⟩ := e
     obtain ⟨s1, s2⟩ := text_sz l t
     exact ⟨[t], rfl, by simpa [tkS] using s1, s2⟩
    rw [if_neg h7] at e
    by_cases h8 : t.1 = 8
    ·rw [if_pos h8] at e
     simp only [Except.ok.injEq, Prod.mk.injEq] at e
     obtain ⟨rfl, rfl, rfl⟩ := e
     obtain ⟨s1, s2⟩ := numb_sz l hl t
     exact ⟨[t], rfl, by simpa [tkS] using s1, s2⟩
    rw [if_neg h8] at e
    by_cases h9 : t.1 = 9 \/ t.1 = 10 \/ t.1 = 11
    ·rw [if_pos h9] at e
     simp only [Except.ok.injEq, Prod.mk.injEq] at e
     obtain ⟨rfl, rfl, rfl⟩ := e
     exact ⟨[t], rfl, by simp [tkS, leafP, VoC], ⟨by simp [leafP], by simp [leafP]⟩, trivial, trivial⟩
    rw [if_neg h9] at e
    by_cases h1 : t.1 = 1 \/ t.1 = 3
    ·rw [if_pos h1] at e
     cases d with
     | zero => simp at e
     | succ d =>
      simp only at e
      by_cases hk : kindP r0 = t.1 + 1
      ·rw [if_pos hk] at e
       obtain ⟨p, e1, e2, e3, e4⟩ := ir _ _ _ _ _ _ _ _ _ e trivial
       refine ⟨t :: p, by rw [e1]; rfl, ?_, e4⟩
       rw [e2, tkS_cons]
       simp only [List.length_nil, VoC] at e3 ⊢
       omega
      ·rw [if_neg hk] at e
       cases hi : itemW l (valP l f d) (decide (t.1 = 1)) r0 [] .nil with
       | error y => rw [hi] at e; simp at e
       | ok q =>
        obtain ⟨ms, L, r2⟩ := q
        rw [hi] at e
        obtain ⟨p1, g1, g2, g3⟩ := item_sz l _ (iv d) _ _ _ _ _ _ _ hi trivial
        obtain ⟨p, e1, e2, e3, e4⟩ := ir _ _ _ _ _ _ _ _ _ e g3
        refine ⟨t :: (p1 ++ p), by rw [g1, e1]; simp, ?_, e4⟩
        rw [e2, tkS_cons, tkS_app]
        simp only [List.length_nil, VoC] at g2 ⊢
        omega
    ·rw [if_neg h1] at e; simp at e
  ·unfold restP at e
   by_cases hk : kindP ts = shL obj
   ·rw [if_pos hk] at e
    cases ht : takeP l.length (shL obj) ts with
    | error y => rw [ht] at e; simp at e
    | ok q =>
     obtain ⟨t, r1⟩ := q
     rw [ht] at e
     simp only [Except.ok.injEq, Prod.mk.injEq] at e
     obtain ⟨rfl, rfl, rfl⟩ := e
     exact ⟨[t], take_len ht, rfl, by simp only; omega, ⟨by simp, by simp⟩, hL, trivial⟩
   ·rw [if_neg hk] at e
    cases ht : takeP l.length 6 ts with
    | error y => rw [ht] at e; simp at e
    | ok q =>
     obtain ⟨c, r1⟩ := q
     rw [ht] at e
     simp only at e
     cases hi : itemW l (valP l f d) obj r1 (ms ++ [(c.2.1 : Int)]) L with
     | error y => rw [hi] at e; simp at e
     | ok q =>
      obtain ⟨ms2, L2, r2⟩ := q
      rw [hi] at e
      obtain ⟨p1, g1, g2, g3⟩ := item_sz l _ (iv d) _ _ _ _ _ _ _ hi hL
      obtain ⟨p, e1, e2, e3, e4⟩ := ir _ _ _ _ _ _ _ _ _ e g3
      refine ⟨c :: (p1 ++ p), by rw [take_len ht, g1, e1]; simp, e2, ?_, e4⟩
      rw [tkS_cons, tkS_app]
      rw [List.length_append, List.length_singleton] at g2
      omega
theorem par_sz {l : List UInt8} {ts : M.Toks} {h : Vh} {kids : Vo} {d : Nat} (hl : l.length <= 600) (hs : M.splitV l = (ts, 0, 0)) (e : parP l d ts = .ok (h, kids)) :
  1 + h.tx.length + h.ms.length + VoC kids <= 1200 /\ VoL 700 (.cons h kids .nil) := by
 obtain ⟨p, e1, e2, e3⟩ := (val_sz l hl _).1 _ _ _ _ _ (par_ok e)
 rw [List.append_nil] at e1
 subst e1
 obtain ⟨-, -, hx, -⟩ := split_zero l ts 0 hs
 have cov := M.lex_cov l.length l 0 ts (by omega) (by omega) (by simpa using hx)
 have a := cov_sum l ts 0 cov
 have b := (lex_in l ts hx).2
 have c : tkS ts = ts.length + (ts.map fun t => t.2.2 - t.2.1).sum := by
  clear e2 e3 hx cov a b hs e
  induction ts with
  | nil => rfl
  | cons t r ih => rw [tkS_cons, ih]; simp only [List.map_cons, List.sum_cons, List.length_cons]; omega
 exact ⟨by omega, e3⟩
end Go.Proofs.YtbfnlgmhfhaglaaGreatDoor
