/- Texts of ours in one: ZLn ZNf. -/
import Derived.Test.YtbfnlgmhfhaglaaGreatDoorQl47
import Derived.Test.YtbfnlgmhfhaglaaGreatDoorQl14
import Derived.Test.YtbfnlgmhfhaglaaGreatDoorQl00
/- JSON, plain: a token's shortest spelling is no longer than the token; all pieces together are no longer than the text. -/
namespace Go.Proofs.YtbfnlgmhfhaglaaGreatDoor
set_option linter.unusedVariables false
set_option linter.unusedSimpArgs false

theorem word_len {nm s : List UInt8} {q k m : Nat} (h : M.wordL nm s q = some (k, m)) : k = q ∧ m = nm.length := by
  unfold M.wordL at h
  split at h
  · simp only [Option.some.injEq, Prod.mk.injEq] at h
    exact ⟨h.1.symm, h.2.symm⟩
  · cases h
theorem tok_kinds (s : List UInt8) (k m : Nat) (h : M.tokL s = some (k, m)) : (1 ≤ k ∧ k ≤ 6 ∧ m = 1) ∨ (k = 7 ∧ 2 ≤ m ∧ s.getD 0 0 = 34 ∧ M.jtS (s.drop 1) = some (m - 1)) ∨ (k = 8 ∧ M.numL s = some m) ∨ (k = 9 ∧ m = 4) ∨ (k = 10 ∧ m = 5) ∨ (k = 11 ∧ m = 4) := by
  unfold M.tokL at h
  repeat' (split at h)
  any_goals (simp only [Option.some.injEq, Prod.mk.injEq] at h; obtain ⟨rfl, rfl⟩ := h; exact .inl ⟨by decide, by decide, rfl⟩)
  · rename_i h34
    cases hj : M.jtS (s.drop 1) with
    | none => rw [hj] at h; simp at h
    | some n =>
      rw [hj] at h
      simp only [Option.map_some, Option.some.injEq, Prod.mk.injEq] at h
      obtain ⟨rfl, rfl⟩ := h
      have := M.jtS_le _ _ hj
      exact .inr (.inl ⟨rfl, by omega, h34, by rw [Nat.add_sub_cancel]⟩)
  · obtain ⟨rfl, rfl⟩ := word_len h
    exact .inr (.inr (.inr (.inl ⟨rfl, rfl⟩)))
  · obtain ⟨rfl, rfl⟩ := word_len h
    exact .inr (.inr (.inr (.inr (.inl ⟨rfl, rfl⟩))))
  · obtain ⟨rfl, rfl⟩ := word_len h
    exact .inr (.inr (.inr (.inr (.inr ⟨rfl, rfl⟩))))
  · cases hj : M.numL s with
    | none => rw [hj] at h; simp at h
    | some n =>
      rw [hj] at h
      simp only [Option.map_some, Option.some.injEq, Prod.mk.injEq] at h
      obtain ⟨rfl, rfl⟩ := h
      exact .inr (.inr (.inl ⟨rfl, rfl⟩))
theorem iN_back (us : List Nat) : (iN us).map Int.toNat = us := by
  unfold iN
  rw [List.map_map]
  conv => rhs; rw [← List.map_id us]
  apply List.map_congr_left
  intro u _
  simp
theorem num_head (s : List UInt8) (m : Nat) (h : M.numL s = some m) (hm : 0 < m) (hs : m ≤ s.length) : (s.take m).head? ≠ some 43 ∧ (M.csign (s.take m)).2.head? ≠ some 46 := by
  unfold M.numL at h
  split at h
  · rename_i hd
    cases s with
    | nil => simp at hs; omega
    | cons a t =>
      obtain ⟨m, rfl⟩ : ∃ q, m = q + 1 := ⟨m - 1, by omega⟩
      rw [List.take_succ_cons]
      clear h
      have dg : ∀ c : UInt8, M.dgB c = true → c ≠ 43 ∧ c ≠ 46 ∧ c ≠ 45 := by
        intro c hc
        refine ⟨?_, ?_, ?_⟩ <;> rintro rfl <;> revert hc <;> decide
      by_cases ha : a = 45
      · subst ha
        have hn : M.neg (45 :: t) = 1 := by simp [M.neg]
        rw [hn] at hd
        refine ⟨by simp, ?_⟩
        have : (M.csign (45 :: t.take m)).2 = t.take m := by simp [M.csign, M.isNeg, M.unsign]
        rw [this]
        cases t with
        | nil => simp
        | cons b u =>
          have hb : M.dgB b = true := by simpa using hd
          cases m with
          | zero => simp
          | succ m => rw [List.take_succ_cons]; simp [(dg b hb).2.1]
      · have hn : M.neg (a :: t) = 0 := by simp [M.neg, ha]
        rw [hn] at hd
        have hb : M.dgB a = true := by simpa using hd
        refine ⟨by simp [(dg a hb).1], ?_⟩
        have : (M.csign (a :: t.take m)).2 = a :: t.take m := by simp [M.csign, M.isNeg, M.unsign, ha, (dg a hb).1]
        rw [this]
        simp [(dg a hb).2.1]
  · cases h
theorem pieceB_len (l : List UInt8) (t : Nat × Nat × Nat) (h : M.tokL (l.drop t.2.1) = some (t.1, t.2.2 - t.2.1)) (h2 : t.2.1 < t.2.2) (h3 : t.2.2 ≤ l.length) (hl : l.length ≤ 600) :
    1 ≤ (pieceB l t).length ∧ (pieceB l t).length ≤ t.2.2 - t.2.1 := by
  have hb : (tokB l t).length = t.2.2 - t.2.1 := by unfold tokB; rw [List.length_take, List.length_drop]; omega
  obtain ⟨k, fr, te⟩ := t
  simp only at h h2 h3 hb ⊢
  obtain ⟨m, hm⟩ : ∃ m, te - fr = m := ⟨_, rfl⟩
  rw [hm] at h hb ⊢
  rcases tok_kinds _ _ _ h with ⟨k1, k2, rfl⟩ | ⟨rfl, m2, -, -⟩ | ⟨rfl, hn⟩ | ⟨rfl, rfl⟩ | ⟨rfl, rfl⟩ | ⟨rfl, rfl⟩
  · have : k = 1 ∨ k = 2 ∨ k = 3 ∨ k = 4 ∨ k = 5 ∨ k = 6 := by omega
    rcases this with rfl | rfl | rfl | rfl | rfl | rfl <;> simp [pieceB]
  · have hp : pieceB l (7, fr, te) = M.spell ((txtL l (7, fr, te)).map Int.toNat) := by simp [pieceB, sglB, textV]
    rw [hp]
    refine ⟨by simp [M.spell], ?_⟩
    unfold txtL
    rw [iN_back]
    cases hj : unitsV (tokB l (7, fr, te)) with
    | none => simpa [M.spell, M.body] using m2
    | some us =>
      have e := hj
      rw [units_page] at e
      have := (junits_some _ _ e).2
      simp only [Option.getD_some]
      omega
  · have hp : pieceB l (8, fr, te) = M.shortN (M.plainN (M.readN (tokB l (8, fr, te))).1.1 (M.readN (tokB l (8, fr, te))).1.2.1 (M.readN (tokB l (8, fr, te))).1.2.2) := by simp [pieceB, sglB, numbV]
    rw [hp]
    obtain ⟨⟨⟨ng, D, E⟩, ok⟩, hr⟩ : ∃ x, M.readN (tokB l (8, fr, te)) = x := ⟨_, rfl⟩
    rw [hr]
    simp only
    cases ok with
    | true =>
      have ht : tokB l (8, fr, te) = (l.drop fr).take m := by unfold tokB; rw [← hm]
      have hh := num_head (l.drop fr) m hn (by omega) (by rw [List.length_drop]; omega)
      rw [← ht] at hh
      have := M.least9 _ D E ng (by omega) hr hh.1 hh.2
      omega
    | false =>
      have : (ng, D, E) = (false, [], []) := by
        have e := hr
        unfold M.readN at e
        split at e
        · simp at e
        · simpa using e.symm
      simp only [Prod.mk.injEq] at this
      obtain ⟨rfl, rfl, rfl⟩ := this
      have : M.shortN (M.plainN false [] []) = [48] := by decide +kernel
      rw [this]
      simp only [List.length_singleton]
      omega
  all_goals (simp [pieceB, sglB, leafP])
def jpN (p : List Jp) : Nat := (p.map fun q => q.1.length).sum
theorem cov_sum (l : List UInt8) (r : M.Toks) : ∀ p, M.Cov l p r → p + (r.map fun t => t.2.2 - t.2.1).sum ≤ l.length := by
  induction r with
  | nil => intro p h; have := h.1; simp; omega
  | cons x r ih =>
    rintro p ⟨h1, h2, h3, h4, h5⟩
    have := ih _ h5
    simp only [List.map_cons, List.sum_cons]
    omega
theorem sum_le {α : Type} (f g : α → Nat) (L : List α) (h : ∀ x ∈ L, f x ≤ g x) : (L.map f).sum ≤ (L.map g).sum := by
  induction L with
  | nil => exact Nat.le_refl _
  | cons x r ih =>
    have a := h x (List.mem_cons_self ..)
    have b := ih fun y hy => h y (List.mem_cons_of_mem _ hy)
    simp only [List.map_cons, List.sum_cons]; omega
theorem par_ok {l : List UInt8} {deep : Nat} {ts : M.Toks} {h : Vh} {kids : Vo} (e : parP l deep ts = .ok (h, kids)) : valP l (2 * ts.length + 2) deep ts = .ok (h, kids, []) := by
  unfold parP at e
  split at e
  · cases e
  · rename_i h' k' hv
    simp only [Except.ok.injEq, Prod.mk.injEq] at e
    rw [hv, e.1, e.2]
  · cases e
theorem par_pcs {l : List UInt8} {ts : M.Toks} {h : Vh} {kids : Vo} (e : parP l 60 ts = .ok (h, kids)) : jpc h kids = ts.map (pcT l) := by
  have e := par_ok e
  obtain ⟨p, e1, e2⟩ := (val_pcs l _).1 _ _ _ _ _ e
  rw [List.append_nil] at e1
  unfold jpc
  rw [if_pos ((val_right l _).1 _ _ _ _ _ e), e2, e1]
theorem par_least {l : List UInt8} {ts : M.Toks} {h : Vh} {kids : Vo} (hl : l.length ≤ 600) (hs : M.splitV l = (ts, 0, 0)) (e : parP l 60 ts = .ok (h, kids)) : 1 ≤ jpN (jpc h kids) ∧ jpN (jpc h kids) ≤ l.length := by
  rw [par_pcs e]
  obtain ⟨hx, hv⟩ : M.lexS l 0 = .ok ts ∧ (M.validAll l).2 = true := by
    rcases M.split_cases l (by omega) with ⟨e, a, h1, h2, _⟩ | ⟨r, h1, h2, h3⟩
    · rw [hs] at h1; simp only [Prod.mk.injEq] at h1; exact absurd h1.2.1.symm h2
    · rw [hs] at h1; simp only [Prod.mk.injEq] at h1; rw [h1.1]; exact ⟨h2, h3⟩
  have tl := lex_each l.length l 0 ts (by omega) (by omega) (by unfold Okv; simpa using hv) (by simpa using hx)
  have cov := M.lex_cov l.length l 0 ts (by omega) (by omega) (by simpa using hx)
  have pl : ∀ t ∈ ts, 1 ≤ (pieceB l t).length ∧ (pieceB l t).length ≤ t.2.2 - t.2.1 := fun t ht => by
    obtain ⟨a, b, c, d⟩ := tl t ht
    exact pieceB_len l t a c d hl
  unfold jpN
  rw [List.map_map]
  constructor
  · cases ts with
    | nil =>
      have := par_ok e
      simp [valP] at this
    | cons t r =>
      have := (pl t (List.mem_cons_self ..)).1
      simp only [List.map_cons, List.sum_cons, Function.comp, pcT]
      omega
  · have a := sum_le (fun t => (pieceB l t).length) (fun t => t.2.2 - t.2.1) ts fun t ht => (pl t ht).2
    have b := cov_sum l ts 0 cov
    have c : ((fun q : Jp => q.1.length) ∘ pcT l) = fun t => (pieceB l t).length := rfl
    rw [c]; omega
end Go.Proofs.YtbfnlgmhfhaglaaGreatDoor
/- JSON, plain: each piece is one token of its kind; texts side by side. -/
namespace Go.Proofs.YtbfnlgmhfhaglaaGreatDoor.M
open Go.Lib
set_option linter.unusedVariables false
set_option linter.unusedSimpArgs false

theorem run_app (W t : List UInt8) (h : ∀ c ∈ W, dgB c = true) (ht : dgB (t.getD 0 0) = false) : run (W ++ t) = W.length := by
  induction W with
  | nil =>
    cases t with
    | nil => rfl
    | cons c t => have : dgB c = false := by simpa using ht
                  simp [run, this]
  | cons c W ih =>
    have hc := h c (List.mem_cons_self ..)
    rw [List.cons_append, run, if_pos hc, ih fun x hx => h x (List.mem_cons_of_mem _ hx), List.length_cons]
def FrF (F : List UInt8) : Prop := F = [] ∨ ∃ G, G ≠ [] ∧ (∀ c ∈ G, dgB c = true) ∧ F = 46 :: G
def PwF (X : List UInt8) : Prop := X = [] ∨ ∃ (b : Bool) (G : List UInt8), G ≠ [] ∧ (∀ c ∈ G, dgB c = true) ∧ X = 101 :: ((if b then [45] else []) ++ G)
def WhF (W : List UInt8) : Prop := W = [48] ∨ (W ≠ [] ∧ (∀ c ∈ W, dgB c = true) ∧ W.getD 0 0 ≠ 48)
theorem dg_ne {c : UInt8} (h : dgB c = true) : c ≠ 43 ∧ c ≠ 46 ∧ c ≠ 45 := by
  refine ⟨?_, ?_, ?_⟩ <;> rintro rfl <;> revert h <;> decide
theorem frac_app (F X : List UInt8) (hF : FrF F) (hX : PwF X) : frac (F ++ X) = F.length ∧ dgB ((F ++ X).getD 0 0) = false := by
  have hx : dgB (X.getD 0 0) = false ∧ X.getD 0 0 ≠ 46 := by
    rcases hX with rfl | ⟨b, G, _, _, rfl⟩
    · exact ⟨by decide, by decide⟩
    · exact ⟨by show dgB 101 = false; decide, by show (101 : UInt8) ≠ 46; decide⟩
  rcases hF with rfl | ⟨G, g0, g1, rfl⟩
  · rw [List.nil_append]
    refine ⟨?_, hx.1⟩
    unfold frac
    rw [if_neg (fun h => hx.2 h.1)]; rfl
  · refine ⟨?_, by show dgB 46 = false; decide⟩
    unfold frac
    cases G with
    | nil => exact absurd rfl g0
    | cons g G =>
      have hg := g1 g (List.mem_cons_self ..)
      rw [if_pos ⟨by simp, by simpa using hg⟩]
      have e : ((46 :: g :: G) ++ X).drop 1 = (g :: G) ++ X := by simp
      rw [e, run_app _ _ g1 hx.1]
      simp; omega
theorem expo_app (X : List UInt8) (hX : PwF X) : expo X = X.length := by
  rcases hX with rfl | ⟨b, G, g0, g1, rfl⟩
  · decide
  · have hr : run G = G.length := by
      have := run_app G [] g1 (by decide)
      rwa [List.append_nil] at this
    cases G with
    | nil => exact absurd rfl g0
    | cons g G =>
      have hg := g1 g (List.mem_cons_self ..)
      have hn := dg_ne hg
      cases b with
      | true =>
        show expo (101 :: 45 :: g :: G) = _
        have s2 : sgnQ (101 :: 45 :: g :: G) = 2 := by unfold sgnQ; rw [if_pos (.inr rfl)]
        unfold expo
        rw [s2, if_pos (.inl rfl), if_pos (show dgB ((101 :: 45 :: g :: G).getD 2 0) = true from hg)]
        show 2 + run (g :: G) = _
        rw [hr]; simp; omega
      | false =>
        show expo (101 :: g :: G) = _
        have s2 : sgnQ (101 :: g :: G) = 1 := by
          unfold sgnQ
          rw [if_neg]
          rintro (h | h)
          · exact hn.1 h
          · exact hn.2.2 h
        unfold expo
        rw [s2, if_pos (.inl rfl), if_pos (show dgB ((101 :: g :: G).getD 1 0) = true from hg)]
        show 1 + run (g :: G) = _
        rw [hr]; simp; omega
theorem num_form (ng : Bool) (W F X : List UInt8) (hW : WhF W) (hF : FrF F) (hX : PwF X) : numL (sgl ng ++ (W ++ (F ++ X))) = some (sgl ng ++ (W ++ (F ++ X))).length := by
  obtain ⟨fr, fd⟩ := frac_app F X hF hX
  have ex := expo_app X hX
  obtain ⟨w, W', rfl, hw⟩ : ∃ w W', W = w :: W' ∧ dgB w = true := by
    rcases hW with rfl | ⟨h, h2, _⟩
    · exact ⟨48, [], rfl, by decide⟩
    · cases W with
      | nil => exact absurd rfl h
      | cons w W' => exact ⟨w, W', rfl, h2 w (List.mem_cons_self ..)⟩
  have hwh : whole ((w :: W') ++ (F ++ X)) = (w :: W').length := by
    unfold whole
    rcases hW with h | ⟨_, h2, h3⟩
    · simp only [List.cons.injEq] at h
      obtain ⟨rfl, rfl⟩ := h
      rw [if_pos (by simp)]; rfl
    · have : ((w :: W') ++ (F ++ X)).getD 0 0 ≠ 48 := by simpa using h3
      rw [if_neg this, run_app _ _ h2 fd]
  have hneg : neg (sgl ng ++ ((w :: W') ++ (F ++ X))) = (sgl ng).length := by
    unfold neg
    cases ng with
    | true => rw [if_pos (by simp [sgl])]; rfl
    | false => rw [if_neg (by simp [sgl, (dg_ne hw).2.2])]; rfl
  obtain ⟨R, hR⟩ : ∃ R, (w :: W') ++ (F ++ X) = R := ⟨_, rfl⟩
  have hd : dgB ((sgl ng ++ R).getD (sgl ng).length 0) = true := by
    rw [← hR]
    cases ng <;> simpa [sgl] using hw
  have hdr : (sgl ng ++ R).drop (sgl ng).length = R := by simp
  unfold numL
  rw [hR] at hneg ⊢
  rw [hneg, if_pos hd, hdr]
  simp only
  rw [← hR, hwh]
  have d1 : (sgl ng ++ ((w :: W') ++ (F ++ X))).drop ((sgl ng).length + (w :: W').length) = F ++ X := by
    rw [← List.append_assoc, ← List.length_append, List.drop_left]
  rw [d1, fr]
  have d2 : (sgl ng ++ ((w :: W') ++ (F ++ X))).drop ((sgl ng).length + (w :: W').length + F.length) = X := by
    rw [← List.append_assoc, ← List.append_assoc, ← List.length_append, ← List.length_append, List.drop_left]
  rw [d2, ex]
  have ln : (sgl ng).length + (w :: W').length + F.length + X.length = (sgl ng ++ ((w :: W') ++ (F ++ X))).length := by simp only [List.length_append]; omega
  rw [ln]
  have ge : (sgl ng ++ ((w :: W') ++ (F ++ X))).getD (sgl ng ++ ((w :: W') ++ (F ++ X))).length 0 = 0 := by simp [List.getD]
  rw [ge, if_neg (by decide)]
theorem canon_WhF (m : Nat) (h : m ≠ 0) (hh : (canon m).head? ≠ some 48) : WhF (canon m) := by
  refine .inr ⟨canon_ne m h, canon_dig m, fun e => hh ?_⟩
  cases hc : canon m with
  | nil => exact absurd hc (canon_ne m h)
  | cons a t => rw [hc] at e; simp at e; simp [e]
theorem txt_PwF (X : Int) : PwF (101 :: txt X) := by
  refine .inr ?_
  unfold txt
  by_cases h0 : X = 0
  · rw [if_pos h0]; exact ⟨false, [48], by simp, by decide, rfl⟩
  · rw [if_neg h0]
    by_cases h1 : X < 0
    · rw [if_pos h1]; exact ⟨true, canon X.natAbs, canon_ne _ (by omega), canon_dig _, rfl⟩
    · rw [if_neg h1]; exact ⟨false, canon X.natAbs, canon_ne _ (by omega), canon_dig _, rfl⟩
theorem app_WhF {D T : List UInt8} (h : WhF D) (h0 : D.getD 0 0 ≠ 48) (hT : ∀ c ∈ T, dgB c = true) : WhF (D ++ T) := by
  rcases h with rfl | ⟨a, b, c⟩
  · exact absurd rfl h0
  · refine .inr ⟨by simp [a], fun x hx => ?_, ?_⟩
    · rcases List.mem_append.1 hx with hx | hx
      · exact b x hx
      · exact hT x hx
    · cases D with
      | nil => exact absurd rfl a
      | cons d D => simpa using c
theorem plain_num (ng : Bool) (D E : List UInt8) : ∀ t ∈ plainN ng D E, numL t = some t.length := by
  intro t ht
  unfold plainN at ht
  split at ht
  · rename_i hr
    have hr2 := hr
    by_cases hD : D = []
    · rw [if_pos hD] at ht
      rw [List.mem_singleton.1 ht]
      have := num_form ng [48] [] [] (.inl rfl) (.inl rfl) (.inl rfl)
      simpa using this
    · rw [if_neg hD] at ht
      have hh : D.head? ≠ some 48 := by
        unfold rightN at hr2
        rw [if_neg hD] at hr2
        simp only [Bool.and_eq_true, bne_iff_ne] at hr2
        exact hr2.1.1.2
      rcases right_ex D E hr with ⟨h, _⟩ | ⟨m, X, hm, rfl, rfl⟩
      · exact absurd h hD
      have hW := canon_WhF m (by rintro rfl; exact hm rfl) hh
      have h48 : (canon m).getD 0 0 ≠ 48 := by
        rcases hW with h | ⟨_, _, h⟩
        · rw [h] at hh; exact absurd rfl hh
        · exact h
      have hdg := canon_dig m
      obtain ⟨D, hDm⟩ : ∃ D, canon m = D := ⟨_, rfl⟩
      rw [hDm] at ht hW h48 hdg hD
      have hpos := List.length_pos_iff.2 hD
      rcases List.mem_append.1 ht with ht | ht
      · unfold plain1 at ht
        split at ht
        · rename_i hc
          rw [List.mem_singleton.1 ht]
          obtain ⟨x, hx⟩ : ∃ x, (intD (txt X)).1 = x := ⟨_, rfl⟩
          rw [hx] at hc ⊢
          have hu := hc.2
          unfold unsc at hu ⊢
          split
          · have := num_form ng (D ++ List.replicate x.toNat 48) [] [] (app_WhF hW h48 (by intro c hc; rw [List.eq_of_mem_replicate hc]; decide)) (.inl rfl) (.inl rfl)
            simpa using this
          · split
            · rename_i n1 n2
              obtain ⟨k, hk⟩ : ∃ k, ((D.length : Int) + x).toNat = k := ⟨_, rfl⟩
              rw [hk]
              have k1 : 0 < k := by omega
              have k2 : k < D.length := by omega
              have hT : WhF (D.take k) := by
                refine .inr ⟨?_, fun c hc => hdg c (List.mem_of_mem_take hc), ?_⟩
                · intro e; have := congrArg List.length e; rw [List.length_take, List.length_nil] at this; omega
                · cases D with
                  | nil => simp at hpos
                  | cons d D => obtain ⟨k, rfl⟩ : ∃ q, k = q + 1 := ⟨k - 1, by omega⟩; simpa using h48
              have := num_form ng (D.take k) (46 :: D.drop k) [] hT (.inr ⟨D.drop k, by intro e; have := congrArg List.length e; rw [List.length_drop, List.length_nil] at this; omega, fun c hc => hdg c (List.mem_of_mem_drop hc), rfl⟩) (.inl rfl)
              simpa using this
            · split
              · have := num_form ng [48] (46 :: (List.replicate (-((D.length : Int) + x)).toNat 48 ++ D)) [] (.inl rfl) (.inr ⟨_, by simp [hD], fun c hc => by
                  rcases List.mem_append.1 hc with hc | hc
                  · rw [List.eq_of_mem_replicate hc]; decide
                  · exact hdg c hc, rfl⟩) (.inl rfl)
                simpa using this
              · rename_i n1 n2 n3
                rw [if_neg n1, if_neg n2, if_neg n3] at hu
                exact absurd rfl hu
        · simp at ht
      · rcases List.mem_append.1 ht with ht | ht
        · rw [List.mem_singleton.1 ht]
          have := num_form ng D [] (101 :: txt X) hW (.inl rfl) (txt_PwF X)
          simpa using this
        · unfold plain3 at ht
          rw [upE_txt] at ht
          split at ht
          · rename_i hc
            rw [List.mem_singleton.1 ht]
            cases D with
            | nil => simp at hpos
            | cons d D =>
              have h1 : WhF [d] := .inr ⟨by simp, fun c hc => by rw [List.mem_singleton.1 hc]; exact hdg d (List.mem_cons_self ..), by simpa using h48⟩
              have hne : D ≠ [] := by intro e; subst e; simp at hc
              have := num_form ng [d] (46 :: D) (101 :: txt (X + (((d :: D).length : Int) - 1))) h1 (.inr ⟨D, hne, fun c hc => hdg c (List.mem_cons_of_mem _ hc), rfl⟩) (txt_PwF _)
              simpa using this
          · simp at ht
  · simp at ht
end Go.Proofs.YtbfnlgmhfhaglaaGreatDoor.M
