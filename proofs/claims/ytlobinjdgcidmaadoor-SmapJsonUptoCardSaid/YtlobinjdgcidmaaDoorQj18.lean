/- Texts of ours in one: ZNf ZNg ZBk. -/
import Derived.Test.YtlobinjdgcidmaaDoorQj05
import Derived.Test.YtlobinjdgcidmaaDoorQj00
import Derived.Test.YtlobinjdgcidmaaDoorQj10
import Derived.Test.YtlobinjdgcidmaaDoorQj13
import Derived.Test.YtlobinjdgcidmaaDoorQj17
/- JSON, plain: each piece is one token of its kind; texts side by side. -/
namespace Go.Proofs.YtlobinjdgcidmaaDoor.M
open Go.Lib
set_option linter.unusedVariables false
set_option linter.unusedSimpArgs false

theorem run_app (W t : List UInt8) (h : ∀ c ∈ W, dgB c = true) (ht : dgB (t.getD 0 0) = false) : run (W ++ t) = W.length := by
  induction W with
  | nil =>
    cases t with
    | nil => rfl
    | cons c t => have : dgB c = false := by simpa using ht
                  simp [run, this]
  | cons c W ih =>
    have hc := h c (List.mem_cons_self ..)
    rw [List.cons_append, run, if_pos hc, ih fun x hx => h x (List.mem_cons_of_mem _ hx), List.length_cons]
def FrF (F : List UInt8) : Prop := F = [] ∨ ∃ G, G ≠ [] ∧ (∀ c ∈ G, dgB c = true) ∧ F = 46 :: G
def PwF (X : List UInt8) : Prop := X = [] ∨ ∃ (b : Bool) (G : List UInt8), G ≠ [] ∧ (∀ c ∈ G, dgB c = true) ∧ X = 101 :: ((if b then [45] else []) ++ G)
def WhF (W : List UInt8) : Prop := W = [48] ∨ (W ≠ [] ∧ (∀ c ∈ W, dgB c = true) ∧ W.getD 0 0 ≠ 48)
theorem dg_ne {c : UInt8} (h : dgB c = true) : c ≠ 43 ∧ c ≠ 46 ∧ c ≠ 45 := by
  refine ⟨?_, ?_, ?_⟩ <;> rintro rfl <;> revert h <;> decide
theorem frac_app (F X : List UInt8) (hF : FrF F) (hX : PwF X) : frac (F ++ X) = F.length ∧ dgB ((F ++ X).getD 0 0) = false := by
  have hx : dgB (X.getD 0 0) = false ∧ X.getD 0 0 ≠ 46 := by
    rcases hX with rfl | ⟨b, G, _, _, rfl⟩
    · exact ⟨by decide, by decide⟩
    · exact ⟨by show dgB 101 = false; decide, by show (101 : UInt8) ≠ 46; decide⟩
  rcases hF with rfl | ⟨G, g0, g1, rfl⟩
  · rw [List.nil_append]
    refine ⟨?_, hx.1⟩
    unfold frac
    rw [if_neg (fun h => hx.2 h.1)]; rfl
  · refine ⟨?_, by show dgB 46 = false; decide⟩
    unfold frac
    cases G with
    | nil => exact absurd rfl g0
    | cons g G =>
      have hg := g1 g (List.mem_cons_self ..)
      rw [if_pos ⟨by simp, by simpa using hg⟩]
      have e : ((46 :: g :: G) ++ X).drop 1 = (g :: G) ++ X := by simp
      rw [e, run_app _ _ g1 hx.1]
      simp; omega
theorem expo_app (X : List UInt8) (hX : PwF X) : expo X = X.length := by
  rcases hX with rfl | ⟨b, G, g0, g1, rfl⟩
  · decide
  · have hr : run G = G.length := by
      have := run_app G [] g1 (by decide)
      rwa [List.append_nil] at this
    cases G with
    | nil => exact absurd rfl g0
    | cons g G =>
      have hg := g1 g (List.mem_cons_self ..)
      have hn := dg_ne hg
      cases b with
      | true =>
        show expo (101 :: 45 :: g :: G) = _
        have s2 : sgnQ (101 :: 45 :: g :: G) = 2 := by unfold sgnQ; rw [if_pos (.inr rfl)]
        unfold expo
        rw [s2, if_pos (.inl rfl), if_pos (show dgB ((101 :: 45 :: g :: G).getD 2 0) = true from hg)]
        show 2 + run (g :: G) = _
        rw [hr]; simp; omega
      | false =>
        show expo (101 :: g :: G) = _
        have s2 : sgnQ (101 :: g :: G) = 1 := by
          unfold sgnQ
          rw [if_neg]
          rintro (h | h)
          · exact hn.1 h
          · exact hn.2.2 h
        unfold expo
        rw [s2, if_pos (.inl rfl), if_pos (show dgB ((101 :: g :: G).getD 1 0) = true from hg)]
        show 1 + run (g :: G) = _
        rw [hr]; simp; omega
theorem num_form (ng : Bool) (W F X : List UInt8) (hW : WhF W) (hF : FrF F) (hX : PwF X) : numL (sgl ng ++ (W ++ (F ++ X))) = some (sgl ng ++ (W ++ (F ++ X))).length := by
  obtain ⟨fr, fd⟩ := frac_app F X hF hX
  have ex := expo_app X hX
  obtain ⟨w, W', rfl, hw⟩ : ∃ w W', W = w :: W' ∧ dgB w = true := by
    rcases hW with rfl | ⟨h, h2, _⟩
    · exact ⟨48, [], rfl, by decide⟩
    · cases W with
      | nil => exact absurd rfl h
      | cons w W' => exact ⟨w, W', rfl, h2 w (List.mem_cons_self ..)⟩
  have hwh : whole ((w :: W') ++ (F ++ X)) = (w :: W').length := by
    unfold whole
    rcases hW with h | ⟨_, h2, h3⟩
    · simp only [List.cons.injEq] at h
      obtain ⟨rfl, rfl⟩ := h
      rw [if_pos (by simp)]; rfl
    · have : ((w :: W') ++ (F ++ X)).getD 0 0 ≠ 48 := by simpa using h3
      rw [if_neg this, run_app _ _ h2 fd]
  have hneg : neg (sgl ng ++ ((w :: W') ++ (F ++ X))) = (sgl ng).length := by
    unfold neg
    cases ng with
    | true => rw [if_pos (by simp [sgl])]; rfl
    | false => rw [if_neg (by simp [sgl, (dg_ne hw).2.2])]; rfl
  obtain ⟨R, hR⟩ : ∃ R, (w :: W') ++ (F ++ X) = R := ⟨_, rfl⟩
  have hd : dgB ((sgl ng ++ R).getD (sgl ng).length 0) = true := by
    rw [← hR]
    cases ng <;> simpa [sgl] using hw
  have hdr : (sgl ng ++ R).drop (sgl ng).length = R := by simp
  unfold numL
  rw [hR] at hneg ⊢
  rw [hneg, if_pos hd, hdr]
  simp only
  rw [← hR, hwh]
  have d1 : (sgl ng ++ ((w :: W') ++ (F ++ X))).drop ((sgl ng).length + (w :: W').length) = F ++ X := by
    rw [← List.append_assoc, ← List.length_append, List.drop_left]
  rw [d1, fr]
  have d2 : (sgl ng ++ ((w :: W') ++ (F ++ X))).drop ((sgl ng).length + (w :: W').length + F.length) = X := by
    rw [← List.append_assoc, ← List.append_assoc, ← List.length_append, ← List.length_append, List.drop_left]
  rw [d2, ex]
  have ln : (sgl ng).length + (w :: W').length + F.length + X.length = (sgl ng ++ ((w :: W') ++ (F ++ X))).length := by simp only [List.length_append]; omega
  rw [ln]
  have ge : (sgl ng ++ ((w :: W') ++ (F ++ X))).getD (sgl ng ++ ((w :: W') ++ (F ++ X))).length 0 = 0 := by simp [List.getD]
  rw [ge, if_neg (by decide)]
theorem canon_WhF (m : Nat) (h : m ≠ 0) (hh : (canon m).head? ≠ some 48) : WhF (canon m) := by
  refine .inr ⟨canon_ne m h, canon_dig m, fun e => hh ?_⟩
  cases hc : canon m with
  | nil => exact absurd hc (canon_ne m h)
  | cons a t => rw [hc] at e; simp at e; simp [e]
theorem txt_PwF (X : Int) : PwF (101 :: txt X) := by
  refine .inr ?_
  unfold txt
  by_cases h0 : X = 0
  · rw [if_pos h0]; exact ⟨false, [48], by simp, by decide, rfl⟩
  · rw [if_neg h0]
    by_cases h1 : X < 0
    · rw [if_pos h1]; exact ⟨true, canon X.natAbs, canon_ne _ (by omega), canon_dig _, rfl⟩
    · rw [if_neg h1]; exact ⟨false, canon X.natAbs, canon_ne _ (by omega), canon_dig _, rfl⟩
theorem app_WhF {D T : List UInt8} (h : WhF D) (h0 : D.getD 0 0 ≠ 48) (hT : ∀ c ∈ T, dgB c = true) : WhF (D ++ T) := by
  rcases h with rfl | ⟨a, b, c⟩
  · exact absurd rfl h0
  · refine .inr ⟨by simp [a], fun x hx => ?_, ?_⟩
    · rcases List.mem_append.1 hx with hx | hx
      · exact b x hx
      · exact hT x hx
    · cases D with
      | nil => exact absurd rfl a
      | cons d D => simpa using c
theorem plain_num (ng : Bool) (D E : List UInt8) : ∀ t ∈ plainN ng D E, numL t = some t.length := by
  intro t ht
  unfold plainN at ht
  split at ht
  · rename_i hr
    have hr2 := hr
    by_cases hD : D = []
    · rw [if_pos hD] at ht
      rw [List.mem_singleton.1 ht]
      have := num_form ng [48] [] [] (.inl rfl) (.inl rfl) (.inl rfl)
      simpa using this
    · rw [if_neg hD] at ht
      have hh : D.head? ≠ some 48 := by
        unfold rightN at hr2
        rw [if_neg hD] at hr2
        simp only [Bool.and_eq_true, bne_iff_ne] at hr2
        exact hr2.1.1.2
      rcases right_ex D E hr with ⟨h, _⟩ | ⟨m, X, hm, rfl, rfl⟩
      · exact absurd h hD
      have hW := canon_WhF m (by rintro rfl; exact hm rfl) hh
      have h48 : (canon m).getD 0 0 ≠ 48 := by
        rcases hW with h | ⟨_, _, h⟩
        · rw [h] at hh; exact absurd rfl hh
        · exact h
      have hdg := canon_dig m
      obtain ⟨D, hDm⟩ : ∃ D, canon m = D := ⟨_, rfl⟩
      rw [hDm] at ht hW h48 hdg hD
      have hpos := List.length_pos_iff.2 hD
      rcases List.mem_append.1 ht with ht | ht
      · unfold plain1 at ht
        split at ht
        · rename_i hc
          rw [List.mem_singleton.1 ht]
          obtain ⟨x, hx⟩ : ∃ x, (intD (txt X)).1 = x := ⟨_, rfl⟩
          rw [hx] at hc ⊢
          have hu := hc.2
          unfold unsc at hu ⊢
          split
          · have := num_form ng (D ++ List.replicate x.toNat 48) [] [] (app_WhF hW h48 (by intro c hc; rw [List.eq_of_mem_replicate hc]; decide)) (.inl rfl) (.inl rfl)
            simpa using this
          · split
            · rename_i n1 n2
              obtain ⟨k, hk⟩ : ∃ k, ((D.length : Int) + x).toNat = k := ⟨_, rfl⟩
              rw [hk]
              have k1 : 0 < k := by omega
              have k2 : k < D.length := by omega
              have hT : WhF (D.take k) := by
                refine .inr ⟨?_, fun c hc => hdg c (List.mem_of_mem_take hc), ?_⟩
                · intro e; have := congrArg List.length e; rw [List.length_take, List.length_nil] at this; omega
                · cases D with
                  | nil => simp at hpos
                  | cons d D => obtain ⟨k, rfl⟩ : ∃ q, k = q + 1 := ⟨k - 1, by omega⟩; simpa using h48
              have := num_form ng (D.take k) (46 :: D.drop k) [] hT (.inr ⟨D.drop k, by intro e; have := congrArg List.length e; rw [List.length_drop, List.length_nil] at this; omega, fun c hc => hdg c (List.mem_of_mem_drop hc), rfl⟩) (.inl rfl)
              simpa using this
            · split
              · have := num_form ng [48] (46 :: (List.replicate (-((D.length : Int) + x)).toNat 48 ++ D)) [] (.inl rfl) (.inr ⟨_, by simp [hD], fun c hc => by
                  rcases List.mem_append.1 hc with hc | hc
                  · rw [List.eq_of_mem_replicate hc]; decide
                  · exact hdg c hc, rfl⟩) (.inl rfl)
                simpa using this
              · rename_i n1 n2 n3
                rw [if_neg n1, if_neg n2, if_neg n3] at hu
                exact absurd rfl hu
        · simp at ht
      · rcases List.mem_append.1 ht with ht | ht
        · rw [List.mem_singleton.1 ht]
          have := num_form ng D [] (101 :: txt X) hW (.inl rfl) (txt_PwF X)
          simpa using this
        · unfold plain3 at ht
          rw [upE_txt] at ht
          split at ht
          · rename_i hc
            rw [List.mem_singleton.1 ht]
            cases D with
            | nil => simp at hpos
            | cons d D =>
              have h1 : WhF [d] := .inr ⟨by simp, fun c hc => by rw [List.mem_singleton.1 hc]; exact hdg d (List.mem_cons_self ..), by simpa using h48⟩
              have hne : D ≠ [] := by intro e; subst e; simp at hc
              have := num_form ng [d] (46 :: D) (101 :: txt (X + (((d :: D).length : Int) - 1))) h1 (.inr ⟨D, hne, fun c hc => hdg c (List.mem_cons_of_mem _ hc), rfl⟩) (txt_PwF _)
              simpa using this
          · simp at ht
  · simp at ht
end Go.Proofs.YtlobinjdgcidmaaDoor.M
/- JSON, plain: each piece is one token of its kind. -/
namespace Go.Proofs.YtlobinjdgcidmaaDoor
set_option linter.unusedVariables false
set_option linter.unusedSimpArgs false

theorem spell_tok (us : List Nat) (h : ∀ u ∈ us, u ≤ 65535) : M.tokL (M.spell us) = some (7, (M.spell us).length) ∧ (M.validAll (M.spell us)).2 = true := by
  obtain ⟨b1, b2, b3⟩ := M.body_facts us h [34] (by simp)
  have hj : M.jtS [34] = some 1 := by rw [M.jtS_cons, if_pos rfl]
  have hv34 : (M.validAll [34]).2 = true := by decide +kernel
  constructor
  · unfold M.tokL
    have g0 : (M.spell us).getD 0 0 = 34 := by simp [M.spell]
    rw [g0]
    rw [if_neg (by decide), if_neg (by decide), if_neg (by decide), if_neg (by decide), if_neg (by decide), if_neg (by decide), if_pos rfl]
    have hd : (M.spell us).drop 1 = M.body us ++ [34] := rfl
    rw [hd, b1, hj]
    simp [M.spell]; omega
  · rw [M.valid_ascii _ (by simp [M.spell]) (by simp [M.spell])]
    show (M.validAll (M.body us ++ [34])).2 = true
    rw [b3, hv34]
theorem num_tok (s : List UInt8) (h0 : 0 < s.length) (h : M.numL s = some s.length) : M.GoodT (8, s) := by
  have ht : M.tokL s = some (8, s.length) := by
    unfold M.tokL
    cases s with
    | nil => simp at h0
    | cons a t =>
      have ha : a = 45 ∨ M.dgB a = true := by
        unfold M.numL at h
        split at h
        · rename_i hd
          by_cases h45 : a = 45
          · exact .inl h45
          · rw [show M.neg (a :: t) = 0 by simp [M.neg, h45]] at hd
            exact .inr (by simpa using hd)
        · cases h
      have nn : a ≠ 123 ∧ a ≠ 125 ∧ a ≠ 91 ∧ a ≠ 93 ∧ a ≠ 58 ∧ a ≠ 44 ∧ a ≠ 34 ∧ a ≠ 116 ∧ a ≠ 102 ∧ a ≠ 110 := by
        rcases ha with rfl | ha
        · decide
        · refine ⟨?_, ?_, ?_, ?_, ?_, ?_, ?_, ?_, ?_, ?_⟩ <;> rintro rfl <;> revert ha <;> decide
      obtain ⟨n1, n2, n3, n4, n5, n6, n7, n8, n9, n10⟩ := nn
      simp only [List.getD_cons_zero, n1, n2, n3, n4, n5, n6, n7, n8, n9, n10, if_false, h, Option.map_some]
  have ascii : (M.validAll s).2 = true := valid_all_ascii s fun j hj => M.tok_ascii s 8 s.length ht (by decide) j hj
  exact ⟨h0, ht, ascii⟩
theorem good_of (k : Nat) (s : List UInt8) (h : (decide (0 < s.length) && (M.tokL s == some (k, s.length)) && (M.validAll s).2) = true) : M.GoodT (k, s) := by
  simp only [Bool.and_eq_true, decide_eq_true_eq, beq_iff_eq] at h
  exact ⟨h.1.1, h.1.2, h.2⟩
end Go.Proofs.YtlobinjdgcidmaaDoor
/- JSON, plain: what is written shortest is read back as the same value. -/
namespace Go.Proofs.YtlobinjdgcidmaaDoor
set_option linter.unusedVariables false
set_option linter.unusedSimpArgs false

def sglK (h : Vh) : Nat := if h.k = 3 then 7 else if h.k = 4 then 8 else if h.k = 5 then 9 else if h.k = 6 then 10 else 11
def mkT (k : Int) (i : Nat) : Nat × List UInt8 := (if k = 1 ∧ i % 2 = 1 then 5 else 6, mkB k i)
def opT (k : Int) : Nat × List UInt8 := (if k = 1 then 1 else 3, opB k)
def clT (k : Int) : Nat × List UInt8 := (if k = 1 then 2 else 4, clB k)
def tlL (k : Int) : Vo → Nat → M.TL
  | .nil, _ => []
  | .cons h kids rest, i => (if 0 < i then [mkT k i] else []) ++ ((if h.k = 1 ∨ h.k = 2 then opT h.k :: (tlL h.k kids 0 ++ [clT h.k]) else [(sglK h, sglB h)]) ++ tlL k rest (i + 1))
def tlV (h : Vh) (kids : Vo) : M.TL := if h.k = 1 ∨ h.k = 2 then opT h.k :: (tlL h.k kids 0 ++ [clT h.k]) else [(sglK h, sglB h)]
theorem tlL_cons (k : Int) (h : Vh) (kids rest : Vo) (i : Nat) : tlL k (.cons h kids rest) i = (if 0 < i then [mkT k i] else []) ++ (tlV h kids ++ tlL k rest (i + 1)) := rfl
theorem tl_txtL (L : Vo) : ∀ k ms i, (tlL k L i).map (·.2) = (pcsL k ms L i).map (·.1) := by
  induction L with
  | nil => intros; rfl
  | cons h kids rest ih1 ih2 =>
    intro k ms i
    simp only [tlL, pcsL, List.map_append, ih2 k ms]
    congr 1
    · split <;> rfl
    · congr 1
      split
      · simp only [List.map_cons, List.map_append, ih1 h.k h.ms, List.map_nil, opT, clT]
      · rfl
theorem tl_txt (h : Vh) (kids : Vo) : (tlV h kids).map (·.2) = (pcsV h kids).map (·.1) := by
  unfold tlV pcsV
  split
  · simp only [List.map_cons, List.map_append, tl_txtL kids h.k h.ms, List.map_nil, opT, clT]
  · rfl
theorem bld_flat (tl : M.TL) : ∀ j, M.bld (fun _ => []) j tl = (tl.map (·.2)).flatten := by
  induction tl with
  | nil => intro j; rfl
  | cons x r ih => intro j; rw [M.bld_cons, ih]; simp
theorem tl_jtx (h : Vh) (kids : Vo) : M.bld (fun _ => []) 0 (tlV h kids) = (pcsV h kids).flatMap (fun q => q.1) := by
  rw [bld_flat, tl_txt, List.flatMap_def]
theorem right_list {h : Vh} {kids : Vo} {d : Nat} (hr : rightH h kids d = true) (hk : h.k = 1 ∨ h.k = 2) : h.tx = [] ∧ (h.ng = false ∧ h.dg = [] ∧ h.ex = []) ∧ 0 < d ∧ rightVo kids (d - 1) = true ∧ (h.k = 1 → evK true kids = true ∧ kids.len % 2 = 0) := by
  unfold rightH headB at hr
  rw [if_pos hk] at hr
  simp only [Bool.and_eq_true, decide_eq_true_eq] at hr
  obtain ⟨-, ⟨⟨h1, h2⟩, h3⟩, ⟨-, h5⟩, h6⟩ := hr
  refine ⟨List.eq_nil_of_length_eq_zero h1, ?_, h3, h6, fun hk1 => ?_⟩
  · unfold nnum at h2
    simpa [Bool.and_eq_true, List.isEmpty_iff, and_assoc] using h2
  · unfold keysB at h5
    simpa [hk1] using h5
theorem right_leaf {h : Vh} {kids : Vo} {d : Nat} (hr : rightH h kids d = true) (hk : ¬ (h.k = 1 ∨ h.k = 2)) : kids.len = 0 ∧ ((h.k = 3 ∧ (h.ng = false ∧ h.dg = [] ∧ h.ex = []) ∧ M.rightU h.tx = true) ∨ (h.k = 4 ∧ h.tx = [] ∧ M.rightN h.dg h.ex = true) ∨ ((h.k = 5 ∨ h.k = 6 ∨ h.k = 7) ∧ h.tx = [] ∧ (h.ng = false ∧ h.dg = [] ∧ h.ex = []))) := by
  unfold rightH headB at hr
  rw [if_neg hk] at hr
  have nn : nnum h = true → (h.ng = false ∧ h.dg = [] ∧ h.ex = []) := fun q => by
    unfold nnum at q
    simpa [Bool.and_eq_true, List.isEmpty_iff, and_assoc] using q
  have nl : nlist h kids.len = true → kids.len = 0 := fun q => by
    unfold nlist at q
    simp only [Bool.and_eq_true, decide_eq_true_eq] at q
    exact q.1.1
  by_cases h3 : h.k = 3
  · rw [if_pos h3] at hr
    simp only [Bool.and_eq_true, decide_eq_true_eq] at hr
    exact ⟨nl hr.2.1.2, .inl ⟨h3, nn hr.2.1.1, hr.2.2⟩⟩
  · rw [if_neg h3] at hr
    by_cases h4 : h.k = 4
    · rw [if_pos h4] at hr
      simp only [Bool.and_eq_true, decide_eq_true_eq] at hr
      exact ⟨nl hr.2.1.2, .inr (.inl ⟨h4, List.eq_nil_of_length_eq_zero hr.2.1.1, hr.2.2⟩)⟩
    · rw [if_neg h4] at hr
      by_cases h5 : h.k = 5 ∨ h.k = 6 ∨ h.k = 7
      · rw [if_pos h5] at hr
        simp only [Bool.and_eq_true, decide_eq_true_eq] at hr
        exact ⟨nl hr.2.2, .inr (.inr ⟨h5, List.eq_nil_of_length_eq_zero hr.2.1.1, nn hr.2.1.2⟩)⟩
      · rw [if_neg h5] at hr; simp at hr
theorem len_nil {L : Vo} (h : L.len = 0) : L = .nil := by cases L with | nil => rfl | cons _ _ _ => simp [Vo.len] at h
theorem units_le {tx : List Int} (h : M.rightU tx = true) : (∀ u ∈ tx.map Int.toNat, u ≤ 65535) ∧ iN (tx.map Int.toNat) = tx := by
  rw [M.rightU_iff] at h
  refine ⟨fun u hu => ?_, ?_⟩
  · obtain ⟨z, hz, rfl⟩ := List.mem_map.1 hu
    have := h z hz
    omega
  · unfold iN
    rw [List.map_map]
    conv => rhs; rw [← List.map_id tx]
    apply List.map_congr_left
    intro z hz
    have := h z hz
    simp; omega
theorem sgl_good {h : Vh} {kids : Vo} {d : Nat} (hr : rightH h kids d = true) (hk : ¬ (h.k = 1 ∨ h.k = 2)) : M.GoodT (sglK h, sglB h) := by
  obtain ⟨-, ⟨e, -, hu⟩ | ⟨e, -, hn⟩ | ⟨e, -⟩⟩ := right_leaf hr hk
  · have e1 : sglK h = 7 := by simp [sglK, e]
    have e2 : sglB h = M.spell (h.tx.map Int.toNat) := by simp [sglB, e]
    rw [e1, e2]
    obtain ⟨a, b⟩ := spell_tok _ (units_le hu).1
    exact ⟨by simp [M.spell], a, b⟩
  · have e1 : sglK h = 8 := by simp [sglK, e]
    have e2 : sglB h = M.shortN (M.plainN h.ng h.dg h.ex) := by simp [sglB, e]
    rw [e1, e2]
    have hm := M.short_mem _ (M.plain_ne h.ng _ _ hn)
    exact num_tok _ (M.plain_pos _ _ _ _ hm) (M.plain_num _ _ _ _ hm)
  · rcases e with e | e | e
    · have e1 : sglK h = 9 := by simp [sglK, e]
      have e2 : sglB h = [116, 114, 117, 101] := by simp [sglB, e]
      rw [e1, e2]; exact good_of _ _ (by decide +kernel)
    · have e1 : sglK h = 10 := by simp [sglK, e]
      have e2 : sglB h = [102, 97, 108, 115, 101] := by simp [sglB, e]
      rw [e1, e2]; exact good_of _ _ (by decide +kernel)
    · have e1 : sglK h = 11 := by simp [sglK, e]
      have e2 : sglB h = [110, 117, 108, 108] := by simp [sglB, e]
      rw [e1, e2]; exact good_of _ _ (by decide +kernel)
theorem sign_good (k : Int) (i : Nat) : M.GoodT (mkT k i) ∧ M.GoodT (opT k) ∧ M.GoodT (clT k) := by
  refine ⟨?_, ?_, ?_⟩
  · unfold mkT mkB
    by_cases h : k = 1 ∧ i % 2 = 1
    · rw [if_pos h, if_pos h]; exact good_of _ _ (by decide +kernel)
    · rw [if_neg h, if_neg h]; exact good_of _ _ (by decide +kernel)
  · unfold opT opB
    by_cases h : k = 1
    · rw [if_pos h, if_pos h]; exact good_of _ _ (by decide +kernel)
    · rw [if_neg h, if_neg h]; exact good_of _ _ (by decide +kernel)
  · unfold clT clB
    by_cases h : k = 1
    · rw [if_pos h, if_pos h]; exact good_of _ _ (by decide +kernel)
    · rw [if_neg h, if_neg h]; exact good_of _ _ (by decide +kernel)
theorem tlV_good' (h : Vh) (kids : Vo) (d : Nat) (ih : ∀ k i d, rightVo kids d = true → ∀ x ∈ tlL k kids i, M.GoodT x) (hr : rightH h kids d = true) : ∀ x ∈ tlV h kids, M.GoodT x := by
  intro x hx
  unfold tlV at hx
  split at hx
  · rename_i hk
    obtain ⟨-, -, -, hv, -⟩ := right_list hr hk
    rcases List.mem_cons.1 hx with rfl | hx
    · exact (sign_good _ 0).2.1
    · rcases List.mem_append.1 hx with hx | hx
      · exact ih _ _ _ hv x hx
      · rw [List.mem_singleton.1 hx]; exact (sign_good _ 0).2.2
  · rename_i hk
    rw [List.mem_singleton.1 hx]; exact sgl_good hr hk
theorem tlL_good (L : Vo) : ∀ k i d, rightVo L d = true → ∀ x ∈ tlL k L i, M.GoodT x := by
  induction L with
  | nil => intro k i d _ x hx; simp [tlL] at hx
  | cons h kids rest ih1 ih2 =>
    intro k i d hr x hx
    rw [rightVo_cons, Bool.and_eq_true] at hr
    rw [tlL_cons] at hx
    rcases List.mem_append.1 hx with hx | hx
    · split at hx
      · rw [List.mem_singleton.1 hx]; exact (sign_good k i).1
      · simp at hx
    · rcases List.mem_append.1 hx with hx | hx
      · exact tlV_good' h kids d ih1 hr.1 x hx
      · exact ih2 k (i + 1) d hr.2 x hx
theorem tlV_good {h : Vh} {kids : Vo} {d : Nat} (hr : rightH h kids d = true) : ∀ x ∈ tlV h kids, M.GoodT x := tlV_good' h kids d (tlL_good kids) hr
def adjB : Nat → M.TL → Prop
  | _, [] => True
  | p, y :: r => (p ≤ 7 ∨ y.1 ≤ 6) ∧ adjB y.1 r
theorem adjB_Adj : ∀ (tl : M.TL) (j p : Nat), adjB p tl → M.Adj (fun _ => []) j tl
  | [], _, _, _ => trivial
  | [_], _, _, _ => trivial
  | x :: y :: r, j, p, h => ⟨.inr h.2.1, adjB_Adj (y :: r) (j + 1) x.1 h.2⟩
theorem sign_le (k : Int) (i : Nat) : (mkT k i).1 ≤ 6 ∧ (opT k).1 ≤ 6 ∧ (clT k).1 ≤ 6 := by
  unfold mkT opT clT
  refine ⟨?_, ?_, ?_⟩ <;> (simp only; split <;> omega)
theorem adjL (L : Vo) : ∀ (k : Int) (i p : Nat) (z : Nat × List UInt8) (t : M.TL), (0 < i ∨ p ≤ 7) → z.1 ≤ 6 → adjB z.1 t → adjB p (tlL k L i ++ z :: t) := by
  induction L with
  | nil => intro k i p z t _ hz ht; exact ⟨.inr hz, ht⟩
  | cons h kids rest ih1 ih2 =>
    intro k i p z t hp hz ht
    have hT : ∀ q, adjB q (tlL k rest (i + 1) ++ z :: t) := fun q => ih2 k (i + 1) q z t (.inl (by omega)) hz ht
    have hV : ∀ q, q ≤ 7 → adjB q (tlV h kids ++ (tlL k rest (i + 1) ++ z :: t)) := fun q hq => by
      unfold tlV
      split
      · rw [List.cons_append, List.append_assoc]
        exact ⟨.inl hq, ih1 h.k 0 _ (clT h.k) _ (.inr (by have := (sign_le h.k 0).2.1; omega)) (sign_le h.k 0).2.2 (hT _)⟩
      · exact ⟨.inl hq, hT _⟩
    rw [tlL_cons, List.append_assoc, List.append_assoc]
    by_cases h0 : 0 < i
    · rw [if_pos h0]
      have := (sign_le k i).1
      exact ⟨.inr this, hV _ (by omega)⟩
    · rw [if_neg h0]
      exact hV p (by omega)
theorem adjV (h : Vh) (kids : Vo) : adjB 0 (tlV h kids) := by
  unfold tlV
  split
  · exact ⟨.inl (by omega), adjL kids h.k 0 _ (clT h.k) [] (.inr (by have := (sign_le h.k 0).2.1; omega)) (sign_le h.k 0).2.2 trivial⟩
  · exact ⟨.inl (by omega), trivial⟩
def TkR (l : List UInt8) : M.Toks → M.TL → Prop
  | [], [] => True
  | t :: ts, x :: xs => (t.1 = x.1 ∧ tokB l t = x.2) ∧ TkR l ts xs
  | [], _ :: _ => False
  | _ :: _, [] => False
theorem TkR.cons {l : List UInt8} {ts : M.Toks} {x : Nat × List UInt8} {b : M.TL} (h : TkR l ts (x :: b)) : ∃ t r, ts = t :: r ∧ t.1 = x.1 ∧ tokB l t = x.2 ∧ TkR l r b := by
  cases ts with
  | nil => exact absurd h (by simp [TkR])
  | cons t r => exact ⟨t, r, rfl, h.1.1, h.1.2, h.2⟩
theorem TkR.nil {l : List UInt8} {ts : M.Toks} (h : TkR l ts []) : ts = [] := by
  cases ts with
  | nil => rfl
  | cons t r => exact absurd h (by simp [TkR])
theorem TkR.split {l : List UInt8} (a : M.TL) : ∀ {ts : M.Toks} {b : M.TL}, TkR l ts (a ++ b) → ∃ t1 t2, ts = t1 ++ t2 ∧ TkR l t1 a ∧ TkR l t2 b ∧ t1.length = a.length := by
  induction a with
  | nil => intro ts b h; exact ⟨[], ts, rfl, trivial, h, rfl⟩
  | cons x a ih =>
    intro ts b h
    obtain ⟨t, r, rfl, h1, h2, h3⟩ := TkR.cons h
    obtain ⟨t1, t2, rfl, h4, h5, h6⟩ := ih h3
    exact ⟨t :: t1, t2, rfl, ⟨⟨h1, h2⟩, h4⟩, h5, by simp [h6]⟩
end Go.Proofs.YtlobinjdgcidmaaDoor
