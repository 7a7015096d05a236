/- Plain numbers and lists: a number that is written, and what may stand behind it, is one token of CSS. Nothing of the program is imported. -/
import Derived.Test.YtpecaalpbeoolaaGreatDoorMgC
namespace Go.Proofs.YtpecaalpbeoolaaGreatDoor.M
open Go.Lib
set_option linter.unusedVariables false
set_option linter.unusedSimpArgs false

/-- Of what a number that is written is made, behind its sign. -/
def NF (t : List UInt8) : Prop := ∃ W P X : List UInt8, t = W ++ (P ++ X) ∧ (∀ c ∈ W, dig c = true) ∧ W ≠ [] ∧ (P = [] ∨ ∃ F, P = 46 :: F ∧ F ≠ [] ∧ ∀ c ∈ F, dig c = true) ∧ (X = [] ∨ ∃ z, X = 101 :: txt z)
theorem nf_plain (ng : Bool) (D E : List UInt8) : ∀ t ∈ plainN ng D E, ∃ u, t = sgl ng ++ u ∧ NF u := by
  intro t ht
  unfold plainN at ht
  split at ht
  case isFalse => simp at ht
  rename_i hr
  rcases right_ex D E hr with ⟨rfl, rfl⟩ | ⟨m, X, hm, rfl, rfl⟩
  · rw [if_pos rfl] at ht
    simp only [List.mem_singleton] at ht
    subst ht
    exact ⟨_, rfl, [48], [], [], rfl, by decide, by simp, .inl rfl, .inl rfl⟩
  · have h0 : m ≠ 0 := by intro h0; subst h0; exact hm rfl
    have hne := canon_ne m h0
    have hD := canon_dig m
    rw [if_neg hne] at ht
    obtain ⟨D, eD⟩ : ∃ D, canon m = D := ⟨_, rfl⟩
    rw [eD] at ht hne hD
    have hl : 0 < D.length := List.length_pos_iff.2 hne
    rcases List.mem_append.1 ht with ht | ht
    · unfold plain1 at ht
      split at ht
      case isFalse => simp at ht
      rename_i hc
      simp only [List.mem_singleton] at ht
      subst ht
      have hu := hc.2
      refine ⟨_, rfl, ?_⟩
      obtain ⟨x, hx⟩ : ∃ x, (intD (txt X)).1 = x := ⟨_, rfl⟩
      rw [hx] at hu ⊢
      unfold unsc at hu ⊢
      split
      · exact ⟨_, [], [], by simp; rfl, fun c hc => (List.mem_append.1 hc).elim (hD c) (dig_rep _ c), by simp [hne], .inl rfl, .inl rfl⟩
      · rename_i h1
        split
        · rename_i h2
          obtain ⟨n, hn⟩ : ∃ n : Nat, (n : Int) = D.length + x := ⟨((D.length : Int) + x).toNat, by omega⟩
          rw [show ((D.length : Int) + x).toNat = n by omega]
          exact ⟨D.take n, 46 :: D.drop n, [], by simp, fun c hc => hD c (List.mem_of_mem_take hc), by intro e; rw [List.take_eq_nil_iff] at e; rcases e with e | e; exact absurd e (by omega); exact hne e, .inr ⟨_, rfl, by intro e; have := congrArg List.length e; simp at this; omega, fun c hc => hD c (List.mem_of_mem_drop hc)⟩, .inl rfl⟩
        · rename_i h2
          split
          · rename_i h3
            exact ⟨[48], _, [], by simp; rfl, by decide, by simp, .inr ⟨_, rfl, by simp [hne], fun c hc => (List.mem_append.1 hc).elim (dig_rep _ c) (hD c)⟩, .inl rfl⟩
          · rename_i h3
            rw [if_neg h1, if_neg h2, if_neg h3] at hu
            exact absurd rfl hu
    · rcases List.mem_append.1 ht with ht | ht
      · simp only [List.mem_singleton] at ht
        subst ht
        exact ⟨_, rfl, D, [], _, rfl, hD, hne, .inl rfl, .inr ⟨X, rfl⟩⟩
      · unfold plain3 at ht
        split at ht
        case isFalse => simp at ht
        rename_i hc
        simp only [List.mem_singleton] at ht
        subst ht
        rw [upE_txt]
        exact ⟨_, rfl, D.take 1, 46 :: D.drop 1, _, rfl, fun c hc => hD c (List.mem_of_mem_take hc), by intro e; rw [List.take_eq_nil_iff] at e; rcases e with e | e; exact absurd e (by omega); exact hne e, .inr ⟨_, rfl, by intro e; have := congrArg List.length e; simp at this; omega, fun c hc => hD c (List.mem_of_mem_drop hc)⟩, .inr ⟨_, rfl⟩⟩

/-- No digit, point or e. -/
def stopR (r : Int) : Prop := nDg r = false ∧ r ≠ 46 ∧ r ≠ 101 ∧ r ≠ 69
theorem nDg_dig (c : UInt8) (h : dig c = true) : nDg (c.toNat : Int) = true := by
  rw [nDg_iff]
  unfold dig at h
  simp at h
  have h1 := h.1
  have h2 := h.2
  omega
theorem digN_app (W : List UInt8) (R : List Int) (hW : ∀ c ∈ W, dig c = true) (hR : nDg (R.getD 0 (-1)) = false) : digN (asI W ++ R) = W.length := by
  induction W with
  | nil =>
    cases R with
    | nil => rfl
    | cons a t => show digN (a :: t) = 0; rw [digN_cons]; simp at hR; simp [hR]
  | cons a t ih =>
    show digN ((a.toNat : Int) :: (asI t ++ R)) = _
    rw [digN_cons, if_pos (nDg_dig a (hW a (by simp))), ih (fun c hc => hW c (by simp [hc]))]
    simp; omega
theorem asI_len (s : List UInt8) : (asI s).length = s.length := by simp [asI]
theorem drop_asI (A : List UInt8) (R : List Int) (n : Nat) (h : A.length = n) : (asI A ++ R).drop n = R := List.drop_left' (by rw [asI_len]; exact h)
theorem head_dig (W : List UInt8) (R : List Int) (hW : ∀ c ∈ W, dig c = true) (h : W ≠ []) : nDg ((asI W ++ R).getD 0 (-1)) = true := by
  cases W with
  | nil => exact absurd rfl h
  | cons a t => show nDg (a.toNat : Int) = true; exact nDg_dig a (hW a (by simp))
theorem sgN_no (R : List Int) (h : nDg (R.getD 0 (-1)) = true) : sgN R = 0 := by
  unfold sgN
  rw [nDg_iff] at h
  rw [if_neg (by omega)]
theorem stop_neg : stopR (-1) := ⟨rfl, by decide, by decide, by decide⟩
theorem txt_parts (z : Int) : ∃ S V : List UInt8, txt z = S ++ V ∧ (S = [] ∨ S = [45]) ∧ V ≠ [] ∧ ∀ c ∈ V, dig c = true := by
  rcases txt_cases z with ⟨_, e⟩ | ⟨_, e⟩
  · exact ⟨[], _, by rw [e]; rfl, .inl rfl, decS_ne _, decS_dig _⟩
  · exact ⟨[45], _, by rw [e]; rfl, .inr rfl, decS_ne _, decS_dig _⟩
/-- How long a number is. -/
theorem nf_end (S u : List UInt8) (hS : S = [] ∨ S = [45] ∨ S = [43]) (hu : NF u) (R : List Int) (hR : stopR (R.getD 0 (-1))) :
    numB (asI S ++ (asI u ++ R)) = true ∧ numE (asI S ++ (asI u ++ R)) = S.length + u.length := by
  obtain ⟨W, P, X, rfl, hW, hW0, hP, hX⟩ := hu
  obtain ⟨r1, r2, r3, r4⟩ := hR
  rw [asI_append, asI_append]
  obtain ⟨Q, hQ⟩ : ∃ Q, asI X ++ R = Q := ⟨_, rfl⟩
  have hc : asI S ++ (asI W ++ (asI P ++ asI X) ++ R) = asI S ++ (asI W ++ (asI P ++ Q)) := by rw [← hQ]; simp
  rw [hc]
  have q1 : nDg (Q.getD 0 (-1)) = false ∧ Q.getD 0 (-1) ≠ 46 := by
    rcases hX with rfl | ⟨z, rfl⟩
    · rw [← hQ]; exact ⟨r1, r2⟩
    · rw [← hQ]; exact ⟨rfl, by show (101 : Int) ≠ 46; decide⟩
  obtain ⟨c, hcc⟩ : ∃ c, asI S ++ (asI W ++ (asI P ++ Q)) = c := ⟨_, rfl⟩
  rw [hcc]
  have d1 : c.drop S.length = asI W ++ (asI P ++ Q) := by rw [← hcc]; exact drop_asI S _ _ rfl
  have hsg : sgN c = S.length := by
    rcases hS with rfl | rfl | rfl
    · rw [← hcc]; exact sgN_no _ (head_dig W _ hW hW0)
    · rw [← hcc]; rfl
    · rw [← hcc]; rfl
  have hd := head_dig W (asI P ++ Q) hW hW0
  have hB : numB c = true := by
    unfold numB
    rw [hsg]
    have : c.getD S.length (-1) = (c.drop S.length).getD 0 (-1) := by rw [drop_getD, Nat.add_zero]
    rw [this, d1, hd]; rfl
  have hp0 : nDg ((asI P ++ Q).getD 0 (-1)) = false := by
    rcases hP with rfl | ⟨F, rfl, _, _⟩
    · exact q1.1
    · rfl
  have h1 : num1 c = S.length + W.length := by
    unfold num1
    rw [hsg, d1, digN_app W _ hW hp0]
  have d2 : c.drop (S.length + W.length) = asI P ++ Q := by rw [← List.drop_drop, d1]; exact drop_asI W _ _ rfl
  have h2 : num2 c = S.length + W.length + P.length := by
    unfold num2
    rw [h1, d2]
    rcases hP with rfl | ⟨F, rfl, hF, hF2⟩
    · rw [if_neg]
      · simp
      · intro hh
        unfold fracB at hh
        simp only [Bool.and_eq_true, decide_eq_true_eq] at hh
        exact q1.2 hh.1
    · have hf : fracB (asI (46 :: F) ++ Q) = true := by
        unfold fracB
        have := head_dig F Q hF2 hF
        rw [Bool.and_eq_true]
        refine ⟨rfl, ?_⟩
        have e : (asI (46 :: F) ++ Q).getD 1 (-1) = (asI F ++ Q).getD 0 (-1) := by show ((46 : Int) :: (asI F ++ Q)).getD 1 (-1) = _; simp [List.getD]
        rw [e]; exact this
      rw [if_pos hf]
      have d3 : c.drop (S.length + W.length + 1) = asI F ++ Q := by rw [← List.drop_drop, d2]; rfl
      rw [d3, digN_app F Q hF2 q1.1]
      simp; omega
  have d3 : c.drop (S.length + W.length + P.length) = Q := by rw [← List.drop_drop, d2]; exact drop_asI P _ _ rfl
  refine ⟨hB, ?_⟩
  have g : c.getD (num2 c) (-1) = Q.getD 0 (-1) := by rw [h2, ← d3, drop_getD, Nat.add_zero]
  unfold numE
  rw [g]
  rcases hX with rfl | ⟨z, rfl⟩
  · have : Q = R := by rw [← hQ]; rfl
    rw [this, if_neg (by rintro (h | h); exact r3 h; exact r4 h), h2]
    simp; omega
  · have hQ2 : Q = 101 :: (asI (txt z) ++ R) := by rw [← hQ]; rfl
    rw [if_pos (by rw [hQ2]; exact .inl rfl)]
    obtain ⟨Z, V, hz, hZ, hV, hV2⟩ := txt_parts z
    have d4 : c.drop (num2 c + 1) = asI Z ++ (asI V ++ R) := by
      rw [h2, ← List.drop_drop, d3, hQ2, hz, asI_append, List.append_assoc]; rfl
    have hv := head_dig V R hV2 hV
    have hz2 : sgN (asI Z ++ (asI V ++ R)) = Z.length := by
      rcases hZ with rfl | rfl
      · exact sgN_no _ hv
      · rfl
    have d5 : c.drop (num2 c + 1 + Z.length) = asI V ++ R := by rw [← List.drop_drop, d4]; exact drop_asI Z _ _ rfl
    rw [d4, hz2, d5, digN_app V R hV2 r1]
    have g2 : c.getD (num2 c + 1 + Z.length) (-1) = (asI V ++ R).getD 0 (-1) := by rw [← d5, drop_getD]; rfl
    rw [g2, if_pos hv, h2, hz]
    simp; omega
theorem dig_pl (c : UInt8) (h : dig c = true) : Pl c ∧ c ≠ 69 := by
  have := nDg_dig c h
  rw [nDg_iff] at this
  exact ⟨⟨by omega, fun e => by subst e; exact absurd this (by decide), fun e => by subst e; exact absurd this (by decide), fun e => by subst e; exact absurd this (by decide)⟩, fun e => by subst e; exact absurd this (by decide)⟩
theorem nf_pl (u : List UInt8) (h : NF u) : ∀ c ∈ u, Pl c ∧ c ≠ 69 := by
  obtain ⟨W, P, X, rfl, hW, hW0, hP, hX⟩ := h
  intro c hc
  rcases List.mem_append.1 hc with hc | hc
  · exact dig_pl c (hW c hc)
  · rcases List.mem_append.1 hc with hc | hc
    · rcases hP with rfl | ⟨F, rfl, _, hF⟩
      · simp at hc
      · rcases List.mem_cons.1 hc with rfl | hc
        · exact ⟨⟨by decide, by decide, by decide, by decide⟩, by decide⟩
        · exact dig_pl c (hF c hc)
    · rcases hX with rfl | ⟨z, rfl⟩
      · simp at hc
      · rcases List.mem_cons.1 hc with rfl | hc
        · exact ⟨⟨by decide, by decide, by decide, by decide⟩, by decide⟩
        · obtain ⟨Z, V, hz, hZ, hV, hV2⟩ := txt_parts z
          rw [hz] at hc
          rcases List.mem_append.1 hc with hc | hc
          · rcases hZ with rfl | rfl
            · simp at hc
            · simp at hc; subst hc; exact ⟨⟨by decide, by decide, by decide, by decide⟩, by decide⟩
          · exact dig_pl c (hV2 c hc)
theorem nf_head (u : List UInt8) (h : NF u) : ∃ a t, u = a :: t ∧ dig a = true := by
  obtain ⟨W, P, X, rfl, hW, hW0, hP, hX⟩ := h
  cases W with
  | nil => exact absurd rfl hW0
  | cons a t => exact ⟨a, _, rfl, hW a (by simp)⟩
/-- Whole as the law has it. -/
def whl (l : List UInt8) : Bool := l.all fun c => !(c == 46 || c == 101)
theorem whole_whl (l : List UInt8) (h : ∀ c ∈ l, c ≠ 69) : wholeL l = whl l := by
  unfold wholeL whl
  rw [Bool.eq_iff_iff, List.all_eq_true, List.all_eq_true]
  constructor
  · intro hh c hc
    have := hh c hc
    simp at this ⊢; exact ⟨this.1.1, this.1.2⟩
  · intro hh c hc
    have := hh c hc
    have h2 := h c hc
    simp at this ⊢; exact ⟨this, h2⟩
theorem way_num (c : List Int) (h : numB c = true) (h0 : (48 ≤ c.getD 0 (-1) ∧ c.getD 0 (-1) ≤ 57) ∨ c.getD 0 (-1) = 43 ∨ c.getD 0 (-1) = 45) : wayT c = 5 := by
  unfold wayT
  have a1 : stC [47, 42] c = false := by
    cases hh : stC [47, 42] c with
    | false => rfl
    | true =>
      obtain ⟨t, rfl⟩ := (stC_iff _ _).1 hh
      simp at h0
  have a2 : isBl (c.getD 0 (-1)) = false := by
    cases hh : isBl (c.getD 0 (-1)) with
    | false => rfl
    | true => rw [isBl_iff] at hh; omega
  rw [a1, a2, if_neg (by simp), if_neg (by simp), if_neg (by omega), if_neg (by intro hh; omega), if_pos h]
/-- The token of a number that is written, and what stands behind. -/
theorem num_tk (S u : List UInt8) (hS : S = [] ∨ S = [45] ∨ S = [43]) (hu : NF u) (R : List Int) (hR : stopR (R.getD 0 (-1))) :
    tkC (asI S ++ (asI u ++ R)) = (if begN R then ({ numT0 (S ++ u) with kind := 12, unit := encZs (takeN R).1 }, S.length + u.length + (takeN R).2)
      else if R.getD 0 (-1) = 37 then ({ numT0 (S ++ u) with kind := 11 }, S.length + u.length + 1) else (numT0 (S ++ u), S.length + u.length)) := by
  obtain ⟨hb, he⟩ := nf_end S u hS hu R hR
  obtain ⟨a, t, hat, ha⟩ := nf_head u hu
  have hw := way_num _ hb (by
    have := nDg_dig a ha
    rw [nDg_iff] at this
    rcases hS with rfl | rfl | rfl
    · rw [hat]; left; exact this
    · right; right; rfl
    · right; left; rfl)
  have hp : ∀ x ∈ S ++ u, x.toNat < 128 := by
    intro x hx
    rcases List.mem_append.1 hx with hx | hx
    · rcases hS with rfl | rfl | rfl
      · simp at hx
      · simp at hx; subst hx; decide
      · simp at hx; subst hx; decide
    · exact (nf_pl u hu x hx).1.1
  have e1 : (asI S ++ (asI u ++ R)).drop (S.length + u.length) = R := by rw [← List.append_assoc, ← asI_append]; exact drop_asI _ _ _ (by simp)
  have e2 : (asI S ++ (asI u ++ R)).take (S.length + u.length) = asI (S ++ u) := by rw [← List.append_assoc, ← asI_append]; exact List.take_left' (by rw [asI_len]; simp)
  have e3 : (asI S ++ (asI u ++ R)).getD (S.length + u.length) (-1) = R.getD 0 (-1) := by rw [← e1, drop_getD, Nat.add_zero, e1]
  unfold tkC
  rw [hw]
  show numT _ = _
  unfold numT
  rw [he, e1, e2, e3, encZs_asI _ hp]
theorem rn_head (l : List UInt8) (h : ∀ x ∈ l, Pl x) (h0 : l ≠ []) : ∃ T, tksC (rn l 0) = ((tkC (asI l)).1, 0) :: T ∧ ((tkC (asI l)).2 = l.length → T = []) := by
  have hp := rn_plain l h
  have hl : 0 < l.length := List.length_pos_iff.2 h0
  have e := rn_in l 0 hl
  have hlen : (rn l 0).length = l.length := by
    have := congrArg List.length hp
    rw [List.length_map, asI_len] at this; exact this
  obtain ⟨L, hL⟩ : ∃ L, rn l 0 = L := ⟨_, rfl⟩
  rw [hL] at e hp hlen ⊢
  have hLl : 0 < L.length := by omega
  have h2 := lexC_in L 0 hLl
  have hg : ∀ (T : List (Int × Int)) x T' (hT : T = x :: T') (h0 : 0 < T.length), T[0] = x := by rintro T x T' rfl h0; rfl
  rw [List.drop_zero, List.drop_zero, Nat.zero_add, hg L _ _ e hLl, hp] at h2
  refine ⟨_, h2, fun h3 => ?_⟩
  rw [h3, List.drop_eq_nil_of_le (by omega), lexC_nil]
/-- What stands behind, of the law's seven. -/
def ntail (e : Nat) : List UInt8 := [[], [37], [112, 120], [41], [32, 49], [45, 45, 62], [43, 49]].getD e []
def nkind (e : Nat) : Int := [10, 11, 12, 10, 10, 12, 10].getD e 0
theorem number_tks (ng : Bool) (D E t : List UInt8) (ht : t ∈ plainN ng D E) (e : Nat) (he : e < 7) :
    ∃ x T, tksC (rn (t ++ ntail e) 0) = (x, 0) :: T ∧ x.kind = nkind e ∧ x.num = (ng, D, E) ∧ x.flag = whl t ∧ x.sign = false ∧ x.text = [] := by
  obtain ⟨u, rfl, hu⟩ := nf_plain ng D E t ht
  have hb := plain_back ng D E _ ht
  have hS : sgl ng = [] ∨ sgl ng = [45] ∨ sgl ng = [43] := by cases ng <;> simp [sgl]
  have hsp : ∀ c ∈ sgl ng, Pl c ∧ c ≠ 69 := by
    cases ng
    · simp [sgl]
    · intro c hc; simp [sgl] at hc; subst hc; exact ⟨⟨by decide, by decide, by decide, by decide⟩, by decide⟩
  have hall : ∀ c ∈ sgl ng ++ u, Pl c ∧ c ≠ 69 := fun c hc => (List.mem_append.1 hc).elim (hsp c) (nf_pl u hu c)
  have htl : ∀ e : Fin 7, (∀ c ∈ ntail e.val, c.toNat < 128 ∧ c ≠ 0 ∧ c ≠ 12 ∧ c ≠ 13) ∧ nDg ((asI (ntail e.val)).getD 0 (-1)) = false ∧ (asI (ntail e.val)).getD 0 (-1) ≠ 46 ∧ (asI (ntail e.val)).getD 0 (-1) ≠ 101 ∧ (asI (ntail e.val)).getD 0 (-1) ≠ 69 := by decide +kernel
  obtain ⟨t1, t2⟩ := htl ⟨e, he⟩
  have hR : stopR ((asI (ntail e)).getD 0 (-1)) := t2
  have hk := num_tk (sgl ng) u hS hu (asI (ntail e)) hR
  rw [← asI_append, ← asI_append] at hk
  have hne : sgl ng ++ (u ++ ntail e) ≠ [] := by
    obtain ⟨a, t, hat, _⟩ := nf_head u hu
    rw [hat]; simp
  obtain ⟨T, h1, _⟩ := rn_head (sgl ng ++ (u ++ ntail e)) (by
    intro c hc
    rw [← List.append_assoc] at hc
    rcases List.mem_append.1 hc with hc | hc
    · exact (hall c hc).1
    · exact t1 c hc) hne
  rw [List.append_assoc]
  refine ⟨_, T, h1, ?_⟩
  rw [hk]
  have hn : (numT0 (sgl ng ++ u)).num = (ng, D, E) := by show (readN (sgl ng ++ u)).1 = _; rw [hb]
  have hf : (numT0 (sgl ng ++ u)).flag = whl (sgl ng ++ u) := whole_whl _ (fun c hc => (hall c hc).2)
  have hsg : (numT0 (sgl ng ++ u)).sign = false := by
    show ((sgl ng ++ u).head? == some 43) = false
    obtain ⟨a, t, hat, ha⟩ := nf_head u hu
    cases ng
    · rw [hat]
      show (some a == some (43 : UInt8)) = false
      have : a ≠ 43 := by intro e; subst e; exact absurd ha (by decide)
      simp [this]
    · rfl
  have hkk : ∀ e : Fin 7, (if begN (asI (ntail e.val)) then (12 : Int) else if (asI (ntail e.val)).getD 0 (-1) = 37 then 11 else 10) = nkind e.val := by decide +kernel
  have hkk := hkk ⟨e, he⟩
  simp only at hkk
  split
  · rename_i hbg
    rw [if_pos hbg] at hkk
    exact ⟨hkk, hn, hf, hsg, rfl⟩
  · rename_i hbg
    rw [if_neg hbg] at hkk
    split
    · rename_i h37
      rw [if_pos h37] at hkk
      exact ⟨hkk, hn, hf, hsg, rfl⟩
    · rename_i h37
      rw [if_neg h37] at hkk
      exact ⟨hkk, hn, hf, hsg, rfl⟩
theorem readN_plus (u : List UInt8) (h : NF u) : readN (43 :: u) = readN u := by
  obtain ⟨a, t, hat, ha⟩ := nf_head u h
  have e : csign (43 :: u) = csign u := by
    rw [csign_plus, csign_dig u (by rw [hat]; intro c hc; simp at hc; subst hc; exact .inl ha)]
  unfold readN divW
  rw [e]
theorem plus_tks (D E t : List UInt8) (ht : t ∈ plainN false D E) :
    tksC (rn (43 :: t) 0) = [({ kind := 10, num := (false, D, E), flag := whl t, sign := true }, 0)] := by
  obtain ⟨u, e, hu⟩ := nf_plain false D E t ht
  have hb := plain_back false D E _ ht
  have e' : t = u := by rw [e]; rfl
  subst e'
  have hk := num_tk [43] t (.inr (.inr rfl)) hu [] stop_neg
  rw [List.append_nil, ← asI_append] at hk
  obtain ⟨T, h1, h2⟩ := rn_head ([43] ++ t) (by
    intro c hc
    rcases List.mem_append.1 hc with hc | hc
    · simp at hc; subst hc; exact ⟨by decide, by decide, by decide, by decide⟩
    · exact (nf_pl t hu c hc).1) (by simp)
  rw [if_neg (by decide), if_neg (by decide)] at hk
  have hk2 : tkC (asI ([43] ++ t)) = (numT0 ([43] ++ t), [43].length + t.length) := hk
  have hT : T = [] := h2 (by rw [hk2]; simp; omega)
  subst hT
  rw [show (43 :: t) = [43] ++ t from rfl, h1, hk2]
  have e1 : (readN ([43] ++ t)).1 = (false, D, E) := by rw [show [43] ++ t = 43 :: t from rfl, readN_plus t hu, hb]
  have e2 : wholeL ([43] ++ t) = whl t := by
    rw [show whl t = whl ([43] ++ t) by unfold whl; simp]
    apply whole_whl
    intro c hc
    rcases List.mem_append.1 hc with hc | hc
    · simp at hc; subst hc; decide
    · exact (nf_pl t hu c hc).2
  have e3 : numT0 ([43] ++ t) = { kind := 10, num := (false, D, E), flag := whl t, sign := true } := by
    unfold numT0
    rw [e1, e2]
    rfl
  rw [e3]
end Go.Proofs.YtpecaalpbeoolaaGreatDoor.M
