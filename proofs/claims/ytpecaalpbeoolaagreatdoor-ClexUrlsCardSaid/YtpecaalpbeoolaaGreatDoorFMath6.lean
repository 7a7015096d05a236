/- Plain numbers and lists: a url with blanks around it. Nothing of the program is imported. -/
import Derived.Test.YtpecaalpbeoolaaGreatDoorFMath5
namespace Go.Proofs.YtpecaalpbeoolaaGreatDoor.M
open Go.Lib
set_option linter.unusedVariables false
set_option linter.unusedSimpArgs false

/-- What may be in a url of the law's. -/
def UrC (x : UInt8) : Prop := 32 < x.toNat ∧ x.toNat < 127 ∧ x.toNat ≠ 34 ∧ x.toNat ≠ 39 ∧ x.toNat ≠ 40 ∧ x.toNat ≠ 41 ∧ x.toNat ≠ 92
def UrI (r : Int) : Prop := 32 < r ∧ r < 127 ∧ r ≠ 34 ∧ r ≠ 39 ∧ r ≠ 40 ∧ r ≠ 41 ∧ r ≠ 92
theorem ur_pl (x : UInt8) (h : UrC x) : Pl x := by
  obtain ⟨h1, h2, _⟩ := h
  refine ⟨by omega, fun e => ?_, fun e => ?_, fun e => ?_⟩ <;> (rw [e] at h1; exact absurd h1 (by decide))
theorem urlT_word (s : List Int) (h : ∀ r ∈ s, UrI r) (t : List Int) : urlT false false (s ++ t) = ((urlT false false t).1, s ++ (urlT false false t).2.1, s.length + (urlT false false t).2.2) := by
  induction s with
  | nil => simp
  | cons a s ih =>
    obtain ⟨h1, h2, h3, h4, h5, h6, h7⟩ := h a (by simp)
    have he : esB (a :: (s ++ t)) = false := by simp [esB, h7]
    have hb : isBl a = false := by rw [isBl_not]; omega
    have hu : inU a = true := by
      unfold inU
      simp only [Bool.and_eq_true, Bool.not_eq_true', Bool.or_eq_false_iff, decide_eq_false_iff_not, decide_eq_true_eq, Bool.or_eq_true]
      omega
    rw [List.cons_append, urlT, if_neg h6, if_neg (by rw [he]; simp), if_neg (by rw [hb]; simp), hu]
    simp only [Bool.or_false, Bool.not_true]
    rw [ih (fun r hr => h r (by simp [hr]))]
    simp; omega
theorem urlT_blanks (s : List Int) (h : ∀ r ∈ s, isBl r = true) (b p : Bool) (t : List Int) : ∃ p', urlT b p (s ++ t) = ((urlT b p' t).1, (urlT b p' t).2.1, s.length + (urlT b p' t).2.2) := by
  induction s generalizing p with
  | nil => exact ⟨p, by simp⟩
  | cons a s ih =>
    have hb := h a (by simp)
    have hb2 := (isBl_iff a).1 hb
    obtain ⟨p', e⟩ := ih (fun r hr => h r (by simp [hr])) true
    refine ⟨p', ?_⟩
    have he : esB (a :: (s ++ t)) = false := by simp [esB]; omega
    rw [List.cons_append, urlT, if_neg (by omega), if_neg (by rw [he]; simp), if_pos hb, e]
    simp; omega
theorem urlT_close (b p : Bool) (t : List Int) : urlT b p (41 :: t) = (b, [], 1) := by rw [urlT, if_pos rfl]
theorem urlT_nil (b p : Bool) : urlT b p [] = (b, [], 0) := by rw [urlT]
theorem blN_blanks (s : List Int) (h : ∀ r ∈ s, isBl r = true) (t : List Int) : blN (s ++ t) = s.length + blN t := by
  induction s with
  | nil => simp
  | cons a s ih => rw [List.cons_append, blN_cons, if_pos (h a (by simp)), ih (fun r hr => h r (by simp [hr]))]; simp; omega
/-- The two names. -/
def nmI (g : Bool) : List Int := if g then [117, 82, 76] else [117, 114, 108]
theorem nm_take (g : Bool) (t : List Int) : takeN (nmI g ++ 40 :: t) = (nmI g, 3) := by
  cases g
  · show takeN (117 :: 114 :: 108 :: 40 :: t) = _
    rw [takeN_in _ _ (by decide), takeN_in _ _ (by decide), takeN_in _ _ (by decide), takeN_out _ _ (by simp [esB]) (by decide)]; rfl
  · show takeN (117 :: 82 :: 76 :: 40 :: t) = _
    rw [takeN_in _ _ (by decide), takeN_in _ _ (by decide), takeN_in _ _ (by decide), takeN_out _ _ (by simp [esB]) (by decide)]; rfl
theorem nm_way (g : Bool) (t : List Int) : wayT (nmI g ++ 40 :: t) = 8 := by
  cases g
  · show wayT (117 :: 114 :: 108 :: 40 :: t) = 8
    unfold wayT
    rw [if_neg (by simp [stC, List.isPrefixOf]), if_neg (by simp [isBl]), if_neg (by simp), if_neg (by simp), if_neg (by simp [numB, sgN, nDg, fracB]), if_neg (by simp [stC, List.isPrefixOf]), if_neg (by simp [stC, List.isPrefixOf]), if_pos (by simp [begN, nSt])]
  · show wayT (117 :: 82 :: 76 :: 40 :: t) = 8
    unfold wayT
    rw [if_neg (by simp [stC, List.isPrefixOf]), if_neg (by simp [isBl]), if_neg (by simp), if_neg (by simp), if_neg (by simp [numB, sgN, nDg, fracB]), if_neg (by simp [stC, List.isPrefixOf]), if_neg (by simp [stC, List.isPrefixOf]), if_pos (by simp [begN, nSt])]
/-- A name and a (, blanks, and what is neither a blank nor a mark: a url. -/
theorem nm_url (g : Bool) (A t : List Int) (hA : ∀ r ∈ A, isBl r = true) (h1 : isBl (t.getD 0 (-1)) = false) (h2 : t.getD 0 (-1) ≠ 34) (h3 : t.getD 0 (-1) ≠ 39) :
    tkC (nmI g ++ 40 :: (A ++ t)) = (if (urlT false false t).1 then ({ kind := 8, text := encZs ((nmI g ++ 40 :: (A ++ t)).take (4 + A.length + (urlT false false t).2.2)) }, 4 + A.length + (urlT false false t).2.2)
      else ({ kind := 7, text := encZs (urlT false false t).2.1 }, 4 + A.length + (urlT false false t).2.2)) := by
  have hl : (nmI g).length = 3 := by cases g <;> rfl
  obtain ⟨c, hc⟩ : ∃ c, nmI g ++ 40 :: (A ++ t) = c := ⟨_, rfl⟩
  have htk : takeN c = (nmI g, 3) := by rw [← hc]; exact nm_take g _
  have hg3 : c.getD 3 (-1) = 40 := by rw [← hc]; cases g <;> rfl
  have hd4 : c.drop 4 = A ++ t := by rw [← hc]; cases g <;> rfl
  have hb0 : blN t = 0 := by
    cases t with
    | nil => rfl
    | cons r u => rw [blN_cons, if_neg (by simpa using h1)]
  have hne : nameE c = 4 + A.length := by
    unfold nameE
    rw [htk]
    show 3 + 1 + blN (c.drop (3 + 1)) = _
    rw [hd4, blN_blanks A hA, hb0]; omega
  have hdk : c.drop (4 + A.length) = t := by rw [← List.drop_drop, hd4]; exact List.drop_left' rfl
  have hgk : c.getD (4 + A.length) (-1) = t.getD 0 (-1) := by
    have := drop_getD c (4 + A.length) 0 (-1)
    rw [hdk, Nat.add_zero] at this
    exact this.symm
  have hlow : lowL (encZs (nmI g)) = [117, 114, 108] := by cases g <;> decide +kernel
  rw [hc]
  unfold tkC
  rw [show wayT c = 8 by rw [← hc]; exact nm_way g _]
  show namT c = _
  unfold namT
  rw [htk]
  simp only
  rw [hg3, if_pos rfl, hne, hgk, if_pos ⟨hlow, h2, h3⟩]
  unfold urlK
  rw [hdk]
theorem ur_int (s : List UInt8) (h : ∀ x ∈ s, UrC x) : ∀ r ∈ asI s, UrI r := by
  intro r hr
  simp only [asI, List.mem_map] at hr
  obtain ⟨x, hx, rfl⟩ := hr
  obtain ⟨h1, h2, h3, h4, h5, h6, h7⟩ := h x hx
  refine ⟨by omega, by omega, by omega, by omega, by omega, by omega, by omega⟩
def blB : List UInt8 := [32, 10, 9, 32, 32]
theorem bl_all : ∀ n, ∀ x ∈ blB.take n, Pl x ∧ isBl (x.toNat : Int) = true := by
  intro n x hx
  have : x ∈ blB := List.mem_of_mem_take hx
  simp only [blB, List.mem_cons, List.mem_nil_iff, or_false] at this
  rcases this with rfl | rfl | rfl | rfl | rfl <;> exact ⟨⟨by decide, by decide, by decide, by decide⟩, by decide⟩
theorem bl_int (n : Nat) : ∀ r ∈ asI (blB.take n), isBl r = true := by
  intro r hr
  simp only [asI, List.mem_map] at hr
  obtain ⟨x, hx, rfl⟩ := hr
  exact (bl_all n x hx).2
def nmB (g : Bool) : List UInt8 := if g then [117, 82, 76, 40] else [117, 114, 108, 40]
theorem nm_asI (g : Bool) (t : List UInt8) : asI (nmB g ++ t) = nmI g ++ 40 :: asI t := by cases g <;> rfl
theorem nm_pl (g : Bool) : ∀ x ∈ nmB g, Pl x := by
  intro x hx
  cases g <;> (simp only [nmB, if_true, if_false, Bool.false_eq_true, List.mem_cons, List.mem_nil_iff, or_false] at hx; rcases hx with rfl | rfl | rfl | rfl <;> exact ⟨by decide, by decide, by decide, by decide⟩)
theorem isBl_ur (r : Int) (h : UrI r) : isBl r = false := by obtain ⟨h1, _⟩ := h; rw [isBl_not]; omega
/-- The first token of plain bytes, and what is left. -/
theorem tks_first (X : List UInt8) (h : ∀ x ∈ X, Pl x) (h0 : 0 < X.length) (t : CT) (n : Nat) (ht : tkC (asI X) = (t, n)) : ∃ R, tksC (rn X 0) = (t, 0) :: tksC R ∧ R.map Prod.fst = asI (X.drop n) := by
  have hp := rn_plain X h
  obtain ⟨L, hL⟩ : ∃ L, rn X 0 = L := ⟨_, rfl⟩
  rw [hL] at hp
  have hLl : 0 < L.length := by
    have := congrArg List.length hp
    rw [List.length_map] at this
    rw [this]; simpa [asI] using h0
  have h0' : (L[0]'hLl).2 = 0 := by
    have e2 := rn_in X 0 h0
    rw [hL] at e2
    have hg : ∀ (T : List (Int × Int)) x T' (hT : T = x :: T') (h0 : 0 < T.length), T[0] = x := by rintro T x T' rfl h0; rfl
    rw [hg L _ _ e2 hLl]; rfl
  have hi := lexC_in L 0 hLl
  rw [List.drop_zero, List.drop_zero, h0', Nat.zero_add, hp, ht] at hi
  rw [hL]
  refine ⟨L.drop n, hi, ?_⟩
  rw [List.map_drop, hp]; simp [asI]
theorem tks_x (R : List (Int × Int)) (h : R.map Prod.fst = [120]) : ∃ z, tksC R = [({ kind := 1, text := [120] }, z)] := by
  cases R with
  | nil => simp at h
  | cons a t =>
    cases t with
    | cons b u => simp at h
    | nil =>
      obtain ⟨r, z⟩ := a
      simp at h
      subst h
      refine ⟨z, ?_⟩
      rw [tksC, show ([((120 : Int), z)].map Prod.fst) = [120] from rfl, show tkC [120] = ({ kind := 1, text := [120] }, 1) by decide +kernel]
      simp [lexC_nil]
theorem asI_len (s : List UInt8) : (asI s).length = s.length := by simp [asI]
theorem url_gen (g : Bool) (A B s E : List UInt8) (hA : ∀ r ∈ asI A, isBl r = true) (hB : ∀ r ∈ asI B, isBl r = true) (hs : ∀ x ∈ s, UrC x) (hE : E = [] ∨ E = [41, 120]) :
    tkC (asI (nmB g ++ (A ++ (s ++ (B ++ E))))) = ({ kind := 7, text := s }, 4 + A.length + s.length + B.length + (if E = [] then 0 else 1)) := by
  have hi := ur_int s hs
  have hen : encZs (asI s) = s := encZs_asI s (fun x hx => (ur_pl x (hs x hx)).1)
  have hEu : ∀ b p, urlT b p (asI E) = (b, [], if E = [] then 0 else 1) := by
    intro b p
    rcases hE with rfl | rfl
    · exact urlT_nil b p
    · exact urlT_close b p _
  have hEh : isBl ((asI E).getD 0 (-1)) = false ∧ (asI E).getD 0 (-1) ≠ 34 ∧ (asI E).getD 0 (-1) ≠ 39 := by
    rcases hE with rfl | rfl <;> decide
  by_cases h0 : s = []
  · subst h0
    have e : asI (nmB g ++ (A ++ ([] ++ (B ++ E)))) = nmI g ++ 40 :: ((asI A ++ asI B) ++ asI E) := by
      rw [nm_asI, List.nil_append, asI_append, asI_append, List.append_assoc]
    rw [e, nm_url g (asI A ++ asI B) (asI E) (fun r hr => (List.mem_append.1 hr).elim (hA r) (hB r)) hEh.1 hEh.2.1 hEh.2.2, hEu]
    simp [asI_len, encZs]
    omega
  · obtain ⟨a, u, rfl⟩ := List.exists_cons_of_ne_nil h0
    have ha := hi (a.toNat : Int) (by simp [asI])
    have e : asI (nmB g ++ (A ++ ((a :: u) ++ (B ++ E)))) = nmI g ++ 40 :: (asI A ++ (asI (a :: u) ++ (asI B ++ asI E))) := by
      rw [nm_asI, asI_append, asI_append, asI_append]
    have hg : (asI (a :: u) ++ (asI B ++ asI E)).getD 0 (-1) = (a.toNat : Int) := rfl
    obtain ⟨h1, h2, h3, h4, _⟩ := ha
    rw [e, nm_url g (asI A) _ hA (by rw [hg]; exact isBl_ur _ ⟨h1, h2, h3, h4, by assumption⟩) (by rw [hg]; exact h3) (by rw [hg]; exact h4)]
    rw [urlT_word (asI (a :: u)) hi]
    obtain ⟨p', hp⟩ := urlT_blanks (asI B) hB false false (asI E)
    rw [hp, hEu]
    simp only [Bool.false_eq_true, if_false, List.append_nil, asI_len]
    rw [hen]
    congr 1
    omega
theorem url_one (g : Bool) (a b : Nat) (s : List UInt8) (hs : ∀ x ∈ s, UrC x) : ∃ z, tksC (rn (nmB g ++ (blB.take a ++ (s ++ (blB.take b ++ [41, 120])))) 0) = [({ kind := 7, text := s }, 0), ({ kind := 1, text := [120] }, z)] := by
  have ht := url_gen g (blB.take a) (blB.take b) s [41, 120] (bl_int a) (bl_int b) hs (.inr rfl)
  rw [if_neg (by simp)] at ht
  obtain ⟨R, hR, hm⟩ := tks_first _ (by
    intro x hx
    simp only [List.mem_append, List.mem_cons, List.mem_nil_iff, or_false] at hx
    rcases hx with hx | hx | hx | hx | rfl | rfl
    · exact nm_pl g x hx
    · exact (bl_all a x hx).1
    · exact ur_pl x (hs x hx)
    · exact (bl_all b x hx).1
    · exact ⟨by decide, by decide, by decide, by decide⟩
    · exact ⟨by decide, by decide, by decide, by decide⟩) (by cases g <;> simp [nmB]) _ _ ht
  have hd : (nmB g ++ (blB.take a ++ (s ++ (blB.take b ++ [41, 120])))).drop (4 + (blB.take a).length + s.length + (blB.take b).length + 1) = [120] := by
    rw [show nmB g ++ (blB.take a ++ (s ++ (blB.take b ++ [41, 120]))) = (nmB g ++ (blB.take a ++ (s ++ (blB.take b ++ [41])))) ++ [120] by simp]
    refine List.drop_left' ?_
    simp only [List.length_append, List.length_cons, List.length_nil]
    have : (nmB g).length = 4 := by cases g <;> rfl
    omega
  rw [hd] at hm
  obtain ⟨z, hz⟩ := tks_x R hm
  exact ⟨z, by rw [hR, hz]⟩
theorem url_two (g : Bool) (a b : Nat) (s : List UInt8) (hs : ∀ x ∈ s, UrC x) : tksC (rn (nmB g ++ (blB.take a ++ (s ++ blB.take b))) 0) = [({ kind := 7, text := s }, 0)] := by
  have ht := url_gen g (blB.take a) (blB.take b) s [] (bl_int a) (bl_int b) hs (.inl rfl)
  rw [if_pos rfl, List.append_nil] at ht
  obtain ⟨R, hR, hm⟩ := tks_first _ (by
    intro x hx
    simp only [List.mem_append] at hx
    rcases hx with hx | hx | hx | hx
    · exact nm_pl g x hx
    · exact (bl_all a x hx).1
    · exact ur_pl x (hs x hx)
    · exact (bl_all b x hx).1) (by cases g <;> simp [nmB]) _ _ ht
  have hd : (nmB g ++ (blB.take a ++ (s ++ blB.take b))).drop (4 + (blB.take a).length + s.length + (blB.take b).length + 0) = [] := by
    apply List.drop_eq_nil_of_le
    simp only [List.length_append]
    have : (nmB g).length = 4 := by cases g <;> rfl
    omega
  rw [hd] at hm
  have : R = [] := by simpa [asI] using hm
  rw [hR, this, lexC_nil]
theorem url_bad (g : Bool) (s : List UInt8) (hs : ∀ x ∈ s, UrC x) : ∃ z, tksC (rn (nmB g ++ (s ++ [32, 97, 41, 120])) 0) = [(if s = [] then { kind := 7, text := [97] } else { kind := 8, text := nmB g ++ (s ++ [32, 97, 41]) }, 0), ({ kind := 1, text := [120] }, z)] := by
  have hi := ur_int s hs
  have hpl : ∀ x ∈ nmB g ++ (s ++ [32, 97, 41, 120]), Pl x := by
    intro x hx
    simp only [List.mem_append, List.mem_cons, List.mem_nil_iff, or_false] at hx
    rcases hx with hx | hx | rfl | rfl | rfl | rfl
    · exact nm_pl g x hx
    · exact ur_pl x (hs x hx)
    all_goals exact ⟨by decide, by decide, by decide, by decide⟩
  have hn : (nmB g).length = 4 := by cases g <;> rfl
  have ht : tkC (asI (nmB g ++ (s ++ [32, 97, 41, 120]))) = (if s = [] then { kind := 7, text := [97] } else { kind := 8, text := nmB g ++ (s ++ [32, 97, 41]) }, 4 + s.length + 3) := by
    by_cases h0 : s = []
    · subst h0
      rw [if_pos rfl, nm_asI, List.nil_append]
      show tkC (nmI g ++ 40 :: ([32] ++ [97, 41, 120])) = _
      rw [nm_url g [32] [97, 41, 120] (by simp [isBl]) (by decide) (by decide) (by decide)]
      rw [show urlT false false [97, 41, 120] = (false, [97], 2) by decide +kernel]
      simp only [Bool.false_eq_true, if_false]
      rw [show encZs [97] = [97] by decide +kernel]
      rfl
    · rw [if_neg h0]
      obtain ⟨a, u, rfl⟩ := List.exists_cons_of_ne_nil h0
      have ha := hi (a.toNat : Int) (by simp [asI])
      obtain ⟨h1, h2, h3, h4, h5⟩ := ha
      have hg : (asI (a :: u) ++ [32, 97, 41, 120] : List Int).getD 0 (-1) = (a.toNat : Int) := rfl
      have e : asI (nmB g ++ ((a :: u) ++ [32, 97, 41, 120])) = nmI g ++ 40 :: ([] ++ (asI (a :: u) ++ [32, 97, 41, 120])) := by
        rw [nm_asI, asI_append]; rfl
      have hb : urlT false false (asI (a :: u) ++ [32, 97, 41, 120]) = (true, asI (a :: u) ++ [97], (a :: u).length + 3) := by
        rw [urlT_word _ hi, show urlT false false [32, 97, 41, 120] = (true, [97], 3) by decide +kernel, asI_len]
      have hk := nm_url g [] (asI (a :: u) ++ [32, 97, 41, 120]) (by simp) (by rw [hg]; exact isBl_ur _ ⟨h1, h2, h3, h4, h5⟩) (by rw [hg]; exact h3) (by rw [hg]; exact h4)
      rw [e, hk, hb, if_pos rfl]
      simp only [List.length_nil, Nat.add_zero]
      rw [← e, show asI (nmB g ++ ((a :: u) ++ [32, 97, 41, 120])) = asI (nmB g ++ ((a :: u) ++ [32, 97, 41])) ++ [120] by rw [show [(120 : Int)] = asI [120] from rfl, ← asI_append]; congr 1; simp]
      rw [List.take_left' (by rw [asI_len]; simp only [List.length_append, hn, List.length_cons, List.length_nil]; try omega)]
      rw [encZs_asI _ (fun x hx => (hpl x (by
        simp only [List.mem_append, List.mem_cons, List.mem_nil_iff, or_false] at hx ⊢
        rcases hx with h | h | h | h | h
        · exact .inl h
        · exact .inr (.inl h)
        · exact .inr (.inr (.inl h))
        · exact .inr (.inr (.inr (.inl h)))
        · exact .inr (.inr (.inr (.inr (.inl h)))))).1)]
      simp only [Prod.mk.injEq, true_and]
      omega
  obtain ⟨R, hR, hm⟩ := tks_first _ hpl (by rw [List.length_append, hn]; omega) _ _ ht
  have hd : (nmB g ++ (s ++ [32, 97, 41, 120])).drop (4 + s.length + 3) = [120] := by
    rw [show nmB g ++ (s ++ [32, 97, 41, 120]) = (nmB g ++ (s ++ [32, 97, 41])) ++ [120] by simp]
    refine List.drop_left' ?_
    simp only [List.length_append, List.length_cons, List.length_nil, hn]
    omega
  rw [hd] at hm
  obtain ⟨z, hz⟩ := tks_x R hm
  exact ⟨z, by rw [hR, hz]⟩
end Go.Proofs.YtpecaalpbeoolaaGreatDoor.M
