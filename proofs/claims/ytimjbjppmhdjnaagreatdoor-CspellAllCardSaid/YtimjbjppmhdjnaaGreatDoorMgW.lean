import Derived.Test.YtimjbjppmhdjnaaGreatDoorMgU
import Derived.Test.YtimjbjppmhdjnaaGreatDoorMgD
namespace Go.Proofs.YtimjbjppmhdjnaaGreatDoor.M
open Go.Lib
set_option linter.unusedVariables false
set_option linter.unusedSimpArgs false
theorem vall_step (s : List UInt8) (h : 0 < s.length) : (validAll s).2 = ((nx s).2.2 && (validAll (s.drop (dec s).2)).2) := by
 unfold validAll
 cases hn : (nx s).2.2 with
 | false => rw [valid_bad _ _ _ h h (by simpa using hn)]; simp
 | true =>
  rw [valid_good _ _ _ h h (by simpa using hn)]
  simp only [List.drop_zero, Nat.zero_add, Bool.true_and]
  have hw := dec_width s
  have hl := dec_le s h
  obtain ⟨a, b, hab, ha⟩ : ∃ a b, s = a ++ b /\ a.length = (dec s).2 := ⟨s.take (dec s).2, s.drop (dec s).2, by simp, by simp; omega⟩
  have hb : s.drop (dec s).2 = b := by rw [<- ha, hab]; simp
  have := valid_shift a b (s.length - 1) 0
  rw [hb, <- ha]
  conv => lhs; rw [show valid (s.length - 1) s a.length = valid (s.length - 1) (a ++ b) (a.length + 0) by rw [<- hab, Nat.add_zero]]
  rw [this]
  simp only
  rw [valid_fuel b (s.length - 1) b.length 0 (by have := congrArg List.length hab; simp at this; omega) (by omega)]
def sh (n : Nat) (r : Int × Int) : Int × Int := (r.1, r.2 + n)
theorem step_shift (a b : List UInt8) (j : Nat) : stepR (a ++ b) (a.length + j) = stepR b j := by
 have e : (a ++ b).drop (a.length + j) = b.drop j := by rw [<- List.drop_drop]; simp
 have g : (a ++ b).getD (a.length + j + 1) 0 = b.getD (j + 1) 0 := by
  simp only [List.getD]
  rw [List.getElem?_append_right (by omega), show a.length + j + 1 - a.length = j + 1 by omega]
 unfold stepR
 rw [e, g]
theorem rn_shift (a b : List UInt8) (n j : Nat) (hn : b.length - j <= n) : rn (a ++ b) (a.length + j) = (rn b j).map (sh a.length) := by
 induction n generalizing j with
 | zero => rw [rn_out b j (by omega), rn_out _ _ (by simp; omega)]; rfl
 | succ n ih =>
  by_cases h : j < b.length
  ·have hs := step_le b j h
   rw [rn_in b j h, rn_in _ _ (by simp; omega), step_shift, List.map_cons, Nat.add_assoc, ih _ (by omega)]
   congr 1
   unfold sh
   simp
   omega
  ·rw [rn_out b j (by omega), rn_out _ _ (by simp; omega)]; rfl
theorem byte_getD (s : List UInt8) (i k : Nat) : byte (s.drop i) k = (s.getD (i + k) 0).toNat := by
 unfold byte; simp [List.getD]
theorem step_join (a b : List UInt8) (i : Nat) (hi : i < a.length) (hv : (validAll (a.drop i)).2 = true) (h13 : a.getD (a.length - 1) 0 ≠ 13) :
  stepR (a ++ b) i = stepR a i /\ (validAll (a.drop (i + (stepR a i).2))).2 = true := by
 have hl0 : 0 < (a.drop i).length := by simp; omega
 have hst := vall_step (a.drop i) hl0
 rw [hv] at hst
 have hst2 := hst.symm
 rw [Bool.and_eq_true] at hst2
 obtain ⟨hn, hv2⟩ := hst2
 rw [List.drop_drop] at hv2
 have hda : (a ++ b).drop i = a.drop i ++ b := by rw [List.drop_append_of_le_length (by omega)]
 have hdec := dec_append (a.drop i) b hl0 hn
 by_cases hD : (dec (a.drop i)).1 = 13
 ·have hlow := dec_low (a.drop i) (by omega)
  have hb13 : a.getD i 0 = 13 := by
   have := hlow.2
   rw [hD, byte_getD, Nat.add_zero] at this
   apply UInt8.toNat_inj.1; rw [<- this]; rfl
  have hin : i + 1 < a.length := by
   by_cases h : i + 1 < a.length
   ·exact h
   ·exact absurd (by rw [show a.length - 1 = i by omega]; exact hb13) h13
  have hg : (a ++ b).getD (i + 1) 0 = a.getD (i + 1) 0 := by
   simp only [List.getD]; rw [List.getElem?_append_left hin]
  refine ⟨by unfold stepR; rw [hda, hdec, hg], ?_⟩
  rw [hlow.1] at hv2
  unfold stepR
  rw [if_neg (by omega), if_neg (by omega), if_pos hD]
  by_cases h10 : a.getD (i + 1) 0 = 10
  ·rw [if_pos h10]
   have hb10 : byte (a.drop (i + 1)) 0 < 128 := by rw [byte_getD, Nat.add_zero, h10]; decide
   have hd1 : dec (a.drop (i + 1)) = (byte (a.drop (i + 1)) 0, 1) := by unfold dec decodeN; rw [if_pos hb10]
   have := vall_step (a.drop (i + 1)) (by simp; omega)
   rw [hv2, hd1] at this
   have := this.symm
   rw [Bool.and_eq_true] at this
   rw [List.drop_drop] at this
   exact this.2
  ·rw [if_neg h10]; exact hv2
 ·refine ⟨by unfold stepR; rw [hda, hdec]; simp only [if_neg hD], ?_⟩
  have : (stepR a i).2 = (dec (a.drop i)).2 := by
   unfold stepR
   simp only [if_neg hD]
   repeat' split
   all_goals rfl
  rw [this]; exact hv2
theorem rn_join (a b : List UInt8) (n i : Nat) (hn : a.length - i <= n) (hi : i <= a.length) (hv : (validAll (a.drop i)).2 = true) (h13 : 0 < a.length -> a.getD (a.length - 1) 0 ≠ 13) :
  rn (a ++ b) i = rn a i ++ (rn b 0).map (sh a.length) := by
 induction n generalizing i with
 | zero =>
  obtain rfl : i = a.length := by omega
  rw [rn_out a _ (Nat.le_refl _), List.nil_append]
  exact rn_shift a b b.length 0 (by omega)
 | succ n ih =>
  by_cases h : i < a.length
  ·have hs := step_le a i h
   obtain ⟨j1, j2⟩ := step_join a b i h hv (h13 (by omega))
   rw [rn_in a i h, rn_in _ _ (by simp; omega), j1, List.cons_append, ih _ (by omega) (by omega) j2]
  ·obtain rfl : i = a.length := by omega
   rw [rn_out a _ (Nat.le_refl _), List.nil_append]
   exact rn_shift a b b.length 0 (by omega)
def asI (s : List UInt8) : List Int := s.map fun x => (x.toNat : Int)
def Pl (x : UInt8) : Prop := x.toNat < 128 /\ x ≠ 0 /\ x ≠ 12 /\ x ≠ 13
theorem asI_append (a b : List UInt8) : asI (a ++ b) = asI a ++ asI b := by simp [asI]
theorem encZs_asI (s : List UInt8) (h : ∀ x ∈ s, x.toNat < 128) : encZs (asI s) = s := by
 induction s with
 | nil => rfl
 | cons a t ih =>
  have e : asI (a :: t) = (a.toNat : Int) :: asI t := rfl
  rw [e, encZs_cons, enc_byte a (h a (by simp)), ih (fun x hx => h x (by simp [hx]))]
  rfl
theorem pl_okr (x : UInt8) (h : Pl x) : Okr (x.toNat : Int) := by
 obtain ⟨h1, h2, h3, h4⟩ := h
 have e0 : x.toNat ≠ 0 := fun e => h2 (by rw [<- u8_of x 0 e]; rfl)
 have e1 : x.toNat ≠ 12 := fun e => h3 (by rw [<- u8_of x 12 e]; rfl)
 have e2 : x.toNat ≠ 13 := fun e => h4 (by rw [<- u8_of x 13 e]; rfl)
 exact ⟨by rw [isCP_iff]; omega, by omega, by omega, by omega⟩
theorem rn_plain (s : List UInt8) (h : ∀ x ∈ s, Pl x) : (rn s 0).map Prod.fst = asI s := by
 have := rn_enc ((asI s).map fun r => (r, 0)) (by
  intro r hr
  simp only [List.mem_map, asI] at hr
  obtain ⟨_, ⟨x, hx, rfl⟩, rfl⟩ := hr
  exact pl_okr x (h x hx)) []
 have e : encR ((asI s).map fun r => (r, 0)) = encZs (asI s) := by unfold encR encZs; rw [List.flatMap_map]
 rw [e, encZs_asI s (fun x hx => (h x hx).1), List.map_map] at this
 have e2 : (asI s).map (Prod.fst ∘ fun r => (r, (0 : Int))) = asI s := by simp [Function.comp_def]
 rw [e2] at this
 simpa using this
theorem plain_valid (s : List UInt8) (h : ∀ x ∈ s, Pl x) : (validAll s).2 = true := by
 have := encR_valid ((asI s).map fun r => (r, 0)) (by
  intro r hr
  simp only [List.mem_map, asI] at hr
  obtain ⟨_, ⟨x, hx, rfl⟩, rfl⟩ := hr
  exact pl_okr x (h x hx))
 have e : encR ((asI s).map fun r => (r, 0)) = encZs (asI s) := by unfold encR encZs; rw [List.flatMap_map]
 rw [e, encZs_asI s (fun x hx => (h x hx).1)] at this
 rw [this]
theorem rn_plain_join (a b : List UInt8) (h : ∀ x ∈ a, Pl x) : rn (a ++ b) 0 = rn a 0 ++ (rn b 0).map (sh a.length) := by
 have := rn_join a b a.length 0 (by omega) (by omega) (by rw [List.drop_zero]; exact plain_valid a h) (by
  intro h0
  have : a.getD (a.length - 1) 0 ∈ a := by
   have e : a.getD (a.length - 1) 0 = a[a.length - 1] := by simp [List.getD, show a.length - 1 < a.length by omega]
   rw [e]; exact List.getElem_mem _
  exact (h _ this).2.2.2)
 simpa using this
theorem urlT_blanks (s : List Int) (h : ∀ r ∈ s, isBl r = true) (b p : Bool) (t : List Int) : ∃ p', urlT b p (s ++ t) = ((urlT b p' t).1, (urlT b p' t).2.1, s.length + (urlT b p' t).2.2) := by
 induction s generalizing p with
 | nil => exact ⟨p, by simp⟩
 | cons a s ih =>
  have hb := h a (by simp)
  have hb2 := (isBl_iff a).1 hb
  obtain ⟨p', e⟩ := ih (fun r hr => h r (by simp [hr])) true
  refine ⟨p', ?_⟩
  have he : esB (a :: (s ++ t)) = false := by simp [esB]; omega
  rw [List.cons_append, urlT, if_neg (by omega), if_neg (by rw [he]; simp), if_pos hb, e]
  simp; omega
theorem urlT_close (b p : Bool) (t : List Int) : urlT b p (41 :: t) = (b, [], 1) := by rw [urlT, if_pos rfl]
theorem urlT_nil (b p : Bool) : urlT b p [] = (b, [], 0) := by rw [urlT]
def nmI (g : Bool) : List Int := if g then [117, 82, 76] else [117, 114, 108]
theorem nm_take (g : Bool) (t : List Int) : takeN (nmI g ++ 40 :: t) = (nmI g, 3) := by
 cases g
 ·show takeN (117 :: 114 :: 108 :: 40 :: t) = _
  rw [takeN_in _ _ (by decide), takeN_in _ _ (by decide), takeN_in _ _ (by decide), takeN_out _ _ (by simp [esB]) (by decide)]; rfl
 ·show takeN (117 :: 82 :: 76 :: 40 :: t) = _
  rw [takeN_in _ _ (by decide), takeN_in _ _ (by decide), takeN_in _ _ (by decide), takeN_out _ _ (by simp [esB]) (by decide)]; rfl
theorem nm_way (g : Bool) (t : List Int) : wayT (nmI g ++ 40 :: t) = 8 := by
 cases g
 ·show wayT (117 :: 114 :: 108 :: 40 :: t) = 8
  unfold wayT
  rw [if_neg (by simp [stC, List.isPrefixOf]), if_neg (by simp [isBl]), if_neg (by simp), if_neg (by simp), if_neg (by simp [numB, sgN, nDg, fracB]), if_neg (by simp [stC, List.isPrefixOf]), if_neg (by simp [stC, List.isPrefixOf]), if_pos (by simp [begN, nSt])]
 ·show wayT (117 :: 82 :: 76 :: 40 :: t) = 8
  unfold wayT
  rw [if_neg (by simp [stC, List.isPrefixOf]), if_neg (by simp [isBl]), if_neg (by simp), if_neg (by simp), if_neg (by simp [numB, sgN, nDg, fracB]), if_neg (by simp [stC, List.isPrefixOf]), if_neg (by simp [stC, List.isPrefixOf]), if_pos (by simp [begN, nSt])]
theorem asI_len (s : List UInt8) : (asI s).length = s.length := by simp [asI]
def Mk (q : Int) : Prop := q = 34 \/ q = 39
theorem jn_not (n : Int) (h : jn n = false) : isX n = false /\ isBl n = false /\ n ≠ 12 /\ n ≠ 13 := by
 unfold jn at h
 simp only [Bool.or_eq_false_iff, decide_eq_false_iff_not] at h
 exact ⟨h.1.1.1, h.1.1.2, h.1.2, h.2⟩
theorem hexd_ten (r : Int) (h : r = 10 \/ r = 12 \/ r = 13) : ∃ a, hexd r = [a] /\ isX a = true /\ a ≠ 10 /\ hexVal [a] = r /\ okX r = r := by
 rcases h with rfl | rfl | rfl
 ·exact ⟨97, by decide, by decide, by decide, by decide, by decide⟩
 ·exact ⟨99, by decide, by decide, by decide, by decide, by decide⟩
 ·exact ⟨100, by decide, by decide, by decide, by decide, by decide⟩
theorem escV_ten (r : Int) (h : r = 10 \/ r = 12 \/ r = 13) (u : List Int) : escV (hexd r ++ 32 :: u) = (r, 2) := by
 obtain ⟨a, e, h1, h2, h3, h4⟩ := hexd_ten r h
 rw [e]
 simp only [List.singleton_append, escV, h1, if_true, hexRun_go 5 _ _ h1, hexRun_stop 5 32 u (by decide), h3, h4]
 simp [isBl]
theorem escV_ten2 (r : Int) (h : r = 10 \/ r = 12 \/ r = 13) (x : Int) (u : List Int) (hx : isX x = false) : escV (hexd r ++ x :: u) = (r, 1 + if isBl x then 1 else 0) := by
 obtain ⟨a, e, h1, h2, h3, h4⟩ := hexd_ten r h
 rw [e]
 simp only [List.singleton_append, escV, h1, if_true, hexRun_go 5 _ _ h1, hexRun_stop 5 x u hx, h3, h4]
 simp
theorem qB_head (q : Int) (hq : Mk q) (l : List Int) (e : Int) (he : Mk e \/ e = 10) (t : List Int) : ∃ x u, qB q l ++ e :: t = x :: u /\ (jn (l.getD 0 0) = false -> isX x = false /\ ((l ≠ [] \/ Mk e) -> isBl x = false) /\ (l = [] -> x = e)) := by
 cases l with
 | nil =>
  refine ⟨e, t, rfl, fun _ => ⟨?_, ?_, fun _ => rfl⟩⟩
  ·rcases he with (h | h) | h <;> (rw [h]; decide)
  ·rintro (h | h | h)
   ·exact absurd rfl h
   ·rw [h]; decide
   ·rw [h]; decide
 | cons r l =>
  have e1 : qB q (r :: l) = qt q r (l.getD 0 0) ++ qB q l := rfl
  rw [e1]
  unfold qt
  by_cases h1 : r = q \/ r = 92
  ·rw [if_pos h1]
   exact ⟨92, _, rfl, fun _ => ⟨by decide, fun _ => by decide, fun h => absurd h (by simp)⟩⟩
  ·rw [if_neg h1]
   by_cases h2 : r = 10 \/ r = 12 \/ r = 13
   ·rw [if_pos h2]
    refine ⟨92, _, rfl, fun _ => ⟨by decide, fun _ => by decide, fun h => absurd h (by simp)⟩⟩
   ·rw [if_neg h2]
    refine ⟨r, _, rfl, fun h => ?_⟩
    obtain ⟨a, b, _⟩ := jn_not r h
    exact ⟨a, fun _ => b, fun h => absurd h (by simp)⟩
theorem qt_len1 (q r n : Int) : 1 <= (qt q r n).length := by
 unfold qt
 split
 ·simp
 ·split <;> simp
theorem strT_qB (q : Int) (hq : Mk q) (l : List Int) (e : Int) (t : List Int) (he : Mk e \/ (e = 10 /\ ∀ r, l.getLast? = some r -> ¬ (r = 10 \/ r = 12 \/ r = 13))) :
  strT q (qB q l ++ e :: t) = ((strT q (e :: t)).1, l ++ (strT q (e :: t)).2.1, (qB q l).length + (strT q (e :: t)).2.2) := by
 have hq92 : q ≠ 92 := by rcases hq with h | h <;> omega
 have hq10 : q ≠ 10 := by rcases hq with h | h <;> omega
 induction l with
 | nil => simp [qB]
 | cons r l ih =>
  have he2 : Mk e \/ (e = 10 /\ ∀ r, l.getLast? = some r -> ¬ (r = 10 \/ r = 12 \/ r = 13)) := by
   rcases he with h | ⟨h, h2⟩
   ·exact .inl h
   ·refine .inr ⟨h, fun r' hr' => h2 r' ?_⟩
    cases l with
    | nil => simp at hr'
    | cons a l => rw [List.getLast?_cons_cons]; exact hr'
  have IH := ih he2
  have e1 : qB q (r :: l) = qt q r (l.getD 0 0) ++ qB q l := rfl
  obtain ⟨x, u, hxu, hx⟩ := qB_head q hq l e (he.elim .inl fun h => .inr h.1) t
  rw [e1, List.append_assoc]
  have hlq := qt_len1 q r (l.getD 0 0)
  by_cases h1 : r = q \/ r = 92
  ·have eq : qt q r (l.getD 0 0) = [92, r] := by unfold qt; rw [if_pos h1]
   have hX : isX r = false := by rcases h1 with rfl | rfl; rcases hq with rfl | rfl <;> decide; decide
   have hr10 : r ≠ 10 := by rcases h1 with rfl | rfl; exact hq10; decide
   rw [eq]
   show strT q (92 :: r :: (qB q l ++ e :: t)) = _
   rw [strT_esc q _ hq92 (by simp) (by simpa using hr10)]
   have hv : escV (r :: (qB q l ++ e :: t)) = (r, 1) := by simp [escV, hX]
   rw [hv]
   simp only [List.drop_succ_cons, List.drop_zero]
   rw [IH]
   simp; omega
  ·by_cases h2 : r = 10 \/ r = 12 \/ r = 13
   ·have eq : qt q r (l.getD 0 0) = 92 :: hexd r ++ (if jn (l.getD 0 0) then [32] else []) := by unfold qt; rw [if_neg h1, if_pos h2]
    obtain ⟨a, ea, hxa, ha10, _⟩ := hexd_ten r h2
    rw [eq]
    by_cases hj : jn (l.getD 0 0) = true
    ·rw [if_pos hj]
     have e3 : 92 :: hexd r ++ [32] ++ (qB q l ++ e :: t) = 92 :: (hexd r ++ 32 :: (qB q l ++ e :: t)) := by simp
     rw [e3, strT_esc q _ hq92 (by rw [ea]; simp) (by rw [ea]; simpa using ha10), escV_ten r h2]
     have hd : (hexd r ++ 32 :: (qB q l ++ e :: t)).drop 2 = qB q l ++ e :: t := by rw [ea]; rfl
     simp only [hd]
     rw [IH]
     simp [ea]; omega
    ·have hj' : jn (l.getD 0 0) = false := by simpa using hj
     rw [if_neg hj]
     obtain ⟨hx1, hx2, hx3⟩ := hx hj'
     have hbl : isBl x = false := by
      apply hx2
      by_cases hl : l = []
      ·subst hl
       rcases he with h | ⟨h, h3⟩
       ·exact .inr h
       ·exact absurd h2 (h3 r rfl)
      ·exact .inl hl
     have e3 : 92 :: hexd r ++ [] ++ (qB q l ++ e :: t) = 92 :: (hexd r ++ x :: u) := by rw [hxu]; simp
     rw [e3, strT_esc q _ hq92 (by rw [ea]; simp) (by rw [ea]; simpa using ha10), escV_ten2 r h2 x u hx1, hbl]
     have hd : (hexd r ++ x :: u).drop 1 = qB q l ++ e :: t := by rw [ea, hxu]; rfl
     simp only [Bool.false_eq_true, if_false, Nat.add_zero, hd]
     rw [IH]
     simp [ea]; omega
   ·have eq : qt q r (l.getD 0 0) = [r] := by unfold qt; rw [if_neg h1, if_neg h2]
    rw [eq]
    show strT q (r :: (qB q l ++ e :: t)) = _
    rw [strT_one q r _ (fun h => h1 (.inl h)) (fun h => h2 (.inl h)) (fun h => h1 (.inr h)), IH]
    simp; omega
theorem qt_okr (q : Int) (hq : Mk q) (r n : Int) (h : okP r) : ∀ c ∈ qt q r n, Okr c := by
 obtain ⟨h1, h2⟩ := h
 intro c hc
 unfold qt at hc
 split at hc
 ·rename_i hh
  simp only [List.mem_cons, List.mem_nil_iff, or_false] at hc
  rcases hc with rfl | rfl
  ·exact ⟨by decide, by decide, by decide, by decide⟩
  ·rcases hh with rfl | rfl
   ·rcases hq with rfl | rfl <;> exact ⟨by decide, by decide, by decide, by decide⟩
   ·exact ⟨by decide, by decide, by decide, by decide⟩
 ·split at hc
  ·rename_i hh
   obtain ⟨a, ea, hxa, ha10, _⟩ := hexd_ten r hh
   rw [ea] at hc
   have ha := (isX_iff a).1 hxa
   have hao : Okr a := ⟨by rw [isCP_iff]; omega, by omega, by omega, by omega⟩
   simp only [List.cons_append, List.nil_append, List.mem_cons] at hc
   rcases hc with rfl | rfl | hc
   ·exact ⟨by decide, by decide, by decide, by decide⟩
   ·exact hao
   ·split at hc
    ·rw [List.mem_singleton.1 hc]; exact ⟨by decide, by decide, by decide, by decide⟩
    ·simp at hc
  ·rename_i hh
   rw [List.mem_singleton.1 hc]
   exact ⟨h1, by omega, by omega, by omega⟩
theorem qB_okr (q : Int) (hq : Mk q) (l : List Int) (h : ∀ r ∈ l, okP r) : ∀ c ∈ qB q l, Okr c := by
 induction l with
 | nil => simp [qB]
 | cons r l ih =>
  intro c hc
  have e1 : qB q (r :: l) = qt q r (l.getD 0 0) ++ qB q l := rfl
  rw [e1] at hc
  rcases List.mem_append.1 hc with hc | hc
  ·exact qt_okr q hq r _ (h r (by simp)) c hc
  ·exact ih (fun r hr => h r (by simp [hr])) c hc
theorem mk_okr (q : Int) (hq : Mk q) : Okr q := by rcases hq with rfl | rfl <;> exact ⟨by decide, by decide, by decide, by decide⟩
theorem tks_head (X : List UInt8) (h0 : 0 < X.length) (t : CT) (n : Nat) (ht : tkC ((rn X 0).map Prod.fst) = (t, n)) : tksC (rn X 0) = (t, 0) :: tksC ((rn X 0).drop n) := by
 obtain ⟨L, hL⟩ : ∃ L, rn X 0 = L := ⟨_, rfl⟩
 have e2 := rn_in X 0 h0
 rw [hL] at e2 ht
 have hLl : 0 < L.length := by rw [e2]; simp
 have h0' : (L[0]'hLl).2 = 0 := by
  have hg : ∀ (T : List (Int × Int)) x T' (hT : T = x :: T') (h0 : 0 < T.length), T[0] = x := by rintro T x T' rfl h0; rfl
  rw [hg L _ _ e2 hLl]; rfl
 have hi := lexC_in L 0 hLl
 rw [List.drop_zero, List.drop_zero, h0', Nat.zero_add, ht] at hi
 rw [hL, hi]
theorem mk_way (q : Int) (hq : Mk q) (c : List Int) : wayT (q :: c) = 3 := by
 unfold wayT
 rcases hq with rfl | rfl
 ·rw [if_neg (by simp [stC, List.isPrefixOf]), if_neg (by simp [isBl]), if_pos (by simp)]
 ·rw [if_neg (by simp [stC, List.isPrefixOf]), if_neg (by simp [isBl]), if_pos (by simp)]
def NF (t : List UInt8) : Prop := ∃ W P X : List UInt8, t = W ++ (P ++ X) /\ (∀ c ∈ W, dig c = true) /\ W ≠ [] /\ (P = [] \/ ∃ F, P = 46 :: F /\ F ≠ [] /\ ∀ c ∈ F, dig c = true) /\ (X = [] \/ ∃ z, X = 101 :: txt z)
theorem nf_plain (ng : Bool) (D E : List UInt8) : ∀ t ∈ plainN ng D E, ∃ u, t = sgl ng ++ u /\ NF u := by
 intro t ht
 unfold plainN at ht
 split at ht
 case isFalse => simp at ht
 rename_i hr
 rcases right_ex D E hr with ⟨rfl, rfl⟩ | ⟨m, X, hm, rfl, rfl⟩
 ·rw [if_pos rfl] at ht
  simp only [List.mem_singleton] at ht
  subst ht
  exact ⟨_, rfl, [48], [], [], rfl, by decide, by simp, .inl rfl, .inl rfl⟩
 ·have h0 : m ≠ 0 := by intro h0; subst h0; exact hm rfl
  have hne := canon_ne m h0
  have hD := canon_dig m
  rw [if_neg hne] at ht
  obtain ⟨D, eD⟩ : ∃ D, canon m = D := ⟨_, rfl⟩
  rw [eD] at ht hne hD
  have hl : 0 < D.length := List.length_pos_iff.2 hne
  rcases List.mem_append.1 ht with ht | ht
  ·unfold plain1 at ht
   split at ht
   case isFalse => simp at ht
   rename_i hc
   simp only [List.mem_singleton] at ht
   subst ht
   have hu := hc.2
   refine ⟨_, rfl, ?_⟩
   obtain ⟨x, hx⟩ : ∃ x, (intD (txt X)).1 = x := ⟨_, rfl⟩
   rw [hx] at hu ⊢
   unfold unsc at hu ⊢
   split
   ·exact ⟨_, [], [], by simp; rfl, fun c hc => (List.mem_append.1 hc).elim (hD c) (dig_rep _ c), by simp [hne], .inl rfl, .inl rfl⟩
   ·rename_i h1
    split
    ·rename_i h2
     obtain ⟨n, hn⟩ : ∃ n : Nat, (n : Int) = D.length + x := ⟨((D.length : Int) + x).toNat, by omega⟩
     rw [show ((D.length : Int) + x).toNat = n by omega]
     exact ⟨D.take n, 46 :: D.drop n, [], by simp, fun c hc => hD c (List.mem_of_mem_take hc), by intro e; rw [List.take_eq_nil_iff] at e; rcases e with e | e; exact absurd e (by omega); exact hne e, .inr ⟨_, rfl, by intro e; have := congrArg List.length e; simp at this; omega, fun c hc => hD c (List.mem_of_mem_drop hc)⟩, .inl rfl⟩
    ·rename_i h2
     split
     ·rename_i h3
      exact ⟨[48], _, [], by simp; rfl, by decide, by simp, .inr ⟨_, rfl, by simp [hne], fun c hc => (List.mem_append.1 hc).elim (dig_rep _ c) (hD c)⟩, .inl rfl⟩
     ·rename_i h3
      rw [if_neg h1, if_neg h2, if_neg h3] at hu
      exact absurd rfl hu
  ·rcases List.mem_append.1 ht with ht | ht
   ·simp only [List.mem_singleton] at ht
    subst ht
    exact ⟨_, rfl, D, [], _, rfl, hD, hne, .inl rfl, .inr ⟨X, rfl⟩⟩
   ·unfold plain3 at ht
    split at ht
    case isFalse => simp at ht
    rename_i hc
    simp only [List.mem_singleton] at ht
    subst ht
    rw [upE_txt]
    exact ⟨_, rfl, D.take 1, 46 :: D.drop 1, _, rfl, fun c hc => hD c (List.mem_of_mem_take hc), by intro e; rw [List.take_eq_nil_iff] at e; rcases e with e | e; exact absurd e (by omega); exact hne e, .inr ⟨_, rfl, by intro e; have := congrArg List.length e; simp at this; omega, fun c hc => hD c (List.mem_of_mem_drop hc)⟩, .inr ⟨_, rfl⟩⟩
theorem nDg_dig (c : UInt8) (h : dig c = true) : nDg (c.toNat : Int) = true := by
 rw [nDg_iff]
 unfold dig at h
 simp at h
 have h1 := h.1
 have h2 := h.2
 omega
theorem digN_app (W : List UInt8) (R : List Int) (hW : ∀ c ∈ W, dig c = true) (hR : nDg (R.getD 0 (-1)) = false) : digN (asI W ++ R) = W.length := by
 induction W with
 | nil =>
  cases R with
  | nil => rfl
  | cons a t => show digN (a :: t) = 0; rw [digN_cons]; simp at hR; simp [hR]
 | cons a t ih =>
  show digN ((a.toNat : Int) :: (asI t ++ R)) = _
  rw [digN_cons, if_pos (nDg_dig a (hW a (by simp))), ih (fun c hc => hW c (by simp [hc]))]
  simp; omega
theorem drop_asI (A : List UInt8) (R : List Int) (n : Nat) (h : A.length = n) : (asI A ++ R).drop n = R := List.drop_left' (by rw [asI_len]; exact h)
theorem head_dig (W : List UInt8) (R : List Int) (hW : ∀ c ∈ W, dig c = true) (h : W ≠ []) : nDg ((asI W ++ R).getD 0 (-1)) = true := by
 cases W with
 | nil => exact absurd rfl h
 | cons a t => show nDg (a.toNat : Int) = true; exact nDg_dig a (hW a (by simp))
theorem sgN_no (R : List Int) (h : nDg (R.getD 0 (-1)) = true) : sgN R = 0 := by
 unfold sgN
 rw [nDg_iff] at h
 rw [if_neg (by omega)]
theorem txt_parts (z : Int) : ∃ S V : List UInt8, txt z = S ++ V /\ (S = [] \/ S = [45]) /\ V ≠ [] /\ ∀ c ∈ V, dig c = true := by
 rcases txt_cases z with ⟨_, e⟩ | ⟨_, e⟩
 ·exact ⟨[], _, by rw [e]; rfl, .inl rfl, decS_ne _, decS_dig _⟩
 ·exact ⟨[45], _, by rw [e]; rfl, .inr rfl, decS_ne _, decS_dig _⟩
theorem dig_pl (c : UInt8) (h : dig c = true) : Pl c /\ c ≠ 69 := by
 have := nDg_dig c h
 rw [nDg_iff] at this
 exact ⟨⟨by omega, fun e => by subst e; exact absurd this (by decide), fun e => by subst e; exact absurd this (by decide), fun e => by subst e; exact absurd this (by decide)⟩, fun e => by subst e; exact absurd this (by decide)⟩
def whl (l : List UInt8) : Bool := l.all fun c => !(c == 46 || c == 101)
theorem whole_whl (l : List UInt8) (h : ∀ c ∈ l, c ≠ 69) : wholeL l = whl l := by
 unfold wholeL whl
 rw [Bool.eq_iff_iff, List.all_eq_true, List.all_eq_true]
 constructor
 ·intro hh c hc
  have := hh c hc
  simp at this ⊢; exact ⟨this.1.1, this.1.2⟩
 ·intro hh c hc
  have := hh c hc
  have h2 := h c hc
  simp at this ⊢; exact ⟨this, h2⟩
def sigS (k : Int) : List UInt8 := if k = 14 then [60, 33, 45, 45] else if k = 15 then [45, 45, 62] else if k = 16 then [58] else if k = 17 then [59] else if k = 18 then [44] else if k = 19 then [123] else if k = 20 then [125] else if k = 21 then [40] else if k = 22 then [41] else if k = 23 then [91] else if k = 24 then [93] else []
def cleanS (s : List UInt8) : Bool := (validAll s).2 && !s.contains 0
def isNum (k : Int) : Prop := k = 10 \/ k = 11 \/ k = 12
instance (k : Int) : Decidable (isNum k) := by unfold isNum; infer_instance
def onlyT (t : CT) : CT :=
 if isNum t.kind then { kind := t.kind, num := t.num, flag := t.flag, sign := t.sign, unit := if t.kind = 12 then t.unit else [] }
 else { kind := t.kind, flag := if t.kind = 4 then t.flag else false, text := if sigS t.kind = [] then t.text else [] }
def hasPE (s : List UInt8) : Bool := s.any fun c => c == 46 || c == 101
def cut0 (s : List UInt8) : List UInt8 := if s.take 2 = [48, 46] then s.drop 1 else s
def less3 (b s : List UInt8) : List UInt8 := if hasPE s = true /\ (b = [] \/ s.length < b.length) then s else b
def shortS (D E : List UInt8) : List UInt8 := if D = [] then [46, 48] else ((plainN false D E).map cut0).foldl less3 []
def wholeS (D E : List UInt8) : List UInt8 := if D = [] then [48] else if (intD E).2 = true /\ 0 <= (intD E).1 /\ (intD E).1 <= 20000 then D ++ List.replicate (intD E).1.toNat 48 else []
def sgS (ng sign : Bool) (t : List UInt8) : List UInt8 := if t = [] then [] else if ng then 45 :: t else if sign then 43 :: t else t
def numS (n : NumV) (whole sign : Bool) : List UInt8 := if rightN n.2.1 n.2.2 = true then sgS n.1 sign (if whole then wholeS n.2.1 n.2.2 else shortS n.2.1 n.2.2) else []
def e3 (s : List UInt8) : Bool := (decide (s.getD 0 0 = 101) || decide (s.getD 0 0 = 69)) && dig (if s.getD 1 0 = 45 then s.getD 2 0 else s.getD 1 0)
def unitS (s : List UInt8) : List UInt8 := if e3 s then encZs (numN (byte s 0)) ++ encZs (spR (pn (s.drop 1) 0)) else encZs (spF (pn s 0))
def urlB (c : UInt8) : List UInt8 := if c = 34 \/ c = 39 \/ c = 40 \/ c = 41 \/ c = 92 \/ c = 32 then [92, c] else if c.toNat < 32 \/ c = 127 then encZs (numN c.toNat) else [c]
def urlS (s : List UInt8) : List UInt8 := [117, 114, 108, 40] ++ (s.flatMap urlB ++ [41])
def hashS (t : CT) : List UInt8 := 35 :: (if t.flag then encZs (spF (pn t.text 0)) else encZs (spR (pn t.text 0)))
def spellT (t : CT) : List UInt8 :=
 if t.kind = 1 then encZs (spF (pn t.text 0))
 else if t.kind = 2 then encZs (spF (pn t.text 0)) ++ [40]
 else if t.kind = 3 then 64 :: encZs (spF (pn t.text 0))
 else if t.kind = 4 then hashS t
 else if t.kind = 5 then qText (pn t.text 0)
 else if t.kind = 7 then urlS t.text
 else if t.kind = 10 then numS t.num t.flag t.sign
 else if t.kind = 11 then numS t.num t.flag t.sign ++ [37]
 else if t.kind = 12 then numS t.num t.flag t.sign ++ unitS t.unit
 else if t.kind = 6 \/ t.kind = 8 \/ t.kind = 9 \/ t.kind = 13 then t.text
 else if t.kind = 25 then 47 :: 42 :: (t.text ++ [42, 47])
 else sigS t.kind
def lineT (t : CT) : Bool := decide (t.kind = 6) || (decide (t.kind = 9) && decide (t.text = [92]))
def urlF (t : CT) : Bool := decide (t.kind = 2) && decide (lowL t.text = [117, 114, 108])
def tailS (l : List CT) : List UInt8 := match l.getLast? with
 | none => []
 | some t => if lineT t then [10] else if urlF t then [34, 34] else []
def tailT (l : List CT) : List CT := match l.getLast? with
 | none => []
 | some t => if lineT t then [{ kind := 13, text := [10] }] else if urlF t then [{ kind := 5 }] else []
def readsT (s : List UInt8) (l : List CT) : Bool := decide ((tksC (rn (s ++ tailS l) 0)).map Prod.fst = l ++ tailT l)
def backT (t : CT) : Bool := readsT (spellT t) [t]
def numOk (t : CT) : Bool := decide (numS t.num t.flag t.sign ≠ []) && !(t.sign && t.num.1) && backT t
def rightK (t : CT) : Bool :=
 if t.kind = 1 \/ t.kind = 2 \/ t.kind = 3 then decide (t.text ≠ [])
 else if t.kind = 4 then decide (t.text ≠ []) && backT t
 else if t.kind = 10 \/ t.kind = 11 then numOk t
 else if t.kind = 12 then decide (t.unit ≠ []) && numOk t
 else if t.kind = 13 then decide (t.text = [32]) || decide (t.text = [10])
 else if t.kind = 6 \/ t.kind = 8 \/ t.kind = 9 \/ t.kind = 25 then backT t
 else if t.kind = 5 \/ t.kind = 7 then true
 else decide (sigS t.kind ≠ [])
def rightT (t : CT) : Bool := cleanS t.text && cleanS t.unit && decide (t = onlyT t) && rightK t
theorem fold3 (l : List (List UInt8)) : ∀ b, b ≠ [] -> l.foldl less3 b = (l.filter hasPE).foldl less2 b := by
 induction l with
 | nil => intro b _; rfl
 | cons a t ih =>
  intro b hb
  rw [List.foldl_cons, List.filter_cons]
  by_cases h : hasPE a = true
  ·rw [if_pos h, List.foldl_cons]
   have e : less3 b a = less2 b a := by
    unfold less3 less2
    by_cases h2 : a.length < b.length
    ·rw [if_pos ⟨h, .inr h2⟩, if_pos h2]
    ·rw [if_neg (by rintro ⟨_, h3 | h3⟩; exact hb h3; exact h2 h3), if_neg h2]
   rw [e]
   refine ih _ ?_
   unfold less2
   split
   ·intro e; subst e; simp [hasPE] at h
   ·exact hb
  ·rw [if_neg h]
   have e : less3 b a = b := by unfold less3; rw [if_neg (fun hh => h hh.1)]
   rw [e]; exact ih b hb
theorem fold3_nil (l : List (List UInt8)) : l.foldl less3 [] = shortN (l.filter hasPE) := by
 induction l with
 | nil => rfl
 | cons a t ih =>
  rw [List.foldl_cons, List.filter_cons]
  by_cases h : hasPE a = true
  ·rw [if_pos h]
   have e : less3 [] a = a := by unfold less3; rw [if_pos ⟨h, .inl rfl⟩]
   rw [e]
   exact fold3 t a (by intro e; subst e; simp [hasPE] at h)
  ·rw [if_neg h]
   have e : less3 [] a = [] := by unfold less3; rw [if_neg (fun hh => h hh.1)]
   rw [e]; exact ih
theorem cut0_pe (s : List UInt8) : hasPE (cut0 s) = hasPE s := by
 unfold cut0
 split
 ·rename_i h
  match s, h with
  | [], h => simp at h
  | [a], h => simp at h
  | a :: b :: t, h =>
   simp at h
   obtain ⟨rfl, rfl⟩ := h
   rfl
 ·rfl
theorem cut0_len (s : List UInt8) : (cut0 s).length <= s.length := by
 unfold cut0; split <;> simp
def someP (D E : List UInt8) : List (List UInt8) := ((plainN false D E).filter hasPE).map cut0
theorem map_filter (l : List (List UInt8)) : (l.map cut0).filter hasPE = (l.filter hasPE).map cut0 := by
 induction l with
 | nil => rfl
 | cons a t ih =>
  rw [List.map_cons, List.filter_cons, List.filter_cons, cut0_pe, ih]
  split <;> simp
theorem short_page (D E : List UInt8) (h : D ≠ []) : shortS D E = shortN (someP D E) := by
 unfold shortS someP
 rw [if_neg h, fold3_nil, map_filter]
theorem exp_mem (D E : List UInt8) (h : D ≠ []) (hr : rightN D E = true) : cut0 (D ++ 101 :: E) ∈ someP D E := by
 unfold someP
 refine List.mem_map.2 ⟨_, List.mem_filter.2 ⟨?_, ?_⟩, rfl⟩
 ·unfold plainN
  rw [if_pos hr, if_neg h]
  simp [sgl]
 ·simp [hasPE]
theorem some_ne (D E : List UInt8) (h : D ≠ []) (hr : rightN D E = true) : someP D E ≠ [] := List.ne_nil_of_mem (exp_mem D E h hr)
theorem some_pos (D E : List UInt8) : ∀ s ∈ someP D E, hasPE s = true /\ s ≠ [] := by
 intro s hs
 unfold someP at hs
 obtain ⟨x, hx, rfl⟩ := List.mem_map.1 hs
 have := (List.mem_filter.1 hx).2
 rw [<- cut0_pe] at this
 exact ⟨this, by intro e; rw [e] at this; simp [hasPE] at this⟩
theorem short_pe (D E : List UInt8) (hr : rightN D E = true) : hasPE (shortS D E) = true /\ shortS D E ≠ [] := by
 by_cases h : D = []
 ·unfold shortS; rw [if_pos h]; exact ⟨rfl, by simp⟩
 ·rw [short_page D E h]
  exact some_pos D E _ (short_mem _ (some_ne D E h hr))
def NG (t : List UInt8) : Prop := ∃ W P X : List UInt8, ∃ F, ∃ z, t = W ++ (P ++ X) /\ (∀ c ∈ W, dig c = true) /\ (∀ c ∈ F, dig c = true) /\ ((P = [] /\ F = [] /\ W ≠ []) \/ (P = 46 :: F /\ F ≠ [])) /\ ExpAt X z /\ (X = [] \/ X = 101 :: txt z)
def expB (R : List Int) : Bool := (decide (R.getD 0 (-1) = 101) || decide (R.getD 0 (-1) = 69)) && nDg (R.getD (1 + sgN (R.drop 1)) (-1))
def stopN (R : List Int) : Prop := nDg (R.getD 0 (-1)) = false /\ R.getD 0 (-1) ≠ 46 /\ expB R = false
def sgO (S : List UInt8) (ng : Bool) : Prop := (S = [] /\ ng = false) \/ (S = [45] /\ ng = true) \/ (S = [43] /\ ng = false)
theorem ng_read (u : List UInt8) (h : NG u) : ∃ v e, ∀ S ng, sgO S ng -> readN (S ++ u) = ((ng, nz v e), true) := by
 obtain ⟨W, P, X, F, z, rfl, hW, hF, hP, hX, _⟩ := h
 exact ⟨_, _, fun S ng hS => read_form S ng hS W F P X z hW hF hP hX⟩
theorem ng_head (u : List UInt8) (h : NG u) : ∃ a t, u = a :: t /\ (dig a = true \/ a = 46) := by
 obtain ⟨W, P, X, F, z, rfl, hW, hF, hP, hX, _⟩ := h
 cases W with
 | nil =>
  rcases hP with ⟨_, _, h3⟩ | ⟨rfl, _⟩
  ·exact absurd rfl h3
  ·exact ⟨46, _, rfl, .inr rfl⟩
 | cons a t => exact ⟨a, _, rfl, .inl (hW a (by simp))⟩
theorem ng_pl (u : List UInt8) (h : NG u) : ∀ c ∈ u, Pl c /\ c ≠ 69 := by
 obtain ⟨W, P, X, F, z, rfl, hW, hF, hP, hX, hX2⟩ := h
 intro c hc
 rcases List.mem_append.1 hc with hc | hc
 ·exact dig_pl c (hW c hc)
 ·rcases List.mem_append.1 hc with hc | hc
  ·rcases hP with ⟨rfl, _, _⟩ | ⟨rfl, _⟩
   ·simp at hc
   ·rcases List.mem_cons.1 hc with rfl | hc
    ·exact ⟨⟨by decide, by decide, by decide, by decide⟩, by decide⟩
    ·exact dig_pl c (hF c hc)
  ·rcases hX2 with rfl | rfl
   ·simp at hc
   ·rcases List.mem_cons.1 hc with rfl | hc
    ·exact ⟨⟨by decide, by decide, by decide, by decide⟩, by decide⟩
    ·obtain ⟨Z, V, hz, hZ, hV, hV2⟩ := txt_parts z
     rw [hz] at hc
     rcases List.mem_append.1 hc with hc | hc
     ·rcases hZ with rfl | rfl
      ·simp at hc
      ·simp at hc; subst hc; exact ⟨⟨by decide, by decide, by decide, by decide⟩, by decide⟩
     ·exact dig_pl c (hV2 c hc)
theorem ng_end (S u : List UInt8) (hS : S = [] \/ S = [45] \/ S = [43]) (hu : NG u) (R : List Int) (hR : stopN R) :
  numB (asI S ++ (asI u ++ R)) = true /\ numE (asI S ++ (asI u ++ R)) = S.length + u.length := by
 obtain ⟨W, P, X, F, z, rfl, hW, hF, hP, _, hX⟩ := hu
 obtain ⟨r1, r2, r3⟩ := hR
 rw [asI_append, asI_append]
 obtain ⟨Q, hQ⟩ : ∃ Q, asI X ++ R = Q := ⟨_, rfl⟩
 have hc : asI S ++ (asI W ++ (asI P ++ asI X) ++ R) = asI S ++ (asI W ++ (asI P ++ Q)) := by rw [<- hQ]; simp
 rw [hc]
 have q1 : nDg (Q.getD 0 (-1)) = false /\ Q.getD 0 (-1) ≠ 46 := by
  rcases hX with rfl | rfl
  ·rw [<- hQ]; exact ⟨r1, r2⟩
  ·rw [<- hQ]; exact ⟨rfl, by show (101 : Int) ≠ 46; decide⟩
 obtain ⟨c, hcc⟩ : ∃ c, asI S ++ (asI W ++ (asI P ++ Q)) = c := ⟨_, rfl⟩
 rw [hcc]
 have d1 : c.drop S.length = asI W ++ (asI P ++ Q) := by rw [<- hcc]; exact drop_asI S _ _ rfl
 have hhead : nDg ((asI W ++ (asI P ++ Q)).getD 0 (-1)) = true \/ ((asI W ++ (asI P ++ Q)).getD 0 (-1) = 46 /\ W = [] /\ P = 46 :: F /\ F ≠ []) := by
  by_cases hW0 : W = []
  ·subst hW0
   rcases hP with ⟨_, _, h3⟩ | ⟨rfl, h2⟩
   ·exact absurd rfl h3
   ·exact .inr ⟨rfl, rfl, rfl, h2⟩
  ·exact .inl (head_dig W _ hW hW0)
 have hsg : sgN c = S.length := by
  rcases hS with rfl | rfl | rfl
  ·rw [<- hcc]
   show sgN (asI W ++ (asI P ++ Q)) = 0
   unfold sgN
   rcases hhead with h | h
   ·rw [nDg_iff] at h; rw [if_neg (by omega)]
   ·rw [h.1]; rfl
  ·rw [<- hcc]; rfl
  ·rw [<- hcc]; rfl
 have hfr : W = [] -> fracB (asI P ++ Q) = true := by
  intro hW0
  rcases hP with ⟨_, _, h3⟩ | ⟨rfl, h2⟩
  ·exact absurd hW0 h3
  ·unfold fracB
   have := head_dig F Q hF h2
   rw [Bool.and_eq_true]
   refine ⟨rfl, ?_⟩
   have e : (asI (46 :: F) ++ Q).getD 1 (-1) = (asI F ++ Q).getD 0 (-1) := by show ((46 : Int) :: (asI F ++ Q)).getD 1 (-1) = _; simp [List.getD]
   rw [e]; exact this
 have hB : numB c = true := by
  unfold numB
  rw [hsg]
  have e : c.getD S.length (-1) = (c.drop S.length).getD 0 (-1) := by rw [drop_getD, Nat.add_zero]
  rw [e, d1]
  rcases hhead with h | ⟨_, h, _, _⟩
  ·rw [h]; rfl
  ·have := hfr h
   subst h
   rw [show asI [] ++ (asI P ++ Q) = asI P ++ Q from rfl, this, Bool.or_true]
 have hp0 : nDg ((asI P ++ Q).getD 0 (-1)) = false := by
  rcases hP with ⟨rfl, _, _⟩ | ⟨rfl, _⟩
  ·exact q1.1
  ·rfl
 have h1 : num1 c = S.length + W.length := by
  unfold num1
  rw [hsg, d1, digN_app W _ hW hp0]
 have d2 : c.drop (S.length + W.length) = asI P ++ Q := by rw [<- List.drop_drop, d1]; exact drop_asI W _ _ rfl
 have h2 : num2 c = S.length + W.length + P.length := by
  unfold num2
  rw [h1, d2]
  rcases hP with ⟨rfl, _, _⟩ | ⟨rfl, hF0⟩
  ·rw [if_neg]
   ·simp
   ·intro hh
    unfold fracB at hh
    simp only [Bool.and_eq_true, decide_eq_true_eq] at hh
    exact q1.2 hh.1
  ·have hf : fracB (asI (46 :: F) ++ Q) = true := by
    unfold fracB
    have := head_dig F Q hF hF0
    rw [Bool.and_eq_true]
    refine ⟨rfl, ?_⟩
    have e : (asI (46 :: F) ++ Q).getD 1 (-1) = (asI F ++ Q).getD 0 (-1) := by show ((46 : Int) :: (asI F ++ Q)).getD 1 (-1) = _; simp [List.getD]
    rw [e]; exact this
   rw [if_pos hf]
   have d3 : c.drop (S.length + W.length + 1) = asI F ++ Q := by rw [<- List.drop_drop, d2]; rfl
   rw [d3, digN_app F Q hF q1.1]
   simp; omega
 have d3 : c.drop (S.length + W.length + P.length) = Q := by rw [<- List.drop_drop, d2]; exact drop_asI P _ _ rfl
 refine ⟨hB, ?_⟩
 have g : c.getD (num2 c) (-1) = Q.getD 0 (-1) := by rw [h2, <- d3, drop_getD, Nat.add_zero]
 unfold numE
 rw [g]
 rcases hX with rfl | rfl
 ·have : Q = R := by rw [<- hQ]; rfl
  subst this
  by_cases he : Q.getD 0 (-1) = 101 \/ Q.getD 0 (-1) = 69
  ·rw [if_pos he]
   have d4 : c.drop (num2 c + 1) = Q.drop 1 := by rw [h2, <- List.drop_drop, d3]
   have g2 : c.getD (num2 c + 1 + sgN (c.drop (num2 c + 1))) (-1) = Q.getD (1 + sgN (Q.drop 1)) (-1) := by
    have e : ∀ k, Q.getD k (-1) = c.getD (num2 c + k) (-1) := fun k => by rw [h2, <- d3, drop_getD]
    rw [d4, e, Nat.add_assoc]
   rw [g2, if_neg, h2]
   ·simp; omega
   ·unfold expB at r3
    simp only [Bool.and_eq_false_iff] at r3
    rcases r3 with r3 | r3
    ·simp at r3; rcases he with he | he
     ·exact absurd he r3.1
     ·exact absurd he r3.2
    ·rw [r3]; simp
  ·rw [if_neg he, h2]
   simp; omega
 ·have hQ2 : Q = 101 :: (asI (txt z) ++ R) := by rw [<- hQ]; rfl
  rw [if_pos (by rw [hQ2]; exact .inl rfl)]
  obtain ⟨Z, V, hz, hZ, hV, hV2⟩ := txt_parts z
  have d4 : c.drop (num2 c + 1) = asI Z ++ (asI V ++ R) := by
   rw [h2, <- List.drop_drop, d3, hQ2, hz, asI_append, List.append_assoc]; rfl
  have hv := head_dig V R hV2 hV
  have hz2 : sgN (asI Z ++ (asI V ++ R)) = Z.length := by
   rcases hZ with rfl | rfl
   ·exact sgN_no _ hv
   ·rfl
  have d5 : c.drop (num2 c + 1 + Z.length) = asI V ++ R := by rw [<- List.drop_drop, d4]; exact drop_asI Z _ _ rfl
  rw [d4, hz2, d5, digN_app V R hV2 r1]
  have g2 : c.getD (num2 c + 1 + Z.length) (-1) = (asI V ++ R).getD 0 (-1) := by rw [<- d5, drop_getD]; rfl
  rw [g2, if_pos hv, h2, hz]
  simp; omega
theorem way_num2 (c : List Int) (h : numB c = true) (h0 : (48 <= c.getD 0 (-1) /\ c.getD 0 (-1) <= 57) \/ c.getD 0 (-1) = 43 \/ c.getD 0 (-1) = 45 \/ c.getD 0 (-1) = 46) : wayT c = 5 := by
 unfold wayT
 have a1 : stC [47, 42] c = false := by
  cases hh : stC [47, 42] c with
  | false => rfl
  | true =>
   obtain ⟨t, rfl⟩ := (stC_iff _ _).1 hh
   simp at h0
 have a2 : isBl (c.getD 0 (-1)) = false := by
  cases hh : isBl (c.getD 0 (-1)) with
  | false => rfl
  | true => rw [isBl_iff] at hh; omega
 rw [a1, a2, if_neg (by simp), if_neg (by simp), if_neg (by omega), if_neg (by intro hh; omega), if_pos h]
theorem ng_tk (S u : List UInt8) (hS : S = [] \/ S = [45] \/ S = [43]) (hu : NG u) (R : List Int) (hR : stopN R) :
  tkC (asI (S ++ u) ++ R) = (if begN R then ({ numT0 (S ++ u) with kind := 12, unit := encZs (takeN R).1 }, (S ++ u).length + (takeN R).2)
   else if R.getD 0 (-1) = 37 then ({ numT0 (S ++ u) with kind := 11 }, (S ++ u).length + 1) else (numT0 (S ++ u), (S ++ u).length)) := by
 rw [asI_append, List.append_assoc]
 obtain ⟨hb, he⟩ := ng_end S u hS hu R hR
 obtain ⟨a, t, hat, ha⟩ := ng_head u hu
 have hw := way_num2 _ hb (by
  rcases hS with rfl | rfl | rfl
  ·rw [hat]
   rcases ha with ha | rfl
   ·left
    have := nDg_dig a ha
    rw [nDg_iff] at this
    exact this
   ·right; right; right; rfl
  ·right; right; left; rfl
  ·right; left; rfl)
 have hp : ∀ x ∈ S ++ u, x.toNat < 128 := by
  intro x hx
  rcases List.mem_append.1 hx with hx | hx
  ·rcases hS with rfl | rfl | rfl
   ·simp at hx
   ·simp at hx; subst hx; decide
   ·simp at hx; subst hx; decide
  ·exact (ng_pl u hu x hx).1.1
 have e1 : (asI S ++ (asI u ++ R)).drop (S.length + u.length) = R := by rw [<- List.append_assoc, <- asI_append]; exact drop_asI _ _ _ (by simp)
 have e2 : (asI S ++ (asI u ++ R)).take (S.length + u.length) = asI (S ++ u) := by rw [<- List.append_assoc, <- asI_append]; exact List.take_left' (by rw [asI_len]; simp)
 have e3 : (asI S ++ (asI u ++ R)).getD (S.length + u.length) (-1) = R.getD 0 (-1) := by rw [<- e1, drop_getD, Nat.add_zero, e1]
 unfold tkC
 rw [hw]
 show numT _ = _
 unfold numT
 rw [he, e1, e2, e3, encZs_asI _ hp, List.length_append]
theorem ng_nf (t : List UInt8) (h : NF t) : NG t := by
 obtain ⟨W, P, X, e, hW, hW0, hP, hX⟩ := h
 rcases hX with rfl | ⟨z, rfl⟩
 ·rcases hP with rfl | ⟨F, rfl, hF0, hF⟩
  ·exact ⟨W, [], [], [], 0, e, hW, by simp, .inl ⟨rfl, rfl, hW0⟩, .inl ⟨rfl, rfl⟩, .inl rfl⟩
  ·exact ⟨W, 46 :: F, [], F, 0, e, hW, hF, .inr ⟨rfl, hF0⟩, .inl ⟨rfl, rfl⟩, .inl rfl⟩
 ·rcases hP with rfl | ⟨F, rfl, hF0, hF⟩
  ·exact ⟨W, [], _, [], z, e, hW, by simp, .inl ⟨rfl, rfl, hW0⟩, expAt_txt z, .inr rfl⟩
  ·exact ⟨W, 46 :: F, _, F, z, e, hW, hF, .inr ⟨rfl, hF0⟩, expAt_txt z, .inr rfl⟩
theorem ng_cut (t : List UInt8) (h : NG t) : NG (cut0 t) /\ readN (cut0 t) = readN t := by
 unfold cut0
 split
 case isFalse => exact ⟨h, rfl⟩
 rename_i hc
 obtain ⟨W, P, X, F, z, rfl, hW, hF, hP, hX, hX2⟩ := h
 match W, hW, hP, hc with
 | [], _, hP, hc =>
  rcases hP with ⟨_, _, h3⟩ | ⟨rfl, _⟩
  ·exact absurd rfl h3
  ·simp at hc
 | a :: b :: W, hW, hP, hc =>
  simp at hc
  have := hW b (by simp)
  rw [hc.2] at this
  exact absurd this (by decide)
 | [a], hW, hP, hc =>
  have ha : a = 48 := by
   rcases hP with ⟨rfl, _, _⟩ | ⟨rfl, _⟩
   ·rcases hX2 with rfl | rfl
    ·simp at hc
    ·simp at hc
   ·simp at hc; exact hc
  subst ha
  rcases hP with ⟨rfl, rfl, _⟩ | ⟨rfl, hF0⟩
  ·rcases hX2 with rfl | rfl
   ·simp at hc
   ·simp at hc
  ·refine ⟨⟨[], 46 :: F, X, F, z, rfl, by simp, hF, .inr ⟨rfl, hF0⟩, hX, hX2⟩, ?_⟩
   have h1 := read_form [] false (.inl ⟨rfl, rfl⟩) [48] F (46 :: F) X z hW hF (.inr ⟨rfl, hF0⟩) hX
   have h2 := read_form [] false (.inl ⟨rfl, rfl⟩) [] F (46 :: F) X z (by simp) hF (.inr ⟨rfl, hF0⟩) hX
   rw [List.nil_append] at h1 h2
   show readN ((46 :: F) ++ X) = readN ([48] ++ (46 :: F ++ X))
   rw [h1, show (46 :: F) ++ X = [] ++ ((46 :: F) ++ X) from rfl, h2]
   have := dval_lead 1 F
   rw [show List.replicate 1 (48 : UInt8) = [48] from rfl] at this
   rw [this, List.nil_append]
theorem wholeL_pe (l : List UInt8) (h : ∀ c ∈ l, c ≠ 69) : wholeL l = !hasPE l := by
 rw [whole_whl l h]
 unfold whl hasPE
 rw [List.not_any_eq_all_not]
theorem numS_ng (n : NumV) (whole : Bool) (h : rightN n.2.1 n.2.2 = true) (t : List UInt8) (ht : (if whole then wholeS n.2.1 n.2.2 else shortS n.2.1 n.2.2) = t) (h0 : t ≠ []) :
  NG t /\ wholeL t = whole /\ ∀ S ng, sgO S ng -> readN (S ++ t) = ((ng, n.2.1, n.2.2), true) := by
 obtain ⟨ng0, D, E⟩ := n
 simp only at h ht ⊢
 have fin : ∀ t, NG t -> readN t = ((false, D, E), true) -> wholeL t = whole -> NG t /\ wholeL t = whole /\ ∀ S ng, sgO S ng -> readN (S ++ t) = ((ng, D, E), true) := by
  intro t h1 h2 h3
  refine ⟨h1, h3, fun S ng hS => ?_⟩
  obtain ⟨v, e, hr⟩ := ng_read t h1
  have := hr [] false (.inl ⟨rfl, rfl⟩)
  rw [List.nil_append, h2] at this
  simp only [Prod.mk.injEq] at this
  rw [hr S ng hS]
  rw [<- this.1.2]
 cases whole with
 | true =>
  simp only [if_true] at ht
  unfold wholeS at ht
  split at ht
  ·rename_i hD
   subst ht
   subst hD
   have hE : E = [] := by
    unfold rightN at h
    rw [if_pos rfl] at h
    simpa using h
   subst hE
   exact fin _ ⟨[48], [], [], [], 0, rfl, by decide, by simp, .inl ⟨rfl, rfl, by simp⟩, .inl ⟨rfl, rfl⟩, .inl rfl⟩ (by decide +kernel) rfl
  ·rename_i hD
   split at ht
   ·rename_i hx
    obtain ⟨hx1, hx2, hx3⟩ := hx
    subst ht
    rcases right_ex D E h with ⟨rfl, _⟩ | ⟨m, X, hm, rfl, rfl⟩
    ·exact absurd rfl hD
    ·have hX : (intD (txt X)).1 = X := by
      unfold intD at hx1 ⊢
      split at hx1
      ·rename_i hh; rw [if_pos hh]; exact (val_txt X).1
      ·simp at hx1
     rw [hX] at hx2 hx3 ⊢
     have hW : ∀ c ∈ canon m ++ List.replicate X.toNat 48, dig c = true := fun c hc => (List.mem_append.1 hc).elim (canon_dig m c) (dig_rep _ c)
     have hne : canon m ++ List.replicate X.toNat 48 ≠ [] := by simp [hD]
     refine fin _ ⟨_, [], [], [], 0, by simp, hW, by simp, .inl ⟨rfl, rfl, hne⟩, .inl ⟨rfl, rfl⟩, .inl rfl⟩ ?_ ?_
     ·have h1 := read_form [] false (.inl ⟨rfl, rfl⟩) (canon m ++ List.replicate X.toNat 48) [] [] [] 0 hW (by simp) (.inl ⟨rfl, rfl, hne⟩) (.inl ⟨rfl, rfl⟩)
      simp only [List.nil_append, List.append_nil, List.length_nil] at h1
      rw [h1, dval_zeros, dval_canon, show ((0 : Int) - ((0 : Nat) : Int)) = 0 from rfl, nz_pow, Int.zero_add, show ((X.toNat : Nat) : Int) = X by omega, nz_core m X hm]
     ·unfold wholeL
      rw [List.all_eq_true]
      intro c hc
      have := (dig_pl c (hW c hc))
      have h2 := nDg_dig c (hW c hc)
      rw [nDg_iff] at h2
      have a1 : c ≠ 46 := fun e => by subst e; exact absurd h2.1 (by decide)
      have a2 : c ≠ 101 := fun e => by subst e; exact absurd h2.2 (by decide)
      simp [a1, a2, this.2]
   ·exact absurd ht.symm h0
 | false =>
  simp only [Bool.false_eq_true, if_false] at ht
  subst ht
  by_cases hD : D = []
  ·subst hD
   have hE : E = [] := by
    unfold rightN at h
    rw [if_pos rfl] at h
    simpa using h
   subst hE
   exact fin _ ⟨[], [46, 48], [], [48], 0, rfl, by simp, by decide, .inr ⟨rfl, by simp⟩, .inl ⟨rfl, rfl⟩, .inl rfl⟩ (by decide +kernel) rfl
  ·have hm := short_mem _ (some_ne D E hD h)
   rw [<- short_page D E hD] at hm
   have hpe := (some_pos D E _ hm).1
   unfold someP at hm
   obtain ⟨x, hx, hxe⟩ := List.mem_map.1 hm
   have hx1 := (List.mem_filter.1 hx).1
   obtain ⟨u, hu1, hu⟩ := nf_plain false D E x hx1
   have hu2 : x = u := by rw [hu1]; rfl
   subst hu2
   obtain ⟨c1, c2⟩ := ng_cut x (ng_nf x hu)
   rw [hxe] at c1 c2
   refine fin _ c1 (by rw [c2]; exact plain_back false D E x hx1) ?_
   rw [wholeL_pe _ (fun c hc => (ng_pl _ c1 c hc).2), hpe]; rfl
theorem numS_tk (n : NumV) (whole sign : Bool) (T : List UInt8) (hT : numS n whole sign = T) (h0 : T ≠ []) (hs : ¬ (sign = true /\ n.1 = true)) (R : List Int) (hR : stopN R) :
  (∀ c ∈ T, Pl c) /\ tkC (asI T ++ R) = (if begN R then ({ kind := 12, num := n, flag := whole, sign := sign, unit := encZs (takeN R).1 }, T.length + (takeN R).2)
   else if R.getD 0 (-1) = 37 then ({ kind := 11, num := n, flag := whole, sign := sign }, T.length + 1) else ({ kind := 10, num := n, flag := whole, sign := sign }, T.length)) := by
 unfold numS at hT
 split at hT
 case isFalse => exact absurd hT.symm h0
 rename_i hr
 obtain ⟨t, ht⟩ : ∃ t, (if whole then wholeS n.2.1 n.2.2 else shortS n.2.1 n.2.2) = t := ⟨_, rfl⟩
 rw [ht] at hT
 unfold sgS at hT
 split at hT
 case isTrue => exact absurd hT.symm h0
 rename_i ht0
 obtain ⟨g1, g2, g3⟩ := numS_ng n whole hr t ht ht0
 obtain ⟨ng, D, E⟩ := n
 have key : ∃ S, sgO S ng /\ T = S ++ t /\ (S.head? == some 43) = sign /\ (S = [] -> sign = false) := by
  cases ng with
  | true =>
   simp only [if_true] at hT
   refine ⟨[45], .inr (.inl ⟨rfl, rfl⟩), hT.symm, ?_, by simp⟩
   cases sign with
   | true => exact absurd ⟨rfl, rfl⟩ hs
   | false => rfl
  | false =>
   simp only [Bool.false_eq_true, if_false] at hT
   cases sign with
   | true => exact ⟨[43], .inr (.inr ⟨rfl, rfl⟩), hT.symm, rfl, by simp⟩
   | false => exact ⟨[], .inl ⟨rfl, rfl⟩, hT.symm, rfl, by simp⟩
 obtain ⟨S, hS, rfl, hS2, hS3⟩ := key
 have hS4 : S = [] \/ S = [45] \/ S = [43] := by rcases hS with ⟨h, _⟩ | ⟨h, _⟩ | ⟨h, _⟩ <;> simp [h]
 have hpl : ∀ c ∈ S ++ t, Pl c /\ c ≠ 69 := by
  intro x hx
  rcases List.mem_append.1 hx with hx | hx
  ·rcases hS4 with rfl | rfl | rfl
   ·simp at hx
   ·simp at hx; subst hx; exact ⟨⟨by decide, by decide, by decide, by decide⟩, by decide⟩
   ·simp at hx; subst hx; exact ⟨⟨by decide, by decide, by decide, by decide⟩, by decide⟩
  ·exact ng_pl t g1 x hx
 refine ⟨fun c hc => (hpl c hc).1, ?_⟩
 rw [ng_tk S t hS4 g1 R hR]
 have e1 : (readN (S ++ t)).1 = (ng, D, E) := by rw [g3 S ng hS]
 have e2 : wholeL (S ++ t) = whole := by
  rw [wholeL_pe _ (fun c hc => (hpl c hc).2), <- g2, wholeL_pe t (fun c hc => (ng_pl t g1 c hc).2)]
  unfold hasPE
  rw [List.any_append]
  rcases hS4 with rfl | rfl | rfl <;> rfl
 have e3 : ((S ++ t).head? == some 43) = sign := by
  rcases hS4 with rfl | rfl | rfl
  ·rw [hS3 rfl]
   obtain ⟨a, u, hat, ha⟩ := ng_head t g1
   rw [hat]
   show (some a == some (43 : UInt8)) = false
   have : a ≠ 43 := by
    intro e; subst e
    rcases ha with ha | ha
    ·exact absurd ha (by decide)
    ·exact absurd ha (by decide)
   simp [this]
  ·exact hS2
  ·exact hS2
 have e4 : numT0 (S ++ t) = { kind := 10, num := (ng, D, E), flag := whole, sign := sign } := by
  unfold numT0
  rw [e1, e2, e3]
 rw [e4]
theorem one_tk (X : List UInt8) (c : List Int) (t : CT) (hX : X ≠ []) (hc : (rn X 0).map Prod.fst = c) (ht : tkC c = (t, c.length)) : (tksC (rn X 0)).map Prod.fst = [t] := by
 have e := tks_head X (List.length_pos_iff.2 hX) t c.length (by rw [hc]; exact ht)
 have hl : (rn X 0).length = c.length := by rw [<- hc, List.length_map]
 rw [e, List.drop_eq_nil_of_le (by omega), lexC_nil]; rfl
theorem two_tk (X : List UInt8) (c d : List Int) (t u : CT) (hX : X ≠ []) (hc : (rn X 0).map Prod.fst = c ++ d) (ht : tkC (c ++ d) = (t, c.length)) (hd : d ≠ []) (hu : tkC d = (u, d.length)) : (tksC (rn X 0)).map Prod.fst = [t, u] := by
 have e := tks_head X (List.length_pos_iff.2 hX) t c.length (by rw [hc]; exact ht)
 obtain ⟨L, hL⟩ : ∃ L, rn X 0 = L := ⟨_, rfl⟩
 rw [hL] at hc e ⊢
 have hl : L.length = c.length + d.length := by have := congrArg List.length hc; simpa using this
 have hd0 : 0 < d.length := List.length_pos_iff.2 hd
 have hi := lexC_in L c.length (by omega)
 rw [show L.map Prod.fst = c ++ d from hc, List.drop_left' rfl, hu] at hi
 simp only at hi
 rw [List.drop_eq_nil_of_le (show L.length <= c.length + d.length by omega), lexC_nil] at hi
 rw [e, hi]; rfl
theorem clean_at (l : List UInt8) (hz : ∀ x ∈ l, x ≠ 0) (f : Nat) : ∀ p, l.length <= p + f -> (valid f l p).2 = true -> encZs (pn l p) = l.drop p := by
 induction f with
 | zero => intro p hp _; rw [pn_out l p (by omega), List.drop_eq_nil_of_le (by omega)]; rfl
 | succ f ih =>
  intro p hp h
  by_cases hl : l.length <= p
  ·rw [pn_out l p hl, List.drop_eq_nil_of_le hl]; rfl
  ·unfold valid at h
   rw [if_neg hl] at h
   split at h
   case isFalse => simp at h
   rename_i hn
   rw [nx_ok] at hn
   have h0 : 0 < (l.drop p).length := by rw [List.length_drop]; omega
   have hi := dec_inv (l.drop p) h0 hn
   have hd0 : (dec (l.drop p)).1 ≠ 0 := by
    intro e
    have := dec_low (l.drop p) (by omega)
    rw [e] at this
    have hb := this.2
    unfold byte at hb
    have hg : (l.drop p).getD 0 0 = l[p] := by simp [List.getD, show p < l.length by omega]
    rw [hg] at hb
    exact hz l[p] (List.getElem_mem _) (UInt8.toNat_inj.1 (by rw [<- hb]; rfl))
   have hw : 1 <= (dec (l.drop p)).2 := by
    have h2 := dec_width (l.drop p)
    omega
   rw [pn_in l p (by omega), encZs_cons, ih _ (by omega) h]
   have hp2 : ptv (l.drop p) = ((dec (l.drop p)).1 : Int) := by unfold ptv; rw [if_neg hd0]
   rw [hp2]
   conv => rhs; rw [hi]
   rw [List.drop_drop]
theorem clean_self (s : List UInt8) (h : cleanS s = true) : encZs (pn s 0) = s := by
 unfold cleanS at h
 simp only [Bool.and_eq_true, Bool.not_eq_true'] at h
 have hz : ∀ x ∈ s, x ≠ 0 := by
  intro x hx e
  subst e
  have := h.2
  simp only [List.contains_eq_any_beq, List.any_eq_false] at this
  have := this 0 hx
  simp at this
 exact clean_at s hz s.length 0 (by omega) h.1
theorem pn_okP (s : List UInt8) : ∀ r ∈ pn s 0, okP r := pn_ok s s.length 0 (by omega)
theorem pn_ne (s : List UInt8) (h : s ≠ []) : pn s 0 ≠ [] := by
 rw [pn_in s 0 (List.length_pos_iff.2 h)]; simp
theorem begN_head (c : List Int) (h : begN c = true) : ∃ r t, c = r :: t /\ (nSt r = true \/ r = 92 \/ (r = 45 /\ (nSt (t.getD 0 (-1)) = true \/ t.getD 0 (-1) = 45 \/ t.getD 0 (-1) = 92))) := by
 cases c with
 | nil => simp [begN] at h
 | cons r t =>
  refine ⟨r, t, rfl, ?_⟩
  simp only [begN] at h
  by_cases h45 : r = 45
  ·rw [if_pos h45] at h
   simp only [Bool.or_eq_true, decide_eq_true_eq] at h
   rcases h with (h | h) | h
   ·exact .inr (.inr ⟨h45, .inl h⟩)
   ·exact .inr (.inr ⟨h45, .inr (.inl h)⟩)
   ·cases t with
    | nil => simp [esB] at h
    | cons x u =>
     simp only [esB, Bool.and_eq_true, decide_eq_true_eq] at h
     exact .inr (.inr ⟨h45, .inr (.inr h.1)⟩)
  ·rw [if_neg h45] at h
   simp only [Bool.or_eq_true] at h
   rcases h with h | h
   ·exact .inl h
   ·simp only [esB, Bool.and_eq_true, decide_eq_true_eq] at h
    exact .inr (.inl h.1)
theorem nSt_far (x : Int) (h : nSt x = true) : nDg x = false /\ x ≠ 43 /\ x ≠ 45 /\ x ≠ 46 /\ x ≠ 47 /\ x ≠ 60 /\ x ≠ 32 /\ x ≠ 9 /\ x ≠ 10 /\ x ≠ 34 /\ x ≠ 39 /\ x ≠ 35 := by
 rw [nSt_iff] at h; rw [nDg_not]; omega
theorem numB_name (c : List Int) (h : begN c = true) : numB c = false := by
 obtain ⟨r, t, rfl, h3⟩ := begN_head c h
 clear h
 unfold numB sgN fracB
 simp only [List.getD_cons_zero]
 rcases h3 with h | rfl | ⟨rfl, h⟩
 ·obtain ⟨a, b, c, d, _⟩ := nSt_far r h
  rw [if_neg (by omega)]; simp [a, d]
 ·simp [nDg]
 ·rw [if_pos (.inr rfl)]
  obtain ⟨y, hy⟩ : ∃ y, t.getD 0 (-1) = y := ⟨_, rfl⟩
  have e1 : ((45 : Int) :: t).getD 1 (-1) = y := by rw [<- hy]; simp [List.getD]
  have e2 : (((45 : Int) :: t).drop 1).getD 0 (-1) = y := by rw [<- hy]; rfl
  rw [e1, e2]
  rw [hy] at h
  have h3 : nDg y = false /\ y ≠ 46 := by
   rcases h with h | rfl | rfl
   ·exact ⟨(nSt_far y h).1, (nSt_far y h).2.2.2.1⟩
   ·exact ⟨rfl, by decide⟩
   ·exact ⟨rfl, by decide⟩
  rw [h3.1]; simp [h3.2]
theorem stC_no (a : Int) (s : List Int) (r : Int) (t : List Int) (h : a ≠ r) : stC (a :: s) (r :: t) = false := by simp [stC, List.isPrefixOf, h]
theorem way_name (c : List Int) (h : begN c = true) (h2 : stC [45, 45, 62] c = false) : wayT c = 8 := by
 have hn := numB_name c h
 obtain ⟨r, t, rfl, h3⟩ := begN_head c h
 have h4 : r ≠ 47 /\ r ≠ 60 /\ r ≠ 32 /\ r ≠ 9 /\ r ≠ 10 /\ r ≠ 34 /\ r ≠ 39 /\ r ≠ 35 := by
  rcases h3 with h | rfl | ⟨rfl, _⟩
  ·have := nSt_far r h; omega
  ·decide
  ·decide
 have hb : isBl r = false := by rw [isBl_not]; omega
 unfold wayT
 rw [stC_no 47 _ r t (by omega), List.getD_cons_zero, hb, if_neg (by simp), if_neg (by simp), if_neg (by omega), if_neg (by intro hh; exact h4.2.2.2.2.2.2.2 hh.1), hn, if_neg (by simp), h2, if_neg (by simp), stC_no 60 _ r t (by omega), if_neg (by simp), if_pos h]
theorem no_cdc (ps : List Int) (hok : ∀ r ∈ ps, okP r) (R : List Int) (h1 : takeN R = ([], 0)) (h2 : R.getD 0 (-1) ≠ 62) : stC [45, 45, 62] (spF ps ++ R) = false := by
 cases h : stC [45, 45, 62] (spF ps ++ R) with
 | false => rfl
 | true =>
  obtain ⟨t, ht⟩ := (stC_iff _ _).1 h
  have ht2 : spF ps ++ R = 45 :: 45 :: 62 :: t := ht
  have a := takeN_spF ps hok R
  rw [h1, ht2, takeN_in _ _ (by decide), takeN_in _ _ (by decide), takeN_out 62 t (by simp [esB]) (by decide)] at a
  simp only [Prod.mk.injEq] at a
  have hl : (spF ps).length = 2 := by omega
  have hd := congrArg (List.drop 2) ht2
  rw [List.drop_left' hl] at hd
  rw [hd] at h2
  exact absurd rfl h2
theorem ident_tk (ps : List Int) (hok : ∀ r ∈ ps, okP r) (h0 : ps ≠ []) : tkC (spF ps) = ({ kind := 1, text := encZs ps }, (spF ps).length) := by
 have hb := begN_spF ps hok h0 []
 have hn := no_cdc ps hok [] takeN_nil (by decide)
 have ht := takeN_spF ps hok []
 rw [takeN_nil] at ht
 simp only [List.append_nil, Nat.add_zero] at hb hn ht
 unfold tkC
 rw [way_name _ hb hn]
 show namT _ = _
 unfold namT
 rw [ht, if_neg]
 simp [List.getD]
theorem takeN_par (R : List Int) : takeN (40 :: R) = ([], 0) := takeN_out 40 R (by simp [esB]) (by decide)
theorem func_tk (ps : List Int) (hok : ∀ r ∈ ps, okP r) (h0 : ps ≠ []) (R : List Int) (hu : lowL (encZs ps) = [117, 114, 108] -> ∃ T, R = 34 :: T) :
  tkC (spF ps ++ 40 :: R) = ({ kind := 2, text := encZs ps }, (spF ps ++ [40]).length) := by
 have hb := begN_spF ps hok h0 (40 :: R)
 have hn := no_cdc ps hok (40 :: R) (takeN_par R) (by simp)
 have ht := takeN_spF ps hok (40 :: R)
 rw [takeN_par] at ht
 simp only [List.append_nil, Nat.add_zero] at ht
 unfold tkC
 rw [way_name _ hb hn]
 show namT _ = _
 have hg : (spF ps ++ 40 :: R).getD (spF ps).length (-1) = 40 := by simp [List.getD]
 unfold namT
 rw [ht, if_pos hg, if_neg]
 ·simp
 ·rintro ⟨h1, h2, _⟩
  obtain ⟨T, rfl⟩ := hu h1
  apply h2
  have hd : (spF ps ++ 40 :: 34 :: T).drop ((spF ps).length + 1) = 34 :: T := by
   rw [<- List.drop_drop, List.drop_left' rfl]; rfl
  have hnE : nameE (spF ps ++ 40 :: 34 :: T) = (spF ps).length + 1 := by
   unfold nameE
   rw [ht]
   simp only
   rw [hd, blN_cons, if_neg (by decide)]
  rw [hnE]
  have := drop_getD (spF ps ++ 40 :: 34 :: T) ((spF ps).length + 1) 0 (-1)
  rw [hd, Nat.add_zero] at this
  rw [<- this]; rfl
theorem at_tk (ps : List Int) (hok : ∀ r ∈ ps, okP r) (h0 : ps ≠ []) : tkC (64 :: spF ps) = ({ kind := 3, text := encZs ps }, (64 :: spF ps).length) := by
 have hb := begN_spF ps hok h0 []
 have ht := takeN_spF ps hok []
 rw [takeN_nil] at ht
 simp only [List.append_nil, Nat.add_zero] at hb ht
 have hw : wayT (64 :: spF ps) = 9 := by
  unfold wayT
  rw [stC_no 47 _ 64 _ (by decide), if_neg (by simp), List.getD_cons_zero, if_neg (by decide), if_neg (by decide), if_neg (by simp), if_neg (by simp [numB, sgN, nDg, fracB]), stC_no 45 _ 64 _ (by decide), if_neg (by simp), stC_no 60 _ 64 _ (by decide), if_neg (by simp), if_neg (by simp [begN, esB, nSt]), if_pos ⟨rfl, hb⟩]
 unfold tkC
 rw [hw]
 show (({ kind := 3, text := encZs (takeN ((64 :: spF ps).drop 1)).1 } : CT), 1 + (takeN ((64 :: spF ps).drop 1)).2) = _
 rw [List.drop_succ_cons, List.drop_zero, ht]
 simp; omega
theorem text_tk (q : Int) (hq : Mk q) (ps : List Int) : tkC (qF q ps) = ({ kind := 5, text := encZs ps }, (qF q ps).length) := by
 have hs := strT_qB q hq ps q [] (.inl hq)
 rw [strT_end] at hs
 simp only [List.append_nil] at hs
 have hc : qF q ps = q :: (qB q ps ++ [q]) := by simp [qF]
 rw [hc]
 unfold tkC
 rw [mk_way q hq]
 show txtT _ = _
 unfold txtT
 simp only [List.getD_cons_zero, List.drop_succ_cons, List.drop_zero]
 rw [hs]
 simp; omega
theorem qF_okr (q : Int) (hq : Mk q) (ps : List Int) (hp : ∀ r ∈ ps, okP r) : ∀ r ∈ qF q ps, Okr r := by
 intro r hr
 simp only [qF, List.mem_append, List.mem_cons, List.mem_nil_iff, or_false] at hr
 rcases hr with (rfl | hr) | rfl
 ·exact mk_okr _ hq
 ·exact qB_okr q hq ps hp r hr
 ·exact mk_okr _ hq
def urlP (r : Int) : List Int := if r = 34 \/ r = 39 \/ r = 40 \/ r = 41 \/ r = 92 \/ r = 32 then [92, r] else if r < 32 \/ r = 127 then numN r else [r]
theorem urlP_okr (r : Int) (h : okP r) : ∀ c ∈ urlP r, Okr c := by
 obtain ⟨hc, h1⟩ := h
 unfold urlP
 split
 ·rename_i hs
  intro c hm
  simp only [List.mem_cons, List.mem_nil_iff, or_false] at hm
  rcases hm with rfl | rfl
  ·decide
  ·exact ⟨hc, by omega, by omega, by omega⟩
 ·split
  ·rename_i hs
   exact numN_okr r (by omega) (by omega)
  ·rename_i hs
   intro c hm
   simp only [List.mem_singleton] at hm
   subst hm
   exact ⟨hc, by omega, by omega, by omega⟩
theorem urlT_P (r : Int) (h : okP r) (t : List Int) : urlT false false (urlP r ++ t) = ((urlT false false t).1, r :: (urlT false false t).2.1, (urlP r).length + (urlT false false t).2.2) := by
 obtain ⟨hc, h1⟩ := h
 unfold urlP
 split
 ·rename_i hs
  have hx : isX r = false := by rw [isX_not]; omega
  have he : esB (92 :: r :: t) = true := by simp [esB]; omega
  have hv : escV (r :: t) = (r, 1) := by simp [escV, hx]
  show urlT false false (92 :: r :: t) = _
  rw [urlT, if_neg (by decide), if_pos he, hv]
  simp <;> omega
 ·rename_i hs
  split
  ·rename_i h2
   have he := esB_num r (by omega) (by omega) t
   have e : numN r ++ t = 92 :: (hexd r ++ 32 :: t) := by simp [numN]
   rw [e] at he ⊢
   rw [urlT, if_neg (by decide), if_pos he, escV_num r h1 (by omega)]
   have hd : (hexd r ++ 32 :: t).drop ((hexd r).length + 1) = t := by
    rw [show hexd r ++ 32 :: t = (hexd r ++ [32]) ++ t by simp]
    exact List.drop_left' (by simp)
   simp only [hd]
   simp [numN]; omega
  ·rename_i h2
   have he : esB (r :: t) = false := by simp [esB]; omega
   have hb : isBl r = false := by rw [isBl_not]; omega
   have hu : inU r = true := by
    unfold inU
    simp only [Bool.and_eq_true, Bool.not_eq_true', Bool.or_eq_false_iff, decide_eq_false_iff_not, decide_eq_true_eq, Bool.or_eq_true]
    omega
   show urlT false false (r :: t) = _
   rw [urlT, if_neg (by omega), if_neg (by rw [he]; simp), if_neg (by rw [hb]; simp), hu]
   simp
theorem urlT_all (ps : List Int) (h : ∀ r ∈ ps, okP r) : urlT false false (ps.flatMap urlP ++ [41]) = (false, ps, (ps.flatMap urlP ++ [41]).length) := by
 induction ps with
 | nil => rw [List.flatMap_nil, List.nil_append, urlT_close]; rfl
 | cons a t ih =>
  rw [List.flatMap_cons, List.append_assoc, urlT_P a (h a (by simp)), ih (fun r hr => h r (by simp [hr]))]
  simp <;> omega
theorem urlP_head (ps : List Int) (h : ∀ r ∈ ps, okP r) : ∃ a u, ps.flatMap urlP ++ [41] = a :: u /\ isBl a = false /\ a ≠ 34 /\ a ≠ 39 := by
 cases ps with
 | nil => exact ⟨41, [], rfl, by decide, by decide, by decide⟩
 | cons r t =>
  have h1 := (h r (by simp)).2
  rw [List.flatMap_cons, List.append_assoc]
  unfold urlP
  split
  ·exact ⟨92, _, rfl, by decide, by decide, by decide⟩
  ·rename_i hs
   split
   ·exact ⟨92, _, rfl, by decide, by decide, by decide⟩
   ·rename_i h2
    exact ⟨r, _, rfl, by rw [isBl_not]; omega, by omega, by omega⟩
theorem url_tk (ps : List Int) (h : ∀ r ∈ ps, okP r) : tkC (nmI false ++ 40 :: (ps.flatMap urlP ++ [41])) = ({ kind := 7, text := encZs ps }, (nmI false ++ 40 :: (ps.flatMap urlP ++ [41])).length) := by
 have h1 := urlT_all ps h
 obtain ⟨a, u, hau, hb, h34, h39⟩ := urlP_head ps h
 obtain ⟨Q, hQ⟩ : ∃ Q, ps.flatMap urlP ++ [41] = Q := ⟨_, rfl⟩
 rw [hQ] at h1 hau ⊢
 unfold tkC
 rw [nm_way]
 show namT _ = _
 have ht := nm_take false Q
 have hnE : nameE (nmI false ++ 40 :: Q) = 4 := by
  unfold nameE
  rw [ht]
  show 3 + 1 + blN Q = 4
  rw [hau, blN_cons, if_neg (by rw [hb]; simp)]
 have hg : (nmI false ++ 40 :: Q).getD 4 (-1) = a := by rw [hau]; rfl
 unfold namT
 rw [ht, if_pos (by rfl), hnE, hg, if_pos ⟨by decide +kernel, h34, h39⟩]
 unfold urlK
 have hd : (nmI false ++ 40 :: Q).drop 4 = Q := rfl
 rw [hd, h1]
 simp [nmI]; omega
theorem urlB_P (r : Int) (h : okP r) : (enc r).flatMap urlB = encZs (urlP r) := by
 obtain ⟨hc, h1⟩ := h
 by_cases ha : r < 128
 ·have e := enc_ascii r (by omega) ha
  have hn : r.toNat.toUInt8.toNat = r.toNat := by simp [Nat.toUInt8, UInt8.toNat_ofNat']; omega
  obtain ⟨c, hcc⟩ : ∃ c, r.toNat.toUInt8 = c := ⟨_, rfl⟩
  rw [hcc] at e hn
  have hr : r = (c.toNat : Int) := by omega
  have e3 : encZs [92] = [92] := by decide +kernel
  rw [e, List.flatMap_cons, List.flatMap_nil, List.append_nil]
  unfold urlB urlP
  have hi : (c = 34 \/ c = 39 \/ c = 40 \/ c = 41 \/ c = 92 \/ c = 32) ↔ (r = 34 \/ r = 39 \/ r = 40 \/ r = 41 \/ r = 92 \/ r = 32) := by
   have hh : ∀ k : UInt8, c = k ↔ r = (k.toNat : Int) := fun k => by
    rw [hr]
    constructor
    ·intro e; rw [e]
    ·intro e; exact UInt8.toNat_inj.1 (by omega)
   rw [hh 34, hh 39, hh 40, hh 41, hh 92, hh 32]; rfl
  have hj : (c.toNat < 32 \/ c = 127) ↔ (r < 32 \/ r = 127) := by
   have hh : c = 127 ↔ r = 127 := by
    rw [hr]
    constructor
    ·intro e; rw [e]; rfl
    ·intro e; exact UInt8.toNat_inj.1 (by have : (127 : UInt8).toNat = 127 := rfl; omega)
   rw [hh, hr]
   omega
  by_cases h2 : r = 34 \/ r = 39 \/ r = 40 \/ r = 41 \/ r = 92 \/ r = 32
  ·rw [if_pos (hi.2 h2), if_pos h2, encZs_cons, encZs_cons, encZs_nil, List.append_nil, e]
   have : enc 92 = [92] := by decide +kernel
   rw [this]; rfl
  ·rw [if_neg (fun h => h2 (hi.1 h)), if_neg h2]
   by_cases h3 : r < 32 \/ r = 127
   ·rw [if_pos (hj.2 h3), if_pos h3, hr]
   ·rw [if_neg (fun h => h3 (hj.1 h)), if_neg h3, encZs_cons, encZs_nil, List.append_nil, e]
 ·have hb := enc_big r hc (by omega)
  have hP : urlP r = [r] := by unfold urlP; rw [if_neg (by omega), if_neg (by omega)]
  rw [hP, encZs_cons, encZs_nil, List.append_nil]
  have key : ∀ L : List UInt8, (∀ c ∈ L, 128 <= c.toNat) -> L.flatMap urlB = L := by
   intro L
   induction L with
   | nil => intro _; rfl
   | cons a t ih =>
    intro hL
    have ha2 := hL a (by simp)
    have hne : ∀ k : UInt8, k.toNat < 128 -> a ≠ k := fun k hk e => by rw [e] at ha2; omega
    rw [List.flatMap_cons, ih (fun c hc => hL c (by simp [hc]))]
    unfold urlB
    rw [if_neg (by rintro (h | h | h | h | h | h) <;> exact hne _ (by decide) h), if_neg (by rintro (h | h); omega; exact hne _ (by decide) h)]; rfl
  exact key _ hb
theorem urlS_P (ps : List Int) (h : ∀ r ∈ ps, okP r) : (encZs ps).flatMap urlB = encZs (ps.flatMap urlP) := by
 induction ps with
 | nil => rfl
 | cons a t ih => rw [encZs_cons, List.flatMap_append, urlB_P a (h a (by simp)), ih (fun r hr => h r (by simp [hr])), List.flatMap_cons, encZs_append]
theorem urlS_enc (s : List UInt8) (h : cleanS s = true) : urlS s = encZs (nmI false ++ 40 :: ((pn s 0).flatMap urlP ++ [41])) := by
 have e1 := urlS_P (pn s 0) (pn_okP s)
 rw [clean_self s h] at e1
 unfold urlS
 rw [e1, encZs_append, encZs_cons, encZs_append]
 have a1 : encZs (nmI false) = [117, 114, 108] := by decide +kernel
 have a2 : enc 40 = [40] := by decide +kernel
 have a3 : encZs [41] = [41] := by decide +kernel
 rw [a1, a2, a3]; rfl
theorem url_okr (ps : List Int) (h : ∀ r ∈ ps, okP r) : ∀ c ∈ nmI false ++ 40 :: (ps.flatMap urlP ++ [41]), Okr c := by
 intro c hc
 rcases List.mem_append.1 hc with hc | hc
 ·have : ∀ c ∈ nmI false, Okr c := by decide +kernel
  exact this c hc
 ·rcases List.mem_cons.1 hc with rfl | hc
  ·decide
  ·rcases List.mem_append.1 hc with hc | hc
   ·obtain ⟨r, hr, hm⟩ := List.mem_flatMap.1 hc
    exact urlP_okr r (h r hr) c hm
   ·simp at hc; subst hc; decide
theorem encZs_ne (c : List Int) (h : c ≠ []) : encZs c ≠ [] := by
 have := (encZs_len c).1
 intro e
 rw [e] at this
 exact h (List.length_eq_zero_iff.1 (by simpa using this))
theorem spF_ne (ps : List Int) (hok : ∀ r ∈ ps, okP r) (h0 : ps ≠ []) : spF ps ≠ [] := by
 intro e
 have := begN_spF ps hok h0 []
 rw [e] at this
 simp [begN] at this
theorem reads_iff (s : List UInt8) (l : List CT) : readsT s l = true ↔ (tksC (rn (s ++ tailS l) 0)).map Prod.fst = l ++ tailT l := by unfold readsT; exact decide_eq_true_iff
theorem tail_no (t : CT) (h1 : lineT t = false) (h2 : urlF t = false) : tailS [t] = [] /\ tailT [t] = [] := by simp [tailS, tailT, h1, h2]
theorem back_no (t : CT) (h1 : lineT t = false) (h2 : urlF t = false) (h : (tksC (rn (spellT t) 0)).map Prod.fst = [t]) : backT t = true := by
 unfold backT
 rw [reads_iff, (tail_no t h1 h2).1, (tail_no t h1 h2).2, List.append_nil, List.append_nil]; exact h
theorem sign_tks : ∀ k : Fin 11, (tksC (rn (sigS (14 + k.val)) 0)).map Prod.fst = [{ kind := 14 + k.val }] := by decide +kernel
theorem str_tk : tkC [34, 34] = ({ kind := 5 }, 2) := by decide +kernel
theorem right_back (t : CT) (h : rightT t = true) : backT t = true := by
 unfold rightT at h
 simp only [Bool.and_eq_true, decide_eq_true_eq] at h
 obtain ⟨⟨⟨hc1, hc2⟩, ho⟩, hk⟩ := h
 obtain ⟨k, text, unit, num, flag, sign⟩ := t
 simp only at hc1 hc2 ho
 have hok := pn_okP text
 have hcl := clean_self text hc1
 unfold rightK at hk
 simp only at hk
 split at hk
 ·-- names
  rename_i h123
  simp only [decide_eq_true_eq] at hk
  have hne := pn_ne text hk
  have hokr := spF_okr (pn text 0) hok
  have hone : ({ kind := k, text := text, unit := unit, num := num, flag := flag, sign := sign } : CT) = { kind := k, text := text } := by
   rw [ho]
   unfold onlyT
   rcases h123 with rfl | rfl | rfl <;> rfl
  rw [hone]
  rcases h123 with rfl | rfl | rfl
  ·refine back_no _ rfl rfl ?_
   show (tksC (rn (encZs (spF (pn text 0))) 0)).map Prod.fst = _
   refine one_tk _ _ _ (encZs_ne _ (spF_ne _ hok hne)) (rn_encZs _ hokr) ?_
   rw [ident_tk _ hok hne, hcl]
  ·have hS : spellT { kind := 2, text := text } = encZs (spF (pn text 0) ++ [40]) := by
    rw [encZs_append]; rfl
   have hokr2 : ∀ c ∈ spF (pn text 0) ++ [40], Okr c := by
    intro c hc
    rcases List.mem_append.1 hc with hc | hc
    ·exact hokr c hc
    ·simp at hc; subst hc; decide
   unfold backT
   rw [reads_iff, hS]
   by_cases hu : lowL text = [117, 114, 108]
   ·have a1 : tailS [{ kind := 2, text := text }] = encZs [34, 34] := by simp [tailS, lineT, urlF, hu]; decide +kernel
    have a2 : tailT [{ kind := 2, text := text }] = [{ kind := 5 }] := by simp [tailT, lineT, urlF, hu]
    rw [a1, a2, <- encZs_append]
    refine two_tk _ (spF (pn text 0) ++ [40]) [34, 34] _ _ (encZs_ne _ (by simp)) (rn_encZs _ ?_) ?_ (by simp) str_tk
    ·intro c hc
     rcases List.mem_append.1 hc with hc | hc
     ·exact hokr2 c hc
     ·simp at hc; subst hc; decide
    ·rw [List.append_assoc]
     have := func_tk (pn text 0) hok hne [34, 34] (fun _ => ⟨_, rfl⟩)
     rw [hcl] at this
     exact this
   ·have a1 : tailS [{ kind := 2, text := text }] = [] := by simp [tailS, lineT, urlF, hu]
    have a2 : tailT [{ kind := 2, text := text }] = [] := by simp [tailT, lineT, urlF, hu]
    rw [a1, a2, List.append_nil, List.append_nil]
    refine one_tk _ _ _ (encZs_ne _ (by simp)) (rn_encZs _ hokr2) ?_
    have := func_tk (pn text 0) hok hne [] (by rw [hcl]; intro e; exact absurd e hu)
    rw [hcl] at this
    exact this
  ·refine back_no _ rfl rfl ?_
   have hS : spellT { kind := 3, text := text } = encZs (64 :: spF (pn text 0)) := by
    rw [encZs_cons, show enc 64 = [64] by decide +kernel]; rfl
   rw [hS]
   refine one_tk _ _ _ (encZs_ne _ (by simp)) (rn_encZs _ ?_) ?_
   ·intro c hc
    rcases List.mem_cons.1 hc with rfl | hc
    ·decide
    ·exact hokr c hc
   ·rw [at_tk _ hok hne, hcl]
 ·rename_i h123
  split at hk
  ·simp only [Bool.and_eq_true] at hk; exact hk.2
  ·rename_i h4
   have hnum : ∀ t : CT, numOk t = true -> backT t = true := by
    intro t ht
    unfold numOk at ht
    simp only [Bool.and_eq_true] at ht
    exact ht.2
   split at hk
   ·exact hnum _ hk
   ·rename_i h10
    split at hk
    ·simp only [Bool.and_eq_true] at hk; exact hnum _ hk.2
    ·rename_i h12
     have hone : ({ kind := k, text := text, unit := unit, num := num, flag := flag, sign := sign } : CT) = { kind := k, text := if sigS k = [] then text else [] } := by
      conv => lhs; rw [ho]
      unfold onlyT
      rw [if_neg (by unfold isNum; intro hh; simp only at hh; rcases hh with hh | hh | hh; exact h10 (.inl hh); exact h10 (.inr hh); exact h12 hh)]
      simp only
      rw [if_neg h4]
     split at hk
     ·rename_i h13
      subst h13
      rw [hone]
      simp only [Bool.or_eq_true, decide_eq_true_eq] at hk
      rcases hk with rfl | rfl
      ·decide +kernel
      ·decide +kernel
     ·split at hk
      ·exact hk
      ·rename_i h6
       split at hk
       ·rename_i h57
        have hs0 : sigS k = [] := by rcases h57 with rfl | rfl <;> rfl
        rw [hone, hs0]
        simp only [if_true]
        rcases h57 with rfl | rfl
        ·refine back_no _ rfl rfl ?_
         show (tksC (rn (qText (pn text 0)) 0)).map Prod.fst = _
         unfold qText
         have fin : ∀ q, Mk q -> (tksC (rn (encZs (qF q (pn text 0))) 0)).map Prod.fst = [{ kind := 5, text := text }] := by
          intro q hq
          refine one_tk _ _ _ (encZs_ne _ (by simp [qF])) (rn_encZs _ (qF_okr q hq _ hok)) ?_
          rw [text_tk q hq, hcl]
         split
         ·exact fin 39 (.inr rfl)
         ·exact fin 34 (.inl rfl)
        ·refine back_no _ rfl rfl ?_
         show (tksC (rn (urlS text) 0)).map Prod.fst = _
         rw [urlS_enc text hc1]
         refine one_tk _ _ _ (encZs_ne _ (by simp [nmI])) (rn_encZs _ (url_okr _ hok)) ?_
         rw [url_tk _ hok, hcl]
       ·rename_i h57
        simp only [decide_eq_true_eq] at hk
        rw [hone, if_neg hk]
        have hkk : ∃ j : Fin 11, k = 14 + j.val := by
         have : 14 <= k /\ k <= 24 := by
          apply Classical.byContradiction
          intro hh
          apply hk
          unfold sigS
          repeat rw [if_neg (by omega)]
         exact ⟨⟨(k - 14).toNat, by omega⟩, by simp; omega⟩
        obtain ⟨j, rfl⟩ := hkk
        have hj := sign_tks j
        have hb : ∀ j : Fin 11, lineT { kind := 14 + j.val } = false /\ urlF { kind := 14 + j.val } = false /\ spellT { kind := 14 + j.val } = sigS (14 + j.val) := by decide +kernel
        obtain ⟨b1, b2, b3⟩ := hb j
        exact back_no _ b1 b2 (by rw [b3]; exact hj)
def unitR (u : List UInt8) : List Int := if e3 u then numN (byte u 0) ++ spR (pn (u.drop 1) 0) else spF (pn u 0)
theorem unitR_enc (u : List UInt8) : encZs (unitR u) = unitS u := by unfold unitR unitS; split <;> simp [encZs_append]
theorem sp_first (b : Int) (h : okP b) (t : List Int) : (sp b ++ t).getD 0 (-1) = 92 \/ ((sp b ++ t).getD 0 (-1) = b /\ nIn b = true /\ sp b = [b]) := by
 have h1 := h.2
 unfold sp
 split
 ·exact .inl rfl
 ·split
  ·rename_i hi; exact .inr ⟨rfl, hi, rfl⟩
  ·exact .inl rfl
theorem e3_parts (u : List UInt8) (h : e3 u = true) : ∃ c t, u = c :: t /\ (c = 101 \/ c = 69) := by
 unfold e3 at h
 simp only [Bool.and_eq_true, Bool.or_eq_true, decide_eq_true_eq] at h
 cases u with
 | nil => simp at h
 | cons c t => exact ⟨c, t, rfl, h.1⟩
theorem u8_int (c : UInt8) (k : UInt8) (h : (c.toNat : Int) = (k.toNat : Int)) : c = k := UInt8.toNat_inj.1 (by omega)
theorem spR_first (t : List UInt8) : (spR (pn t 0)).getD 0 (-1) = 92 \/ (t = [] /\ spR (pn t 0) = []) \/ ∃ c v, t = c :: v /\ ((128 <= (spR (pn t 0)).getD 0 (-1)) \/ ((spR (pn t 0)).getD 0 (-1) = (c.toNat : Int) /\ spR (pn t 0) = (c.toNat : Int) :: spR (pn v 0))) := by
 cases t with
 | nil => exact .inr (.inl ⟨rfl, by rw [pn_out [] 0 (by simp)]; rfl⟩)
 | cons c v =>
  have hok := pn_okP (c :: v)
  obtain ⟨a, w, hp⟩ : ∃ a w, pn (c :: v) 0 = a :: w := ⟨_, _, pn_in (c :: v) 0 (by simp)⟩
  rw [hp] at hok ⊢
  have he : spR (a :: w) = sp a ++ spR w := by simp [spR]
  rw [he]
  rcases sp_first a (hok a (by simp)) (spR w) with h | ⟨h, hi, hs⟩
  ·exact .inl h
  ·by_cases ha : a < 128
   ·obtain ⟨e1, e2⟩ := pn_head c v a w hp ha
    refine .inr (.inr ⟨c, v, rfl, .inr ⟨by rw [h, e1], ?_⟩⟩)
    rw [hs, e1, e2]; rfl
   ·exact .inr (.inr ⟨c, v, rfl, .inl (by rw [h]; omega)⟩)
theorem dig_nDg (c : UInt8) (h : nDg (c.toNat : Int) = true) : dig c = true := by
 rw [nDg_iff] at h
 unfold dig
 simp; omega
theorem unit_stop (u : List UInt8) (h0 : u ≠ []) : begN (unitR u) = true /\ stopN (unitR u) := by
 have hok := pn_okP u
 unfold unitR
 split
 ·rename_i h3
  obtain ⟨c, t, rfl, hc⟩ := e3_parts u h3
  have hb : (byte (c :: t) 0 : Int) = (c.toNat : Int) := by rw [byte0]
  have hr : 0 <= (c.toNat : Int) /\ (c.toNat : Int) < 256 := by have := c.toNat_lt; omega
  rw [hb]
  exact ⟨begN_num _ hr.1 hr.2 _, rfl, by show (92 : Int) ≠ 46; decide, rfl⟩
 ·rename_i h3
  have hne := pn_ne u h0
  have hb := begN_spF (pn u 0) hok hne []
  rw [List.append_nil] at hb
  refine ⟨hb, ?_⟩
  have hn := numB_name _ hb
  obtain ⟨r, t, hrt, hc⟩ := begN_head _ hb
  have hr1 : nDg r = false /\ r ≠ 46 := by
   rcases hc with h | rfl | ⟨rfl, _⟩
   ·exact ⟨(nSt_far r h).1, (nSt_far r h).2.2.2.1⟩
   ·exact ⟨rfl, by decide⟩
   ·exact ⟨rfl, by decide⟩
  refine ⟨by rw [hrt]; exact hr1.1, by rw [hrt]; exact hr1.2, ?_⟩
  cases hx : expB (spF (pn u 0)) with
  | false => rfl
  | true =>
   exfalso
   unfold expB at hx
   simp only [Bool.and_eq_true, Bool.or_eq_true, decide_eq_true_eq] at hx
   obtain ⟨hx1, hx2⟩ := hx
   obtain ⟨a, w, hp⟩ : ∃ a w, pn u 0 = a :: w := by
    cases hh : pn u 0 with
    | nil => exact absurd hh hne
    | cons a w => exact ⟨a, w, rfl⟩
   have hoka := hok a (by rw [hp]; simp)
   have ha : a = 101 \/ a = 69 := by
    rw [hp, spF_cons] at hx1
    split at hx1
    ·rename_i hd
     have : (numN a ++ spR w).getD 0 (-1) = 92 := rfl
     rw [this] at hx1; omega
    ·split at hx1
     ·rename_i h45
      subst h45
      cases w with
      | nil => simp at hx1
      | cons b v =>
       simp only at hx1
       split at hx1 <;> simp at hx1
     ·have he : spR (a :: w) = sp a ++ spR w := by simp [spR]
      rw [he] at hx1
      rcases sp_first a hoka (spR w) with h | ⟨h, _, _⟩
      ·rw [h] at hx1; omega
      ·rw [h] at hx1; exact hx1
   cases u with
   | nil => exact absurd rfl h0
   | cons c t =>
    obtain ⟨e1, e2⟩ := pn_head c t a w hp (by omega)
    have hcc : c = 101 \/ c = 69 := by
     rcases ha with ha | ha
     ·exact .inl (u8_int c 101 (by rw [<- e1, ha]; rfl))
     ·exact .inr (u8_int c 69 (by rw [<- e1, ha]; rfl))
    have hsp : spF (pn (c :: t) 0) = a :: spR (pn t 0) := by
     rw [hp, spF_cons, if_neg (by rw [nDg_iff]; omega), if_neg (by omega), e2]
     have hs : sp a = [a] := by
      unfold sp
      rw [if_neg (by omega), if_pos (by rw [nIn_iff]; omega)]
     simp [spR, hs]
    rw [hsp] at hx2
    have hd : (a :: spR (pn t 0)).drop 1 = spR (pn t 0) := rfl
    rw [hd] at hx2
    have hg : ∀ k, (a :: spR (pn t 0)).getD (1 + k) (-1) = (spR (pn t 0)).getD k (-1) := fun k => by rw [Nat.add_comm]; rfl
    rw [hg] at hx2
    apply h3
    unfold e3
    simp only [Bool.and_eq_true, Bool.or_eq_true, decide_eq_true_eq]
    refine ⟨by simpa using hcc, ?_⟩
    rcases spR_first t with h | ⟨h, h2⟩ | ⟨d, v, rfl, h⟩
    ·have hs : sgN (spR (pn t 0)) = 0 := by unfold sgN; rw [h]; rfl
     rw [hs, h] at hx2; simp [nDg] at hx2
    ·rw [h2] at hx2; simp [nDg, sgN] at hx2
    ·rcases h with h | ⟨h, h2⟩
     ·have hs : sgN (spR (pn (d :: v) 0)) = 0 := by unfold sgN; rw [if_neg (by omega)]
      rw [hs, nDg_iff] at hx2; omega
     ·by_cases h45 : d = 45
      ·subst h45
       have hs : sgN (spR (pn (45 :: v) 0)) = 1 := by unfold sgN; rw [h]; rfl
       rw [hs, h2] at hx2
       have hx3 : nDg ((spR (pn v 0)).getD 0 (-1)) = true := hx2
       rcases spR_first v with k | ⟨_, k2⟩ | ⟨x, y, rfl, k⟩
       ·rw [k] at hx3; simp [nDg] at hx3
       ·rw [k2] at hx3; simp [nDg] at hx3
       ·rcases k with k | ⟨k, _⟩
        ·rw [nDg_iff] at hx3; omega
        ·rw [k] at hx3
         have := dig_nDg x hx3
         simpa using this
      ·by_cases h43 : d = 43
       ·-- a plus is never written bare
        subst h43
        exfalso
        have hok2 := pn_okP (43 :: v)
        have hp2 := pn_ascii 43 v (by decide) (by decide)
        rw [hp2] at h2
        have : spR (((43 : UInt8).toNat : Int) :: pn v 0) = [92, 43] ++ spR (pn v 0) := by
         have : sp ((43 : UInt8).toNat : Int) = [92, 43] := by decide +kernel
         show sp _ ++ spR (pn v 0) = _
         rw [this]
        rw [this] at h2
        simp at h2
       ·have hs : sgN (spR (pn (d :: v) 0)) = 0 := by
         unfold sgN
         rw [h, if_neg]
         rintro (hh | hh)
         ·exact h43 (u8_int d 43 (by rw [hh]; rfl))
         ·exact h45 (u8_int d 45 (by rw [hh]; rfl))
        rw [hs, h] at hx2
        have := dig_nDg d hx2
        simp [h45]; exact this
theorem unit_take (u : List UInt8) (h0 : u ≠ []) : takeN (unitR u) = (pn u 0, (unitR u).length) := by
 have hok := pn_okP u
 unfold unitR
 split
 ·rename_i h3
  obtain ⟨c, t, rfl, hc⟩ := e3_parts u h3
  have hb : (byte (c :: t) 0 : Int) = (c.toNat : Int) := by rw [byte0]
  have hcr : 1 <= (c.toNat : Int) /\ (c.toNat : Int) < 128 := by rcases hc with rfl | rfl <;> decide
  have hp := pn_ascii c t (by omega) (by omega)
  rw [hb, List.drop_succ_cons, List.drop_zero, takeN_num _ hcr.1 hcr.2]
  have h2 := takeN_spR (pn t 0) (pn_okP t) []
  rw [takeN_nil] at h2
  simp only [List.append_nil, Nat.add_zero] at h2
  rw [h2, hp]
  simp
 ·have h2 := takeN_spF (pn u 0) hok []
  rw [takeN_nil] at h2
  simp only [List.append_nil, Nat.add_zero] at h2
  exact h2
theorem unit_okr (u : List UInt8) : ∀ c ∈ unitR u, Okr c := by
 unfold unitR
 split
 ·rename_i h3
  obtain ⟨c, t, rfl, hc⟩ := e3_parts u h3
  have hb : (byte (c :: t) 0 : Int) = (c.toNat : Int) := by rw [byte0]
  rw [hb]
  intro x hx
  rcases List.mem_append.1 hx with hx | hx
  ·exact numN_okr _ (by omega) (by have := c.toNat_lt; omega) x hx
  ·exact spR_okr _ (pn_okP _) x hx
 ·exact spF_okr _ (pn_okP u)
theorem stop_nil : stopN [] := ⟨rfl, by decide, rfl⟩
theorem stop_37 : stopN [37] := ⟨rfl, by decide, rfl⟩
theorem numS_tks (n : NumV) (whole sign : Bool) (T : List UInt8) (hT : numS n whole sign = T) (h0 : T ≠ []) (hs : ¬ (sign = true /\ n.1 = true)) (R : List Int) (hR : stopN R) (hok : ∀ r ∈ R, Okr r) (t : CT)
  (ht : (if begN R then (({ kind := 12, num := n, flag := whole, sign := sign, unit := encZs (takeN R).1 } : CT), T.length + (takeN R).2)
   else if R.getD 0 (-1) = 37 then ({ kind := 11, num := n, flag := whole, sign := sign }, T.length + 1) else ({ kind := 10, num := n, flag := whole, sign := sign }, T.length)) = (t, T.length + R.length)) :
  (tksC (rn (T ++ encZs R) 0)).map Prod.fst = [t] := by
 obtain ⟨hpl, hk⟩ := numS_tk n whole sign T hT h0 hs R hR
 rw [ht] at hk
 refine one_tk _ (asI T ++ R) t (by simp [h0]) ?_ (by rw [hk]; simp [asI])
 rw [rn_plain_join T _ hpl, List.map_append, rn_plain T hpl, List.map_map]
 congr 1
 exact rn_encZs R hok
theorem onlyT_num (t : CT) (h : t = onlyT t) (hk : isNum t.kind) : t = { kind := t.kind, num := t.num, flag := t.flag, sign := t.sign, unit := if t.kind = 12 then t.unit else [] } := by
 conv => lhs; rw [h]
 unfold onlyT
 rw [if_pos hk]
theorem num_ok (t : CT) (h : t = onlyT t) (hk : isNum t.kind) (h0 : numS t.num t.flag t.sign ≠ []) (hs : ¬ (t.sign = true /\ t.num.1 = true)) (hu : t.kind = 12 -> t.unit ≠ [] /\ cleanS t.unit = true) : numOk t = true := by
 unfold numOk
 simp only [Bool.and_eq_true, decide_eq_true_eq]
 refine ⟨⟨h0, ?_⟩, ?_⟩
 ·cases h1 : t.sign with
  | false => rfl
  | true =>
   cases h2 : t.num.1 with
   | false => rfl
   | true => exact absurd ⟨h1, h2⟩ hs
 ·have e := onlyT_num t h hk
  obtain ⟨k, text, unit, num, flag, sign⟩ := t
  simp only at e hk h0 hs hu
  rw [e]
  rcases hk with rfl | rfl | rfl
  ·refine back_no _ rfl rfl ?_
   have := numS_tks num flag sign _ rfl h0 hs [] stop_nil (by simp) _ rfl
   rw [encZs_nil, List.append_nil] at this
   exact this
  ·refine back_no _ rfl rfl ?_
   have := numS_tks num flag sign _ rfl h0 hs [37] stop_37 (by decide) _ rfl
   rw [show encZs [37] = [37] by decide +kernel] at this
   exact this
  ·refine back_no _ rfl rfl ?_
   obtain ⟨hu1, hu2⟩ := hu rfl
   obtain ⟨b1, b2⟩ := unit_stop unit hu1
   have b3 := unit_take unit hu1
   have := numS_tks num flag sign _ rfl h0 hs (unitR unit) b2 (unit_okr unit) { kind := 12, num := num, flag := flag, sign := sign, unit := unit } (by rw [if_pos b1, b3]; simp only; rw [clean_self unit hu2])
   rw [unitR_enc] at this
   exact this
end Go.Proofs.YtimjbjppmhdjnaaGreatDoor.M
