import Derived.Test.YtimjbjppmhdjnaaGreatDoorMgW
import Derived.Test.YtimjbjppmhdjnaaGreatDoorNMath3
namespace Go.Proofs.YtimjbjppmhdjnaaGreatDoor.M
open Go.Lib
set_option linter.unusedVariables false
set_option linter.unusedSimpArgs false
theorem okr_okP (r : Int) (h : Okr r) : okP r := by
 obtain ⟨h1, h2, _⟩ := h
 exact ⟨h1, by rw [isCP_iff] at h1; omega⟩
theorem enc_nz (r : Int) (h : okP r) : ∀ c ∈ enc r, c ≠ 0 := by
 obtain ⟨hc, h1⟩ := h
 intro c hm e
 subst e
 by_cases ha : r < 128
 ·rw [enc_ascii r (by omega) ha] at hm
  simp only [List.mem_singleton] at hm
  have := congrArg UInt8.toNat hm
  have hn : r.toNat.toUInt8.toNat = r.toNat := by simp [Nat.toUInt8, UInt8.toNat_ofNat']; omega
  rw [hn] at this
  simp at this; omega
 ·have := enc_big r hc (by omega) 0 hm
  simp at this
theorem clean_encZs (ps : List Int) (h : ∀ r ∈ ps, okP r) : cleanS (encZs ps) = true := by
 unfold cleanS
 rw [Bool.and_eq_true]
 constructor
 ·induction ps with
  | nil => rfl
  | cons a t ih =>
   rw [encZs_cons, join_good _ _ (enc_valid a (h a (by simp)).1)]
   exact ih (fun r hr => h r (by simp [hr]))
 ·simp only [Bool.not_eq_true', List.contains_eq_any_beq, List.any_eq_false]
  intro x hx
  unfold encZs at hx
  obtain ⟨r, hr, hm⟩ := List.mem_flatMap.1 hx
  have := enc_nz r (h r hr) x hm
  simp [Ne.symm this]
theorem okX_okP (x : Int) (h : 0 <= x) : okP (okX x) := by
 unfold okX
 split
 ·exact ⟨by decide, by decide⟩
 ·rename_i hh
  exact ⟨by rw [isCP_iff]; omega, by omega⟩
theorem hexRun_X (n : Nat) (t : List Int) : ∀ c ∈ hexRun n t, isX c = true := by
 induction n generalizing t with
 | zero => simp [hexRun]
 | succ n ih =>
  cases t with
  | nil => simp [hexRun]
  | cons r u =>
   unfold hexRun
   split
   ·rename_i hx
    intro c hc
    rcases List.mem_cons.1 hc with rfl | hc
    ·exact hx
    ·exact ih u c hc
   ·simp
theorem escV_okP (t : List Int) (h : ∀ r ∈ t, okP r) : okP (escV t).1 := by
 unfold escV
 split
 ·exact ⟨by decide, by decide⟩
 ·rename_i r u
  split
  ·exact okX_okP _ (hexVal_range _ (hexRun_X 6 _)).1
  ·exact h r (by simp)
theorem drop_ok (t : List Int) (n : Nat) (h : ∀ r ∈ t, okP r) : ∀ r ∈ t.drop n, okP r := fun r hr => h r (List.mem_of_mem_drop hr)
theorem takeN_okP (n : Nat) (c : List Int) (hn : c.length <= n) (h : ∀ r ∈ c, okP r) : ∀ r ∈ (takeN c).1, okP r := by
 induction n generalizing c with
 | zero => obtain rfl := List.length_eq_zero_iff.1 (Nat.le_zero.1 hn); simp [takeN_nil]
 | succ n ih =>
  cases c with
  | nil => simp [takeN_nil]
  | cons r t =>
   simp at hn
   have ht : ∀ r ∈ t, okP r := fun x hx => h x (by simp [hx])
   by_cases he : esB (r :: t) = true
   ·rw [takeN_esc r t he]
    intro x hx
    rcases List.mem_cons.1 hx with rfl | hx
    ·exact escV_okP t ht
    ·exact ih (t.drop (escV t).2) (by simp; omega) (drop_ok t _ ht) x hx
   ·by_cases hi : nIn r = true
    ·rw [takeN_in r t hi]
     intro x hx
     rcases List.mem_cons.1 hx with rfl | hx
     ·exact h x (by simp)
     ·exact ih t hn ht x hx
    ·rw [takeN_out r t (by simpa using he) (by simpa using hi)]; simp
theorem takeN_ne (c : List Int) (h : begN c = true) : (takeN c).1 ≠ [] := by
 cases c with
 | nil => simp [begN] at h
 | cons r t =>
  by_cases he : esB (r :: t) = true
  ·rw [takeN_esc r t he]; simp
  ·have hi : nIn r = true := by
    obtain ⟨r', t', e, h3⟩ := begN_head _ h
    simp only [List.cons.injEq] at e
    obtain ⟨rfl, rfl⟩ := e
    rcases h3 with h3 | rfl | ⟨rfl, _⟩
    ·unfold nIn; simp [h3]
    ·simp only [begN] at h
     rw [if_neg (by decide)] at h
     simp only [Bool.or_eq_true] at h
     rcases h with h | h
     ·exact absurd h (by decide)
     ·exact absurd h he
    ·decide
   rw [takeN_in r t hi]; simp
theorem strT_okP (q : Int) (n : Nat) (c : List Int) (hn : c.length <= n) (h : ∀ r ∈ c, okP r) : ∀ r ∈ (strT q c).2.1, okP r := by
 induction n generalizing c with
 | zero => obtain rfl := List.length_eq_zero_iff.1 (Nat.le_zero.1 hn); simp [strT_nil]
 | succ n ih =>
  cases c with
  | nil => simp [strT_nil]
  | cons r t =>
   simp at hn
   have ht : ∀ r ∈ t, okP r := fun x hx => h x (by simp [hx])
   rw [strT]
   repeat' split
   ·simp
   ·simp
   ·simp
   ·exact ih (t.drop 1) (by simp; omega) (drop_ok t _ ht)
   ·intro x hx
    rcases List.mem_cons.1 hx with rfl | hx
    ·exact escV_okP t ht
    ·exact ih (t.drop (escV t).2) (by simp; omega) (drop_ok t _ ht) x hx
   ·intro x hx
    rcases List.mem_cons.1 hx with rfl | hx
    ·exact h x (by simp)
    ·exact ih t hn ht x hx
theorem urlT_okP (n : Nat) (b s : Bool) (c : List Int) (hn : c.length <= n) (h : ∀ r ∈ c, okP r) : ∀ r ∈ (urlT b s c).2.1, okP r := by
 induction n generalizing c b s with
 | zero => obtain rfl := List.length_eq_zero_iff.1 (Nat.le_zero.1 hn); rw [urlT]; simp
 | succ n ih =>
  cases c with
  | nil => rw [urlT]; simp
  | cons r t =>
   simp at hn
   have ht : ∀ r ∈ t, okP r := fun x hx => h x (by simp [hx])
   rw [urlT]
   repeat' split
   ·simp
   ·intro x hx
    rcases List.mem_cons.1 hx with rfl | hx
    ·exact escV_okP t ht
    ·exact ih _ _ (t.drop (escV t).2) (by simp; omega) (drop_ok t _ ht) x hx
   ·exact ih _ _ t hn ht
   ·intro x hx
    rcases List.mem_cons.1 hx with rfl | hx
    ·exact h x (by simp)
    ·exact ih _ _ t hn ht x hx
theorem hexRun_same (n : Nat) : ∀ (t t' : List Int), (∀ j, j <= (hexRun n t).length -> t'.getD j (-1) = t.getD j (-1)) -> hexRun n t' = hexRun n t := by
 induction n with
 | zero => intro t t' _; simp [hexRun]
 | succ n ih =>
  intro t t' h
  have h0 := h 0 (by omega)
  cases t with
  | nil =>
   cases t' with
   | nil => rfl
   | cons a v =>
    simp at h0
    subst h0
    rw [hexRun_stop _ _ _ (by decide)]; rfl
  | cons r u =>
   simp only [List.getD_cons_zero] at h0
   cases hx : isX r with
   | true =>
    cases t' with
    | nil => simp at h0; rw [<- h0] at hx; simp [isX, nDg] at hx
    | cons a v =>
     simp at h0
     subst h0
     rw [hexRun_go n _ _ hx] at h ⊢
     rw [hexRun_go n _ _ hx, ih u v]
     intro j hj
     have := h (j + 1) (by simp; omega)
     simpa using this
   | false =>
    rw [hexRun_stop _ _ _ hx]
    cases t' with
    | nil => rfl
    | cons a v => simp at h0; subst h0; rw [hexRun_stop _ _ _ hx]
theorem escV_same (t t' : List Int) (hne : t ≠ []) (hne' : t' ≠ []) (h : ∀ j, j <= (escV t).2 -> t'.getD j (-1) = t.getD j (-1)) : escV t' = escV t := by
 cases t with
 | nil => exact absurd rfl hne
 | cons r u =>
  cases t' with
  | nil => exact absurd rfl hne'
  | cons a v =>
   have h0 := h 0 (by omega)
   simp at h0
   subst h0
   unfold escV at h ⊢
   simp only at h ⊢
   split
   ·rename_i hx
    rw [if_pos hx] at h
    simp only at h
    have e := hexRun_same 6 (a :: u) (a :: v) (fun j hj => h j (by omega))
    rw [e, h _ (by omega)]
   ·rfl
theorem escV_pos (t : List Int) (h : t ≠ []) : 1 <= (escV t).2 := by
 cases t with
 | nil => exact absurd rfl h
 | cons r u =>
  unfold escV
  simp only
  split
  ·rename_i hx
   rw [hexRun_go 5 _ _ hx]
   simp; omega
  ·simp
theorem take_getD (t : List Int) (p j : Nat) (h : j < p) : (t.take p).getD j (-1) = t.getD j (-1) := by
 simp [List.getD, List.getElem?_take, h]
theorem strT_cut (q : Int) (hq : q ≠ 92) (hq2 : q ≠ 10) (R : List Int) (n : Nat) : ∀ (c : List Int), c.length <= n -> (strT q c).1 = true ->
  c.getD (strT q c).2.2 (-1) = 10 /\ (strT q (c.take (strT q c).2.2 ++ 10 :: R)).1 = true /\ (strT q (c.take (strT q c).2.2 ++ 10 :: R)).2.2 = (strT q c).2.2 := by
 induction n with
 | zero => intro c hn h; obtain rfl := List.length_eq_zero_iff.1 (Nat.le_zero.1 hn); rw [strT_nil] at h; simp at h
 | succ n ih =>
  intro c hn h
  cases c with
  | nil => rw [strT_nil] at h; simp at h
  | cons r t =>
   simp at hn
   by_cases h1 : r = q
   ·subst h1; rw [strT_end] at h; simp at h
   by_cases h2 : r = 10
   ·subst h2
    rw [strT_bad q t hq2]
    simp only [List.take_zero, List.nil_append]
    rw [strT_bad q R hq2]
    simp
   by_cases h3 : r = 92
   ·subst h3
    by_cases h4 : t = []
    ·subst h4; rw [strT_last q hq] at h; simp at h
    by_cases h5 : t.getD 0 (-1) = 10
    ·cases t with
     | nil => exact absurd rfl h4
     | cons a u =>
      simp at h5
      subst h5
      rw [strT_line q u hq] at h ⊢
      simp only at h ⊢
      obtain ⟨i1, i2, i3⟩ := ih u (by simp at hn; omega) h
      have e : (92 :: 10 :: u).take (2 + (strT q u).2.2) ++ 10 :: R = 92 :: 10 :: (u.take (strT q u).2.2 ++ 10 :: R) := by
       rw [show 2 + (strT q u).2.2 = (strT q u).2.2 + 1 + 1 by omega]; rfl
      rw [e, strT_line q _ hq]
      refine ⟨?_, i2, by simp only; rw [i3]⟩
      rw [show 2 + (strT q u).2.2 = (strT q u).2.2 + 1 + 1 by omega]
      simpa using i1
    ·rw [strT_esc q t hq h4 h5] at h ⊢
     simp only at h ⊢
     obtain ⟨k, hk⟩ : ∃ k, (escV t).2 = k := ⟨_, rfl⟩
     have hkl := escV_le t
     have hkp := escV_pos t h4
     rw [hk] at h hkl hkp ⊢
     obtain ⟨i1, i2, i3⟩ := ih (t.drop k) (by simp; omega) h
     obtain ⟨m, hm⟩ : ∃ m, (strT q (t.drop k)).2.2 = m := ⟨_, rfl⟩
     rw [hm] at i1 i2 i3 ⊢
     have hml : k + m < t.length := by
      rcases Nat.lt_or_ge (k + m) t.length with hh | hh
      ·exact hh
      ·rw [drop_getD] at i1
       simp [List.getD, List.getElem?_eq_none hh] at i1
     have e : (92 :: t).take (1 + k + m) ++ 10 :: R = 92 :: (t.take (k + m) ++ 10 :: R) := by
      rw [show 1 + k + m = (k + m) + 1 by omega]; rfl
     have eT : t.take (k + m) ++ 10 :: R = t.take k ++ ((t.drop k).take m ++ 10 :: R) := by
      rw [<- List.append_assoc, List.take_add]
     have hag : ∀ j, j <= k -> (t.take (k + m) ++ 10 :: R).getD j (-1) = t.getD j (-1) := by
      intro j hj
      by_cases hj2 : j < k + m
      ·have : (t.take (k + m) ++ 10 :: R).getD j (-1) = (t.take (k + m)).getD j (-1) := by
        have hl : j < (t.take (k + m)).length := by rw [List.length_take]; omega
        simp only [List.getD]
        rw [List.getElem?_append_left hl]
       rw [this, take_getD _ _ _ hj2]
      ·have hm0 : m = 0 := by omega
       subst hm0
       have hjk : j = k := by omega
       subst hjk
       rw [drop_getD, Nat.add_zero] at i1
       rw [i1]
       have hl : (t.take (j + 0)).length = j := by rw [List.length_take]; omega
       simp only [List.getD]
       rw [List.getElem?_append_right (by omega), hl]
       simp
     have hT0 : (t.take (k + m) ++ 10 :: R).getD 0 (-1) ≠ 10 := by rw [hag 0 (by omega)]; exact h5
     have hTn : t.take (k + m) ++ 10 :: R ≠ [] := by simp
     have hes := escV_same t (t.take (k + m) ++ 10 :: R) h4 hTn (by rw [hk]; exact hag)
     rw [e, strT_esc q _ hq hTn hT0, hes, hk, eT, List.drop_left' (by rw [List.length_take]; omega)]
     refine ⟨?_, i2, by simp only; rw [i3]⟩
     rw [drop_getD] at i1
     rw [show 1 + k + m = (k + m) + 1 by omega]
     simpa using i1
   ·rw [strT_one q r t h1 h2 h3] at h ⊢
    simp only at h ⊢
    obtain ⟨i1, i2, i3⟩ := ih t hn h
    have e : (r :: t).take (1 + (strT q t).2.2) ++ 10 :: R = r :: (t.take (strT q t).2.2 ++ 10 :: R) := by
     rw [Nat.add_comm]; rfl
    rw [e, strT_one q r _ h1 h2 h3]
    refine ⟨?_, i2, by simp only; rw [i3]⟩
    rw [Nat.add_comm]
    simpa using i1
theorem urlT_cut (n : Nat) : ∀ (b s : Bool) (c : List Int), c.length <= n -> urlT b s (c.take (urlT b s c).2.2) = urlT b s c := by
 induction n with
 | zero => intro b s c hn; obtain rfl := List.length_eq_zero_iff.1 (Nat.le_zero.1 hn); simp
 | succ n ih =>
  intro b s c hn
  cases c with
  | nil => simp
  | cons r t =>
   simp at hn
   by_cases h1 : r = 41
   ·subst h1
    rw [urlT_close b s t]
    exact urlT_close b s _
   by_cases h2 : esB (r :: t) = true
   ·have h92 : r = 92 /\ t.getD 0 (-1) ≠ 10 := by
     simp only [esB, Bool.and_eq_true, decide_eq_true_eq] at h2; exact h2
    obtain ⟨k, hk⟩ : ∃ k, (escV t).2 = k := ⟨_, rfl⟩
    have hkl := escV_le t
    have hu : urlT b s (r :: t) = ((urlT (b || s) s (t.drop k)).1, (escV t).1 :: (urlT (b || s) s (t.drop k)).2.1, 1 + k + (urlT (b || s) s (t.drop k)).2.2) := by
     rw [urlT, if_neg h1, if_pos h2, hk]
    rw [hk] at hkl
    have i1 := ih (b || s) s (t.drop k) (by simp; omega)
    obtain ⟨m, hm⟩ : ∃ m, (urlT (b || s) s (t.drop k)).2.2 = m := ⟨_, rfl⟩
    rw [hm] at i1
    rw [hu]
    simp only
    rw [hm]
    have e : (r :: t).take (1 + k + m) = r :: t.take (k + m) := by rw [show 1 + k + m = (k + m) + 1 by omega]; rfl
    have ed : (t.take (k + m)).drop k = (t.drop k).take m := by rw [List.drop_take]; congr 1; omega
    have hT : escV (t.take (k + m)) = escV t /\ (t.take (k + m)).getD 0 (-1) = t.getD 0 (-1) := by
     by_cases h4 : t = []
     ·subst h4; simp
     ·have hkp := escV_pos t h4
      rw [hk] at hkp
      by_cases hd : t.drop k = []
      ·have hl : t.length <= k := List.drop_eq_nil_iff.1 hd
       rw [List.take_of_length_le (by omega)]
       exact ⟨rfl, rfl⟩
      ·have hm1 : 1 <= m := by
        cases hdd : t.drop k with
        | nil => exact absurd hdd hd
        | cons x y =>
         rw [hdd] at hm
         rw [<- hm, urlT]
         repeat' split
         all_goals simp
         all_goals omega
       refine ⟨escV_same t _ h4 (by simp [h4]; omega) (fun j hj => take_getD t _ j (by omega)), take_getD t _ 0 (by omega)⟩
    have h2' : esB (r :: t.take (k + m)) = true := by
     simp only [esB, Bool.and_eq_true, decide_eq_true_eq]
     rw [hT.2]; exact h92
    rw [e, urlT, if_neg h1, if_pos h2', hT.1, hk, ed, i1, hm]
   ·by_cases h3 : isBl r = true
    ·have hu : urlT b s (r :: t) = ((urlT b true t).1, (urlT b true t).2.1, 1 + (urlT b true t).2.2) := by
      rw [urlT, if_neg h1, if_neg h2, if_pos h3]
     have h92 : r ≠ 92 := by rw [isBl_iff] at h3; omega
     have h2' : ∀ T, esB (r :: T) = false := fun T => by simp [esB, h92]
     rw [hu]
     simp only
     have e : (r :: t).take (1 + (urlT b true t).2.2) = r :: t.take (urlT b true t).2.2 := by rw [Nat.add_comm]; rfl
     rw [e, urlT, if_neg h1, if_neg (by rw [h2']; simp), if_pos h3, ih b true t hn]
    ·have hu : urlT b s (r :: t) = ((urlT (b || s || !inU r) s t).1, r :: (urlT (b || s || !inU r) s t).2.1, 1 + (urlT (b || s || !inU r) s t).2.2) := by
      rw [urlT, if_neg h1, if_neg h2, if_neg h3]
     rw [hu]
     simp only
     have i1 := ih (b || s || !inU r) s t hn
     obtain ⟨m, hm⟩ : ∃ m, (urlT (b || s || !inU r) s t).2.2 = m := ⟨_, rfl⟩
     rw [hm] at i1 ⊢
     have e : (r :: t).take (1 + m) = r :: t.take m := by rw [Nat.add_comm]; rfl
     have h2' : ¬ esB (r :: t.take m) = true := by
      intro hh
      apply h2
      simp only [esB, Bool.and_eq_true, decide_eq_true_eq] at hh ⊢
      refine ⟨hh.1, fun h10 => ?_⟩
      by_cases hm0 : m = 0
      ·-- nothing behind
       cases t with
       | nil => simp at h10
       | cons x y =>
        rw [hm0] at hm
        rw [urlT] at hm
        repeat' split at hm
        all_goals simp at hm
        all_goals omega
      ·rw [take_getD t m 0 (by omega)] at hh
       exact hh.2 h10
     rw [e, urlT, if_neg h1, if_neg h2', if_neg h3, i1, hm]
theorem takeN_take (n : Nat) : ∀ (c : List Int) (p : Nat), c.length <= n -> (takeN c).2 + 1 < p -> takeN (c.take p) = takeN c := by
 induction n with
 | zero => intro c p hn _; obtain rfl := List.length_eq_zero_iff.1 (Nat.le_zero.1 hn); simp
 | succ n ih =>
  intro c p hn h
  cases c with
  | nil => simp
  | cons r t =>
   simp at hn
   obtain ⟨p', rfl⟩ : ∃ p', p = p' + 1 := ⟨p - 1, by omega⟩
   rw [List.take_succ_cons]
   have h0 : (t.take p').getD 0 (-1) = t.getD 0 (-1) := take_getD t p' 0 (by omega)
   by_cases he : esB (r :: t) = true
   ·have he' : esB (r :: t.take p') = true := by
     simp only [esB, Bool.and_eq_true, decide_eq_true_eq] at he ⊢
     rw [h0]; exact he
    rw [takeN_esc r t he] at h ⊢
    rw [takeN_esc r _ he']
    simp only at h
    obtain ⟨k, hk⟩ : ∃ k, (escV t).2 = k := ⟨_, rfl⟩
    have hkl := escV_le t
    have hes : escV (t.take p') = escV t := by
     by_cases h4 : t = []
     ·subst h4; simp
     ·exact escV_same t _ h4 (by simp [h4]; omega) (fun j hj => take_getD t _ j (by omega))
    rw [hes, hk]
    rw [hk] at h hkl
    rw [List.drop_take, ih (t.drop k) (p' - k) (by simp; omega) (by omega)]
   ·by_cases hi : nIn r = true
    ·rw [takeN_in r t hi] at h ⊢
     simp only at h
     rw [takeN_in r _ hi, ih t p' hn (by omega)]
    ·have he' : esB (r :: t.take p') = false := by
      cases hh : esB (r :: t.take p') with
      | false => rfl
      | true =>
       exfalso; apply he
       simp only [esB, Bool.and_eq_true, decide_eq_true_eq] at hh ⊢
       rw [h0] at hh; exact hh
     rw [takeN_out r t (by simpa using he) (by simpa using hi), takeN_out r _ he' (by simpa using hi)]
theorem blN_take (d : List Int) : ∀ p, blN d < p -> blN (d.take p) = blN d := by
 induction d with
 | nil => intro p _; simp
 | cons a t ih =>
  intro p h
  obtain ⟨p', rfl⟩ : ∃ p', p = p' + 1 := ⟨p - 1, by omega⟩
  rw [List.take_succ_cons, blN_cons, blN_cons]
  rw [blN_cons] at h
  split
  ·rename_i hb; rw [if_pos hb] at h; rw [ih p' (by omega)]
  ·rfl
theorem cmT_cons (r : Int) (u : List Int) : cmT (r :: u) = if r = 42 /\ u.getD 0 (-1) = 47 then ([], 2) else (r :: (cmT u).1, 1 + (cmT u).2) := rfl
theorem cmT_again (c t : List Int) : cmT ((cmT c).1 ++ 42 :: 47 :: t) = ((cmT c).1, (cmT c).1.length + 2) := by
 induction c with
 | nil => show cmT (42 :: 47 :: t) = _; rw [cmT_cons, if_pos ⟨rfl, rfl⟩]; rfl
 | cons r u ih =>
  rw [cmT_cons]
  by_cases h : r = 42 /\ u.getD 0 (-1) = 47
  ·rw [if_pos h]; show cmT (42 :: 47 :: t) = _; rw [cmT_cons, if_pos ⟨rfl, rfl⟩]; rfl
  ·rw [if_neg h]
   simp only
   have hh : ¬ (r = 42 /\ ((cmT u).1 ++ 42 :: 47 :: t).getD 0 (-1) = 47) := by
    rintro ⟨h1, h2⟩
    apply h
    refine ⟨h1, ?_⟩
    cases u with
    | nil => simp [cmT] at h2
    | cons x y =>
     rw [cmT_cons] at h2
     by_cases h3 : x = 42 /\ y.getD 0 (-1) = 47
     ·rw [if_pos h3] at h2; simp at h2
     ·rw [if_neg h3] at h2; simpa using h2
   rw [List.cons_append, cmT_cons, if_neg hh, ih]
   simp; omega
theorem cmT_sub (c : List Int) : ∀ r ∈ (cmT c).1, r ∈ c := by
 induction c with
 | nil => simp [cmT]
 | cons a u ih =>
  intro r hr
  rw [cmT_cons] at hr
  split at hr
  ·simp at hr
  ·simp only at hr
   rcases List.mem_cons.1 hr with rfl | hr
   ·simp
   ·exact List.mem_cons_of_mem _ (ih r hr)
theorem mk_right (t : CT) (h1 : cleanS t.text = true) (h2 : cleanS t.unit = true) (h3 : t = onlyT t) (h4 : rightK t = true) : rightT t = true := by
 unfold rightT
 rw [h1, h2, h4, Bool.and_true, Bool.and_eq_true, decide_eq_true_iff]
 exact ⟨rfl, h3⟩
theorem clean_nil : cleanS [] = true := by decide +kernel
theorem begN_inNm (d : List Int) (h : begN d = true) : inNm d = true := by
 obtain ⟨r, t, rfl, h3⟩ := begN_head d h
 unfold inNm
 rcases h3 with h3 | rfl | ⟨rfl, _⟩
 ·simp [nIn, h3]
 ·simp only [begN] at h
  rw [if_neg (by decide)] at h
  simp only [Bool.or_eq_true] at h
  rcases h with h | h
  ·exact absurd h (by decide)
  ·rw [h, Bool.or_true]
 ·rfl
theorem inNm_take (d : List Int) (h : inNm d = true) : (takeN d).1 ≠ [] := by
 unfold inNm at h
 cases d with
 | nil => simp [esB, nIn, nSt, nDg] at h
 | cons r t =>
  by_cases he : esB (r :: t) = true
  ·rw [takeN_esc r t he]; simp
  ·have hi : nIn r = true := by
    simp only [List.getD_cons_zero, Bool.or_eq_true] at h
    rcases h with h | h
    ·exact h
    ·exact absurd h he
   rw [takeN_in r t hi]; simp
theorem spR_rest (d : List Int) (hok : ∀ r ∈ d, okP r) (h1 : inNm d = true) (h2 : begN d = false) : begN (spR (takeN d).1) = false /\ inNm (spR (takeN d).1) = true := by
 cases d with
 | nil => simp [inNm, esB, nIn, nSt, nDg] at h1
 | cons r u =>
  have he : esB (r :: u) = false := by
   cases hh : esB (r :: u) with
   | false => rfl
   | true =>
    have h92 : r = 92 := by simp only [esB, Bool.and_eq_true, decide_eq_true_eq] at hh; exact hh.1
    subst h92
    simp only [begN] at h2
    rw [if_neg (by decide), hh, Bool.or_true] at h2
    simp at h2
  have hi : nIn r = true := by
   unfold inNm at h1
   rw [he] at h1
   simpa using h1
  rw [takeN_in r u hi]
  simp only
  have hsr : sp r = [r] := by
   unfold sp
   rw [nIn_iff] at hi
   rw [if_neg (by omega), if_pos (by rw [nIn_iff]; exact hi)]
  have hspr : ∀ l, spR (r :: l) = r :: spR l := fun l => by
   show sp r ++ spR l = _
   rw [hsr]; rfl
  rw [hspr]
  refine ⟨?_, by unfold inNm; simp [hi]⟩
  by_cases h45 : r = 45
  ·subst h45
   simp only [begN] at h2 ⊢
   simp only [if_true, Bool.or_eq_false_iff, decide_eq_false_iff_not] at h2 ⊢
   obtain ⟨⟨a1, a2⟩, a3⟩ := h2
   cases u with
   | nil => rw [takeN_nil]; simp [spR, nSt, esB]
   | cons x v =>
    simp only [List.getD_cons_zero] at a1 a2
    by_cases hx : nIn x = true
    ·rw [takeN_in x v hx]
     have hsx : sp x = [x] := by
      unfold sp
      rw [nIn_iff] at hx
      rw [if_neg (by omega), if_pos (by rw [nIn_iff]; exact hx)]
     have : spR (x :: (takeN v).1) = x :: spR (takeN v).1 := by
      show sp x ++ spR (takeN v).1 = _
      rw [hsx]; rfl
     simp only
     rw [this]
     refine ⟨⟨a1, a2⟩, ?_⟩
     rw [nIn_iff] at hx
     simp [esB]
     intro h92; subst h92; omega
    ·rw [takeN_out x v a3 (by simpa using hx)]
     simp [spR, nSt, esB]
  ·simp only [begN] at h2 ⊢
   rw [if_neg h45] at h2 ⊢
   simp only [Bool.or_eq_false_iff] at h2 ⊢
   refine ⟨h2.1, ?_⟩
   rw [nIn_iff] at hi
   simp [esB]
   intro h92; subst h92; omega
theorem way_hash (d : List Int) (h : inNm d = true) : wayT (35 :: d) = 4 := by
 unfold wayT
 rw [stC_no 47 _ 35 _ (by decide), if_neg (by simp), List.getD_cons_zero, if_neg (by decide), if_neg (by decide), if_pos ⟨rfl, h⟩]
theorem hash_back (ps : List Int) (hok : ∀ r ∈ ps, okP r) (flag : Bool) (h0 : ps ≠ []) (hf : flag = false -> begN (spR ps) = false /\ inNm (spR ps) = true) : backT { kind := 4, text := encZs ps, flag := flag } = true := by
 have e35 : enc 35 = [35] := by decide +kernel
 have fin : ∀ C : List Int, (∀ r ∈ C, Okr r) -> takeN C = (ps, C.length) -> begN C = flag -> inNm C = true -> (tksC (rn (encZs (35 :: C)) 0)).map Prod.fst = [{ kind := 4, text := encZs ps, flag := flag }] := by
  intro C hC ht hb hi
  refine one_tk _ _ _ (encZs_ne _ (by simp)) (rn_encZs _ ?_) ?_
  ·intro r hr
   rcases List.mem_cons.1 hr with rfl | hr
   ·decide
   ·exact hC r hr
  ·unfold tkC
   rw [way_hash C hi]
   show (({ kind := 4, text := encZs (takeN ((35 :: C).drop 1)).1, flag := begN ((35 :: C).drop 1) } : CT), 1 + (takeN ((35 :: C).drop 1)).2) = _
   rw [List.drop_succ_cons, List.drop_zero, ht, hb]
   simp; omega
 refine back_no _ rfl rfl ?_
 have hS : spellT { kind := 4, text := encZs ps, flag := flag } = encZs (35 :: (if flag then spF ps else spR ps)) := by
  show hashS _ = _
  unfold hashS
  simp only
  rw [pn_enc0 ps hok, encZs_cons, e35]
  cases flag <;> rfl
 rw [hS]
 cases flag with
 | true =>
  simp only [if_true]
  have ht := takeN_spF ps hok []
  have hb := begN_spF ps hok h0 []
  rw [takeN_nil] at ht
  simp only [List.append_nil, Nat.add_zero] at ht hb
  exact fin _ (spF_okr ps hok) ht hb (begN_inNm _ hb)
 | false =>
  simp only [Bool.false_eq_true, if_false]
  have ht := takeN_spR ps hok []
  rw [takeN_nil] at ht
  simp only [List.append_nil, Nat.add_zero] at ht
  exact fin _ (spR_okr ps hok) ht (hf rfl).1 (hf rfl).2
theorem div_dig (s : List UInt8) : ∀ c ∈ (divW s).1.2.1 ++ (divW s).1.2.2.1, dig c = true := by
 have hE : ∀ (n : Bool) (w f s : List UInt8), (divE n w f s).1.2.1 = w /\ (divE n w f s).1.2.2.1 = f := by
  intro n w f s; unfold divE; split <;> exact ⟨rfl, rfl⟩
 unfold divW
 split
 ·split
  ·simp [zeroP]
  ·rw [(hE _ _ _ _).1, (hE _ _ _ _).2]
   intro c hc
   rcases List.mem_append.1 hc with hc | hc
   ·exact dg_dig _ c hc
   ·exact dg_dig _ c hc
 ·split
  ·simp [zeroP]
  ·rw [(hE _ _ _ _).1, (hE _ _ _ _).2]
   intro c hc
   rw [List.append_nil] at hc
   exact dg_dig _ c hc
theorem read_right (s : List UInt8) : rightN (readN s).1.2.1 (readN s).1.2.2 = true := by
 unfold readN
 split
 ·simp only
  rw [norm_nz _ _ (div_dig s)]
  exact nz_right _ _
 ·rfl
theorem read_plus (s : List UInt8) (h : s.head? = some 43) : (readN s).1.1 = false := by
 have hE : ∀ (n : Bool) (w f s : List UInt8), (divE n w f s).1.1 = n := by
  intro n w f s; unfold divE; split <;> rfl
 have hc : (csign s).1 = false := by unfold csign; rw [if_pos h]
 unfold readN
 split
 ·simp only
  unfold divW
  split
  ·split
   ·rfl
   ·rw [hE, hc]
  ·split
   ·rfl
   ·rw [hE, hc]
 ·rfl
theorem pow_lt (k n : Nat) (v m : Nat) (hv : v = m * 10 ^ k) (hm : m ≠ 0) (hn : v < 10 ^ n) : k < n := by
 rcases Nat.lt_or_ge k n with h | h
 ·exact h
 ·have h1 : 10 ^ n <= 10 ^ k := Nat.pow_le_pow_right (by decide) h
  have h2 : 1 * 10 ^ k <= m * 10 ^ k := Nat.mul_le_mul_right _ (by omega)
  omega
theorem dval_pow (W : List UInt8) (h : ∀ c ∈ W, dig c = true) : dval W < 10 ^ W.length := by
 induction W with
 | nil => decide
 | cons a t ih =>
  rw [dval_cons, List.length_cons, Nat.pow_succ]
  have h1 := ih (fun c hc => h c (by simp [hc]))
  have h2 := nDg_dig a (h a (by simp))
  rw [nDg_iff] at h2
  have h3 : a.toNat - 48 <= 9 := by omega
  have h4 : (a.toNat - 48) * 10 ^ t.length <= 9 * 10 ^ t.length := Nat.mul_le_mul_right _ h3
  omega
theorem whole_nz (v n : Nat) (hv : v < 10 ^ n) (hn : n <= 20000) : wholeS (nz v 0).1 (nz v 0).2 ≠ [] := by
 by_cases h : v = 0
 ·subst h
  rw [nz_zero]
  unfold wholeS
  rw [if_pos rfl]; simp
 ·obtain ⟨m, k, hm, e⟩ := core_ex v h
  have hm0 : m ≠ 0 := by intro h0; subst h0; exact hm rfl
  have hk := pow_lt k n v m e hm0 hv
  rw [e, nz_pow, Int.zero_add, nz_core m k hm]
  unfold wholeS
  simp only
  rw [if_neg (canon_ne m hm0), int_small (k : Int) (by omega) (by omega), if_pos ⟨rfl, by simp, by simp; omega⟩]
  simp [canon_ne m hm0]
theorem num_int (c : List Int) : ∀ r ∈ c.take (numE c), 0 <= r /\ r < 128 := by
 intro r hr
 obtain ⟨k, hk, e⟩ := take_mem c _ r hr
 have := numE_range c k hk
 rw [e] at this
 unfold numC at this
 omega
theorem whole_form (c : List Int) (hb : numB c = true) (hw : wholeL (encZs (c.take (numE c))) = true) :
  ∃ v n, v < 10 ^ n /\ n <= c.length /\ (readN (encZs (c.take (numE c)))).1.2 = nz v 0 := by
 obtain ⟨a1, a2, a3⟩ := encZs_asc _ (num_int c)
 have hno : ∀ k, k < numE c -> c.getD k (-1) ≠ 46 /\ c.getD k (-1) ≠ 101 /\ c.getD k (-1) ≠ 69 := by
  intro k hk
  have hlen := (numE_le c hb).2
  have hkc : k < (c.take (numE c)).length := by rw [List.length_take]; omega
  have hmem : c.getD k (-1) ∈ c.take (numE c) := by
   have e : c.getD k (-1) = (c.take (numE c))[k] := by simp [List.getD, show k < c.length by omega]
   rw [e]; exact List.getElem_mem hkc
  rw [<- a3] at hmem
  obtain ⟨x, hx, he⟩ := List.mem_map.1 hmem
  unfold wholeL at hw
  have := (List.all_eq_true.1 hw) x hx
  simp at this
  rw [<- he]
  refine ⟨fun h => this.1.1 (u8_int x 46 (by rw [h]; rfl)), fun h => this.1.2 (u8_int x 101 (by rw [h]; rfl)), fun h => this.2 (u8_int x 69 (by rw [h]; rfl))⟩
 have hle2 : num2 c <= numE c := by
  unfold numE; split
  ·split
   ·omega
   ·omega
  ·omega
 have hf : fracB (c.drop (num1 c)) = false := by
  cases hh : fracB (c.drop (num1 c)) with
  | false => rfl
  | true =>
   have h2 : num1 c < num2 c := by unfold num2; rw [if_pos hh]; omega
   have h3 := (hno (num1 c) (by omega)).1
   unfold fracB at hh
   simp only [Bool.and_eq_true, decide_eq_true_eq] at hh
   rw [drop_getD, Nat.add_zero] at hh
   exact absurd hh.1 h3
 have h2 : num2 c = num1 c := by unfold num2; rw [hf]; simp
 have hE : numE c = num1 c := by
  by_cases he : c.getD (num2 c) (-1) = 101 \/ c.getD (num2 c) (-1) = 69
  ·by_cases hd : nDg (c.getD (num2 c + 1 + sgN (c.drop (num2 c + 1))) (-1)) = true
   ·have h4 : num2 c < numE c := by unfold numE; rw [if_pos he, if_pos hd]; omega
    have := hno (num2 c) h4
    rcases he with he | he
    ·exact absurd he this.2.1
    ·exact absurd he this.2.2
   ·unfold numE; rw [if_pos he, if_neg hd, h2]
  ·unfold numE; rw [if_neg he, h2]
 have hd1 : 1 <= digN (c.drop (sgN c)) := by
  unfold numB at hb
  simp only [Bool.or_eq_true] at hb
  rcases hb with h | h
  ·exact (digN_pos (c.drop (sgN c)) (by rw [drop_getD, Nat.add_zero]; exact h)).1
  ·rcases Nat.eq_zero_or_pos (digN (c.drop (sgN c))) with h0 | h0
   ·have : num1 c = sgN c := by unfold num1; omega
    rw [this] at hf
    rw [hf] at h; simp at h
   ·exact h0
 have hsl := sgN_le c
 have hdl := digN_le (c.drop (sgN c))
 have ht : c.take (numE c) = c.take (sgN c) ++ (c.drop (sgN c)).take (digN (c.drop (sgN c))) := by
  rw [hE]; unfold num1; rw [List.take_add]
 obtain ⟨W, hW⟩ : ∃ W, encZs ((c.drop (sgN c)).take (digN (c.drop (sgN c)))) = W := ⟨_, rfl⟩
 have hWi : ∀ r ∈ (c.drop (sgN c)).take (digN (c.drop (sgN c))), 48 <= r /\ r <= 57 := by
  intro r hr
  obtain ⟨k, hk, e⟩ := take_mem _ _ r hr
  have := digN_get _ k hk
  rw [e, nDg_iff] at this
  exact this
 obtain ⟨b1, b2, b3⟩ := encZs_asc ((c.drop (sgN c)).take (digN (c.drop (sgN c)))) (fun r hr => by have := hWi r hr; omega)
 rw [hW] at b1 b2 b3
 have hWd : ∀ x ∈ W, dig x = true := by
  intro x hx
  apply dig_nDg
  rw [nDg_iff]
  apply hWi
  rw [<- b3]
  exact List.mem_map.2 ⟨x, hx, rfl⟩
 rw [List.length_take] at b2
 have hWn : W ≠ [] := by
  intro e
  rw [e] at b2
  simp at b2; simp at hdl; omega
 have hWl : W.length <= c.length := by simp at hdl; omega
 have hsg : ∃ sg ng, ((sg = [] /\ ng = false) \/ (sg = [45] /\ ng = true) \/ (sg = [43] /\ ng = false)) /\ encZs (c.take (sgN c)) = sg := by
  unfold sgN
  cases c with
  | nil => simp [numB, sgN, nDg, fracB] at hb
  | cons a t =>
   by_cases h43 : a = 43
   ·subst h43; exact ⟨[43], false, .inr (.inr ⟨rfl, rfl⟩), by rw [if_pos (.inl rfl)]; show encZs [43] = [43]; decide +kernel⟩
   ·by_cases h45 : a = 45
    ·subst h45; exact ⟨[45], true, .inr (.inl ⟨rfl, rfl⟩), by rw [if_pos (.inr rfl)]; show encZs [45] = [45]; decide +kernel⟩
    ·refine ⟨[], false, .inl ⟨rfl, rfl⟩, ?_⟩
     rw [if_neg (by simp [h43, h45])]; rfl
 obtain ⟨sg, ng, hs, he⟩ := hsg
 rw [ht, encZs_append, he, hW]
 have hr := read_form sg ng hs W [] [] [] 0 hWd (by simp) (.inl ⟨rfl, rfl, hWn⟩) (.inl ⟨rfl, rfl⟩)
 simp only [List.nil_append, List.append_nil, List.length_nil] at hr
 rw [show (sg ++ W) = sg ++ W from rfl, hr]
 simp only
 rw [show ((0 : Int) - ((0 : Nat) : Int)) = 0 from rfl]
 exact ⟨_, W.length, dval_pow W hWd, hWl, rfl⟩
theorem whole_read (c : List Int) (hb : numB c = true) (hl : c.length <= 20000) (hw : wholeL (encZs (c.take (numE c))) = true) :
  wholeS (readN (encZs (c.take (numE c)))).1.2.1 (readN (encZs (c.take (numE c)))).1.2.2 ≠ [] := by
 obtain ⟨v, n, hv, hn, e⟩ := whole_form c hb hw
 rw [e]
 exact whole_nz v n hv (by omega)
theorem whole_nz_len (v n : Nat) (hv : v < 10 ^ n) (hn : n <= 20000) : (wholeS (nz v 0).1 (nz v 0).2).length <= n + 1 := by
 by_cases h : v = 0
 ·subst h
  rw [nz_zero]
  unfold wholeS
  rw [if_pos rfl]; simp
 ·obtain ⟨m, k, hm, e⟩ := core_ex v h
  have hm0 : m ≠ 0 := by intro h0; subst h0; exact hm rfl
  have hk := pow_lt k n v m e hm0 hv
  have hml : m < 10 ^ (n - k) := by
   rcases Nat.lt_or_ge m (10 ^ (n - k)) with h1 | h1
   ·exact h1
   ·have h2 := Nat.mul_le_mul_right (10 ^ k) h1
    rw [<- Nat.pow_add, show n - k + k = n by omega, <- e] at h2
    omega
  have hcl := canon_len m (n - k) hm0 hml
  rw [e, nz_pow, Int.zero_add, nz_core m k hm]
  unfold wholeS
  simp only
  rw [if_neg (canon_ne m hm0), int_small (k : Int) (by omega) (by omega), if_pos ⟨rfl, by simp, by simp; omega⟩]
  rw [List.length_append, List.length_replicate]
  simp
  omega
theorem num_right (c : List Int) (hok : ∀ r ∈ c, okP r) (hb : numB c = true) (hl : c.length <= 20000) (t : CT) (hn : t.num = (numT0 (encZs (c.take (numE c)))).num) (hf : t.flag = (numT0 (encZs (c.take (numE c)))).flag) (hs : t.sign = (numT0 (encZs (c.take (numE c)))).sign) (hk : isNum t.kind)
  (hx : t.text = []) (hu : t.kind ≠ 12 -> t.unit = []) (hu2 : t.kind = 12 -> t.unit ≠ [] /\ cleanS t.unit = true) : rightT t = true := by
 obtain ⟨s, hss⟩ : ∃ s, encZs (c.take (numE c)) = s := ⟨_, rfl⟩
 have hw := whole_read c hb hl
 rw [hss] at hn hf hs hw
 have hr := read_right s
 have hp := read_plus s
 have hn2 : t.num = (readN s).1 := hn
 have hf2 : t.flag = wholeL s := hf
 have hs2 : t.sign = (s.head? == some 43) := hs
 have h0 : numS t.num t.flag t.sign ≠ [] := by
  rw [hn2]
  unfold numS
  rw [if_pos hr]
  have hz : (if t.flag = true then wholeS (readN s).1.2.1 (readN s).1.2.2 else shortS (readN s).1.2.1 (readN s).1.2.2) ≠ [] := by
   cases hff : t.flag with
   | true => simp only [if_true]; exact hw (by rw [<- hf2]; exact hff)
   | false => simp only [Bool.false_eq_true, if_false]; exact (short_pe _ _ hr).2
  unfold sgS
  rw [if_neg hz]
  split
  ·simp
  ·split
   ·simp
   ·exact hz
 have hsn : ¬ (t.sign = true /\ t.num.1 = true) := by
  rintro ⟨h1, h2⟩
  rw [hs2] at h1
  have := hp (by simpa using h1)
  rw [hn2, this] at h2
  simp at h2
 have ho : t = onlyT t := by
  unfold onlyT
  rw [if_pos hk]
  obtain ⟨k, text, unit, num, flag, sign⟩ := t
  simp only at hx hu hu2 hk ⊢
  subst hx
  by_cases h12 : k = 12
  ·rw [if_pos h12]
  ·rw [if_neg h12, hu h12]
 have hko := num_ok t ho hk h0 hsn hu2
 refine mk_right t (by rw [hx]; exact clean_nil) ?_ ho ?_
 ·by_cases h12 : t.kind = 12
  ·exact (hu2 h12).2
  ·rw [hu h12]; exact clean_nil
 ·unfold rightK
  rcases hk with hk | hk | hk
  ·simp [hk, hko]
  ·simp [hk, hko]
  ·simp [hk, hko, (hu2 hk).1]
theorem take_ok (c : List Int) (n : Nat) (h : ∀ r ∈ c, Okr r) : ∀ r ∈ c.take n, Okr r := fun r hr => h r (List.mem_of_mem_take hr)
theorem line_back (text : List UInt8) (c : List Int) (k : Int) (hk : k = 6) (he : encZs c = text) (h0 : c ≠ []) (hok : ∀ r ∈ c, Okr r) (ht : tkC (c ++ [10]) = ({ kind := k, text := text }, c.length)) : backT { kind := k, text := text } = true := by
 subst hk
 unfold backT
 rw [reads_iff]
 have a1 : tailS [{ kind := 6, text := text }] = encZs [10] := by simp [tailS, lineT]; decide +kernel
 have a2 : tailT [{ kind := 6, text := text }] = [{ kind := 13, text := [10] }] := by simp [tailT, lineT]
 rw [a1, a2]
 have hS : spellT { kind := 6, text := text } = encZs c := he.symm
 rw [hS, <- encZs_append]
 refine two_tk _ c [10] _ _ (encZs_ne _ (by simp)) (rn_encZs _ ?_) ht (by simp) (by decide +kernel)
 intro r hr
 rcases List.mem_append.1 hr with hr | hr
 ·exact hok r hr
 ·simp at hr; subst hr; decide
theorem bad_text (q : Int) (hq : Mk q) (d : List Int) (hok : ∀ r ∈ q :: d, Okr r) (h : (strT q d).1 = true) : backT { kind := 6, text := encZs ((q :: d).take (1 + (strT q d).2.2)) } = true := by
 obtain ⟨h1, h2, h3⟩ := strT_cut q (by rcases hq with h | h <;> omega) (by rcases hq with h | h <;> omega) [] d.length d (Nat.le_refl _) h
 obtain ⟨n, hn⟩ : ∃ n, (strT q d).2.2 = n := ⟨_, rfl⟩
 rw [hn] at h1 h2 h3 ⊢
 have hnl : n < d.length := getD_lt_of d n 10 (by decide) h1
 have hc : (q :: d).take (1 + n) = q :: d.take n := by rw [Nat.add_comm]; rfl
 refine line_back _ ((q :: d).take (1 + n)) 6 rfl rfl (by rw [hc]; simp) (take_ok _ _ hok) ?_
 rw [hc, List.cons_append]
 unfold tkC
 rw [mk_way q hq]
 show txtT _ = _
 unfold txtT
 simp only [List.getD_cons_zero, List.drop_succ_cons, List.drop_zero]
 rw [h2, h3]
 simp only [if_true]
 have hl : (d.take n).length = n := by rw [List.length_take]; omega
 have ht : (q :: (d.take n ++ [10])).take (1 + n) = q :: d.take n := by
  rw [Nat.add_comm, List.take_succ_cons, List.take_left' hl]
 rw [ht]
 simp; omega
theorem comment_back (m : List Int) (hok : ∀ r ∈ m, Okr r) (c : List Int) (h : m = (cmT c).1) : backT { kind := 25, text := encZs m } = true := by
 refine back_no _ rfl rfl ?_
 have hS : spellT { kind := 25, text := encZs m } = encZs (47 :: 42 :: (m ++ [42, 47])) := by
  rw [encZs_cons, encZs_cons, encZs_append, show enc 47 = [47] by decide +kernel, show enc 42 = [42] by decide +kernel, show encZs [42, 47] = [42, 47] by decide +kernel]; rfl
 rw [hS]
 refine one_tk _ _ _ (encZs_ne _ (by simp)) (rn_encZs _ ?_) ?_
 ·intro r hr
  simp only [List.mem_cons, List.mem_append, List.mem_nil_iff, or_false] at hr
  rcases hr with rfl | rfl | hr | rfl | rfl
  ·decide
  ·decide
  ·exact hok r hr
  ·decide
  ·decide
 ·have hw : wayT (47 :: 42 :: (m ++ [42, 47])) = 1 := by
   unfold wayT
   rw [if_pos (by simp [stC, List.isPrefixOf])]
  unfold tkC
  rw [hw]
  show (({ kind := 25, text := encZs (cmT (m ++ [42, 47])).1 } : CT), 2 + (cmT (m ++ [42, 47])).2) = _
  have := cmT_again c []
  rw [<- h] at this
  rw [this]
  simp; omega
theorem way8 (c : List Int) (h : wayT c = 8) : begN c = true /\ stC [45, 45, 62] c = false := by
 unfold wayT at h
 repeat' split at h
 all_goals first | omega | skip
 rename_i h1 h2 h3 h4 h5 h6 h7 h8
 exact ⟨h8, by simpa using h6⟩
theorem bad_url (c : List Int) (hok : ∀ r ∈ c, Okr r) (hw : wayT c = 8) (h40 : c.getD (takeN c).2 (-1) = 40) (hu : lowL (encZs (takeN c).1) = [117, 114, 108]) (h34 : c.getD (nameE c) (-1) ≠ 34) (h39 : c.getD (nameE c) (-1) ≠ 39) (hb : (urlT false false (c.drop (nameE c))).1 = true) :
  backT { kind := 8, text := encZs (c.take (nameE c + (urlT false false (c.drop (nameE c))).2.2)) } = true := by
 obtain ⟨w1, w2⟩ := way8 c hw
 have hcut := urlT_cut (c.drop (nameE c)).length false false (c.drop (nameE c)) (Nat.le_refl _)
 obtain ⟨n, hn⟩ : ∃ n, (urlT false false (c.drop (nameE c))).2.2 = n := ⟨_, rfl⟩
 have hn1 : 1 <= n := by
  cases hd : c.drop (nameE c) with
  | nil => rw [hd, urlT_nil] at hb; simp at hb
  | cons x y =>
   rw [hd] at hn
   rw [<- hn, urlT]
   repeat' split
   all_goals simp
   all_goals omega
 have hle := (urlT_le _ false false (c.drop (nameE c)) (Nat.le_refl _)).1
 have hnE := (nameE_le c h40).1
 rw [hn] at hcut hle ⊢
 rw [List.length_drop] at hle
 have h3 : 3 <= (takeN c).2 := by
  have hl := (takeN_le _ c (Nat.le_refl _)).2
  have : (encZs (takeN c).1).length = 3 := by
   have := congrArg List.length hu
   simpa [lowL] using this
  have hx := (encZs_len (takeN c).1)
  -- three bytes, so at least one code point; each letter is one
  have hlow : ∀ x ∈ encZs (takeN c).1, x.toNat < 128 := by
   intro x hx
   have hm : lowB x ∈ lowL (encZs (takeN c).1) := List.mem_map.2 ⟨x, hx, rfl⟩
   rw [hu] at hm
   unfold lowB at hm
   split at hm
   ·rename_i hh; omega
   ·simp only [List.mem_cons, List.mem_nil_iff, or_false] at hm
    rcases hm with rfl | rfl | rfl <;> decide
  have hall : ∀ l : List Int, (∀ x ∈ encZs l, x.toNat < 128) -> (∀ r ∈ l, okP r) -> (encZs l).length = l.length := by
   intro l
   induction l with
   | nil => intro _ _; rfl
   | cons a t ih =>
    intro h1 h2
    have ha := h2 a (by simp)
    have ha2 : a < 128 := by
     rcases Int.lt_or_le a 128 with h | h
     ·exact h
     ·have hb := enc_big a ha.1 h
      have he : enc a ≠ [] := by
       have := encZs_ne [a] (by simp)
       rw [encZs_cons, encZs_nil, List.append_nil] at this
       exact this
      cases hh : enc a with
      | nil => exact absurd hh he
      | cons y ys =>
       have c1 := hb y (by rw [hh]; simp)
       have c2 := h1 y (by rw [encZs_cons, hh]; simp)
       omega
    rw [encZs_cons, List.length_append, enc_ascii a (by have := ha.2; omega) ha2, ih (fun x hx => h1 x (by rw [encZs_cons]; exact List.mem_append_right _ hx)) (fun r hr => h2 r (by simp [hr]))]
    simp; omega
  have := hall _ hlow (takeN_okP _ c (Nat.le_refl _) (fun r hr => okr_okP r (hok r hr)))
  omega
 have hnE2 : (takeN c).2 + 1 <= nameE c := by unfold nameE; omega
 obtain ⟨p, hp⟩ : ∃ p, nameE c + n = p := ⟨_, rfl⟩
 rw [hp]
 have hpl : p <= c.length := by omega
 obtain ⟨C, hC⟩ : ∃ C, c.take p = C := ⟨_, rfl⟩
 rw [hC]
 have hCl : C.length = p := by rw [<- hC, List.length_take]; omega
 have hg : ∀ j, j < p -> C.getD j (-1) = c.getD j (-1) := fun j hj => by rw [<- hC]; exact take_getD c p j hj
 have ht : takeN C = takeN c := by rw [<- hC]; exact takeN_take _ c p (Nat.le_refl _) (by omega)
 have hnC : nameE C = nameE c := by
  unfold nameE
  rw [ht]
  have : (C.drop ((takeN c).2 + 1)) = (c.drop ((takeN c).2 + 1)).take (p - ((takeN c).2 + 1)) := by rw [<- hC, List.drop_take]
  rw [this, blN_take _ _ (by unfold nameE at hp; omega)]
 have hd : C.drop (nameE c) = (c.drop (nameE c)).take n := by rw [<- hC, List.drop_take]; congr 1; omega
 have hbeg : begN C = true /\ stC [45, 45, 62] C = false := by
  match c, hpl, hC, w1, w2, hCl with
  | [], hpl, _, _, _, _ => simp at hpl; omega
  | [_], hpl, _, _, _, _ => simp at hpl; omega
  | [_, _], hpl, _, _, _, _ => simp at hpl; omega
  | x :: y :: z :: c', hpl, hC, w1, w2, _ =>
   obtain ⟨p', rfl⟩ : ∃ p', p = p' + 3 := ⟨p - 3, by omega⟩
   have : C = x :: y :: z :: c'.take p' := by rw [<- hC]; rfl
   subst this
   refine ⟨?_, ?_⟩
   ·simp only [begN, esB, List.getD_cons_zero] at w1 ⊢
    exact w1
   ·simp only [stC, List.isPrefixOf] at w2 ⊢
    simpa using w2
 refine back_no _ rfl rfl ?_
 have hS : spellT { kind := 8, text := encZs C } = encZs C := rfl
 rw [hS]
 have hC0 : C ≠ [] := by intro e; rw [e] at hCl; simp at hCl; omega
 refine one_tk _ C _ (encZs_ne _ hC0) (rn_encZs _ (by rw [<- hC]; exact take_ok _ _ hok)) ?_
 unfold tkC
 rw [way_name C hbeg.1 hbeg.2]
 show namT C = _
 unfold namT
 rw [ht, hg _ (by omega), if_pos h40, hnC, hg _ (by omega), if_pos ⟨hu, h34, h39⟩]
 unfold urlK
 rw [hd, hcut, if_pos hb, hn, hp, <- hCl, List.take_length]
theorem delim_back (r : Int) (u : List Int) (hok : Okr r) (h1 : isBl r = false) (h2 : r ≠ 34 /\ r ≠ 39) (h3 : numB (r :: u) = false) (h4 : begN (r :: u) = false) (h5 : oneK r = 9) : backT { kind := 9, text := enc r } = true := by
 by_cases h92 : r = 92
 ·subst h92; decide +kernel
 ·have hw : wayT [r] = 10 := by
   have hd : nDg r = false := by
    cases hh : nDg r with
    | false => rfl
    | true =>
     unfold numB at h3
     have hs : sgN (r :: u) = 0 := by
      unfold sgN; rw [nDg_iff] at hh; simp; omega
     rw [hs, List.getD_cons_zero, hh] at h3
     simp at h3
   have hst : nSt r = false := by
    cases hh : nSt r with
    | false => rfl
    | true =>
     simp only [begN] at h4
     have := (nSt_far r hh).2.2.1
     rw [if_neg this, hh] at h4
     simp at h4
   have hm1 : nDg (-1) = false := rfl
   have hs1 : nSt (-1) = false := rfl
   have hnb : numB [r] = false := by
    unfold numB sgN fracB
    simp only [List.getD_cons_zero]
    by_cases h : r = 43 \/ r = 45
    ·rw [if_pos h]; simp [hm1]
    ·rw [if_neg h]; simp [hd, hm1]
   unfold wayT
   rw [if_neg (by simp [stC, List.isPrefixOf]), List.getD_cons_zero, h1, if_neg (by simp), if_neg (by omega), if_neg (by rintro ⟨_, h⟩; simp [inNm, esB, nIn, nSt, nDg] at h),
    if_neg (by rw [hnb]; simp), if_neg (by simp [stC, List.isPrefixOf]), if_neg (by simp [stC, List.isPrefixOf]),
    if_neg (by simp [begN, esB, hst, h92, hs1]), if_neg (by rintro ⟨_, h⟩; simp [begN] at h)]
  have hl : lineT { kind := 9, text := enc r } = false := by
   unfold lineT
   simp only [Bool.or_eq_false_iff, Bool.and_eq_false_iff, decide_eq_false_iff_not]
   refine ⟨by decide, .inr ?_⟩
   intro e
   have hz := rn_encZs [r] (by simpa using hok)
   rw [encZs_cons, encZs_nil, List.append_nil, e] at hz
   have : (rn [92] 0).map Prod.fst = [92] := by decide +kernel
   rw [this] at hz
   simp at hz
   exact h92 hz.symm
  refine back_no _ hl rfl ?_
  have hS : spellT { kind := 9, text := enc r } = encZs [r] := by rw [encZs_cons, encZs_nil, List.append_nil]; rfl
  rw [hS]
  refine one_tk _ [r] _ (encZs_ne _ (by simp)) (rn_encZs _ (by simpa using hok)) ?_
  unfold tkC
  rw [hw]
  show (if oneK r = 9 then (({ kind := 9, text := enc r } : CT), 1) else ({ kind := oneK r }, 1)) = _
  rw [if_pos h5]; rfl
theorem lexed_right (c : List Int) (hok : ∀ r ∈ c, Okr r) (h0 : 0 < c.length) (hl : c.length <= 20000) : rightT (tkC c).1 = true := by
 have hokP : ∀ r ∈ c, okP r := fun r hr => okr_okP r (hok r hr)
 have hname : ∀ d : List Int, (∀ r ∈ d, okP r) -> cleanS (encZs (takeN d).1) = true := fun d h => clean_encZs _ (takeN_okP _ d (Nat.le_refl _) h)
 have hd1 : ∀ r ∈ c.drop 1, okP r := drop_ok c 1 hokP
 unfold tkC
 by_cases a1 : stC [47, 42] c = true
 ·have ew : wayT c = 1 := by unfold wayT; rw [if_pos a1]
  rw [ew]
  show rightT { kind := 25, text := encZs (cmT (c.drop 2)).1 } = true
  have hm : ∀ r ∈ (cmT (c.drop 2)).1, Okr r := fun r hr => hok r (List.mem_of_mem_drop (cmT_sub _ r hr))
  refine mk_right _ (clean_encZs _ (fun r hr => okr_okP r (hm r hr))) clean_nil rfl ?_
  show backT _ = true
  exact comment_back _ hm _ rfl
 by_cases a2 : isBl (c.getD 0 (-1)) = true
 ·have ew : wayT c = 2 := by unfold wayT; rw [if_neg a1, if_pos a2]
  rw [ew]
  show rightT { kind := 13, text := if c.getD 0 (-1) = 10 then [10] else [32] } = true
  split <;> decide +kernel
 by_cases a3 : c.getD 0 (-1) = 34 \/ c.getD 0 (-1) = 39
 ·have ew : wayT c = 3 := by unfold wayT; rw [if_neg a1, if_neg a2, if_pos a3]
  rw [ew]
  show rightT (txtT c).1 = true
  cases c with
  | nil => simp at h0
  | cons q d =>
   simp only [List.getD_cons_zero] at a3
   unfold txtT
   simp only [List.getD_cons_zero, List.drop_succ_cons, List.drop_zero]
   split
   ·rename_i hb
    have hc2 : cleanS (encZs ((q :: d).take (1 + (strT q d).2.2))) = true := clean_encZs _ (fun r hr => hokP r (List.mem_of_mem_take hr))
    refine mk_right _ hc2 clean_nil rfl ?_
    show backT _ = true
    exact bad_text q a3 d hok hb
   ·exact mk_right _ (clean_encZs _ (strT_okP q _ d (Nat.le_refl _) (fun r hr => hokP r (by simp [hr])))) clean_nil rfl rfl
 by_cases a4 : c.getD 0 (-1) = 35 /\ inNm (c.drop 1) = true
 ·have ew : wayT c = 4 := by unfold wayT; rw [if_neg a1, if_neg a2, if_neg a3, if_pos a4]
  rw [ew]
  show rightT { kind := 4, text := encZs (takeN (c.drop 1)).1, flag := begN (c.drop 1) } = true
  have hne := inNm_take _ a4.2
  refine mk_right _ (hname _ hd1) clean_nil rfl ?_
  show (decide (encZs (takeN (c.drop 1)).1 ≠ []) && backT { kind := 4, text := encZs (takeN (c.drop 1)).1, flag := begN (c.drop 1) }) = true
  rw [Bool.and_eq_true, decide_eq_true_iff]
  exact ⟨encZs_ne _ hne, hash_back _ (takeN_okP _ _ (Nat.le_refl _) hd1) _ hne (fun hf => spR_rest _ hd1 a4.2 hf)⟩
 by_cases a5 : numB c = true
 ·have ew : wayT c = 5 := by unfold wayT; rw [if_neg a1, if_neg a2, if_neg a3, if_neg a4, if_pos a5]
  rw [ew]
  show rightT (numT c).1 = true
  unfold numT
  split
  ·rename_i hb
   exact num_right c hokP a5 hl _ rfl rfl rfl (.inr (.inr rfl)) rfl (fun h => absurd rfl h) (fun _ => ⟨encZs_ne _ (takeN_ne _ hb), hname _ (drop_ok c _ hokP)⟩)
  ·split
   ·exact num_right c hokP a5 hl _ rfl rfl rfl (.inr (.inl rfl)) rfl (fun _ => rfl) (fun h => absurd (show (11 : Int) = 12 from h) (by decide))
   ·exact num_right c hokP a5 hl _ rfl rfl rfl (.inl rfl) rfl (fun _ => rfl) (fun h => absurd (show (10 : Int) = 12 from h) (by decide))
 by_cases a6 : stC [45, 45, 62] c = true
 ·have ew : wayT c = 6 := by unfold wayT; rw [if_neg a1, if_neg a2, if_neg a3, if_neg a4, if_neg a5, if_pos a6]
  rw [ew]
  show rightT { kind := 15 } = true
  decide +kernel
 by_cases a7 : stC [60, 33, 45, 45] c = true
 ·have ew : wayT c = 7 := by unfold wayT; rw [if_neg a1, if_neg a2, if_neg a3, if_neg a4, if_neg a5, if_neg a6, if_pos a7]
  rw [ew]
  show rightT { kind := 14 } = true
  decide +kernel
 by_cases a8 : begN c = true
 ·have ew : wayT c = 8 := by unfold wayT; rw [if_neg a1, if_neg a2, if_neg a3, if_neg a4, if_neg a5, if_neg a6, if_neg a7, if_pos a8]
  rw [ew]
  show rightT (namT c).1 = true
  have hne := takeN_ne c a8
  have hcl := hname c hokP
  unfold namT
  split
  ·rename_i h40
   split
   ·rename_i hu
    unfold urlK
    split
    ·rename_i hb
     refine mk_right _ (clean_encZs _ (fun r hr => hokP r (List.mem_of_mem_take hr))) clean_nil rfl ?_
     show backT _ = true
     exact bad_url c hok ew h40 hu.1 hu.2.1 hu.2.2 hb
    ·exact mk_right _ (clean_encZs _ (urlT_okP _ _ _ _ (Nat.le_refl _) (drop_ok c _ hokP))) clean_nil rfl rfl
   ·refine mk_right _ hcl clean_nil rfl ?_
    show decide (encZs (takeN c).1 ≠ []) = true
    exact decide_eq_true (encZs_ne _ hne)
  ·refine mk_right _ hcl clean_nil rfl ?_
   show decide (encZs (takeN c).1 ≠ []) = true
   exact decide_eq_true (encZs_ne _ hne)
 by_cases a9 : c.getD 0 (-1) = 64 /\ begN (c.drop 1) = true
 ·have ew : wayT c = 9 := by unfold wayT; rw [if_neg a1, if_neg a2, if_neg a3, if_neg a4, if_neg a5, if_neg a6, if_neg a7, if_neg a8, if_pos a9]
  rw [ew]
  show rightT { kind := 3, text := encZs (takeN (c.drop 1)).1 } = true
  refine mk_right _ (hname _ hd1) clean_nil rfl ?_
  show decide (encZs (takeN (c.drop 1)).1 ≠ []) = true
  exact decide_eq_true (encZs_ne _ (takeN_ne _ a9.2))
 have ew : wayT c = 10 := by unfold wayT; rw [if_neg a1, if_neg a2, if_neg a3, if_neg a4, if_neg a5, if_neg a6, if_neg a7, if_neg a8, if_neg a9]
 rw [ew]
 show rightT (if oneK (c.getD 0 (-1)) = 9 then (({ kind := 9, text := enc (c.getD 0 (-1)) } : CT), 1) else ({ kind := oneK (c.getD 0 (-1)) }, 1)).1 = true
 cases c with
 | nil => simp at h0
 | cons r u =>
  simp only [List.getD_cons_zero] at a2 a3 ⊢
  have hr := hok r (by simp)
  split
  ·rename_i h9
   have hcl : cleanS (enc r) = true := by
    have := clean_encZs [r] (by intro x hx; simp at hx; subst hx; exact okr_okP _ hr)
    rw [encZs_cons, encZs_nil, List.append_nil] at this; exact this
   refine mk_right _ hcl clean_nil rfl ?_
   show backT _ = true
   exact delim_back r u hr (by simpa using a2) (by omega) (by simpa using a5) (by simpa using a8) h9
  ·rename_i h9
   unfold oneK at h9 ⊢
   repeat' split
   all_goals first | decide +kernel | skip
   rename_i b1 b2 b3 b4 b5 b6 b7 b8 b9
   rw [if_neg b1, if_neg b2, if_neg b3, if_neg b4, if_neg b5, if_neg b6, if_neg b7, if_neg b8, if_neg b9] at h9
   exact absurd rfl h9
theorem right_ne (t : CT) (h : rightT t = true) : spellT t ≠ [] := by
 have hb := right_back t h
 intro e
 unfold backT at hb
 rw [reads_iff, e, List.nil_append] at hb
 unfold tailS tailT at hb
 simp only [List.getLast?_singleton] at hb
 split at hb
 ·have : (tksC (rn [10] 0)).map Prod.fst = [{ kind := 13, text := [10] }] := by decide +kernel
  rw [this] at hb; simp at hb
 ·split at hb
  ·have : (tksC (rn [34, 34] 0)).map Prod.fst = [{ kind := 5 }] := by decide +kernel
   rw [this] at hb; simp at hb
  ·have : (tksC (rn [] 0)).map Prod.fst = [] := by decide +kernel
   rw [this] at hb; simp at hb
theorem csign_le (s : List UInt8) : (csign s).2.length <= s.length := by
 unfold csign unsign
 split
 ·simp
 ·split <;> simp
theorem dgrs_len (s : List UInt8) : (dg s).length + (rs s).length = s.length := by
 have := congrArg List.length (dg_rs s)
 rw [List.length_append] at this
 exact this
theorem divE_lens (n : Bool) (w f s : List UInt8) : (divE n w f s).1.2.1 = w /\ (divE n w f s).1.2.2.1 = f /\ (divE n w f s).1.2.2.2.2.2.length <= s.length /\ ∀ c ∈ (divE n w f s).1.2.2.2.2.2, dig c = true := by
 unfold divE
 split
 ·refine ⟨rfl, rfl, ?_, fun c hc => dg_dig _ c hc⟩
  have h1 := dgrs_len (csign s.tail).2
  have h2 := csign_le s.tail
  rw [List.length_tail] at h2
  show (dg (csign s.tail).2).length <= s.length
  omega
 ·exact ⟨rfl, rfl, by simp, by simp⟩
theorem div_lens (s : List UInt8) : ((divW s).1.2.1 ++ (divW s).1.2.2.1).length <= s.length /\ (divW s).1.2.2.2.2.2.length <= s.length /\ ∀ c ∈ (divW s).1.2.2.2.2.2, dig c = true := by
 have h1 := csign_le s
 have h2 := dgrs_len (csign s).2
 have h3 := dgrs_len (rs (csign s).2).tail
 rw [List.length_tail] at h3
 unfold divW
 split
 ·split
  ·exact ⟨by simp [zeroP], by simp [zeroP], by simp [zeroP]⟩
  ·obtain ⟨a, b, c, d⟩ := divE_lens (csign s).1 (dg (csign s).2) (dg (rs (csign s).2).tail) (rs (rs (csign s).2).tail)
   rw [a, b]
   exact ⟨by rw [List.length_append]; omega, by omega, d⟩
 ·split
  ·exact ⟨by simp [zeroP], by simp [zeroP], by simp [zeroP]⟩
  ·obtain ⟨a, b, c, d⟩ := divE_lens (csign s).1 (dg (csign s).2) [] (rs (csign s).2)
   rw [a, b]
   exact ⟨by rw [List.length_append]; simp; omega, by omega, d⟩
theorem txt_lenW (z : Int) (t : Nat) (h : z.natAbs < 10 ^ t) : (txt z).length <= t + 1 := by
 unfold txt
 split
 ·simp
 ·rename_i hz
  have := canon_len z.natAbs t (by omega) h
  split
  ·simp; omega
  ·omega
theorem norm_lens (L : List UInt8) (e : Int) (t : Nat) (hL : L.length <= 1000) (he : e.natAbs <= 10 ^ t + 1000) : (norm L e).1.length <= L.length /\ (norm L e).2.length <= t + 5 := by
 have h1 := rstrip_len (strip L)
 have h2 : (strip L).length <= L.length := by unfold strip; exact (List.dropWhile_sublist _).length_le
 unfold norm
 split
 ·simp
 ·refine ⟨by simp only; omega, ?_⟩
  have hp : 1 <= 10 ^ t := Nat.one_le_pow _ _ (by omega)
  exact txt_lenW _ (t + 4) (by rw [Nat.pow_add]; omega)
theorem read_lens (s : List UInt8) (hl : s.length <= 1000) : (readN s).1.2.1.length <= s.length /\ (readN s).1.2.2.length <= s.length + 5 := by
 obtain ⟨h1, h2, h3⟩ := div_lens s
 unfold readN
 split
 ·have hv := dval_lt _ h3
  have hp : 10 ^ (divW s).1.2.2.2.2.2.length <= 10 ^ s.length := Nat.pow_le_pow_right (by omega) h2
  have h4 : (expV (divW s).1 - (divW s).1.2.2.1.length).natAbs <= 10 ^ s.length + 1000 := by
   rw [List.length_append] at h1
   unfold expV
   split <;> omega
  have := norm_lens ((divW s).1.2.1 ++ (divW s).1.2.2.1) _ s.length (by omega) h4
  exact ⟨by simp only; omega, this.2⟩
 ·simp
def ShortT (n : Nat) (t : CT) : Prop := t.text.length <= 4 * n /\ t.unit.length <= 4 * n /\ t.num.2.1.length <= n /\ t.num.2.2.length <= n + 5
theorem encT (d : List Int) (n : Nat) (h : d.length <= n) : (encZs d).length <= 4 * n := by have := (encZs_len d).2; omega
theorem num0_short (c : List Int) (n : Nat) (h : c.length <= n) (hn : n <= 1000) : (numT0 (encZs (c.take (numE c)))).num.2.1.length <= n /\ (numT0 (encZs (c.take (numE c)))).num.2.2.length <= n + 5 := by
 have h1 := (encZs_asc _ (num_int c)).2.1
 rw [List.length_take] at h1
 have := read_lens (encZs (c.take (numE c))) (by omega)
 unfold numT0
 exact ⟨by simp only; omega, by simp only; omega⟩
theorem tk_short (c : List Int) (n : Nat) (h0 : 0 < c.length) (h : c.length <= n) (hn : n <= 1000) (ho : ∀ r ∈ c, Okr r) : ShortT n (tkC c).1 := by
 have hd1 : (c.drop 1).length <= n := by rw [List.length_drop]; omega
 have ht1 := takeN_le n (c.drop 1) hd1
 have ht0 := takeN_le n c h
 have hm := cmT_le (c.drop 2)
 rw [List.length_drop] at hm
 unfold tkC tokW
 split
 ·exact ⟨encT _ n (by omega), by simp, by simp, by simp⟩
 split
 ·refine ⟨?_, by simp, by simp, by simp⟩
  show (if c.getD 0 (-1) = 10 then [10] else [32] : List UInt8).length <= 4 * n
  split <;> (simp; omega)
 split
 ·unfold txtT
  have hs := strT_le (c.getD 0 (-1)) n (c.drop 1) hd1
  split
  ·exact ⟨encT _ n (by rw [List.length_take]; omega), by simp, by simp, by simp⟩
  ·exact ⟨encT _ n (by omega), by simp, by simp, by simp⟩
 split
 ·exact ⟨encT _ n (by omega), by simp, by simp, by simp⟩
 split
 ·have hn0 := num0_short c n h hn
  have hd : (c.drop (numE c)).length <= n := by rw [List.length_drop]; omega
  have htn := takeN_le n (c.drop (numE c)) hd
  unfold numT
  split
  ·exact ⟨by simp [numT0], encT _ n (by omega), hn0.1, hn0.2⟩
  split
  ·exact ⟨by simp [numT0], by simp [numT0], hn0.1, hn0.2⟩
  ·exact ⟨by simp [numT0], by simp [numT0], hn0.1, hn0.2⟩
 split
 ·exact ⟨by simp, by simp, by simp, by simp⟩
 split
 ·exact ⟨by simp, by simp, by simp, by simp⟩
 split
 ·unfold namT
  split
  ·split
   ·unfold urlK
    have hd : (c.drop (nameE c)).length <= n := by rw [List.length_drop]; omega
    have hu := urlT_le n false false (c.drop (nameE c)) hd
    split
    ·exact ⟨encT _ n (by rw [List.length_take]; omega), by simp, by simp, by simp⟩
    ·exact ⟨encT _ n (by omega), by simp, by simp, by simp⟩
   ·exact ⟨encT _ n (by omega), by simp, by simp, by simp⟩
  ·exact ⟨encT _ n (by omega), by simp, by simp, by simp⟩
 split
 ·exact ⟨encT _ n (by omega), by simp, by simp, by simp⟩
 split
 ·have h1 := (encZs_len [c.getD 0 (-1)]).2
  rw [encZs_cons, encZs_nil, List.append_nil] at h1
  refine ⟨?_, by simp, by simp, by simp⟩
  simp only [List.length_cons, List.length_nil] at h1 ⊢
  omega
 ·exact ⟨by simp, by simp, by simp, by simp⟩
def ShortW (n : Nat) (t : CT) : Prop := t.flag = true -> isNum t.kind -> (wholeS t.num.2.1 t.num.2.2).length <= n + 1
theorem num0_whole (c : List Int) (n : Nat) (hb : numB c = true) (h : c.length <= n) (hn : n <= 1000) (hf : (numT0 (encZs (c.take (numE c)))).flag = true) :
  (wholeS (numT0 (encZs (c.take (numE c)))).num.2.1 (numT0 (encZs (c.take (numE c)))).num.2.2).length <= n + 1 := by
 obtain ⟨v, k, hv, hk, e⟩ := whole_form c hb hf
 show (wholeS (readN (encZs (c.take (numE c)))).1.2.1 (readN (encZs (c.take (numE c)))).1.2.2).length <= n + 1
 rw [e]
 have := whole_nz_len v k hv (by omega)
 omega
theorem wayT_num (c : List Int) (h : wayT c = 5) : numB c = true := by
 unfold wayT at h
 repeat' split at h
 all_goals first | omega | assumption
theorem tk_whole (c : List Int) (n : Nat) (h : c.length <= n) (hn : n <= 1000) : ShortW n (tkC c).1 := by
 intro hf hk
 unfold tkC tokW at hf hk ⊢
 split
 ·rename_i h1; rw [if_pos h1] at hk; simp [isNum] at hk
 rename_i h1; rw [if_neg h1] at hf hk
 split
 ·rename_i h2; rw [if_pos h2] at hk; simp [isNum] at hk
 rename_i h2; rw [if_neg h2] at hf hk
 split
 ·rename_i h3; rw [if_pos h3] at hk; unfold txtT at hk; split at hk <;> simp [isNum] at hk
 rename_i h3; rw [if_neg h3] at hf hk
 split
 ·rename_i h4; rw [if_pos h4] at hk; simp [isNum] at hk
 rename_i h4; rw [if_neg h4] at hf hk
 split
 ·rename_i h5
  rw [if_pos h5] at hf hk
  have hb := wayT_num c h5
  unfold numT at hf ⊢
  split
  ·rename_i h6; rw [if_pos h6] at hf; exact num0_whole c n hb h hn hf
  rename_i h6; rw [if_neg h6] at hf
  split
  ·rename_i h7; rw [if_pos h7] at hf; exact num0_whole c n hb h hn hf
  ·rename_i h7; rw [if_neg h7] at hf; exact num0_whole c n hb h hn hf
 rename_i h5; rw [if_neg h5] at hf hk
 split
 ·rename_i h6; rw [if_pos h6] at hk; simp [isNum] at hk
 rename_i h6; rw [if_neg h6] at hf hk
 split
 ·rename_i h7; rw [if_pos h7] at hk; simp [isNum] at hk
 rename_i h7; rw [if_neg h7] at hf hk
 split
 ·rename_i h8; rw [if_pos h8] at hk
  unfold namT urlK at hk
  repeat' split at hk
  all_goals simp [isNum] at hk
 rename_i h8; rw [if_neg h8] at hf hk
 split
 ·rename_i h9; rw [if_pos h9] at hk; simp [isNum] at hk
 rename_i h9; rw [if_neg h9] at hf hk
 split
 ·rename_i ha; rw [if_pos ha] at hk; simp [isNum] at hk
 ·rename_i ha; rw [if_neg ha] at hk
  unfold oneK at hk
  repeat' split at hk
  all_goals simp [isNum] at hk
theorem tks_all (n : Nat) (hn : n <= 1000) (k : Nat) : ∀ l : List (Int × Int), l.length <= k -> l.length <= n -> (∀ r ∈ l, Okr r.1 /\ 0 <= r.2) -> ∀ t ∈ tksC l, 0 <= t.2 /\ rightT t.1 = true /\ ShortT n t.1 /\ ShortW n t.1 /\ spellT t.1 ≠ [] := by
 induction k with
 | zero =>
  intro l hk hl ho t ht
  obtain rfl := List.length_eq_zero_iff.1 (Nat.le_zero.1 hk)
  rw [lexC_nil] at ht
  simp at ht
 | succ k ih =>
  intro l hk hl ho t ht
  cases l with
  | nil => rw [lexC_nil] at ht; simp at ht
  | cons a l =>
   have hoc : ∀ r ∈ (a :: l).map Prod.fst, Okr r := by
    intro r hr
    obtain ⟨x, hx, rfl⟩ := List.mem_map.1 hr
    exact (ho x hx).1
   have hp : 0 < ((a :: l).map Prod.fst).length := by simp
   have hlc : ((a :: l).map Prod.fst).length <= n := by rw [List.length_map]; exact hl
   have hr := lexed_right _ hoc hp (by omega)
   rw [tksC] at ht
   rcases List.mem_cons.1 ht with rfl | ht
   ·exact ⟨(ho a (by simp)).2, hr, tk_short _ n hp hlc hn hoc, tk_whole _ n hlc hn, right_ne _ hr⟩
   ·have hw := (wayT_len ((a :: l).map Prod.fst) hp).1
    simp only [List.length_cons] at hk hl
    exact ih _ (by rw [List.length_drop]; omega) (by rw [List.length_drop]; omega) (fun r hr => ho r (List.mem_cons_of_mem _ (List.mem_of_mem_drop hr))) t ht
theorem rn_tks (l : List UInt8) (hl : l.length <= 400) : ∀ t ∈ tksC (rn l 0), 0 <= t.2 /\ rightT t.1 = true /\ ShortT 400 t.1 /\ ShortW 400 t.1 /\ spellT t.1 ≠ [] := by
 have hn := rn_len l l.length 0 (by omega)
 refine tks_all 400 (by omega) (rn l 0).length (rn l 0) (Nat.le_refl _) (by omega) (fun r hr => ⟨rn_ok l l.length 0 (by omega) r hr, ?_⟩)
 obtain ⟨k, hk, rfl⟩ := List.getElem_of_mem hr
 have := (rn_at l l.length 0 (by omega) k hk).1
 omega
end Go.Proofs.YtimjbjppmhdjnaaGreatDoor.M
