import Derived.Test.YtimjbjppmhdjnaaGreatDoorMgD
namespace Go.Proofs.YtimjbjppmhdjnaaGreatDoor.M
set_option linter.unusedVariables false
set_option linter.unusedSimpArgs false
def dl (n : Nat) : Nat := (decS n).length
def tlZ (z : Int) : Nat := (txt z).length
theorem dl_small (n : Nat) (h : n < 10) : dl n = 1 := by
 unfold dl; rw [decS_small n (by omega)]; rfl
theorem dl_step (n : Nat) (h : 10 <= n) : dl n = dl (n / 10) + 1 := by
 unfold dl; rw [decS_step n (by omega)]; simp
theorem dl_ten (n : Nat) (h : 1 <= n) : dl (10 * n) = dl n + 1 := by
 rw [dl_step _ (by omega), show 10 * n / 10 = n by omega]
theorem dl_pos (n : Nat) : 1 <= dl n := by
 unfold dl; exact List.length_pos_iff.2 (decS_ne n)
theorem dl_mono (b : Nat) : ∀ a, a <= b -> dl a <= dl b := by
 induction b using Nat.strongRecOn with
 | ind b ih =>
  intro a h
  by_cases h1 : a < 10
  ·rw [dl_small a h1]; exact dl_pos b
  ·rw [dl_step a (by omega), dl_step b (by omega)]
   have := ih (b / 10) (by omega) (a / 10) (by omega)
   omega
theorem dl_more (y d : Nat) (h : 100 <= y) (hd : d <= 200) : dl (y + d) <= dl y + 1 := by
 have h1 := dl_ten y (by omega)
 have h2 := dl_mono (10 * y) (y + d) (by omega)
 omega
theorem dl_le (n k : Nat) (h : n < 10 ^ (k + 1)) : dl n <= k + 1 := decS_len n k h
theorem tl_nn (z : Int) (h : 0 <= z) : tlZ z = dl z.natAbs := by
 unfold tlZ dl
 rcases txt_cases z with ⟨_, e⟩ | ⟨h2, _⟩
 ·rw [e]
 ·omega
theorem tl_ng (z : Int) (h : z < 0) : tlZ z = dl z.natAbs + 1 := by
 unfold tlZ dl
 rcases txt_cases z with ⟨h2, _⟩ | ⟨_, e⟩
 ·omega
 ·rw [e]; simp
theorem tl_succ (z : Int) : tlZ (z + 1) <= tlZ z + 1 := by
 rcases Int.lt_or_le z 0 with h | h
 ·rw [tl_ng z h]
  have h3 := dl_mono z.natAbs (z + 1).natAbs (by omega)
  rcases Int.lt_or_le (z + 1) 0 with h2 | h2
  ·rw [tl_ng _ h2]; omega
  ·rw [tl_nn _ h2]; omega
 ·rw [tl_nn z h, tl_nn _ (by omega)]
  by_cases h0 : z = 0
  ·subst h0; show dl 1 <= dl 0 + 1; rw [dl_small 1 (by omega)]; omega
  ·have h1 := dl_ten z.natAbs (by omega)
   have h2 := dl_mono (10 * z.natAbs) (z + 1).natAbs (by omega)
   omega
theorem tl_add (k : Nat) : ∀ z : Int, tlZ (z + k) <= tlZ z + k := by
 induction k with
 | zero => intro z; simp
 | succ k ih =>
  intro z
  have h1 := ih z
  have h2 := tl_succ (z + k)
  rw [show z + ((k + 1 : Nat) : Int) = z + k + 1 by omega]
  omega
theorem tl_small (z : Int) (h : z.natAbs < 1000) : tlZ z <= 4 /\ (0 <= z -> tlZ z <= 3) := by
 have h1 := dl_le z.natAbs 2 (by omega)
 rcases Int.lt_or_le z 0 with h2 | h2
 ·rw [tl_ng z h2]; omega
 ·rw [tl_nn z h2]; omega
theorem tl_two (z : Int) (h : z.natAbs < 100) : tlZ z <= 3 := by
 have h1 := dl_le z.natAbs 1 (by omega)
 rcases Int.lt_or_le z 0 with h2 | h2
 ·rw [tl_ng z h2]; omega
 ·rw [tl_nn z h2]; omega
theorem tl_one (z : Int) (h : z.natAbs < 10) : tlZ z <= 2 := by
 have h1 := dl_small z.natAbs h
 rcases Int.lt_or_le z 0 with h2 | h2
 ·rw [tl_ng z h2]; omega
 ·rw [tl_nn z h2]; omega
theorem tl_pos (z : Int) : 1 <= tlZ z := by
 unfold tlZ; exact List.length_pos_iff.2 (txt_ne z)
theorem tl_neg2 (z : Int) (h : z < 0) : 2 <= tlZ z := by
 rw [tl_ng z h]; have := dl_pos z.natAbs; omega
theorem tl_neg3 (z : Int) (h : z <= -10) : 3 <= tlZ z := by
 rw [tl_ng z (by omega), dl_step _ (by omega)]; have := dl_pos (z.natAbs / 10); omega
theorem tl_down (z : Int) (d : Nat) (h : 0 <= z - d) : tlZ (z - d) <= tlZ z := by
 rw [tl_nn _ h, tl_nn z (by omega)]
 exact dl_mono _ _ (by omega)
theorem tl_far (z : Int) (d : Nat) (h : z <= -100) (hd : d <= 200) : tlZ (z - d) <= tlZ z + 1 := by
 rw [tl_ng z (by omega), tl_ng _ (by omega)]
 have := dl_more z.natAbs d (by omega) hd
 rw [show (z - d).natAbs = z.natAbs + d by omega]
 omega
theorem least_num (n k w f L le : Nat) (x X : Int) (h1 : 1 <= n) (h2 : 1 <= w) (h3 : n + k <= w + f) (h4 : w + f <= 200) (hX : X = x - f + k)
  (hL : (f = 0 /\ L = w + le) \/ (0 < f /\ L = w + f + 1 + le)) (hle : (x = 0 /\ le = 0) \/ 1 + tlZ x <= le) :
  (0 <= X /\ X <= 20 /\ n + X <= L) \/ (-n < X /\ X < 0 /\ n + 1 <= L) \/ (-n - 20 <= X /\ X <= -n /\ 2 - X <= L) \/ (n + 1 + tlZ X <= L) \/ (1 < n /\ X + n - 1 ≠ 0 /\ n + 2 + tlZ (X + n - 1) <= L) := by
 rcases hle with ⟨rfl, rfl⟩ | hle
 ·have h5 := tl_small X (by omega)
  omega
 ·by_cases hk : f <= k
  ·have h5 := tl_add (k - f) x
   rw [show x + ((k - f : Nat) : Int) = X by omega] at h5
   omega
  ·obtain ⟨d, hd⟩ : ∃ d, d = f - k := ⟨_, rfl⟩
   have hXd : X = x - d := by omega
   by_cases c1 : 0 <= x - d
   ·have h5 := tl_down x d c1
    rw [<- hXd] at h5
    omega
   ·by_cases c2 : 0 <= x
    ·have h5 := tl_small X (by omega)
     have h6 := tl_pos x
     omega
    ·by_cases c3 : x <= -100
     ·have h5 := tl_far x d c3 (by omega)
      rw [<- hXd] at h5
      omega
     ·have h5 := tl_small X (by omega)
      have h6 := tl_neg2 x (by omega)
      by_cases c4 : x <= -10
      ·have h7 := tl_neg3 x c4
       omega
      ·by_cases c5 : n + 1 <= w + f
       ·omega
       ·by_cases c6 : X.natAbs < 100
        ·have h7 := tl_two X c6
         omega
        ·by_cases c7 : -n < X
         ·omega
         ·have h7 := tl_one (X + n - 1) (by omega)
          omega
theorem canon_len (v t : Nat) (h0 : v ≠ 0) (h : v < 10 ^ t) : (canon v).length <= t := by
 cases t with
 | zero => simp at h; omega
 | succ t => have := decS_len v t h; unfold decS at this; rwa [if_neg h0] at this
theorem exp_len (S : List UInt8) (h1 : rs (csign S).2 = []) (h2 : dg (csign S).2 ≠ []) : tlZ (if (csign S).1 then -(dval (dg (csign S).2) : Int) else dval (dg (csign S).2)) <= S.length := by
 have e := dg_rs (csign S).2
 rw [h1, List.append_nil] at e
 have hd := dg_dig (csign S).2
 obtain ⟨G, hG⟩ : ∃ G, dg (csign S).2 = G := ⟨_, rfl⟩
 rw [hG] at e hd h2 ⊢
 have hl := dval_lt G hd
 have hg : 0 < G.length := List.length_pos_iff.2 h2
 have hdl : dl (dval G) <= G.length := by
  obtain ⟨k, hk⟩ : ∃ k, G.length = k + 1 := ⟨G.length - 1, by omega⟩
  rw [hk] at hl ⊢
  exact dl_le _ _ hl
 have hcs : (if (csign S).1 then 1 else 0) + (csign S).2.length <= S.length := by
  unfold csign
  split
  ·simp
  ·unfold isNeg unsign
   by_cases h : S.head? = some 45
   ·rw [if_pos h, h]
    cases S with
    | nil => simp at h
    | cons a t => simp; omega
   ·rw [if_neg h]; simp [h]
 rw [<- e] at hcs
 by_cases hn : (csign S).1 = true
 ·rw [if_pos hn] at hcs ⊢
  by_cases h0 : dval G = 0
  ·rw [h0, show -((0 : Nat) : Int) = 0 by rfl, tl_nn 0 (by omega)]
   have := dl_small 0 (by omega)
   simp only [Int.natAbs_zero]
   omega
  ·rw [tl_ng _ (by omega), show (-(dval G : Int)).natAbs = dval G by omega]
   omega
 ·rw [if_neg hn] at hcs ⊢
  rw [tl_nn _ (by omega), show ((dval G : Nat) : Int).natAbs = dval G by omega]
  omega
theorem int_small (X : Int) (h1 : -1000000 <= X) (h2 : X <= 1000000) : intD (txt X) = (X, true) := by
 unfold intD
 rw [(val_txt X).1, (val_txt X).2, if_pos ⟨rfl, h1, h2⟩]
theorem sgl_len (ng : Bool) : (sgl ng).length = if ng then 1 else 0 := by cases ng <;> rfl
theorem plain_ne (ng : Bool) (D E : List UInt8) (h : rightN D E = true) : plainN ng D E ≠ [] := by
 unfold plainN
 rw [if_pos h]
 split <;> simp
theorem readN_nil : (readN []).2 = false := by decide
theorem plain_pos (ng : Bool) (D E : List UInt8) : ∀ t ∈ plainN ng D E, 0 < t.length := by
 intro t ht
 have := plain_back ng D E t ht
 rcases Nat.eq_zero_or_pos t.length with h | h
 ·rw [List.length_eq_zero_iff.1 h] at this
  have h2 := readN_nil
  rw [this] at h2
  exact absurd h2 (by simp)
 ·exact h
theorem some_short (ng : Bool) (m : Nat) (X : Int) (n L : Nat) (hm : m % 10 ≠ 0) (hn : (canon m).length = n)
  (h : (0 <= X /\ X <= 20 /\ n + X <= L) \/ (-n < X /\ X < 0 /\ n + 1 <= L) \/ (-n - 20 <= X /\ X <= -n /\ 2 - X <= L) \/ (n + 1 + tlZ X <= L) \/ (1 < n /\ X + n - 1 ≠ 0 /\ n + 2 + tlZ (X + n - 1) <= L)) (hn2 : n <= 1000) :
  ∃ t ∈ plainN ng (canon m) (txt X), t.length <= (sgl ng).length + L := by
 have h0 : m ≠ 0 := by intro h0; subst h0; exact hm rfl
 have hne := canon_ne m h0
 unfold plainN
 rw [if_pos (right_core m X hm), if_neg hne]
 obtain ⟨D, eD⟩ : ∃ D, canon m = D := ⟨_, rfl⟩
 rw [eD] at hn hne ⊢
 have one : (-n - 20 <= X /\ X <= 20) -> (unsc D X).length <= L -> unsc D X ≠ [] -> ∃ t ∈ plain1 ng D (txt X) ++ ([sgl ng ++ (D ++ 101 :: txt X)] ++ plain3 ng D (txt X)), t.length <= (sgl ng).length + L := fun hx hl hu => by
  refine ⟨sgl ng ++ unsc D X, ?_, by rw [List.length_append]; omega⟩
  unfold plain1
  rw [int_small X (by omega) (by omega), if_pos ⟨rfl, hu⟩]
  simp
 rcases h with ⟨h1, h2, h3⟩ | ⟨h1, h2, h3⟩ | ⟨h1, h2, h3⟩ | h | ⟨h1, h2, h3⟩
 ·have e : unsc D X = D ++ List.replicate X.toNat 48 := by unfold unsc; rw [if_pos ⟨h1, h2⟩]
  exact one ⟨by omega, by omega⟩ (by rw [e, List.length_append, List.length_replicate]; omega) (by rw [e]; simp [hne])
 ·have e : unsc D X = D.take ((D.length : Int) + X).toNat ++ 46 :: D.drop ((D.length : Int) + X).toNat := by unfold unsc; rw [if_neg (by omega), if_pos ⟨h2, by omega⟩]
  exact one ⟨by omega, by omega⟩ (by rw [e, List.length_append, List.length_cons, List.length_take, List.length_drop]; omega) (by rw [e]; simp)
 ·have e : unsc D X = 48 :: 46 :: (List.replicate (-((D.length : Int) + X)).toNat 48 ++ D) := by unfold unsc; rw [if_neg (by have := List.length_pos_iff.2 hne; omega), if_neg (by omega), if_pos ⟨by omega, by omega⟩]
  exact one ⟨by omega, by omega⟩ (by rw [e, List.length_cons, List.length_cons, List.length_append, List.length_replicate]; omega) (by rw [e]; simp)
 ·refine ⟨sgl ng ++ (D ++ 101 :: txt X), by simp, ?_⟩
  unfold tlZ at h
  simp only [List.length_append, List.length_cons]
  omega
 ·refine ⟨sgl ng ++ (D.take 1 ++ 46 :: (D.drop 1 ++ 101 :: txt (X + ((D.length : Int) - 1)))), ?_, ?_⟩
  ·unfold plain3
   rw [upE_txt, if_pos ⟨by omega, by intro e; have := txt_inj _ 0 e; omega⟩]
   simp
  ·unfold tlZ at h3
   rw [show X + ((D.length : Int) - 1) = X + n - 1 by omega]
   simp only [List.length_append, List.length_cons, List.length_take, List.length_drop]
   omega
theorem least (s D E : List UInt8) (ng : Bool) (hs : s.length <= 200) (h : readN s = ((ng, D, E), true)) (h1 : s.head? ≠ some 43) (h2 : (csign s).2.head? ≠ some 46) :
  rightN D E = true /\ 0 < (shortN (plainN ng D E)).length /\ (shortN (plainN ng D E)).length <= s.length := by
 have hdiv : (divW s).2 = true := by
  unfold readN at h
  split at h
  ·assumption
  ·exact absurd (congrArg Prod.snd h) (by simp)
 have hrd := h
 unfold readN at h
 rw [if_pos hdiv] at h
 -- the sign
 have hsl : s.length = (if (csign s).1 then 1 else 0) + (csign s).2.length := by
  unfold csign
  rw [if_neg h1]
  unfold isNeg unsign
  by_cases h : s.head? = some 45
  ·rw [if_pos h, h]
   cases s with
   | nil => simp at h
   | cons a t => simp; omega
  ·rw [if_neg h]; simp [h]
 obtain ⟨sg, r, hcs⟩ : ∃ sg r, csign s = (sg, r) := ⟨_, _, rfl⟩
 rw [hcs] at hsl h2
 simp only at hsl h2
 have key : ∃ (W F S : List UInt8), W ≠ [] /\ (∀ c ∈ W, dig c = true) /\ (∀ c ∈ F, dig c = true) /\ divW s = divE sg W F S /\ ((F = [] /\ r.length = W.length + S.length) \/ (F ≠ [] /\ r.length = W.length + F.length + 1 + S.length)) := by
  have e := dg_rs r
  unfold divW at hdiv ⊢
  rw [hcs] at hdiv ⊢
  simp only at hdiv ⊢
  split at hdiv
  ·rename_i c
   rw [if_pos c]
   split at hdiv
   ·exact absurd hdiv (by simp)
   ·rename_i c2
    rw [if_neg c2]
    obtain ⟨R, hR⟩ : ∃ R, rs r = 46 :: R := by
     cases hh : rs r with
     | nil => rw [hh] at c; simp at c
     | cons a t => rw [hh] at c; simp at c; exact ⟨t, by rw [c]⟩
    refine ⟨dg r, dg (rs r).tail, rs (rs r).tail, ?_, dg_dig _, dg_dig _, rfl, .inr ⟨c2, ?_⟩⟩
    ·intro e0
     rw [e0, List.nil_append] at e
     rw [e] at c; exact h2 c
    ·have e2 := dg_rs R
     have l1 := congrArg List.length e
     have l2 := congrArg List.length e2
     rw [hR] at l1 ⊢
     simp only [List.tail_cons, List.length_append, List.length_cons] at l1 l2 ⊢
     omega
  ·rename_i c
   rw [if_neg c]
   split at hdiv
   ·exact absurd hdiv (by simp)
   ·rename_i c2
    rw [if_neg c2]
    refine ⟨dg r, [], rs r, c2, dg_dig _, by simp, rfl, .inl ⟨rfl, ?_⟩⟩
    have l1 := congrArg List.length e
    rw [List.length_append] at l1
    exact l1.symm
 obtain ⟨W, F, S, hW0, hW, hF, hdE, hlen⟩ := key
 rw [hdE] at h hdiv
 have hx : ∃ (p : Bool × Bool × List UInt8) (x : Int), divE sg W F S = ((sg, W, F, p), true) /\ expV (sg, W, F, p) = x /\ ((x = 0 /\ S.length = 0) \/ 1 + tlZ x <= S.length) := by
  unfold divE at hdiv ⊢
  split at hdiv
  ·rename_i c
   rw [if_pos c]
   simp only [Bool.and_eq_true, List.isEmpty_iff, Bool.not_eq_true', List.isEmpty_eq_false_iff] at hdiv
   refine ⟨(true, (csign S.tail).1, dg (csign S.tail).2), _, by simp [hdiv.1, hdiv.2], rfl, .inr ?_⟩
   have := exp_len S.tail hdiv.1 hdiv.2
   unfold expV
   simp only
   cases S with
   | nil => simp at c
   | cons a t => simp only [List.tail_cons, List.length_cons] at this ⊢; omega
  ·rename_i c
   rw [if_neg c]
   simp only [List.isEmpty_iff] at hdiv
   exact ⟨(false, false, []), 0, by simp [hdiv], by unfold expV; rfl, .inl ⟨rfl, by rw [hdiv]; rfl⟩⟩
 obtain ⟨p, x, hE1, hE2, hE3⟩ := hx
 rw [hE1] at h
 simp only [hE2] at h
 rw [norm_nz _ _ (by intro c hc; exact (List.mem_append.1 hc).elim (hW c) (hF c))] at h
 simp only [Prod.mk.injEq, and_true] at h
 obtain ⟨rfl, hnz⟩ := h
 have hnz2 : nz (dval (W ++ F)) (x - F.length) = (D, E) := hnz
 have hR : rightN D E = true := by
  have := nz_right (dval (W ++ F)) (x - F.length)
  rw [hnz2] at this; exact this
 have hsm := short_mem _ (plain_ne sg D E hR)
 refine ⟨hR, plain_pos sg D E _ hsm, ?_⟩
 suffices hh : ∃ t ∈ plainN sg D E, t.length <= s.length by
  obtain ⟨t, ht, hl⟩ := hh
  exact Nat.le_trans (short_le _ t ht) hl
 have hw : 0 < W.length := List.length_pos_iff.2 hW0
 have hlt := dval_lt (W ++ F) (by intro c hc; exact (List.mem_append.1 hc).elim (hW c) (hF c))
 obtain ⟨v, hv⟩ : ∃ v, dval (W ++ F) = v := ⟨_, rfl⟩
 rw [hv] at hnz2 hlt
 by_cases h0 : v = 0
 ·subst h0
  rw [nz_zero] at hnz2
  simp only [Prod.mk.injEq] at hnz2
  obtain ⟨rfl, rfl⟩ := hnz2
  refine ⟨sgl sg ++ [48], by unfold plainN; rw [if_pos hR, if_pos rfl]; simp, ?_⟩
  rw [List.length_append, sgl_len]
  simp only [List.length_singleton]
  omega
 ·obtain ⟨m, k, hm, rfl⟩ := core_ex v h0
  rw [nz_pow, nz_core _ _ hm] at hnz2
  simp only [Prod.mk.injEq] at hnz2
  obtain ⟨rfl, rfl⟩ := hnz2
  have hcl := canon_len _ _ h0 hlt
  have hm0 : m ≠ 0 := by intro h0; subst h0; exact hm rfl
  rw [canon_zeros m k hm0, List.length_append, List.length_replicate, List.length_append] at hcl
  obtain ⟨n, hn⟩ : ∃ n, (canon m).length = n := ⟨_, rfl⟩
  rw [hn] at hcl
  have hn1 : 1 <= n := by rw [<- hn]; exact List.length_pos_iff.2 (canon_ne m hm0)
  have hlen2 : (F.length = 0 /\ r.length = W.length + S.length) \/ (0 < F.length /\ r.length = W.length + F.length + 1 + S.length) := by
   rcases hlen with ⟨rfl, hh⟩ | ⟨hh, hh2⟩
   ·exact .inl ⟨rfl, hh⟩
   ·exact .inr ⟨List.length_pos_iff.2 hh, hh2⟩
  have := some_short sg m (x - F.length + k) n r.length hm hn (least_num n k W.length F.length r.length S.length x _ hn1 hw hcl (by omega) rfl hlen2 hE3) (by omega)
  rw [sgl_len, <- hsl] at this
  exact this
end Go.Proofs.YtimjbjppmhdjnaaGreatDoor.M
