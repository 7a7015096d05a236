/- Texts of ours in one: ZLe ZPr. -/
import Derived.Test.YtbfnlgmhfhaglaaGreatDoorQl46
import Derived.Test.YtbfnlgmhfhaglaaGreatDoorQl11
import Derived.Test.YtbfnlgmhfhaglaaGreatDoorQl14
import Derived.Test.YtbfnlgmhfhaglaaGreatDoorQl45
import Derived.Test.YtbfnlgmhfhaglaaGreatDoorQl22
/- Plain: which units a text has, how long it is written; how long a number is written; what is read may be. -/
namespace Go.Proofs.YtbfnlgmhfhaglaaGreatDoor
open Go.RowKit
set_option linter.unusedVariables false
set_option linter.unusedSimpArgs false

theorem hex4_le (t : List UInt8) : M.hex4 t ≤ 65535 := by
  unfold M.hex4 M.hexN
  have h0 := M.hexV_lt (t.getD 0 0)
  have h1 := M.hexV_lt (t.getD 1 0)
  have h2 := M.hexV_lt (t.getD 2 0)
  have h3 := M.hexV_lt (t.getD 3 0)
  omega
theorem escV_le (d : UInt8) : M.escV d ≤ 65535 := by
  have := d.toNat_lt
  unfold M.escV
  repeat' split
  all_goals omega
theorem pairU_le (r : Nat) (hr : r ≤ 1114111) : ∀ u ∈ M.pairU r, u ≤ 65535 := by
  intro u hu
  unfold M.pairU at hu
  split at hu
  · simp at hu; omega
  · simp at hu; omega
theorem ulS_le (n : Nat) : ∀ l : List UInt8, l.length ≤ n → ∀ u ∈ M.ulS l, u ≤ 65535 := by
  induction n with
  | zero => intro l hl u hu; rw [M.ulS_end l (by omega)] at hu; simp at hu
  | succ n ih =>
    intro l hl u hu
    match l with
    | [] => rw [M.ulS_end _ (by simp)] at hu; simp at hu
    | [c] => rw [M.ulS_end _ (by simp)] at hu; simp at hu
    | c :: d :: t =>
      rw [M.ulS] at hu
      split at hu
      · rcases List.mem_append.1 hu with hu | hu
        · exact pairU_le _ (M.dec_rune _) u hu
        · have := M.dec_width (c :: d :: t)
          exact ih _ (by rw [List.length_drop]; omega) u hu
      · split at hu
        · rcases List.mem_cons.1 hu with rfl | hu
          · exact hex4_le t
          · exact ih _ (by simp at hl ⊢; omega) u hu
        · rcases List.mem_cons.1 hu with rfl | hu
          · exact escV_le d
          · exact ih _ (by simp at hl ⊢; omega) u hu
theorem junits_some (l : List UInt8) (us : List Nat) (h : junits l = some us) : (∀ u ∈ us, u ≤ 65535) ∧ (M.spell us).length ≤ l.length := by
  unfold junits at h
  split at h
  · rename_i hc
    simp only [Option.some.injEq] at h
    subst h
    have hr := rest_start l hc.2.1 hc.1 hc.2.2.1 hc.2.2.2
    exact ⟨ulS_le _ _ (Nat.le_refl _), M.leastT l hc.2.1 hc.1 hr.1 hr.2⟩
  · exact absurd h (by simp)

namespace M
theorem div_dig (s : List UInt8) : ∀ c ∈ (divW s).1.2.1 ++ (divW s).1.2.2.1, dig c = true := by
  have hE : ∀ (n : Bool) (w f s : List UInt8), (divE n w f s).1.2.1 = w ∧ (divE n w f s).1.2.2.1 = f := by
    intro n w f s; unfold divE; split <;> exact ⟨rfl, rfl⟩
  unfold divW
  split
  · split
    · simp [zeroP]
    · rw [(hE _ _ _ _).1, (hE _ _ _ _).2]
      intro c hc
      rcases List.mem_append.1 hc with hc | hc
      · exact dg_dig _ c hc
      · exact dg_dig _ c hc
  · split
    · simp [zeroP]
    · rw [(hE _ _ _ _).1, (hE _ _ _ _).2]
      intro c hc
      rw [List.append_nil] at hc
      exact dg_dig _ c hc
theorem read_right (s : List UInt8) : rightN (readN s).1.2.1 (readN s).1.2.2 = true := by
  unfold readN
  split
  · simp only
    rw [norm_nz _ _ (div_dig s)]
    exact nz_right _ _
  · rfl
theorem dl_more9 (y d : Nat) (h : 100 ≤ y) (hd : d ≤ 900) : dl (y + d) ≤ dl y + 1 := by
  have h1 := dl_ten y (by omega)
  have h2 := dl_mono (10 * y) (y + d) (by omega)
  omega
theorem tl_far9 (z : Int) (d : Nat) (h : z ≤ -100) (hd : d ≤ 900) : tlZ (z - d) ≤ tlZ z + 1 := by
  rw [tl_ng z (by omega), tl_ng _ (by omega)]
  have := dl_more9 z.natAbs d (by omega) hd
  rw [show (z - d).natAbs = z.natAbs + d by omega]
  omega
theorem least_num9 (n k w f L le : Nat) (x X : Int) (h1 : 1 ≤ n) (h2 : 1 ≤ w) (h3 : n + k ≤ w + f) (h4 : w + f ≤ 600) (hX : X = x - f + k)
    (hL : (f = 0 ∧ L = w + le) ∨ (0 < f ∧ L = w + f + 1 + le)) (hle : (x = 0 ∧ le = 0) ∨ 1 + tlZ x ≤ le) :
    (0 ≤ X ∧ X ≤ 20 ∧ n + X ≤ L) ∨ (-n < X ∧ X < 0 ∧ n + 1 ≤ L) ∨ (-n - 20 ≤ X ∧ X ≤ -n ∧ 2 - X ≤ L) ∨ (n + 1 + tlZ X ≤ L) ∨ (1 < n ∧ X + n - 1 ≠ 0 ∧ n + 2 + tlZ (X + n - 1) ≤ L) := by
  rcases hle with ⟨rfl, rfl⟩ | hle
  · have h5 := tl_small X (by omega)
    omega
  · by_cases hk : f ≤ k
    · have h5 := tl_add (k - f) x
      rw [show x + ((k - f : Nat) : Int) = X by omega] at h5
      omega
    · obtain ⟨d, hd⟩ : ∃ d, d = f - k := ⟨_, rfl⟩
      have hXd : X = x - d := by omega
      by_cases c1 : 0 ≤ x - d
      · have h5 := tl_down x d c1
        rw [← hXd] at h5
        omega
      · by_cases c2 : 0 ≤ x
        · have h5 := tl_small X (by omega)
          have h6 := tl_pos x
          omega
        · by_cases c3 : x ≤ -100
          · have h5 := tl_far9 x d c3 (by omega)
            rw [← hXd] at h5
            omega
          · have h5 := tl_small X (by omega)
            have h6 := tl_neg2 x (by omega)
            by_cases c4 : x ≤ -10
            · have h7 := tl_neg3 x c4
              omega
            · by_cases c5 : n + 1 ≤ w + f
              · omega
              · by_cases c6 : X.natAbs < 100
                · have h7 := tl_two X c6
                  omega
                · by_cases c7 : -n < X
                  · omega
                  · have h7 := tl_one (X + n - 1) (by omega)
                    omega
theorem least9 (s D E : List UInt8) (ng : Bool) (hs : s.length ≤ 600) (h : readN s = ((ng, D, E), true)) (h1 : s.head? ≠ some 43) (h2 : (csign s).2.head? ≠ some 46) :
    rightN D E = true ∧ 0 < (shortN (plainN ng D E)).length ∧ (shortN (plainN ng D E)).length ≤ s.length := by
  have hdiv : (divW s).2 = true := by
    unfold readN at h
    split at h
    · assumption
    · exact absurd (congrArg Prod.snd h) (by simp)
  have hrd := h
  unfold readN at h
  rw [if_pos hdiv] at h
  -- the sign
  have hsl : s.length = (if (csign s).1 then 1 else 0) + (csign s).2.length := by
    unfold csign
    rw [if_neg h1]
    unfold isNeg unsign
    by_cases h : s.head? = some 45
    · rw [if_pos h, h]
      cases s with
      | nil => simp at h
      | cons a t => simp; omega
    · rw [if_neg h]; simp [h]
  obtain ⟨sg, r, hcs⟩ : ∃ sg r, csign s = (sg, r) := ⟨_, _, rfl⟩
  rw [hcs] at hsl h2
  simp only at hsl h2
  have key : ∃ (W F S : List UInt8), W ≠ [] ∧ (∀ c ∈ W, dig c = true) ∧ (∀ c ∈ F, dig c = true) ∧ divW s = divE sg W F S ∧ ((F = [] ∧ r.length = W.length + S.length) ∨ (F ≠ [] ∧ r.length = W.length + F.length + 1 + S.length)) := by
    have e := dg_rs r
    unfold divW at hdiv ⊢
    rw [hcs] at hdiv ⊢
    simp only at hdiv ⊢
    split at hdiv
    · rename_i c
      rw [if_pos c]
      split at hdiv
      · exact absurd hdiv (by simp)
      · rename_i c2
        rw [if_neg c2]
        obtain ⟨R, hR⟩ : ∃ R, rs r = 46 :: R := by
          cases hh : rs r with
          | nil => rw [hh] at c; simp at c
          | cons a t => rw [hh] at c; simp at c; exact ⟨t, by rw [c]⟩
        refine ⟨dg r, dg (rs r).tail, rs (rs r).tail, ?_, dg_dig _, dg_dig _, rfl, .inr ⟨c2, ?_⟩⟩
        · intro e0
          rw [e0, List.nil_append] at e
          rw [e] at c; exact h2 c
        · have e2 := dg_rs R
          have l1 := congrArg List.length e
          have l2 := congrArg List.length e2
          rw [hR] at l1 ⊢
          simp only [List.tail_cons, List.length_append, List.length_cons] at l1 l2 ⊢
          omega
    · rename_i c
      rw [if_neg c]
      split at hdiv
      · exact absurd hdiv (by simp)
      · rename_i c2
        rw [if_neg c2]
        refine ⟨dg r, [], rs r, c2, dg_dig _, by simp, rfl, .inl ⟨rfl, ?_⟩⟩
        have l1 := congrArg List.length e
        rw [List.length_append] at l1
        exact l1.symm
  obtain ⟨W, F, S, hW0, hW, hF, hdE, hlen⟩ := key
  rw [hdE] at h hdiv
  have hx : ∃ (p : Bool × Bool × List UInt8) (x : Int), divE sg W F S = ((sg, W, F, p), true) ∧ expV (sg, W, F, p) = x ∧ ((x = 0 ∧ S.length = 0) ∨ 1 + tlZ x ≤ S.length) := by
    unfold divE at hdiv ⊢
    split at hdiv
    · rename_i c
      rw [if_pos c]
      simp only [Bool.and_eq_true, List.isEmpty_iff, Bool.not_eq_true', List.isEmpty_eq_false_iff] at hdiv
      refine ⟨(true, (csign S.tail).1, dg (csign S.tail).2), _, by simp [hdiv.1, hdiv.2], rfl, .inr ?_⟩
      have := exp_len S.tail hdiv.1 hdiv.2
      unfold expV
      simp only
      cases S with
      | nil => simp at c
      | cons a t => simp only [List.tail_cons, List.length_cons] at this ⊢; omega
    · rename_i c
      rw [if_neg c]
      simp only [List.isEmpty_iff] at hdiv
      exact ⟨(false, false, []), 0, by simp [hdiv], by unfold expV; rfl, .inl ⟨rfl, by rw [hdiv]; rfl⟩⟩
  obtain ⟨p, x, hE1, hE2, hE3⟩ := hx
  rw [hE1] at h
  simp only [hE2] at h
  rw [norm_nz _ _ (by intro c hc; exact (List.mem_append.1 hc).elim (hW c) (hF c))] at h
  simp only [Prod.mk.injEq, and_true] at h
  obtain ⟨rfl, hnz⟩ := h
  have hnz2 : nz (dval (W ++ F)) (x - F.length) = (D, E) := hnz
  have hR : rightN D E = true := by
    have := nz_right (dval (W ++ F)) (x - F.length)
    rw [hnz2] at this; exact this
  have hsm := short_mem _ (plain_ne sg D E hR)
  refine ⟨hR, plain_pos sg D E _ hsm, ?_⟩
  suffices hh : ∃ t ∈ plainN sg D E, t.length ≤ s.length by
    obtain ⟨t, ht, hl⟩ := hh
    exact Nat.le_trans (short_le _ t ht) hl
  have hw : 0 < W.length := List.length_pos_iff.2 hW0
  have hlt := dval_lt (W ++ F) (by intro c hc; exact (List.mem_append.1 hc).elim (hW c) (hF c))
  obtain ⟨v, hv⟩ : ∃ v, dval (W ++ F) = v := ⟨_, rfl⟩
  rw [hv] at hnz2 hlt
  by_cases h0 : v = 0
  · subst h0
    rw [nz_zero] at hnz2
    simp only [Prod.mk.injEq] at hnz2
    obtain ⟨rfl, rfl⟩ := hnz2
    refine ⟨sgl sg ++ [48], by unfold plainN; rw [if_pos hR, if_pos rfl]; simp, ?_⟩
    rw [List.length_append, sgl_len]
    simp only [List.length_singleton]
    omega
  · obtain ⟨m, k, hm, rfl⟩ := core_ex v h0
    rw [nz_pow, nz_core _ _ hm] at hnz2
    simp only [Prod.mk.injEq] at hnz2
    obtain ⟨rfl, rfl⟩ := hnz2
    have hcl := canon_len _ _ h0 hlt
    have hm0 : m ≠ 0 := by intro h0; subst h0; exact hm rfl
    rw [canon_zeros m k hm0, List.length_append, List.length_replicate, List.length_append] at hcl
    obtain ⟨n, hn⟩ : ∃ n, (canon m).length = n := ⟨_, rfl⟩
    rw [hn] at hcl
    have hn1 : 1 ≤ n := by rw [← hn]; exact List.length_pos_iff.2 (canon_ne m hm0)
    have hlen2 : (F.length = 0 ∧ r.length = W.length + S.length) ∨ (0 < F.length ∧ r.length = W.length + F.length + 1 + S.length) := by
      rcases hlen with ⟨rfl, hh⟩ | ⟨hh, hh2⟩
      · exact .inl ⟨rfl, hh⟩
      · exact .inr ⟨List.length_pos_iff.2 hh, hh2⟩
    have := some_short sg m (x - F.length + k) n r.length hm hn (least_num9 n k W.length F.length r.length S.length x _ hn1 hw hcl (by omega) rfl hlen2 hE3) (by omega)
    rw [sgl_len, ← hsl] at this
    exact this
theorem csign_le (s : List UInt8) : (csign s).2.length ≤ s.length := by
  unfold csign unsign
  split
  · simp
  · split <;> simp
theorem dgrs_len (s : List UInt8) : (dg s).length + (rs s).length = s.length := by
  have := congrArg List.length (dg_rs s)
  rw [List.length_append] at this
  exact this
theorem divE_lens (n : Bool) (w f s : List UInt8) : (divE n w f s).1.2.1 = w ∧ (divE n w f s).1.2.2.1 = f ∧ (divE n w f s).1.2.2.2.2.2.length ≤ s.length ∧ ∀ c ∈ (divE n w f s).1.2.2.2.2.2, dig c = true := by
  unfold divE
  split
  · refine ⟨rfl, rfl, ?_, fun c hc => dg_dig _ c hc⟩
    have h1 := dgrs_len (csign s.tail).2
    have h2 := csign_le s.tail
    rw [List.length_tail] at h2
    show (dg (csign s.tail).2).length ≤ s.length
    omega
  · exact ⟨rfl, rfl, by simp, by simp⟩
theorem div_lens (s : List UInt8) : ((divW s).1.2.1 ++ (divW s).1.2.2.1).length ≤ s.length ∧ (divW s).1.2.2.2.2.2.length ≤ s.length ∧ ∀ c ∈ (divW s).1.2.2.2.2.2, dig c = true := by
  have h1 := csign_le s
  have h2 := dgrs_len (csign s).2
  have h3 := dgrs_len (rs (csign s).2).tail
  rw [List.length_tail] at h3
  unfold divW
  split
  · split
    · exact ⟨by simp [zeroP], by simp [zeroP], by simp [zeroP]⟩
    · obtain ⟨a, b, c, d⟩ := divE_lens (csign s).1 (dg (csign s).2) (dg (rs (csign s).2).tail) (rs (rs (csign s).2).tail)
      rw [a, b]
      exact ⟨by rw [List.length_append]; omega, by omega, d⟩
  · split
    · exact ⟨by simp [zeroP], by simp [zeroP], by simp [zeroP]⟩
    · obtain ⟨a, b, c, d⟩ := divE_lens (csign s).1 (dg (csign s).2) [] (rs (csign s).2)
      rw [a, b]
      exact ⟨by rw [List.length_append]; simp; omega, by omega, d⟩
theorem txt_lenW (z : Int) (t : Nat) (h : z.natAbs < 10 ^ t) : (txt z).length ≤ t + 1 := by
  unfold txt
  split
  · simp
  · rename_i hz
    have := canon_len z.natAbs t (by omega) h
    split
    · simp; omega
    · omega
theorem norm_lens (L : List UInt8) (e : Int) (t : Nat) (hL : L.length ≤ 1000) (he : e.natAbs ≤ 10 ^ t + 1000) : (norm L e).1.length ≤ L.length ∧ (norm L e).2.length ≤ t + 5 := by
  have h1 := rstrip_len (strip L)
  have h2 : (strip L).length ≤ L.length := by unfold strip; exact (List.dropWhile_sublist _).length_le
  unfold norm
  split
  · simp
  · refine ⟨by simp only; omega, ?_⟩
    have hp : 1 ≤ 10 ^ t := Nat.one_le_pow _ _ (by omega)
    exact txt_lenW _ (t + 4) (by rw [Nat.pow_add]; omega)
theorem read_lens (s : List UInt8) (hl : s.length ≤ 1000) : (readN s).1.2.1.length ≤ s.length ∧ (readN s).1.2.2.length ≤ s.length + 5 := by
  obtain ⟨h1, h2, h3⟩ := div_lens s
  unfold readN
  split
  · have hv := dval_lt _ h3
    have hp : 10 ^ (divW s).1.2.2.2.2.2.length ≤ 10 ^ s.length := Nat.pow_le_pow_right (by omega) h2
    have h4 : (expV (divW s).1 - (divW s).1.2.2.1.length).natAbs ≤ 10 ^ s.length + 1000 := by
      rw [List.length_append] at h1
      unfold expV
      split <;> omega
    have := norm_lens ((divW s).1.2.1 ++ (divW s).1.2.2.1) _ s.length (by omega) h4
    exact ⟨by simp only; omega, this.2⟩
  · simp
end M
end Go.Proofs.YtbfnlgmhfhaglaaGreatDoor
/- JSON, plain: what was read may be. -/
namespace Go.Proofs.YtbfnlgmhfhaglaaGreatDoor
set_option linter.unusedVariables false
set_option linter.unusedSimpArgs false

theorem rightVo_snoc (h : Vh) (kids : Vo) (d : Nat) (L : Vo) : rightVo (L.snoc h kids) d = (rightVo L d && rightH h kids d) := by
  induction L with
  | nil => simp [Vo.snoc, rightVo_cons, rightVo]
  | cons a b r _ ih => show rightVo (.cons a b (r.snoc h kids)) d = _; rw [rightVo_cons, rightVo_cons, ih, Bool.and_assoc]
theorem evK_snoc (h : Vh) (kids : Vo) (L : Vo) : ∀ e, evK e (L.snoc h kids) = (evK e L && (!(if L.len % 2 = 0 then e else !e) || decide (h.k = 3))) := by
  induction L with
  | nil => intro e; simp [Vo.snoc, evK, Vo.len]
  | cons a b r _ ih =>
    intro e
    show evK e (.cons a b (r.snoc h kids)) = _
    rw [evK, evK, ih, Bool.and_assoc]
    congr 2
    by_cases hp : r.len % 2 = 0
    · rw [if_pos hp, if_neg (by simp only [Vo.len]; omega)]
    · rw [if_neg hp, if_pos (by simp only [Vo.len]; omega), Bool.not_not]
theorem txt_right (l : List UInt8) (t : Nat × Nat × Nat) : M.rightU (txtL l t) = true := by
  rw [M.rightU_iff]
  intro u hu
  unfold txtL iN at hu
  obtain ⟨n, hn, rfl⟩ := List.mem_map.1 hu
  cases hj : unitsV (tokB l t) with
  | none => rw [hj] at hn; simp at hn
  | some us =>
    rw [hj] at hn
    rw [units_page] at hj
    have := (junits_some _ _ hj).1 n hn
    omega
theorem text_rightH (l : List UInt8) (t : Nat × Nat × Nat) (d : Nat) : rightH (textV l t) .nil d = true := by
  have := txt_right l t
  simp [rightH, headB, textV, nnum, nlist, Vo.len, this]
theorem numb_rightH (l : List UInt8) (t : Nat × Nat × Nat) (d : Nat) : rightH (numbV l t) .nil d = true := by
  have := M.read_right (tokB l t)
  simp [rightH, headB, numbV, nlist, Vo.len]
  exact this
def RtI (obj : Bool) (d : Nat) (ms : List Int) (L : Vo) : Prop := (∀ z ∈ ms, 0 ≤ z) ∧ rightVo L d = true ∧ (obj = true → L.len % 2 = 0 ∧ evK true L = true)
theorem item_right (l : List UInt8) (val : M.Toks → PRes) (d : Nat) (hv : ∀ ts h kids r, val ts = .ok (h, kids, r) → rightH h kids d = true)
    (obj : Bool) (ts : M.Toks) (ms : List Int) (L : Vo) (ms2 : List Int) (L2 : Vo) (r : M.Toks) (h : itemW l val obj ts ms L = .ok (ms2, L2, r)) (hq : RtI obj d ms L) : RtI obj d ms2 L2 := by
  obtain ⟨q1, q2, q3⟩ := hq
  unfold itemW at h
  cases obj with
  | false =>
    simp only [Bool.false_eq_true, if_false] at h
    cases hr : val ts with
    | error e => rw [hr] at h; simp at h
    | ok q =>
      obtain ⟨a, b, c⟩ := q
      rw [hr] at h
      simp only [Except.ok.injEq, Prod.mk.injEq] at h
      obtain ⟨rfl, rfl, rfl⟩ := h
      exact ⟨q1, by rw [rightVo_snoc, q2, hv _ _ _ _ hr]; rfl, fun h => by cases h⟩
  | true =>
    simp only [if_true] at h
    cases h7 : takeP l.length 7 ts with
    | error e => rw [h7] at h; simp at h
    | ok q =>
      obtain ⟨t, r1⟩ := q
      rw [h7] at h
      simp only at h
      cases h5 : takeP l.length 5 r1 with
      | error e => rw [h5] at h; simp at h
      | ok q =>
        obtain ⟨c, r2⟩ := q
        rw [h5] at h
        simp only at h
        cases hr : val r2 with
        | error e => rw [hr] at h; simp at h
        | ok q =>
          obtain ⟨a, b, c2⟩ := q
          rw [hr] at h
          simp only [Except.ok.injEq, Prod.mk.injEq] at h
          obtain ⟨rfl, rfl, rfl⟩ := h
          obtain ⟨q4, q5⟩ := q3 rfl
          refine ⟨fun z hz => ?_, by rw [rightVo_snoc, rightVo_snoc, q2, text_rightH, hv _ _ _ _ hr]; rfl, fun _ => ⟨by rw [snoc_len, snoc_len]; omega, ?_⟩⟩
          · rcases List.mem_append.1 hz with hz | hz
            · exact q1 z hz
            · rw [List.mem_singleton.1 hz]; omega
          · rw [evK_snoc, evK_snoc, snoc_len, if_pos q4, if_neg (by omega), q5]
            simp [textV]
theorem list_rightH (obj : Bool) (d fr tt : Nat) (ms : List Int) (L : Vo) (hl : ms.length = L.len - 1) (q : RtI obj d ms L) : rightH ⟨kdL obj, [], false, [], [], fr, tt, ms⟩ L (d + 1) = true := by
  obtain ⟨q1, q2, q3⟩ := q
  have hm : marksB ⟨kdL obj, [], false, [], [], fr, tt, ms⟩ L.len = true := by
    simp only [marksB, Bool.and_eq_true, decide_eq_true_eq, List.all_eq_true]
    exact ⟨⟨by omega, hl⟩, q1⟩
  have hk : keysB ⟨kdL obj, [], false, [], [], fr, tt, ms⟩ L = true := by
    cases obj with
    | false => simp [keysB, kdL]
    | true => obtain ⟨a, b⟩ := q3 rfl; simp [keysB, a, b]
  unfold rightH
  rw [hm, hk, Nat.add_sub_cancel, q2]
  cases obj <;> simp [headB, nnum, kdL]
theorem val_right (l : List UInt8) : ∀ f, (∀ deep ts h kids r, valP l f deep ts = .ok (h, kids, r) → rightH h kids deep = true) ∧
    (∀ obj d (fr : Nat) ts ms L h kids r, restP l f obj d fr ts ms L = .ok (h, kids, r) → ms.length + 1 = L.len → RtI obj d ms L → rightH h kids (d + 1) = true) := by
  intro f
  induction f with
  | zero => exact ⟨fun deep ts h kids r e => by simp [valP] at e, fun obj d fr ts ms L h kids r e => by simp [restP] at e⟩
  | succ f ih =>
    obtain ⟨iv, ir⟩ := ih
    refine ⟨fun deep ts h kids r e => ?_, fun obj d fr ts ms L h kids r e hm hq => ?_⟩
    · cases ts with
      | nil => simp [valP] at e
      | cons t r0 =>
        unfold valP at e
        simp only at e
        by_cases h7 : t.1 = 7
        · rw [if_pos h7] at e
          simp only [Except.ok.injEq, Prod.mk.injEq] at e
          obtain ⟨rfl, rfl, rfl⟩ := e
          exact text_rightH _ _ _
        · rw [if_neg h7] at e
          by_cases h8 : t.1 = 8
          · rw [if_pos h8] at e
            simp only [Except.ok.injEq, Prod.mk.injEq] at e
            obtain ⟨rfl, rfl, rfl⟩ := e
            exact numb_rightH _ _ _
          · rw [if_neg h8] at e
            by_cases h9 : t.1 = 9 ∨ t.1 = 10 ∨ t.1 = 11
            · rw [if_pos h9] at e
              simp only [Except.ok.injEq, Prod.mk.injEq] at e
              obtain ⟨rfl, rfl, rfl⟩ := e
              rcases h9 with h9 | h9 | h9 <;> simp [rightH, headB, leafP, nnum, nlist, Vo.len, h9]
            · rw [if_neg h9] at e
              by_cases h1 : t.1 = 1 ∨ t.1 = 3
              · rw [if_pos h1] at e
                cases deep with
                | zero => simp at e
                | succ d =>
                  simp only at e
                  obtain ⟨obj, hob⟩ : ∃ obj : Bool, decide (t.1 = 1) = obj := ⟨_, rfl⟩
                  have hsh : t.1 + 1 = shL obj := by
                    rw [← hob]
                    rcases h1 with h1 | h1 <;> simp [h1, shL]
                  rw [hob] at e
                  have q0 : RtI obj d [] .nil := ⟨by simp, rfl, fun _ => ⟨rfl, rfl⟩⟩
                  by_cases hk : kindP r0 = t.1 + 1
                  · rw [if_pos hk] at e
                    cases f with
                    | zero => simp [restP] at e
                    | succ f =>
                      rw [restP, if_pos (by rw [hk, hsh])] at e
                      cases ht : takeP l.length (shL obj) r0 with
                      | error x => rw [ht] at e; simp at e
                      | ok q =>
                        obtain ⟨c, r1⟩ := q
                        rw [ht] at e
                        simp only [Except.ok.injEq, Prod.mk.injEq] at e
                        obtain ⟨rfl, rfl, rfl⟩ := e
                        exact list_rightH obj d t.2.1 c.2.1 [] .nil rfl q0
                  · rw [if_neg hk] at e
                    cases hi : itemW l (valP l f d) obj r0 [] .nil with
                    | error x => rw [hi] at e; simp at e
                    | ok q =>
                      obtain ⟨ms, L, r2⟩ := q
                      rw [hi] at e
                      have a := item_right l (valP l f d) d (iv d) obj r0 [] .nil ms L r2 hi q0
                      have b := (item_pcs l (valP l f d) ((val_pcs l f).1 d) obj r0 [] .nil ms L r2 hi rfl (fun _ => rfl)).2.1
                      exact ir _ _ _ _ _ _ _ _ _ e b a
              · rw [if_neg h1] at e; simp at e
    · unfold restP at e
      by_cases hk : kindP ts = shL obj
      · rw [if_pos hk] at e
        cases ht : takeP l.length (shL obj) ts with
        | error x => rw [ht] at e; simp at e
        | ok q =>
          obtain ⟨t, r1⟩ := q
          rw [ht] at e
          simp only [Except.ok.injEq, Prod.mk.injEq] at e
          obtain ⟨rfl, rfl, rfl⟩ := e
          exact list_rightH obj d fr t.2.1 ms L (by omega) hq
      · rw [if_neg hk] at e
        cases ht : takeP l.length 6 ts with
        | error x => rw [ht] at e; simp at e
        | ok q =>
          obtain ⟨c, r1⟩ := q
          rw [ht] at e
          simp only at e
          cases hi : itemW l (valP l f d) obj r1 (ms ++ [(c.2.1 : Int)]) L with
          | error x => rw [hi] at e; simp at e
          | ok q =>
            obtain ⟨ms2, L2, r2⟩ := q
            rw [hi] at e
            have a := item_right l (valP l f d) d (iv d) obj r1 (ms ++ [(c.2.1 : Int)]) L ms2 L2 r2 hi ⟨fun z hz => by
              rcases List.mem_append.1 hz with hz | hz
              · exact hq.1 z hz
              · rw [List.mem_singleton.1 hz]; omega, hq.2.1, hq.2.2⟩
            have b := (item_pcs l (valP l f d) ((val_pcs l f).1 d) obj r1 _ L ms2 L2 r2 hi (by rw [List.length_append, List.length_singleton]; omega) (fun h => (hq.2.2 h).1)).2.1
            exact ir _ _ _ _ _ _ _ _ _ e b a
end Go.Proofs.YtbfnlgmhfhaglaaGreatDoor
