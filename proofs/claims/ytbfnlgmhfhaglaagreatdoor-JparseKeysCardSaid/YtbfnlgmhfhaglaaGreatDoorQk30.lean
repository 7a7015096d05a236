/- Texts of ours in one: ZLe ZPr ZLn ZNf ZNg. -/
import Derived.Test.YtbfnlgmhfhaglaaGreatDoorQk29
import Derived.Test.YtbfnlgmhfhaglaaGreatDoorQk19
import Derived.Test.YtbfnlgmhfhaglaaGreatDoorQk10
import Derived.Test.YtbfnlgmhfhaglaaGreatDoorQk18
import Derived.Test.YtbfnlgmhfhaglaaGreatDoorQk00
/- Plain: which units a text has, how long it is written; how long a number is written; what is read may be. -/
namespace Go.Proofs.YtbfnlgmhfhaglaaGreatDoor
open Go.RowKit
set_option linter.unusedVariables false
set_option linter.unusedSimpArgs false

theorem hex4_le (t : List UInt8) : M.hex4 t ≤ 65535 := by
  unfold M.hex4 M.hexN
  have h0 := M.hexV_lt (t.getD 0 0)
  have h1 := M.hexV_lt (t.getD 1 0)
  have h2 := M.hexV_lt (t.getD 2 0)
  have h3 := M.hexV_lt (t.getD 3 0)
  omega
theorem escV_le (d : UInt8) : M.escV d ≤ 65535 := by
  have := d.toNat_lt
  unfold M.escV
  repeat' split
  all_goals omega
theorem pairU_le (r : Nat) (hr : r ≤ 1114111) : ∀ u ∈ M.pairU r, u ≤ 65535 := by
  intro u hu
  unfold M.pairU at hu
  split at hu
  · simp at hu; omega
  · simp at hu; omega
theorem ulS_le (n : Nat) : ∀ l : List UInt8, l.length ≤ n → ∀ u ∈ M.ulS l, u ≤ 65535 := by
  induction n with
  | zero => intro l hl u hu; rw [M.ulS_end l (by omega)] at hu; simp at hu
  | succ n ih =>
    intro l hl u hu
    match l with
    | [] => rw [M.ulS_end _ (by simp)] at hu; simp at hu
    | [c] => rw [M.ulS_end _ (by simp)] at hu; simp at hu
    | c :: d :: t =>
      rw [M.ulS] at hu
      split at hu
      · rcases List.mem_append.1 hu with hu | hu
        · exact pairU_le _ (M.dec_rune _) u hu
        · have := M.dec_width (c :: d :: t)
          exact ih _ (by rw [List.length_drop]; omega) u hu
      · split at hu
        · rcases List.mem_cons.1 hu with rfl | hu
          · exact hex4_le t
          · exact ih _ (by simp at hl ⊢; omega) u hu
        · rcases List.mem_cons.1 hu with rfl | hu
          · exact escV_le d
          · exact ih _ (by simp at hl ⊢; omega) u hu
theorem junits_some (l : List UInt8) (us : List Nat) (h : junits l = some us) : (∀ u ∈ us, u ≤ 65535) ∧ (M.spell us).length ≤ l.length := by
  unfold junits at h
  split at h
  · rename_i hc
    simp only [Option.some.injEq] at h
    subst h
    have hr := rest_start l hc.2.1 hc.1 hc.2.2.1 hc.2.2.2
    exact ⟨ulS_le _ _ (Nat.le_refl _), M.leastT l hc.2.1 hc.1 hr.1 hr.2⟩
  · exact absurd h (by simp)

namespace M
theorem div_dig (s : List UInt8) : ∀ c ∈ (divW s).1.2.1 ++ (divW s).1.2.2.1, dig c = true := by
  have hE : ∀ (n : Bool) (w f s : List UInt8), (divE n w f s).1.2.1 = w ∧ (divE n w f s).1.2.2.1 = f := by
    intro n w f s; unfold divE; split <;> exact ⟨rfl, rfl⟩
  unfold divW
  split
  · split
    · simp [zeroP]
    · rw [(hE _ _ _ _).1, (hE _ _ _ _).2]
      intro c hc
      rcases List.mem_append.1 hc with hc | hc
      · exact dg_dig _ c hc
      · exact dg_dig _ c hc
  · split
    · simp [zeroP]
    · rw [(hE _ _ _ _).1, (hE _ _ _ _).2]
      intro c hc
      rw [List.append_nil] at hc
      exact dg_dig _ c hc
theorem read_right (s : List UInt8) : rightN (readN s).1.2.1 (readN s).1.2.2 = true := by
  unfold readN
  split
  · simp only
    rw [norm_nz _ _ (div_dig s)]
    exact nz_right _ _
  · rfl
end M
end Go.Proofs.YtbfnlgmhfhaglaaGreatDoor
/- JSON, plain: what was read may be. -/
namespace Go.Proofs.YtbfnlgmhfhaglaaGreatDoor
set_option linter.unusedVariables false
set_option linter.unusedSimpArgs false

theorem rightVo_snoc (h : Vh) (kids : Vo) (d : Nat) (L : Vo) : rightVo (L.snoc h kids) d = (rightVo L d && rightH h kids d) := by
  induction L with
  | nil => simp [Vo.snoc, rightVo_cons, rightVo]
  | cons a b r _ ih => show rightVo (.cons a b (r.snoc h kids)) d = _; rw [rightVo_cons, rightVo_cons, ih, Bool.and_assoc]
theorem evK_snoc (h : Vh) (kids : Vo) (L : Vo) : ∀ e, evK e (L.snoc h kids) = (evK e L && (!(if L.len % 2 = 0 then e else !e) || decide (h.k = 3))) := by
  induction L with
  | nil => intro e; simp [Vo.snoc, evK, Vo.len]
  | cons a b r _ ih =>
    intro e
    show evK e (.cons a b (r.snoc h kids)) = _
    rw [evK, evK, ih, Bool.and_assoc]
    congr 2
    by_cases hp : r.len % 2 = 0
    · rw [if_pos hp, if_neg (by simp only [Vo.len]; omega)]
    · rw [if_neg hp, if_pos (by simp only [Vo.len]; omega), Bool.not_not]
theorem txt_right (l : List UInt8) (t : Nat × Nat × Nat) : M.rightU (txtL l t) = true := by
  rw [M.rightU_iff]
  intro u hu
  unfold txtL iN at hu
  obtain ⟨n, hn, rfl⟩ := List.mem_map.1 hu
  cases hj : unitsV (tokB l t) with
  | none => rw [hj] at hn; simp at hn
  | some us =>
    rw [hj] at hn
    rw [units_page] at hj
    have := (junits_some _ _ hj).1 n hn
    omega
theorem text_rightH (l : List UInt8) (t : Nat × Nat × Nat) (d : Nat) : rightH (textV l t) .nil d = true := by
  have := txt_right l t
  simp [rightH, headB, textV, nnum, nlist, Vo.len, this]
theorem numb_rightH (l : List UInt8) (t : Nat × Nat × Nat) (d : Nat) : rightH (numbV l t) .nil d = true := by
  have := M.read_right (tokB l t)
  simp [rightH, headB, numbV, nlist, Vo.len]
  exact this
def RtI (obj : Bool) (d : Nat) (ms : List Int) (L : Vo) : Prop := (∀ z ∈ ms, 0 ≤ z) ∧ rightVo L d = true ∧ (obj = true → L.len % 2 = 0 ∧ evK true L = true)
theorem item_right (l : List UInt8) (val : M.Toks → PRes) (d : Nat) (hv : ∀ ts h kids r, val ts = .ok (h, kids, r) → rightH h kids d = true)
    (obj : Bool) (ts : M.Toks) (ms : List Int) (L : Vo) (ms2 : List Int) (L2 : Vo) (r : M.Toks) (h : itemW l val obj ts ms L = .ok (ms2, L2, r)) (hq : RtI obj d ms L) : RtI obj d ms2 L2 := by
  obtain ⟨q1, q2, q3⟩ := hq
  unfold itemW at h
  cases obj with
  | false =>
    simp only [Bool.false_eq_true, if_false] at h
    cases hr : val ts with
    | error e => rw [hr] at h; simp at h
    | ok q =>
      obtain ⟨a, b, c⟩ := q
      rw [hr] at h
      simp only [Except.ok.injEq, Prod.mk.injEq] at h
      obtain ⟨rfl, rfl, rfl⟩ := h
      exact ⟨q1, by rw [rightVo_snoc, q2, hv _ _ _ _ hr]; rfl, fun h => by cases h⟩
  | true =>
    simp only [if_true] at h
    cases h7 : takeP l.length 7 ts with
    | error e => rw [h7] at h; simp at h
    | ok q =>
      obtain ⟨t, r1⟩ := q
      rw [h7] at h
      simp only at h
      cases h5 : takeP l.length 5 r1 with
      | error e => rw [h5] at h; simp at h
      | ok q =>
        obtain ⟨c, r2⟩ := q
        rw [h5] at h
        simp only at h
        cases hr : val r2 with
        | error e => rw [hr] at h; simp at h
        | ok q =>
          obtain ⟨a, b, c2⟩ := q
          rw [hr] at h
          simp only [Except.ok.injEq, Prod.mk.injEq] at h
          obtain ⟨rfl, rfl, rfl⟩ := h
          obtain ⟨q4, q5⟩ := q3 rfl
          refine ⟨fun z hz => ?_, by rw [rightVo_snoc, rightVo_snoc, q2, text_rightH, hv _ _ _ _ hr]; rfl, fun _ => ⟨by rw [snoc_len, snoc_len]; omega, ?_⟩⟩
          · rcases List.mem_append.1 hz with hz | hz
            · exact q1 z hz
            · rw [List.mem_singleton.1 hz]; omega
          · rw [evK_snoc, evK_snoc, snoc_len, if_pos q4, if_neg (by omega), q5]
            simp [textV]
theorem list_rightH (obj : Bool) (d fr tt : Nat) (ms : List Int) (L : Vo) (hl : ms.length = L.len - 1) (q : RtI obj d ms L) : rightH ⟨kdL obj, [], false, [], [], fr, tt, ms⟩ L (d + 1) = true := by
  obtain ⟨q1, q2, q3⟩ := q
  have hm : marksB ⟨kdL obj, [], false, [], [], fr, tt, ms⟩ L.len = true := by
    simp only [marksB, Bool.and_eq_true, decide_eq_true_eq, List.all_eq_true]
    exact ⟨⟨by omega, hl⟩, q1⟩
  have hk : keysB ⟨kdL obj, [], false, [], [], fr, tt, ms⟩ L = true := by
    cases obj with
    | false => simp [keysB, kdL]
    | true => obtain ⟨a, b⟩ := q3 rfl; simp [keysB, a, b]
  unfold rightH
  rw [hm, hk, Nat.add_sub_cancel, q2]
  cases obj <;> simp [headB, nnum, kdL]
theorem val_right (l : List UInt8) : ∀ f, (∀ deep ts h kids r, valP l f deep ts = .ok (h, kids, r) → rightH h kids deep = true) ∧
    (∀ obj d (fr : Nat) ts ms L h kids r, restP l f obj d fr ts ms L = .ok (h, kids, r) → ms.length + 1 = L.len → RtI obj d ms L → rightH h kids (d + 1) = true) := by
  intro f
  induction f with
  | zero => exact ⟨fun deep ts h kids r e => by simp [valP] at e, fun obj d fr ts ms L h kids r e => by simp [restP] at e⟩
  | succ f ih =>
    obtain ⟨iv, ir⟩ := ih
    refine ⟨fun deep ts h kids r e => ?_, fun obj d fr ts ms L h kids r e hm hq => ?_⟩
    · cases ts with
      | nil => simp [valP] at e
      | cons t r0 =>
        unfold valP at e
        simp only at e
        by_cases h7 : t.1 = 7
        · rw [if_pos h7] at e
          simp only [Except.ok.injEq, Prod.mk.injEq] at e
          obtain ⟨rfl, rfl, rfl⟩ := e
          exact text_rightH _ _ _
        · rw [if_neg h7] at e
          by_cases h8 : t.1 = 8
          · rw [if_pos h8] at e
            simp only [Except.ok.injEq, Prod.mk.injEq] at e
            obtain ⟨rfl, rfl, rfl⟩ := e
            exact numb_rightH _ _ _
          · rw [if_neg h8] at e
            by_cases h9 : t.1 = 9 ∨ t.1 = 10 ∨ t.1 = 11
            · rw [if_pos h9] at e
              simp only [Except.ok.injEq, Prod.mk.injEq] at e
              obtain ⟨rfl, rfl, rfl⟩ := e
              rcases h9 with h9 | h9 | h9 <;> simp [rightH, headB, leafP, nnum, nlist, Vo.len, h9]
            · rw [if_neg h9] at e
              by_cases h1 : t.1 = 1 ∨ t.1 = 3
              · rw [if_pos h1] at e
                cases deep with
                | zero => simp at e
                | succ d =>
                  simp only at e
                  obtain ⟨obj, hob⟩ : ∃ obj : Bool, decide (t.1 = 1) = obj := ⟨_, rfl⟩
                  have hsh : t.1 + 1 = shL obj := by
                    rw [← hob]
                    rcases h1 with h1 | h1 <;> simp [h1, shL]
                  rw [hob] at e
                  have q0 : RtI obj d [] .nil := ⟨by simp, rfl, fun _ => ⟨rfl, rfl⟩⟩
                  by_cases hk : kindP r0 = t.1 + 1
                  · rw [if_pos hk] at e
                    cases f with
                    | zero => simp [restP] at e
                    | succ f =>
                      rw [restP, if_pos (by rw [hk, hsh])] at e
                      cases ht : takeP l.length (shL obj) r0 with
                      | error x => rw [ht] at e; simp at e
                      | ok q =>
                        obtain ⟨c, r1⟩ := q
                        rw [ht] at e
                        simp only [Except.ok.injEq, Prod.mk.injEq] at e
                        obtain ⟨rfl, rfl, rfl⟩ := e
                        exact list_rightH obj d t.2.1 c.2.1 [] .nil rfl q0
                  · rw [if_neg hk] at e
                    cases hi : itemW l (valP l f d) obj r0 [] .nil with
                    | error x => rw [hi] at e; simp at e
                    | ok q =>
                      obtain ⟨ms, L, r2⟩ := q
                      rw [hi] at e
                      have a := item_right l (valP l f d) d (iv d) obj r0 [] .nil ms L r2 hi q0
                      have b := (item_pcs l (valP l f d) ((val_pcs l f).1 d) obj r0 [] .nil ms L r2 hi rfl (fun _ => rfl)).2.1
                      exact ir _ _ _ _ _ _ _ _ _ e b a
              · rw [if_neg h1] at e; simp at e
    · unfold restP at e
      by_cases hk : kindP ts = shL obj
      · rw [if_pos hk] at e
        cases ht : takeP l.length (shL obj) ts with
        | error x => rw [ht] at e; simp at e
        | ok q =>
          obtain ⟨t, r1⟩ := q
          rw [ht] at e
          simp only [Except.ok.injEq, Prod.mk.injEq] at e
          obtain ⟨rfl, rfl, rfl⟩ := e
          exact list_rightH obj d fr t.2.1 ms L (by omega) hq
      · rw [if_neg hk] at e
        cases ht : takeP l.length 6 ts with
        | error x => rw [ht] at e; simp at e
        | ok q =>
          obtain ⟨c, r1⟩ := q
          rw [ht] at e
          simp only at e
          cases hi : itemW l (valP l f d) obj r1 (ms ++ [(c.2.1 : Int)]) L with
          | error x => rw [hi] at e; simp at e
          | ok q =>
            obtain ⟨ms2, L2, r2⟩ := q
            rw [hi] at e
            have a := item_right l (valP l f d) d (iv d) obj r1 (ms ++ [(c.2.1 : Int)]) L ms2 L2 r2 hi ⟨fun z hz => by
              rcases List.mem_append.1 hz with hz | hz
              · exact hq.1 z hz
              · rw [List.mem_singleton.1 hz]; omega, hq.2.1, hq.2.2⟩
            have b := (item_pcs l (valP l f d) ((val_pcs l f).1 d) obj r1 _ L ms2 L2 r2 hi (by rw [List.length_append, List.length_singleton]; omega) (fun h => (hq.2.2 h).1)).2.1
            exact ir _ _ _ _ _ _ _ _ _ e b a
end Go.Proofs.YtbfnlgmhfhaglaaGreatDoor
/- JSON, plain: a token's shortest spelling is no longer than the token; all pieces together are no longer than the text. -/
namespace Go.Proofs.YtbfnlgmhfhaglaaGreatDoor
set_option linter.unusedVariables false
set_option linter.unusedSimpArgs false

theorem par_ok {l : List UInt8} {deep : Nat} {ts : M.Toks} {h : Vh} {kids : Vo} (e : parP l deep ts = .ok (h, kids)) : valP l (2 * ts.length + 2) deep ts = .ok (h, kids, []) := by
  unfold parP at e
  split at e
  · cases e
  · rename_i h' k' hv
    simp only [Except.ok.injEq, Prod.mk.injEq] at e
    rw [hv, e.1, e.2]
  · cases e
end Go.Proofs.YtbfnlgmhfhaglaaGreatDoor
/- JSON, plain: each piece is one token of its kind; texts side by side. -/
namespace Go.Proofs.YtbfnlgmhfhaglaaGreatDoor.M
open Go.Lib
set_option linter.unusedVariables false
set_option linter.unusedSimpArgs false

theorem run_app (W t : List UInt8) (h : ∀ c ∈ W, dgB c = true) (ht : dgB (t.getD 0 0) = false) : run (W ++ t) = W.length := by
  induction W with
  | nil =>
    cases t with
    | nil => rfl
    | cons c t => have : dgB c = false := by simpa using ht
                  simp [run, this]
  | cons c W ih =>
    have hc := h c (List.mem_cons_self ..)
    rw [List.cons_append, run, if_pos hc, ih fun x hx => h x (List.mem_cons_of_mem _ hx), List.length_cons]
def FrF (F : List UInt8) : Prop := F = [] ∨ ∃ G, G ≠ [] ∧ (∀ c ∈ G, dgB c = true) ∧ F = 46 :: G
def PwF (X : List UInt8) : Prop := X = [] ∨ ∃ (b : Bool) (G : List UInt8), G ≠ [] ∧ (∀ c ∈ G, dgB c = true) ∧ X = 101 :: ((if b then [45] else []) ++ G)
def WhF (W : List UInt8) : Prop := W = [48] ∨ (W ≠ [] ∧ (∀ c ∈ W, dgB c = true) ∧ W.getD 0 0 ≠ 48)
theorem dg_ne {c : UInt8} (h : dgB c = true) : c ≠ 43 ∧ c ≠ 46 ∧ c ≠ 45 := by
  refine ⟨?_, ?_, ?_⟩ <;> rintro rfl <;> revert h <;> decide
theorem frac_app (F X : List UInt8) (hF : FrF F) (hX : PwF X) : frac (F ++ X) = F.length ∧ dgB ((F ++ X).getD 0 0) = false := by
  have hx : dgB (X.getD 0 0) = false ∧ X.getD 0 0 ≠ 46 := by
    rcases hX with rfl | ⟨b, G, _, _, rfl⟩
    · exact ⟨by decide, by decide⟩
    · exact ⟨by show dgB 101 = false; decide, by show (101 : UInt8) ≠ 46; decide⟩
  rcases hF with rfl | ⟨G, g0, g1, rfl⟩
  · rw [List.nil_append]
    refine ⟨?_, hx.1⟩
    unfold frac
    rw [if_neg (fun h => hx.2 h.1)]; rfl
  · refine ⟨?_, by show dgB 46 = false; decide⟩
    unfold frac
    cases G with
    | nil => exact absurd rfl g0
    | cons g G =>
      have hg := g1 g (List.mem_cons_self ..)
      rw [if_pos ⟨by simp, by simpa using hg⟩]
      have e : ((46 :: g :: G) ++ X).drop 1 = (g :: G) ++ X := by simp
      rw [e, run_app _ _ g1 hx.1]
      simp; omega
theorem expo_app (X : List UInt8) (hX : PwF X) : expo X = X.length := by
  rcases hX with rfl | ⟨b, G, g0, g1, rfl⟩
  · decide
  · have hr : run G = G.length := by
      have := run_app G [] g1 (by decide)
      rwa [List.append_nil] at this
    cases G with
    | nil => exact absurd rfl g0
    | cons g G =>
      have hg := g1 g (List.mem_cons_self ..)
      have hn := dg_ne hg
      cases b with
      | true =>
        show expo (101 :: 45 :: g :: G) = _
        have s2 : sgnQ (101 :: 45 :: g :: G) = 2 := by unfold sgnQ; rw [if_pos (.inr rfl)]
        unfold expo
        rw [s2, if_pos (.inl rfl), if_pos (show dgB ((101 :: 45 :: g :: G).getD 2 0) = true from hg)]
        show 2 + run (g :: G) = _
        rw [hr]; simp; omega
      | false =>
        show expo (101 :: g :: G) = _
        have s2 : sgnQ (101 :: g :: G) = 1 := by
          unfold sgnQ
          rw [if_neg]
          rintro (h | h)
          · exact hn.1 h
          · exact hn.2.2 h
        unfold expo
        rw [s2, if_pos (.inl rfl), if_pos (show dgB ((101 :: g :: G).getD 1 0) = true from hg)]
        show 1 + run (g :: G) = _
        rw [hr]; simp; omega
theorem num_form (ng : Bool) (W F X : List UInt8) (hW : WhF W) (hF : FrF F) (hX : PwF X) : numL (sgl ng ++ (W ++ (F ++ X))) = some (sgl ng ++ (W ++ (F ++ X))).length := by
  obtain ⟨fr, fd⟩ := frac_app F X hF hX
  have ex := expo_app X hX
  obtain ⟨w, W', rfl, hw⟩ : ∃ w W', W = w :: W' ∧ dgB w = true := by
    rcases hW with rfl | ⟨h, h2, _⟩
    · exact ⟨48, [], rfl, by decide⟩
    · cases W with
      | nil => exact absurd rfl h
      | cons w W' => exact ⟨w, W', rfl, h2 w (List.mem_cons_self ..)⟩
  have hwh : whole ((w :: W') ++ (F ++ X)) = (w :: W').length := by
    unfold whole
    rcases hW with h | ⟨_, h2, h3⟩
    · simp only [List.cons.injEq] at h
      obtain ⟨rfl, rfl⟩ := h
      rw [if_pos (by simp)]; rfl
    · have : ((w :: W') ++ (F ++ X)).getD 0 0 ≠ 48 := by simpa using h3
      rw [if_neg this, run_app _ _ h2 fd]
  have hneg : neg (sgl ng ++ ((w :: W') ++ (F ++ X))) = (sgl ng).length := by
    unfold neg
    cases ng with
    | true => rw [if_pos (by simp [sgl])]; rfl
    | false => rw [if_neg (by simp [sgl, (dg_ne hw).2.2])]; rfl
  obtain ⟨R, hR⟩ : ∃ R, (w :: W') ++ (F ++ X) = R := ⟨_, rfl⟩
  have hd : dgB ((sgl ng ++ R).getD (sgl ng).length 0) = true := by
    rw [← hR]
    cases ng <;> simpa [sgl] using hw
  have hdr : (sgl ng ++ R).drop (sgl ng).length = R := by simp
  unfold numL
  rw [hR] at hneg ⊢
  rw [hneg, if_pos hd, hdr]
  simp only
  rw [← hR, hwh]
  have d1 : (sgl ng ++ ((w :: W') ++ (F ++ X))).drop ((sgl ng).length + (w :: W').length) = F ++ X := by
    rw [← List.append_assoc, ← List.length_append, List.drop_left]
  rw [d1, fr]
  have d2 : (sgl ng ++ ((w :: W') ++ (F ++ X))).drop ((sgl ng).length + (w :: W').length + F.length) = X := by
    rw [← List.append_assoc, ← List.append_assoc, ← List.length_append, ← List.length_append, List.drop_left]
  rw [d2, ex]
  have ln : (sgl ng).length + (w :: W').length + F.length + X.length = (sgl ng ++ ((w :: W') ++ (F ++ X))).length := by simp only [List.length_append]; omega
  rw [ln]
  have ge : (sgl ng ++ ((w :: W') ++ (F ++ X))).getD (sgl ng ++ ((w :: W') ++ (F ++ X))).length 0 = 0 := by simp [List.getD]
  rw [ge, if_neg (by decide)]
theorem canon_WhF (m : Nat) (h : m ≠ 0) (hh : (canon m).head? ≠ some 48) : WhF (canon m) := by
  refine .inr ⟨canon_ne m h, canon_dig m, fun e => hh ?_⟩
  cases hc : canon m with
  | nil => exact absurd hc (canon_ne m h)
  | cons a t => rw [hc] at e; simp at e; simp [e]
theorem txt_PwF (X : Int) : PwF (101 :: txt X) := by
  refine .inr ?_
  unfold txt
  by_cases h0 : X = 0
  · rw [if_pos h0]; exact ⟨false, [48], by simp, by decide, rfl⟩
  · rw [if_neg h0]
    by_cases h1 : X < 0
    · rw [if_pos h1]; exact ⟨true, canon X.natAbs, canon_ne _ (by omega), canon_dig _, rfl⟩
    · rw [if_neg h1]; exact ⟨false, canon X.natAbs, canon_ne _ (by omega), canon_dig _, rfl⟩
theorem app_WhF {D T : List UInt8} (h : WhF D) (h0 : D.getD 0 0 ≠ 48) (hT : ∀ c ∈ T, dgB c = true) : WhF (D ++ T) := by
  rcases h with rfl | ⟨a, b, c⟩
  · exact absurd rfl h0
  · refine .inr ⟨by simp [a], fun x hx => ?_, ?_⟩
    · rcases List.mem_append.1 hx with hx | hx
      · exact b x hx
      · exact hT x hx
    · cases D with
      | nil => exact absurd rfl a
      | cons d D => simpa using c
theorem plain_num (ng : Bool) (D E : List UInt8) : ∀ t ∈ plainN ng D E, numL t = some t.length := by
  intro t ht
  unfold plainN at ht
  split at ht
  · rename_i hr
    have hr2 := hr
    by_cases hD : D = []
    · rw [if_pos hD] at ht
      rw [List.mem_singleton.1 ht]
      have := num_form ng [48] [] [] (.inl rfl) (.inl rfl) (.inl rfl)
      simpa using this
    · rw [if_neg hD] at ht
      have hh : D.head? ≠ some 48 := by
        unfold rightN at hr2
        rw [if_neg hD] at hr2
        simp only [Bool.and_eq_true, bne_iff_ne] at hr2
        exact hr2.1.1.2
      rcases right_ex D E hr with ⟨h, _⟩ | ⟨m, X, hm, rfl, rfl⟩
      · exact absurd h hD
      have hW := canon_WhF m (by rintro rfl; exact hm rfl) hh
      have h48 : (canon m).getD 0 0 ≠ 48 := by
        rcases hW with h | ⟨_, _, h⟩
        · rw [h] at hh; exact absurd rfl hh
        · exact h
      have hdg := canon_dig m
      obtain ⟨D, hDm⟩ : ∃ D, canon m = D := ⟨_, rfl⟩
      rw [hDm] at ht hW h48 hdg hD
      have hpos := List.length_pos_iff.2 hD
      rcases List.mem_append.1 ht with ht | ht
      · unfold plain1 at ht
        split at ht
        · rename_i hc
          rw [List.mem_singleton.1 ht]
          obtain ⟨x, hx⟩ : ∃ x, (intD (txt X)).1 = x := ⟨_, rfl⟩
          rw [hx] at hc ⊢
          have hu := hc.2
          unfold unsc at hu ⊢
          split
          · have := num_form ng (D ++ List.replicate x.toNat 48) [] [] (app_WhF hW h48 (by intro c hc; rw [List.eq_of_mem_replicate hc]; decide)) (.inl rfl) (.inl rfl)
            simpa using this
          · split
            · rename_i n1 n2
              obtain ⟨k, hk⟩ : ∃ k, ((D.length : Int) + x).toNat = k := ⟨_, rfl⟩
              rw [hk]
              have k1 : 0 < k := by omega
              have k2 : k < D.length := by omega
              have hT : WhF (D.take k) := by
                refine .inr ⟨?_, fun c hc => hdg c (List.mem_of_mem_take hc), ?_⟩
                · intro e; have := congrArg List.length e; rw [List.length_take, List.length_nil] at this; omega
                · cases D with
                  | nil => simp at hpos
                  | cons d D => obtain ⟨k, rfl⟩ : ∃ q, k = q + 1 := ⟨k - 1, by omega⟩; simpa using h48
              have := num_form ng (D.take k) (46 :: D.drop k) [] hT (.inr ⟨D.drop k, by intro e; have := congrArg List.length e; rw [List.length_drop, List.length_nil] at this; omega, fun c hc => hdg c (List.mem_of_mem_drop hc), rfl⟩) (.inl rfl)
              simpa using this
            · split
              · have := num_form ng [48] (46 :: (List.replicate (-((D.length : Int) + x)).toNat 48 ++ D)) [] (.inl rfl) (.inr ⟨_, by simp [hD], fun c hc => by
                  rcases List.mem_append.1 hc with hc | hc
                  · rw [List.eq_of_mem_replicate hc]; decide
                  · exact hdg c hc, rfl⟩) (.inl rfl)
                simpa using this
              · rename_i n1 n2 n3
                rw [if_neg n1, if_neg n2, if_neg n3] at hu
                exact absurd rfl hu
        · simp at ht
      · rcases List.mem_append.1 ht with ht | ht
        · rw [List.mem_singleton.1 ht]
          have := num_form ng D [] (101 :: txt X) hW (.inl rfl) (txt_PwF X)
          simpa using this
        · unfold plain3 at ht
          rw [upE_txt] at ht
          split at ht
          · rename_i hc
            rw [List.mem_singleton.1 ht]
            cases D with
            | nil => simp at hpos
            | cons d D =>
              have h1 : WhF [d] := .inr ⟨by simp, fun c hc => by rw [List.mem_singleton.1 hc]; exact hdg d (List.mem_cons_self ..), by simpa using h48⟩
              have hne : D ≠ [] := by intro e; subst e; simp at hc
              have := num_form ng [d] (46 :: D) (101 :: txt (X + (((d :: D).length : Int) - 1))) h1 (.inr ⟨D, hne, fun c hc => hdg c (List.mem_cons_of_mem _ hc), rfl⟩) (txt_PwF _)
              simpa using this
          · simp at ht
  · simp at ht
end Go.Proofs.YtbfnlgmhfhaglaaGreatDoor.M
/- JSON, plain: each piece is one token of its kind. -/
namespace Go.Proofs.YtbfnlgmhfhaglaaGreatDoor
set_option linter.unusedVariables false
set_option linter.unusedSimpArgs false

theorem spell_tok (us : List Nat) (h : ∀ u ∈ us, u ≤ 65535) : M.tokL (M.spell us) = some (7, (M.spell us).length) ∧ (M.validAll (M.spell us)).2 = true := by
  obtain ⟨b1, b2, b3⟩ := M.body_facts us h [34] (by simp)
  have hj : M.jtS [34] = some 1 := by rw [M.jtS_cons, if_pos rfl]
  have hv34 : (M.validAll [34]).2 = true := by decide +kernel
  constructor
  · unfold M.tokL
    have g0 : (M.spell us).getD 0 0 = 34 := by simp [M.spell]
    rw [g0]
    rw [if_neg (by decide), if_neg (by decide), if_neg (by decide), if_neg (by decide), if_neg (by decide), if_neg (by decide), if_pos rfl]
    have hd : (M.spell us).drop 1 = M.body us ++ [34] := rfl
    rw [hd, b1, hj]
    simp [M.spell]; omega
  · rw [M.valid_ascii _ (by simp [M.spell]) (by simp [M.spell])]
    show (M.validAll (M.body us ++ [34])).2 = true
    rw [b3, hv34]
theorem num_tok (s : List UInt8) (h0 : 0 < s.length) (h : M.numL s = some s.length) : M.GoodT (8, s) := by
  have ht : M.tokL s = some (8, s.length) := by
    unfold M.tokL
    cases s with
    | nil => simp at h0
    | cons a t =>
      have ha : a = 45 ∨ M.dgB a = true := by
        unfold M.numL at h
        split at h
        · rename_i hd
          by_cases h45 : a = 45
          · exact .inl h45
          · rw [show M.neg (a :: t) = 0 by simp [M.neg, h45]] at hd
            exact .inr (by simpa using hd)
        · cases h
      have nn : a ≠ 123 ∧ a ≠ 125 ∧ a ≠ 91 ∧ a ≠ 93 ∧ a ≠ 58 ∧ a ≠ 44 ∧ a ≠ 34 ∧ a ≠ 116 ∧ a ≠ 102 ∧ a ≠ 110 := by
        rcases ha with rfl | ha
        · decide
        · refine ⟨?_, ?_, ?_, ?_, ?_, ?_, ?_, ?_, ?_, ?_⟩ <;> rintro rfl <;> revert ha <;> decide
      obtain ⟨n1, n2, n3, n4, n5, n6, n7, n8, n9, n10⟩ := nn
      simp only [List.getD_cons_zero, n1, n2, n3, n4, n5, n6, n7, n8, n9, n10, if_false, h, Option.map_some]
  have ascii : (M.validAll s).2 = true := valid_all_ascii s fun j hj => M.tok_ascii s 8 s.length ht (by decide) j hj
  exact ⟨h0, ht, ascii⟩
theorem good_of (k : Nat) (s : List UInt8) (h : (decide (0 < s.length) && (M.tokL s == some (k, s.length)) && (M.validAll s).2) = true) : M.GoodT (k, s) := by
  simp only [Bool.and_eq_true, decide_eq_true_eq, beq_iff_eq] at h
  exact ⟨h.1.1, h.1.2, h.2⟩
end Go.Proofs.YtbfnlgmhfhaglaaGreatDoor
