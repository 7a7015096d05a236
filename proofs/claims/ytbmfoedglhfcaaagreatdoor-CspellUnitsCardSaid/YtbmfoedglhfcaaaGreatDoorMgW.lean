/- Several texts of ours in one: CMath3 FMath5 FMath6 FMath7 FMath8 FMath9 WMath WMath2 WMath3 WMath4 WMath5. -/
import Derived.Test.YtbmfoedglhfcaaaGreatDoorMgU
import Derived.Test.YtbmfoedglhfcaaaGreatDoorMgD
/- Plain numbers and lists: inputs one behind the other. -/
namespace Go.Proofs.YtbmfoedglhfcaaaGreatDoor.M
open Go.Lib
set_option linter.unusedVariables false
set_option linter.unusedSimpArgs false

theorem vall_step (s : List UInt8) (h : 0 < s.length) : (validAll s).2 = ((nx s).2.2 && (validAll (s.drop (dec s).2)).2) := by
  unfold validAll
  cases hn : (nx s).2.2 with
  | false => rw [valid_bad _ _ _ h h (by simpa using hn)]; simp
  | true =>
    rw [valid_good _ _ _ h h (by simpa using hn)]
    simp only [List.drop_zero, Nat.zero_add, Bool.true_and]
    have hw := dec_width s
    have hl := dec_le s h
    obtain ⟨a, b, hab, ha⟩ : ∃ a b, s = a ++ b ∧ a.length = (dec s).2 := ⟨s.take (dec s).2, s.drop (dec s).2, by simp, by simp; omega⟩
    have hb : s.drop (dec s).2 = b := by rw [← ha, hab]; simp
    have := valid_shift a b (s.length - 1) 0
    rw [hb, ← ha]
    conv => lhs; rw [show valid (s.length - 1) s a.length = valid (s.length - 1) (a ++ b) (a.length + 0) by rw [← hab, Nat.add_zero]]
    rw [this]
    simp only
    rw [valid_fuel b (s.length - 1) b.length 0 (by have := congrArg List.length hab; simp at this; omega) (by omega)]
def sh (n : Nat) (r : Int × Int) : Int × Int := (r.1, r.2 + n)
theorem step_shift (a b : List UInt8) (j : Nat) : stepR (a ++ b) (a.length + j) = stepR b j := by
  have e : (a ++ b).drop (a.length + j) = b.drop j := by rw [← List.drop_drop]; simp
  have g : (a ++ b).getD (a.length + j + 1) 0 = b.getD (j + 1) 0 := by
    simp only [List.getD]
    rw [List.getElem?_append_right (by omega), show a.length + j + 1 - a.length = j + 1 by omega]
  unfold stepR
  rw [e, g]
theorem rn_shift (a b : List UInt8) (n j : Nat) (hn : b.length - j ≤ n) : rn (a ++ b) (a.length + j) = (rn b j).map (sh a.length) := by
  induction n generalizing j with
  | zero => rw [rn_out b j (by omega), rn_out _ _ (by simp; omega)]; rfl
  | succ n ih =>
    by_cases h : j < b.length
    · have hs := step_le b j h
      rw [rn_in b j h, rn_in _ _ (by simp; omega), step_shift, List.map_cons, Nat.add_assoc, ih _ (by omega)]
      congr 1
      unfold sh
      simp
      omega
    · rw [rn_out b j (by omega), rn_out _ _ (by simp; omega)]; rfl
theorem byte_getD (s : List UInt8) (i k : Nat) : byte (s.drop i) k = (s.getD (i + k) 0).toNat := by
  unfold byte; simp [List.getD]
/-- One step within a whole input that does not end with byte 13. -/
theorem step_join (a b : List UInt8) (i : Nat) (hi : i < a.length) (hv : (validAll (a.drop i)).2 = true) (h13 : a.getD (a.length - 1) 0 ≠ 13) :
    stepR (a ++ b) i = stepR a i ∧ (validAll (a.drop (i + (stepR a i).2))).2 = true := by
  have hl0 : 0 < (a.drop i).length := by simp; omega
  have hst := vall_step (a.drop i) hl0
  rw [hv] at hst
  have hst2 := hst.symm
  rw [Bool.and_eq_true] at hst2
  obtain ⟨hn, hv2⟩ := hst2
  rw [List.drop_drop] at hv2
  have hda : (a ++ b).drop i = a.drop i ++ b := by rw [List.drop_append_of_le_length (by omega)]
  have hdec := dec_append (a.drop i) b hl0 hn
  by_cases hD : (dec (a.drop i)).1 = 13
  · have hlow := dec_low (a.drop i) (by omega)
    have hb13 : a.getD i 0 = 13 := by
      have := hlow.2
      rw [hD, byte_getD, Nat.add_zero] at this
      apply UInt8.toNat_inj.1; rw [← this]; rfl
    have hin : i + 1 < a.length := by
      by_cases h : i + 1 < a.length
      · exact h
      · exact absurd (by rw [show a.length - 1 = i by omega]; exact hb13) h13
    have hg : (a ++ b).getD (i + 1) 0 = a.getD (i + 1) 0 := by
      simp only [List.getD]; rw [List.getElem?_append_left hin]
    refine ⟨by unfold stepR; rw [hda, hdec, hg], ?_⟩
    rw [hlow.1] at hv2
    unfold stepR
    rw [if_neg (by omega), if_neg (by omega), if_pos hD]
    by_cases h10 : a.getD (i + 1) 0 = 10
    · rw [if_pos h10]
      have hb10 : byte (a.drop (i + 1)) 0 < 128 := by rw [byte_getD, Nat.add_zero, h10]; decide
      have hd1 : dec (a.drop (i + 1)) = (byte (a.drop (i + 1)) 0, 1) := by unfold dec decodeN; rw [if_pos hb10]
      have := vall_step (a.drop (i + 1)) (by simp; omega)
      rw [hv2, hd1] at this
      have := this.symm
      rw [Bool.and_eq_true] at this
      rw [List.drop_drop] at this
      exact this.2
    · rw [if_neg h10]; exact hv2
  · refine ⟨by unfold stepR; rw [hda, hdec]; simp only [if_neg hD], ?_⟩
    have : (stepR a i).2 = (dec (a.drop i)).2 := by
      unfold stepR
      simp only [if_neg hD]
      repeat' split
      all_goals rfl
    rw [this]; exact hv2
theorem rn_join (a b : List UInt8) (n i : Nat) (hn : a.length - i ≤ n) (hi : i ≤ a.length) (hv : (validAll (a.drop i)).2 = true) (h13 : 0 < a.length → a.getD (a.length - 1) 0 ≠ 13) :
    rn (a ++ b) i = rn a i ++ (rn b 0).map (sh a.length) := by
  induction n generalizing i with
  | zero =>
    obtain rfl : i = a.length := by omega
    rw [rn_out a _ (Nat.le_refl _), List.nil_append]
    exact rn_shift a b b.length 0 (by omega)
  | succ n ih =>
    by_cases h : i < a.length
    · have hs := step_le a i h
      obtain ⟨j1, j2⟩ := step_join a b i h hv (h13 (by omega))
      rw [rn_in a i h, rn_in _ _ (by simp; omega), j1, List.cons_append, ih _ (by omega) (by omega) j2]
    · obtain rfl : i = a.length := by omega
      rw [rn_out a _ (Nat.le_refl _), List.nil_append]
      exact rn_shift a b b.length 0 (by omega)
end Go.Proofs.YtbmfoedglhfcaaaGreatDoor.M

/- Plain numbers and lists: a comment ahead of any bytes. Nothing of the program is imported. -/
namespace Go.Proofs.YtbmfoedglhfcaaaGreatDoor.M
open Go.Lib
set_option linter.unusedVariables false
set_option linter.unusedSimpArgs false

def asI (s : List UInt8) : List Int := s.map fun x => (x.toNat : Int)
/-- Plain letters: ASCII, no byte that is turned. -/
def Pl (x : UInt8) : Prop := x.toNat < 128 ∧ x ≠ 0 ∧ x ≠ 12 ∧ x ≠ 13
theorem asI_append (a b : List UInt8) : asI (a ++ b) = asI a ++ asI b := by simp [asI]
theorem encZs_asI (s : List UInt8) (h : ∀ x ∈ s, x.toNat < 128) : encZs (asI s) = s := by
  induction s with
  | nil => rfl
  | cons a t ih =>
    have e : asI (a :: t) = (a.toNat : Int) :: asI t := rfl
    rw [e, encZs_cons, enc_byte a (h a (by simp)), ih (fun x hx => h x (by simp [hx]))]
    rfl
theorem pl_okr (x : UInt8) (h : Pl x) : Okr (x.toNat : Int) := by
  obtain ⟨h1, h2, h3, h4⟩ := h
  have e0 : x.toNat ≠ 0 := fun e => h2 (by rw [← u8_of x 0 e]; rfl)
  have e1 : x.toNat ≠ 12 := fun e => h3 (by rw [← u8_of x 12 e]; rfl)
  have e2 : x.toNat ≠ 13 := fun e => h4 (by rw [← u8_of x 13 e]; rfl)
  exact ⟨by rw [isCP_iff]; omega, by omega, by omega, by omega⟩
theorem rn_plain (s : List UInt8) (h : ∀ x ∈ s, Pl x) : (rn s 0).map Prod.fst = asI s := by
  have := rn_enc ((asI s).map fun r => (r, 0)) (by
    intro r hr
    simp only [List.mem_map, asI] at hr
    obtain ⟨_, ⟨x, hx, rfl⟩, rfl⟩ := hr
    exact pl_okr x (h x hx)) []
  have e : encR ((asI s).map fun r => (r, 0)) = encZs (asI s) := by unfold encR encZs; rw [List.flatMap_map]
  rw [e, encZs_asI s (fun x hx => (h x hx).1), List.map_map] at this
  have e2 : (asI s).map (Prod.fst ∘ fun r => (r, (0 : Int))) = asI s := by simp [Function.comp_def]
  rw [e2] at this
  simpa using this
theorem plain_valid (s : List UInt8) (h : ∀ x ∈ s, Pl x) : (validAll s).2 = true := by
  have := encR_valid ((asI s).map fun r => (r, 0)) (by
    intro r hr
    simp only [List.mem_map, asI] at hr
    obtain ⟨_, ⟨x, hx, rfl⟩, rfl⟩ := hr
    exact pl_okr x (h x hx))
  have e : encR ((asI s).map fun r => (r, 0)) = encZs (asI s) := by unfold encR encZs; rw [List.flatMap_map]
  rw [e, encZs_asI s (fun x hx => (h x hx).1)] at this
  rw [this]
theorem rn_plain_join (a b : List UInt8) (h : ∀ x ∈ a, Pl x) : rn (a ++ b) 0 = rn a 0 ++ (rn b 0).map (sh a.length) := by
  have := rn_join a b a.length 0 (by omega) (by omega) (by rw [List.drop_zero]; exact plain_valid a h) (by
    intro h0
    have : a.getD (a.length - 1) 0 ∈ a := by
      have e : a.getD (a.length - 1) 0 = a[a.length - 1] := by simp [List.getD, show a.length - 1 < a.length by omega]
      rw [e]; exact List.getElem_mem _
    exact (h _ this).2.2.2)
  simpa using this
theorem tks_sh (n : Nat) (m : Nat) (l : List (Int × Int)) (hm : l.length ≤ m) : tksC (l.map (sh n)) = (tksC l).map fun x => (x.1, x.2 + (n : Int)) := by
  induction m generalizing l with
  | zero => obtain rfl := List.length_eq_zero_iff.1 (Nat.le_zero.1 hm); simp [lexC_nil]
  | succ m ih =>
    cases l with
    | nil => simp [lexC_nil]
    | cons a t =>
      have e : ((a :: t).map (sh n)).map Prod.fst = (a :: t).map Prod.fst := by simp [sh, Function.comp_def]
      have e2 : (a :: t).map (sh n) = sh n a :: t.map (sh n) := rfl
      rw [e2] at e ⊢
      rw [tksC, tksC, e, List.map_cons, ← List.map_drop, ih _ (by simp at hm ⊢; omega)]
      rfl
theorem cmT_plain (s : List Int) (h : ∀ x ∈ s, x ≠ 42) (t : List Int) : cmT (s ++ 42 :: 47 :: t) = (s, s.length + 2) := by
  induction s with
  | nil => simp [cmT]
  | cons a s ih =>
    have ha := h a (by simp)
    rw [List.cons_append, cmT, if_neg (fun e => ha e.1), ih (fun x hx => h x (by simp [hx]))]
    simp; omega
/-- A comment ahead of any bytes is one token; the others are those of the bytes, further on. -/
theorem comment_tks (s b : List UInt8) (h : ∀ x ∈ s, Pl x ∧ x ≠ 42) :
    tksC (rn (([47, 42] ++ s ++ [42, 47]) ++ b) 0) = ({ kind := 25, text := s }, 0) :: (tksC (rn b 0)).map fun x => (x.1, x.2 + ((s.length + 4 : Nat) : Int)) := by
  have hA : ∀ x ∈ [47, 42] ++ s ++ [42, 47], Pl x := by
    intro x hx
    simp only [List.mem_append, List.mem_cons, List.mem_nil_iff, or_false] at hx
    rcases hx with ((rfl | rfl) | hx) | rfl | rfl
    · exact ⟨by decide, by decide, by decide, by decide⟩
    · exact ⟨by decide, by decide, by decide, by decide⟩
    · exact (h x hx).1
    · exact ⟨by decide, by decide, by decide, by decide⟩
    · exact ⟨by decide, by decide, by decide, by decide⟩
  have hlen : ([47, 42] ++ s ++ [42, 47] : List UInt8).length = s.length + 4 := by simp
  have hj := rn_plain_join ([47, 42] ++ s ++ [42, 47]) b hA
  have hp := rn_plain _ hA
  have hrl : (rn ([47, 42] ++ s ++ [42, 47]) 0).length = s.length + 4 := by
    have := congrArg List.length hp
    rw [List.length_map] at this
    rw [this]; simp [asI]
  rw [hlen] at hj
  obtain ⟨R, hR⟩ : ∃ R, rn ([47, 42] ++ s ++ [42, 47]) 0 = R := ⟨_, rfl⟩
  rw [hR] at hj hp hrl
  obtain ⟨L, hL⟩ : ∃ L, rn (([47, 42] ++ s ++ [42, 47]) ++ b) 0 = L := ⟨_, rfl⟩
  rw [hL] at hj ⊢
  have hLl : 0 < L.length := by rw [hj, List.length_append, hrl]; omega
  have hc : L.map Prod.fst = 47 :: 42 :: (asI s ++ 42 :: 47 :: ((rn b 0).map (sh (s.length + 4))).map Prod.fst) := by
    rw [hj, List.map_append, hp]
    simp [asI]
  have h0 : (L[0]'hLl).2 = 0 := by
    have e : L = rn (([47, 42] ++ s ++ [42, 47]) ++ b) 0 := hL.symm
    have e2 := rn_in (([47, 42] ++ s ++ [42, 47]) ++ b) 0 (by simp)
    rw [← e] at e2
    have hg : ∀ (T : List (Int × Int)) x T' (hT : T = x :: T') (h0 : 0 < T.length), T[0] = x := by rintro T x T' rfl h0; rfl
    rw [hg L _ _ e2 hLl]
    rfl
  have hi := lexC_in L 0 hLl
  rw [List.drop_zero, List.drop_zero, h0, Nat.zero_add] at hi
  have ht : tkC (L.map Prod.fst) = ({ kind := 25, text := s }, s.length + 4) := by
    have hw : wayT (L.map Prod.fst) = 1 := by
      unfold wayT
      rw [if_pos (by rw [hc]; exact (stC_iff _ _).2 ⟨_, rfl⟩)]
    unfold tkC
    rw [hw, hc]
    simp only [tokW, if_true, List.drop_succ_cons, List.drop_zero]
    rw [cmT_plain (asI s) (by
      intro x hx
      simp only [asI, List.mem_map] at hx
      obtain ⟨y, hy, rfl⟩ := hx
      intro e
      apply (h y hy).2
      rw [← u8_of y 42 (by omega)]; rfl)]
    rw [encZs_asI s (fun x hx => (h x hx).1.1)]
    simp [asI]
    omega
  rw [ht] at hi
  rw [hi]
  congr 1
  have hd : L.drop (s.length + 4) = (rn b 0).map (sh (s.length + 4)) := by
    rw [hj]; exact List.drop_left' hrl
  show tksC (L.drop (s.length + 4)) = _
  rw [hd, tks_sh _ _ _ (Nat.le_refl _)]
theorem lex_from (L : List (Int × Int)) (n : Nat) : ∀ (l : List (Int × Int)), l.length ≤ n → (∀ r ∈ l, r ∈ L) → ∀ x ∈ tksC l, ∃ r ∈ L, x.2 = r.2 := by
  induction n with
  | zero => intro l hl h x hx; obtain rfl := List.length_eq_zero_iff.1 (Nat.le_zero.1 hl); rw [lexC_nil] at hx; simp at hx
  | succ n ih =>
    intro l hl h x hx
    cases l with
    | nil => rw [lexC_nil] at hx; simp at hx
    | cons a t =>
      rw [tksC] at hx
      rcases List.mem_cons.1 hx with rfl | hx
      · exact ⟨a, h a (by simp), rfl⟩
      · exact ih _ (by simp at hl ⊢; omega) (fun r hr => h r (List.mem_cons_of_mem _ (List.mem_of_mem_drop hr))) x hx
theorem lex_pos (l : List UInt8) : ∀ x ∈ tksC (rn l 0), 0 ≤ x.2 ∧ x.2 < l.length := by
  intro x hx
  obtain ⟨r, hr, e⟩ := lex_from (rn l 0) _ (rn l 0) (Nat.le_refl _) (fun r hr => hr) x hx
  obtain ⟨k, hk, e2⟩ := List.getElem_of_mem hr
  have := rn_at l l.length 0 (by omega) k hk
  rw [e2] at this
  omega
end Go.Proofs.YtbmfoedglhfcaaaGreatDoor.M

/- Plain numbers and lists: a url with blanks around it. Nothing of the program is imported. -/
namespace Go.Proofs.YtbmfoedglhfcaaaGreatDoor.M
open Go.Lib
set_option linter.unusedVariables false
set_option linter.unusedSimpArgs false

/-- What may be in a url of the law's. -/
def UrC (x : UInt8) : Prop := 32 < x.toNat ∧ x.toNat < 127 ∧ x.toNat ≠ 34 ∧ x.toNat ≠ 39 ∧ x.toNat ≠ 40 ∧ x.toNat ≠ 41 ∧ x.toNat ≠ 92
def UrI (r : Int) : Prop := 32 < r ∧ r < 127 ∧ r ≠ 34 ∧ r ≠ 39 ∧ r ≠ 40 ∧ r ≠ 41 ∧ r ≠ 92
theorem ur_pl (x : UInt8) (h : UrC x) : Pl x := by
  obtain ⟨h1, h2, _⟩ := h
  refine ⟨by omega, fun e => ?_, fun e => ?_, fun e => ?_⟩ <;> (rw [e] at h1; exact absurd h1 (by decide))
theorem urlT_word (s : List Int) (h : ∀ r ∈ s, UrI r) (t : List Int) : urlT false false (s ++ t) = ((urlT false false t).1, s ++ (urlT false false t).2.1, s.length + (urlT false false t).2.2) := by
  induction s with
  | nil => simp
  | cons a s ih =>
    obtain ⟨h1, h2, h3, h4, h5, h6, h7⟩ := h a (by simp)
    have he : esB (a :: (s ++ t)) = false := by simp [esB, h7]
    have hb : isBl a = false := by rw [isBl_not]; omega
    have hu : inU a = true := by
      unfold inU
      simp only [Bool.and_eq_true, Bool.not_eq_true', Bool.or_eq_false_iff, decide_eq_false_iff_not, decide_eq_true_eq, Bool.or_eq_true]
      omega
    rw [List.cons_append, urlT, if_neg h6, if_neg (by rw [he]; simp), if_neg (by rw [hb]; simp), hu]
    simp only [Bool.or_false, Bool.not_true]
    rw [ih (fun r hr => h r (by simp [hr]))]
    simp; omega
theorem urlT_blanks (s : List Int) (h : ∀ r ∈ s, isBl r = true) (b p : Bool) (t : List Int) : ∃ p', urlT b p (s ++ t) = ((urlT b p' t).1, (urlT b p' t).2.1, s.length + (urlT b p' t).2.2) := by
  induction s generalizing p with
  | nil => exact ⟨p, by simp⟩
  | cons a s ih =>
    have hb := h a (by simp)
    have hb2 := (isBl_iff a).1 hb
    obtain ⟨p', e⟩ := ih (fun r hr => h r (by simp [hr])) true
    refine ⟨p', ?_⟩
    have he : esB (a :: (s ++ t)) = false := by simp [esB]; omega
    rw [List.cons_append, urlT, if_neg (by omega), if_neg (by rw [he]; simp), if_pos hb, e]
    simp; omega
theorem urlT_close (b p : Bool) (t : List Int) : urlT b p (41 :: t) = (b, [], 1) := by rw [urlT, if_pos rfl]
theorem urlT_nil (b p : Bool) : urlT b p [] = (b, [], 0) := by rw [urlT]
theorem blN_blanks (s : List Int) (h : ∀ r ∈ s, isBl r = true) (t : List Int) : blN (s ++ t) = s.length + blN t := by
  induction s with
  | nil => simp
  | cons a s ih => rw [List.cons_append, blN_cons, if_pos (h a (by simp)), ih (fun r hr => h r (by simp [hr]))]; simp; omega
/-- The two names. -/
def nmI (g : Bool) : List Int := if g then [117, 82, 76] else [117, 114, 108]
theorem nm_take (g : Bool) (t : List Int) : takeN (nmI g ++ 40 :: t) = (nmI g, 3) := by
  cases g
  · show takeN (117 :: 114 :: 108 :: 40 :: t) = _
    rw [takeN_in _ _ (by decide), takeN_in _ _ (by decide), takeN_in _ _ (by decide), takeN_out _ _ (by simp [esB]) (by decide)]; rfl
  · show takeN (117 :: 82 :: 76 :: 40 :: t) = _
    rw [takeN_in _ _ (by decide), takeN_in _ _ (by decide), takeN_in _ _ (by decide), takeN_out _ _ (by simp [esB]) (by decide)]; rfl
theorem nm_way (g : Bool) (t : List Int) : wayT (nmI g ++ 40 :: t) = 8 := by
  cases g
  · show wayT (117 :: 114 :: 108 :: 40 :: t) = 8
    unfold wayT
    rw [if_neg (by simp [stC, List.isPrefixOf]), if_neg (by simp [isBl]), if_neg (by simp), if_neg (by simp), if_neg (by simp [numB, sgN, nDg, fracB]), if_neg (by simp [stC, List.isPrefixOf]), if_neg (by simp [stC, List.isPrefixOf]), if_pos (by simp [begN, nSt])]
  · show wayT (117 :: 82 :: 76 :: 40 :: t) = 8
    unfold wayT
    rw [if_neg (by simp [stC, List.isPrefixOf]), if_neg (by simp [isBl]), if_neg (by simp), if_neg (by simp), if_neg (by simp [numB, sgN, nDg, fracB]), if_neg (by simp [stC, List.isPrefixOf]), if_neg (by simp [stC, List.isPrefixOf]), if_pos (by simp [begN, nSt])]
/-- A name and a (, blanks, and what is neither a blank nor a mark: a url. -/
theorem nm_url (g : Bool) (A t : List Int) (hA : ∀ r ∈ A, isBl r = true) (h1 : isBl (t.getD 0 (-1)) = false) (h2 : t.getD 0 (-1) ≠ 34) (h3 : t.getD 0 (-1) ≠ 39) :
    tkC (nmI g ++ 40 :: (A ++ t)) = (if (urlT false false t).1 then ({ kind := 8, text := encZs ((nmI g ++ 40 :: (A ++ t)).take (4 + A.length + (urlT false false t).2.2)) }, 4 + A.length + (urlT false false t).2.2)
      else ({ kind := 7, text := encZs (urlT false false t).2.1 }, 4 + A.length + (urlT false false t).2.2)) := by
  have hl : (nmI g).length = 3 := by cases g <;> rfl
  obtain ⟨c, hc⟩ : ∃ c, nmI g ++ 40 :: (A ++ t) = c := ⟨_, rfl⟩
  have htk : takeN c = (nmI g, 3) := by rw [← hc]; exact nm_take g _
  have hg3 : c.getD 3 (-1) = 40 := by rw [← hc]; cases g <;> rfl
  have hd4 : c.drop 4 = A ++ t := by rw [← hc]; cases g <;> rfl
  have hb0 : blN t = 0 := by
    cases t with
    | nil => rfl
    | cons r u => rw [blN_cons, if_neg (by simpa using h1)]
  have hne : nameE c = 4 + A.length := by
    unfold nameE
    rw [htk]
    show 3 + 1 + blN (c.drop (3 + 1)) = _
    rw [hd4, blN_blanks A hA, hb0]; omega
  have hdk : c.drop (4 + A.length) = t := by rw [← List.drop_drop, hd4]; exact List.drop_left' rfl
  have hgk : c.getD (4 + A.length) (-1) = t.getD 0 (-1) := by
    have := drop_getD c (4 + A.length) 0 (-1)
    rw [hdk, Nat.add_zero] at this
    exact this.symm
  have hlow : lowL (encZs (nmI g)) = [117, 114, 108] := by cases g <;> decide +kernel
  rw [hc]
  unfold tkC
  rw [show wayT c = 8 by rw [← hc]; exact nm_way g _]
  show namT c = _
  unfold namT
  rw [htk]
  simp only
  rw [hg3, if_pos rfl, hne, hgk, if_pos ⟨hlow, h2, h3⟩]
  unfold urlK
  rw [hdk]
theorem ur_int (s : List UInt8) (h : ∀ x ∈ s, UrC x) : ∀ r ∈ asI s, UrI r := by
  intro r hr
  simp only [asI, List.mem_map] at hr
  obtain ⟨x, hx, rfl⟩ := hr
  obtain ⟨h1, h2, h3, h4, h5, h6, h7⟩ := h x hx
  refine ⟨by omega, by omega, by omega, by omega, by omega, by omega, by omega⟩
def blB : List UInt8 := [32, 10, 9, 32, 32]
theorem bl_all : ∀ n, ∀ x ∈ blB.take n, Pl x ∧ isBl (x.toNat : Int) = true := by
  intro n x hx
  have : x ∈ blB := List.mem_of_mem_take hx
  simp only [blB, List.mem_cons, List.mem_nil_iff, or_false] at this
  rcases this with rfl | rfl | rfl | rfl | rfl <;> exact ⟨⟨by decide, by decide, by decide, by decide⟩, by decide⟩
theorem bl_int (n : Nat) : ∀ r ∈ asI (blB.take n), isBl r = true := by
  intro r hr
  simp only [asI, List.mem_map] at hr
  obtain ⟨x, hx, rfl⟩ := hr
  exact (bl_all n x hx).2
def nmB (g : Bool) : List UInt8 := if g then [117, 82, 76, 40] else [117, 114, 108, 40]
theorem nm_asI (g : Bool) (t : List UInt8) : asI (nmB g ++ t) = nmI g ++ 40 :: asI t := by cases g <;> rfl
theorem nm_pl (g : Bool) : ∀ x ∈ nmB g, Pl x := by
  intro x hx
  cases g <;> (simp only [nmB, if_true, if_false, Bool.false_eq_true, List.mem_cons, List.mem_nil_iff, or_false] at hx; rcases hx with rfl | rfl | rfl | rfl <;> exact ⟨by decide, by decide, by decide, by decide⟩)
theorem isBl_ur (r : Int) (h : UrI r) : isBl r = false := by obtain ⟨h1, _⟩ := h; rw [isBl_not]; omega
/-- The first token of plain bytes, and what is left. -/
theorem tks_first (X : List UInt8) (h : ∀ x ∈ X, Pl x) (h0 : 0 < X.length) (t : CT) (n : Nat) (ht : tkC (asI X) = (t, n)) : ∃ R, tksC (rn X 0) = (t, 0) :: tksC R ∧ R.map Prod.fst = asI (X.drop n) := by
  have hp := rn_plain X h
  obtain ⟨L, hL⟩ : ∃ L, rn X 0 = L := ⟨_, rfl⟩
  rw [hL] at hp
  have hLl : 0 < L.length := by
    have := congrArg List.length hp
    rw [List.length_map] at this
    rw [this]; simpa [asI] using h0
  have h0' : (L[0]'hLl).2 = 0 := by
    have e2 := rn_in X 0 h0
    rw [hL] at e2
    have hg : ∀ (T : List (Int × Int)) x T' (hT : T = x :: T') (h0 : 0 < T.length), T[0] = x := by rintro T x T' rfl h0; rfl
    rw [hg L _ _ e2 hLl]; rfl
  have hi := lexC_in L 0 hLl
  rw [List.drop_zero, List.drop_zero, h0', Nat.zero_add, hp, ht] at hi
  rw [hL]
  refine ⟨L.drop n, hi, ?_⟩
  rw [List.map_drop, hp]; simp [asI]
theorem tks_x (R : List (Int × Int)) (h : R.map Prod.fst = [120]) : ∃ z, tksC R = [({ kind := 1, text := [120] }, z)] := by
  cases R with
  | nil => simp at h
  | cons a t =>
    cases t with
    | cons b u => simp at h
    | nil =>
      obtain ⟨r, z⟩ := a
      simp at h
      subst h
      refine ⟨z, ?_⟩
      rw [tksC, show ([((120 : Int), z)].map Prod.fst) = [120] from rfl, show tkC [120] = ({ kind := 1, text := [120] }, 1) by decide +kernel]
      simp [lexC_nil]
theorem asI_len (s : List UInt8) : (asI s).length = s.length := by simp [asI]
theorem url_gen (g : Bool) (A B s E : List UInt8) (hA : ∀ r ∈ asI A, isBl r = true) (hB : ∀ r ∈ asI B, isBl r = true) (hs : ∀ x ∈ s, UrC x) (hE : E = [] ∨ E = [41, 120]) :
    tkC (asI (nmB g ++ (A ++ (s ++ (B ++ E))))) = ({ kind := 7, text := s }, 4 + A.length + s.length + B.length + (if E = [] then 0 else 1)) := by
  have hi := ur_int s hs
  have hen : encZs (asI s) = s := encZs_asI s (fun x hx => (ur_pl x (hs x hx)).1)
  have hEu : ∀ b p, urlT b p (asI E) = (b, [], if E = [] then 0 else 1) := by
    intro b p
    rcases hE with rfl | rfl
    · exact urlT_nil b p
    · exact urlT_close b p _
  have hEh : isBl ((asI E).getD 0 (-1)) = false ∧ (asI E).getD 0 (-1) ≠ 34 ∧ (asI E).getD 0 (-1) ≠ 39 := by
    rcases hE with rfl | rfl <;> decide
  by_cases h0 : s = []
  · subst h0
    have e : asI (nmB g ++ (A ++ ([] ++ (B ++ E)))) = nmI g ++ 40 :: ((asI A ++ asI B) ++ asI E) := by
      rw [nm_asI, List.nil_append, asI_append, asI_append, List.append_assoc]
    rw [e, nm_url g (asI A ++ asI B) (asI E) (fun r hr => (List.mem_append.1 hr).elim (hA r) (hB r)) hEh.1 hEh.2.1 hEh.2.2, hEu]
    simp [asI_len, encZs]
    omega
  · obtain ⟨a, u, rfl⟩ := List.exists_cons_of_ne_nil h0
    have ha := hi (a.toNat : Int) (by simp [asI])
    have e : asI (nmB g ++ (A ++ ((a :: u) ++ (B ++ E)))) = nmI g ++ 40 :: (asI A ++ (asI (a :: u) ++ (asI B ++ asI E))) := by
      rw [nm_asI, asI_append, asI_append, asI_append]
    have hg : (asI (a :: u) ++ (asI B ++ asI E)).getD 0 (-1) = (a.toNat : Int) := rfl
    obtain ⟨h1, h2, h3, h4, _⟩ := ha
    rw [e, nm_url g (asI A) _ hA (by rw [hg]; exact isBl_ur _ ⟨h1, h2, h3, h4, by assumption⟩) (by rw [hg]; exact h3) (by rw [hg]; exact h4)]
    rw [urlT_word (asI (a :: u)) hi]
    obtain ⟨p', hp⟩ := urlT_blanks (asI B) hB false false (asI E)
    rw [hp, hEu]
    simp only [Bool.false_eq_true, if_false, List.append_nil, asI_len]
    rw [hen]
    congr 1
    omega
theorem url_one (g : Bool) (a b : Nat) (s : List UInt8) (hs : ∀ x ∈ s, UrC x) : ∃ z, tksC (rn (nmB g ++ (blB.take a ++ (s ++ (blB.take b ++ [41, 120])))) 0) = [({ kind := 7, text := s }, 0), ({ kind := 1, text := [120] }, z)] := by
  have ht := url_gen g (blB.take a) (blB.take b) s [41, 120] (bl_int a) (bl_int b) hs (.inr rfl)
  rw [if_neg (by simp)] at ht
  obtain ⟨R, hR, hm⟩ := tks_first _ (by
    intro x hx
    simp only [List.mem_append, List.mem_cons, List.mem_nil_iff, or_false] at hx
    rcases hx with hx | hx | hx | hx | rfl | rfl
    · exact nm_pl g x hx
    · exact (bl_all a x hx).1
    · exact ur_pl x (hs x hx)
    · exact (bl_all b x hx).1
    · exact ⟨by decide, by decide, by decide, by decide⟩
    · exact ⟨by decide, by decide, by decide, by decide⟩) (by cases g <;> simp [nmB]) _ _ ht
  have hd : (nmB g ++ (blB.take a ++ (s ++ (blB.take b ++ [41, 120])))).drop (4 + (blB.take a).length + s.length + (blB.take b).length + 1) = [120] := by
    rw [show nmB g ++ (blB.take a ++ (s ++ (blB.take b ++ [41, 120]))) = (nmB g ++ (blB.take a ++ (s ++ (blB.take b ++ [41])))) ++ [120] by simp]
    refine List.drop_left' ?_
    simp only [List.length_append, List.length_cons, List.length_nil]
    have : (nmB g).length = 4 := by cases g <;> rfl
    omega
  rw [hd] at hm
  obtain ⟨z, hz⟩ := tks_x R hm
  exact ⟨z, by rw [hR, hz]⟩
theorem url_two (g : Bool) (a b : Nat) (s : List UInt8) (hs : ∀ x ∈ s, UrC x) : tksC (rn (nmB g ++ (blB.take a ++ (s ++ blB.take b))) 0) = [({ kind := 7, text := s }, 0)] := by
  have ht := url_gen g (blB.take a) (blB.take b) s [] (bl_int a) (bl_int b) hs (.inl rfl)
  rw [if_pos rfl, List.append_nil] at ht
  obtain ⟨R, hR, hm⟩ := tks_first _ (by
    intro x hx
    simp only [List.mem_append] at hx
    rcases hx with hx | hx | hx | hx
    · exact nm_pl g x hx
    · exact (bl_all a x hx).1
    · exact ur_pl x (hs x hx)
    · exact (bl_all b x hx).1) (by cases g <;> simp [nmB]) _ _ ht
  have hd : (nmB g ++ (blB.take a ++ (s ++ blB.take b))).drop (4 + (blB.take a).length + s.length + (blB.take b).length + 0) = [] := by
    apply List.drop_eq_nil_of_le
    simp only [List.length_append]
    have : (nmB g).length = 4 := by cases g <;> rfl
    omega
  rw [hd] at hm
  have : R = [] := by simpa [asI] using hm
  rw [hR, this, lexC_nil]
theorem url_bad (g : Bool) (s : List UInt8) (hs : ∀ x ∈ s, UrC x) : ∃ z, tksC (rn (nmB g ++ (s ++ [32, 97, 41, 120])) 0) = [(if s = [] then { kind := 7, text := [97] } else { kind := 8, text := nmB g ++ (s ++ [32, 97, 41]) }, 0), ({ kind := 1, text := [120] }, z)] := by
  have hi := ur_int s hs
  have hpl : ∀ x ∈ nmB g ++ (s ++ [32, 97, 41, 120]), Pl x := by
    intro x hx
    simp only [List.mem_append, List.mem_cons, List.mem_nil_iff, or_false] at hx
    rcases hx with hx | hx | rfl | rfl | rfl | rfl
    · exact nm_pl g x hx
    · exact ur_pl x (hs x hx)
    all_goals exact ⟨by decide, by decide, by decide, by decide⟩
  have hn : (nmB g).length = 4 := by cases g <;> rfl
  have ht : tkC (asI (nmB g ++ (s ++ [32, 97, 41, 120]))) = (if s = [] then { kind := 7, text := [97] } else { kind := 8, text := nmB g ++ (s ++ [32, 97, 41]) }, 4 + s.length + 3) := by
    by_cases h0 : s = []
    · subst h0
      rw [if_pos rfl, nm_asI, List.nil_append]
      show tkC (nmI g ++ 40 :: ([32] ++ [97, 41, 120])) = _
      rw [nm_url g [32] [97, 41, 120] (by simp [isBl]) (by decide) (by decide) (by decide)]
      rw [show urlT false false [97, 41, 120] = (false, [97], 2) by decide +kernel]
      simp only [Bool.false_eq_true, if_false]
      rw [show encZs [97] = [97] by decide +kernel]
      rfl
    · rw [if_neg h0]
      obtain ⟨a, u, rfl⟩ := List.exists_cons_of_ne_nil h0
      have ha := hi (a.toNat : Int) (by simp [asI])
      obtain ⟨h1, h2, h3, h4, h5⟩ := ha
      have hg : (asI (a :: u) ++ [32, 97, 41, 120] : List Int).getD 0 (-1) = (a.toNat : Int) := rfl
      have e : asI (nmB g ++ ((a :: u) ++ [32, 97, 41, 120])) = nmI g ++ 40 :: ([] ++ (asI (a :: u) ++ [32, 97, 41, 120])) := by
        rw [nm_asI, asI_append]; rfl
      have hb : urlT false false (asI (a :: u) ++ [32, 97, 41, 120]) = (true, asI (a :: u) ++ [97], (a :: u).length + 3) := by
        rw [urlT_word _ hi, show urlT false false [32, 97, 41, 120] = (true, [97], 3) by decide +kernel, asI_len]
      have hk := nm_url g [] (asI (a :: u) ++ [32, 97, 41, 120]) (by simp) (by rw [hg]; exact isBl_ur _ ⟨h1, h2, h3, h4, h5⟩) (by rw [hg]; exact h3) (by rw [hg]; exact h4)
      rw [e, hk, hb, if_pos rfl]
      simp only [List.length_nil, Nat.add_zero]
      rw [← e, show asI (nmB g ++ ((a :: u) ++ [32, 97, 41, 120])) = asI (nmB g ++ ((a :: u) ++ [32, 97, 41])) ++ [120] by rw [show [(120 : Int)] = asI [120] from rfl, ← asI_append]; congr 1; simp]
      rw [List.take_left' (by rw [asI_len]; simp only [List.length_append, hn, List.length_cons, List.length_nil]; try omega)]
      rw [encZs_asI _ (fun x hx => (hpl x (by
        simp only [List.mem_append, List.mem_cons, List.mem_nil_iff, or_false] at hx ⊢
        rcases hx with h | h | h | h | h
        · exact .inl h
        · exact .inr (.inl h)
        · exact .inr (.inr (.inl h))
        · exact .inr (.inr (.inr (.inl h)))
        · exact .inr (.inr (.inr (.inr (.inl h)))))).1)]
      simp only [Prod.mk.injEq, true_and]
      omega
  obtain ⟨R, hR, hm⟩ := tks_first _ hpl (by rw [List.length_append, hn]; omega) _ _ ht
  have hd : (nmB g ++ (s ++ [32, 97, 41, 120])).drop (4 + s.length + 3) = [120] := by
    rw [show nmB g ++ (s ++ [32, 97, 41, 120]) = (nmB g ++ (s ++ [32, 97, 41])) ++ [120] by simp]
    refine List.drop_left' ?_
    simp only [List.length_append, List.length_cons, List.length_nil, hn]
    omega
  rw [hd] at hm
  obtain ⟨z, hz⟩ := tks_x R hm
  exact ⟨z, by rw [hR, hz]⟩
end Go.Proofs.YtbmfoedglhfcaaaGreatDoor.M

/- Plain numbers and lists: a text between marks is read as it was written. Nothing of the program is imported. -/
namespace Go.Proofs.YtbmfoedglhfcaaaGreatDoor.M
open Go.Lib
set_option linter.unusedVariables false
set_option linter.unusedSimpArgs false

/-- The marks. -/
def Mk (q : Int) : Prop := q = 34 ∨ q = 39
theorem jn_not (n : Int) (h : jn n = false) : isX n = false ∧ isBl n = false ∧ n ≠ 12 ∧ n ≠ 13 := by
  unfold jn at h
  simp only [Bool.or_eq_false_iff, decide_eq_false_iff_not] at h
  exact ⟨h.1.1.1, h.1.1.2, h.1.2, h.2⟩
theorem hexd_ten (r : Int) (h : r = 10 ∨ r = 12 ∨ r = 13) : ∃ a, hexd r = [a] ∧ isX a = true ∧ a ≠ 10 ∧ hexVal [a] = r ∧ okX r = r := by
  rcases h with rfl | rfl | rfl
  · exact ⟨97, by decide, by decide, by decide, by decide, by decide⟩
  · exact ⟨99, by decide, by decide, by decide, by decide, by decide⟩
  · exact ⟨100, by decide, by decide, by decide, by decide, by decide⟩
/-- An escape of a line's end, with a blank behind it, or with what is neither a digit nor a blank. -/
theorem escV_ten (r : Int) (h : r = 10 ∨ r = 12 ∨ r = 13) (u : List Int) : escV (hexd r ++ 32 :: u) = (r, 2) := by
  obtain ⟨a, e, h1, h2, h3, h4⟩ := hexd_ten r h
  rw [e]
  simp only [List.singleton_append, escV, h1, if_true, hexRun_go 5 _ _ h1, hexRun_stop 5 32 u (by decide), h3, h4]
  simp [isBl]
theorem escV_ten2 (r : Int) (h : r = 10 ∨ r = 12 ∨ r = 13) (x : Int) (u : List Int) (hx : isX x = false) : escV (hexd r ++ x :: u) = (r, 1 + if isBl x then 1 else 0) := by
  obtain ⟨a, e, h1, h2, h3, h4⟩ := hexd_ten r h
  rw [e]
  simp only [List.singleton_append, escV, h1, if_true, hexRun_go 5 _ _ h1, hexRun_stop 5 x u hx, h3, h4]
  simp
/-- What a text goes on with. -/
theorem qB_head (q : Int) (hq : Mk q) (l : List Int) (e : Int) (he : Mk e ∨ e = 10) (t : List Int) : ∃ x u, qB q l ++ e :: t = x :: u ∧ (jn (l.getD 0 0) = false → isX x = false ∧ ((l ≠ [] ∨ Mk e) → isBl x = false) ∧ (l = [] → x = e)) := by
  cases l with
  | nil =>
    refine ⟨e, t, rfl, fun _ => ⟨?_, ?_, fun _ => rfl⟩⟩
    · rcases he with (h | h) | h <;> (rw [h]; decide)
    · rintro (h | h | h)
      · exact absurd rfl h
      · rw [h]; decide
      · rw [h]; decide
  | cons r l =>
    have e1 : qB q (r :: l) = qt q r (l.getD 0 0) ++ qB q l := rfl
    rw [e1]
    unfold qt
    by_cases h1 : r = q ∨ r = 92
    · rw [if_pos h1]
      exact ⟨92, _, rfl, fun _ => ⟨by decide, fun _ => by decide, fun h => absurd h (by simp)⟩⟩
    · rw [if_neg h1]
      by_cases h2 : r = 10 ∨ r = 12 ∨ r = 13
      · rw [if_pos h2]
        refine ⟨92, _, rfl, fun _ => ⟨by decide, fun _ => by decide, fun h => absurd h (by simp)⟩⟩
      · rw [if_neg h2]
        refine ⟨r, _, rfl, fun h => ?_⟩
        obtain ⟨a, b, _⟩ := jn_not r h
        exact ⟨a, fun _ => b, fun h => absurd h (by simp)⟩
theorem qt_len1 (q r n : Int) : 1 ≤ (qt q r n).length := by
  unfold qt
  split
  · simp
  · split <;> simp
/-- A text's inner part is read as it was written, whatever ends it. -/
theorem strT_qB (q : Int) (hq : Mk q) (l : List Int) (e : Int) (t : List Int) (he : Mk e ∨ (e = 10 ∧ ∀ r, l.getLast? = some r → ¬ (r = 10 ∨ r = 12 ∨ r = 13))) :
    strT q (qB q l ++ e :: t) = ((strT q (e :: t)).1, l ++ (strT q (e :: t)).2.1, (qB q l).length + (strT q (e :: t)).2.2) := by
  have hq92 : q ≠ 92 := by rcases hq with h | h <;> omega
  have hq10 : q ≠ 10 := by rcases hq with h | h <;> omega
  induction l with
  | nil => simp [qB]
  | cons r l ih =>
    have he2 : Mk e ∨ (e = 10 ∧ ∀ r, l.getLast? = some r → ¬ (r = 10 ∨ r = 12 ∨ r = 13)) := by
      rcases he with h | ⟨h, h2⟩
      · exact .inl h
      · refine .inr ⟨h, fun r' hr' => h2 r' ?_⟩
        cases l with
        | nil => simp at hr'
        | cons a l => rw [List.getLast?_cons_cons]; exact hr'
    have IH := ih he2
    have e1 : qB q (r :: l) = qt q r (l.getD 0 0) ++ qB q l := rfl
    obtain ⟨x, u, hxu, hx⟩ := qB_head q hq l e (he.elim .inl fun h => .inr h.1) t
    rw [e1, List.append_assoc]
    have hlq := qt_len1 q r (l.getD 0 0)
    by_cases h1 : r = q ∨ r = 92
    · have eq : qt q r (l.getD 0 0) = [92, r] := by unfold qt; rw [if_pos h1]
      have hX : isX r = false := by rcases h1 with rfl | rfl; rcases hq with rfl | rfl <;> decide; decide
      have hr10 : r ≠ 10 := by rcases h1 with rfl | rfl; exact hq10; decide
      rw [eq]
      show strT q (92 :: r :: (qB q l ++ e :: t)) = _
      rw [strT_esc q _ hq92 (by simp) (by simpa using hr10)]
      have hv : escV (r :: (qB q l ++ e :: t)) = (r, 1) := by simp [escV, hX]
      rw [hv]
      simp only [List.drop_succ_cons, List.drop_zero]
      rw [IH]
      simp; omega
    · by_cases h2 : r = 10 ∨ r = 12 ∨ r = 13
      · have eq : qt q r (l.getD 0 0) = 92 :: hexd r ++ (if jn (l.getD 0 0) then [32] else []) := by unfold qt; rw [if_neg h1, if_pos h2]
        obtain ⟨a, ea, hxa, ha10, _⟩ := hexd_ten r h2
        rw [eq]
        by_cases hj : jn (l.getD 0 0) = true
        · rw [if_pos hj]
          have e3 : 92 :: hexd r ++ [32] ++ (qB q l ++ e :: t) = 92 :: (hexd r ++ 32 :: (qB q l ++ e :: t)) := by simp
          rw [e3, strT_esc q _ hq92 (by rw [ea]; simp) (by rw [ea]; simpa using ha10), escV_ten r h2]
          have hd : (hexd r ++ 32 :: (qB q l ++ e :: t)).drop 2 = qB q l ++ e :: t := by rw [ea]; rfl
          simp only [hd]
          rw [IH]
          simp [ea]; omega
        · have hj' : jn (l.getD 0 0) = false := by simpa using hj
          rw [if_neg hj]
          obtain ⟨hx1, hx2, hx3⟩ := hx hj'
          have hbl : isBl x = false := by
            apply hx2
            by_cases hl : l = []
            · subst hl
              rcases he with h | ⟨h, h3⟩
              · exact .inr h
              · exact absurd h2 (h3 r rfl)
            · exact .inl hl
          have e3 : 92 :: hexd r ++ [] ++ (qB q l ++ e :: t) = 92 :: (hexd r ++ x :: u) := by rw [hxu]; simp
          rw [e3, strT_esc q _ hq92 (by rw [ea]; simp) (by rw [ea]; simpa using ha10), escV_ten2 r h2 x u hx1, hbl]
          have hd : (hexd r ++ x :: u).drop 1 = qB q l ++ e :: t := by rw [ea, hxu]; rfl
          simp only [Bool.false_eq_true, if_false, Nat.add_zero, hd]
          rw [IH]
          simp [ea]; omega
      · have eq : qt q r (l.getD 0 0) = [r] := by unfold qt; rw [if_neg h1, if_neg h2]
        rw [eq]
        show strT q (r :: (qB q l ++ e :: t)) = _
        rw [strT_one q r _ (fun h => h1 (.inl h)) (fun h => h2 (.inl h)) (fun h => h1 (.inr h)), IH]
        simp; omega
theorem qt_okr (q : Int) (hq : Mk q) (r n : Int) (h : okP r) : ∀ c ∈ qt q r n, Okr c := by
  obtain ⟨h1, h2⟩ := h
  intro c hc
  unfold qt at hc
  split at hc
  · rename_i hh
    simp only [List.mem_cons, List.mem_nil_iff, or_false] at hc
    rcases hc with rfl | rfl
    · exact ⟨by decide, by decide, by decide, by decide⟩
    · rcases hh with rfl | rfl
      · rcases hq with rfl | rfl <;> exact ⟨by decide, by decide, by decide, by decide⟩
      · exact ⟨by decide, by decide, by decide, by decide⟩
  · split at hc
    · rename_i hh
      obtain ⟨a, ea, hxa, ha10, _⟩ := hexd_ten r hh
      rw [ea] at hc
      have ha := (isX_iff a).1 hxa
      have hao : Okr a := ⟨by rw [isCP_iff]; omega, by omega, by omega, by omega⟩
      simp only [List.cons_append, List.nil_append, List.mem_cons] at hc
      rcases hc with rfl | rfl | hc
      · exact ⟨by decide, by decide, by decide, by decide⟩
      · exact hao
      · split at hc
        · rw [List.mem_singleton.1 hc]; exact ⟨by decide, by decide, by decide, by decide⟩
        · simp at hc
    · rename_i hh
      rw [List.mem_singleton.1 hc]
      exact ⟨h1, by omega, by omega, by omega⟩
theorem qB_okr (q : Int) (hq : Mk q) (l : List Int) (h : ∀ r ∈ l, okP r) : ∀ c ∈ qB q l, Okr c := by
  induction l with
  | nil => simp [qB]
  | cons r l ih =>
    intro c hc
    have e1 : qB q (r :: l) = qt q r (l.getD 0 0) ++ qB q l := rfl
    rw [e1] at hc
    rcases List.mem_append.1 hc with hc | hc
    · exact qt_okr q hq r _ (h r (by simp)) c hc
    · exact ih (fun r hr => h r (by simp [hr])) c hc
theorem mk_okr (q : Int) (hq : Mk q) : Okr q := by rcases hq with rfl | rfl <;> exact ⟨by decide, by decide, by decide, by decide⟩
end Go.Proofs.YtbmfoedglhfcaaaGreatDoor.M

/- Plain numbers and lists: a text between marks ahead of any bytes. Nothing of the program is imported. -/
namespace Go.Proofs.YtbmfoedglhfcaaaGreatDoor.M
open Go.Lib
set_option linter.unusedVariables false
set_option linter.unusedSimpArgs false

theorem encZs_encR (c : List Int) : encR (c.map fun r => (r, (0 : Int))) = encZs c := by unfold encR encZs; rw [List.flatMap_map]
/-- Code points that are written, ahead of any bytes. -/
theorem rn_enc_join (c : List Int) (hc : ∀ r ∈ c, Okr r) (b : List UInt8) : rn (encZs c ++ b) 0 = rn (encZs c) 0 ++ (rn b 0).map (sh (encZs c).length) := by
  have h1 : ∀ r ∈ c.map (fun r => (r, (0 : Int))), Okr r.1 := by
    intro r hr
    simp only [List.mem_map] at hr
    obtain ⟨x, hx, rfl⟩ := hr
    exact hc x hx
  have hv := encR_valid _ h1
  have hcl := encR_clean _ h1
  rw [encZs_encR] at hv hcl
  have := rn_join (encZs c) b (encZs c).length 0 (by omega) (by omega) (by rw [List.drop_zero, hv]) (by
    intro h0
    have e : (encZs c).getD ((encZs c).length - 1) 0 = (encZs c)[(encZs c).length - 1] := by simp [List.getD, show (encZs c).length - 1 < (encZs c).length by omega]
    rw [e]
    exact (hcl _ (List.getElem_mem _)).2.2)
  simpa using this
theorem rn_enc_fst (c : List Int) (hc : ∀ r ∈ c, Okr r) (b : List UInt8) : ((rn (encZs c ++ b) 0).map Prod.fst) = c ++ (rn b 0).map Prod.fst := by
  rw [rn_enc_join c hc b, List.map_append, rn_encZs c hc, List.map_map]
  congr 1
/-- The first token, and what is left. -/
theorem tks_head (X : List UInt8) (h0 : 0 < X.length) (t : CT) (n : Nat) (ht : tkC ((rn X 0).map Prod.fst) = (t, n)) : tksC (rn X 0) = (t, 0) :: tksC ((rn X 0).drop n) := by
  obtain ⟨L, hL⟩ : ∃ L, rn X 0 = L := ⟨_, rfl⟩
  have e2 := rn_in X 0 h0
  rw [hL] at e2 ht
  have hLl : 0 < L.length := by rw [e2]; simp
  have h0' : (L[0]'hLl).2 = 0 := by
    have hg : ∀ (T : List (Int × Int)) x T' (hT : T = x :: T') (h0 : 0 < T.length), T[0] = x := by rintro T x T' rfl h0; rfl
    rw [hg L _ _ e2 hLl]; rfl
  have hi := lexC_in L 0 hLl
  rw [List.drop_zero, List.drop_zero, h0', Nat.zero_add, ht] at hi
  rw [hL, hi]
theorem mk_way (q : Int) (hq : Mk q) (c : List Int) : wayT (q :: c) = 3 := by
  unfold wayT
  rcases hq with rfl | rfl
  · rw [if_neg (by simp [stC, List.isPrefixOf]), if_neg (by simp [isBl]), if_pos (by simp)]
  · rw [if_neg (by simp [stC, List.isPrefixOf]), if_neg (by simp [isBl]), if_pos (by simp)]
theorem quoted_tks (q : Int) (hq : Mk q) (ps : List Int) (hp : ∀ r ∈ ps, okP r) (b : List UInt8) :
    ∃ R, tksC (rn (encZs (qF q ps) ++ b) 0) = ({ kind := 5, text := encZs ps }, 0) :: R := by
  have hok : ∀ r ∈ qF q ps, Okr r := by
    intro r hr
    simp only [qF, List.mem_append, List.mem_cons, List.mem_nil_iff, or_false] at hr
    rcases hr with (rfl | hr) | rfl
    · exact mk_okr _ hq
    · exact qB_okr q hq ps hp r hr
    · exact mk_okr _ hq
  have hf := rn_enc_fst (qF q ps) hok b
  have hc : qF q ps ++ (rn b 0).map Prod.fst = q :: (qB q ps ++ q :: (rn b 0).map Prod.fst) := by simp [qF]
  have hs := strT_qB q hq ps q ((rn b 0).map Prod.fst) (.inl hq)
  rw [strT_end] at hs
  simp only [List.append_nil] at hs
  have ht : tkC ((rn (encZs (qF q ps) ++ b) 0).map Prod.fst) = ({ kind := 5, text := encZs ps }, 1 + ((qB q ps).length + 1)) := by
    rw [hf, hc]
    unfold tkC
    rw [mk_way q hq]
    show txtT _ = _
    unfold txtT
    simp only [List.getD_cons_zero, List.drop_succ_cons, List.drop_zero]
    rw [hs]
    rfl
  refine ⟨_, tks_head _ ?_ _ _ ht⟩
  have h1 := (encZs_len (qF q ps)).1
  rw [List.length_append]
  have : 0 < (qF q ps).length := by simp [qF]
  omega
theorem broken_tks (q : Int) (hq : Mk q) (ps : List Int) (hp : ∀ r ∈ ps, okP r) (hl : ∀ r, ps.getLast? = some r → ¬ (r = 10 ∨ r = 12 ∨ r = 13)) (b : List UInt8) :
    ∃ x z R, tksC (rn (encZs (q :: qB q ps) ++ (10 :: b)) 0) = ({ kind := 6, text := encZs (q :: qB q ps) }, 0) :: (x, z) :: R ∧ x.kind = 13 := by
  have hok : ∀ r ∈ (q :: qB q ps) ++ [10], Okr r := by
    intro r hr
    simp only [List.mem_append, List.mem_cons, List.mem_nil_iff, or_false] at hr
    rcases hr with (rfl | hr) | rfl
    · exact mk_okr _ hq
    · exact qB_okr q hq ps hp r hr
    · exact ⟨by decide, by decide, by decide, by decide⟩
  have hen : encZs (q :: qB q ps) ++ (10 :: b) = encZs ((q :: qB q ps) ++ [10]) ++ b := by
    rw [encZs_append, show encZs [10] = [10] by decide +kernel]; simp
  rw [hen]
  have hf := rn_enc_fst ((q :: qB q ps) ++ [10]) hok b
  have hc : (q :: qB q ps) ++ [10] ++ (rn b 0).map Prod.fst = q :: (qB q ps ++ 10 :: (rn b 0).map Prod.fst) := by simp
  have hs := strT_qB q hq ps 10 ((rn b 0).map Prod.fst) (.inr ⟨rfl, hl⟩)
  have hq10 : q ≠ 10 := by rcases hq with h | h <;> omega
  rw [strT_bad q _ hq10] at hs
  simp only [List.append_nil, Nat.add_zero] at hs
  have htk : (q :: (qB q ps ++ 10 :: (rn b 0).map Prod.fst)).take (1 + (qB q ps).length) = q :: qB q ps := by
    rw [Nat.add_comm, List.take_succ_cons, List.take_left' rfl]
  have ht : tkC ((rn (encZs ((q :: qB q ps) ++ [10]) ++ b) 0).map Prod.fst) = ({ kind := 6, text := encZs (q :: qB q ps) }, 1 + (qB q ps).length) := by
    rw [hf, hc]
    unfold tkC
    rw [mk_way q hq]
    show txtT _ = _
    unfold txtT
    simp only [List.getD_cons_zero, List.drop_succ_cons, List.drop_zero]
    rw [hs]
    simp only [if_true]
    rw [htk]
  have hX : 0 < (encZs ((q :: qB q ps) ++ [10]) ++ b).length := by
    have h1 := (encZs_len ((q :: qB q ps) ++ [10])).1
    have h2 : 0 < ((q :: qB q ps) ++ [10]).length := by simp
    rw [List.length_append]
    omega
  rw [tks_head _ hX _ _ ht]
  obtain ⟨L, hL⟩ : ∃ L, rn (encZs ((q :: qB q ps) ++ [10]) ++ b) 0 = L := ⟨_, rfl⟩
  rw [hL] at hf ⊢
  have hLl : 1 + (qB q ps).length < L.length := by
    have := congrArg List.length hf
    rw [List.length_map] at this
    rw [this]; simp; omega
  have hi := lexC_in L (1 + (qB q ps).length) hLl
  have hd : (L.map Prod.fst).drop (1 + (qB q ps).length) = 10 :: (rn b 0).map Prod.fst := by
    rw [hf, hc, Nat.add_comm, List.drop_succ_cons, List.drop_left' rfl]
  rw [hd] at hi
  rw [hi]
  refine ⟨_, _, _, rfl, ?_⟩
  unfold tkC
  have hw : wayT (10 :: (rn b 0).map Prod.fst) = 2 := by
    unfold wayT
    rw [if_neg (by simp [stC, List.isPrefixOf]), if_pos (by simp [isBl])]
  rw [hw]
  rfl
end Go.Proofs.YtbmfoedglhfcaaaGreatDoor.M

/- Plain numbers and lists: a number that is written, and what may stand behind it, is one token of CSS. Nothing of the program is imported. -/
namespace Go.Proofs.YtbmfoedglhfcaaaGreatDoor.M
open Go.Lib
set_option linter.unusedVariables false
set_option linter.unusedSimpArgs false

/-- Of what a number that is written is made, behind its sign. -/
def NF (t : List UInt8) : Prop := ∃ W P X : List UInt8, t = W ++ (P ++ X) ∧ (∀ c ∈ W, dig c = true) ∧ W ≠ [] ∧ (P = [] ∨ ∃ F, P = 46 :: F ∧ F ≠ [] ∧ ∀ c ∈ F, dig c = true) ∧ (X = [] ∨ ∃ z, X = 101 :: txt z)
theorem nf_plain (ng : Bool) (D E : List UInt8) : ∀ t ∈ plainN ng D E, ∃ u, t = sgl ng ++ u ∧ NF u := by
  intro t ht
  unfold plainN at ht
  split at ht
  case isFalse => simp at ht
  rename_i hr
  rcases right_ex D E hr with ⟨rfl, rfl⟩ | ⟨m, X, hm, rfl, rfl⟩
  · rw [if_pos rfl] at ht
    simp only [List.mem_singleton] at ht
    subst ht
    exact ⟨_, rfl, [48], [], [], rfl, by decide, by simp, .inl rfl, .inl rfl⟩
  · have h0 : m ≠ 0 := by intro h0; subst h0; exact hm rfl
    have hne := canon_ne m h0
    have hD := canon_dig m
    rw [if_neg hne] at ht
    obtain ⟨D, eD⟩ : ∃ D, canon m = D := ⟨_, rfl⟩
    rw [eD] at ht hne hD
    have hl : 0 < D.length := List.length_pos_iff.2 hne
    rcases List.mem_append.1 ht with ht | ht
    · unfold plain1 at ht
      split at ht
      case isFalse => simp at ht
      rename_i hc
      simp only [List.mem_singleton] at ht
      subst ht
      have hu := hc.2
      refine ⟨_, rfl, ?_⟩
      obtain ⟨x, hx⟩ : ∃ x, (intD (txt X)).1 = x := ⟨_, rfl⟩
      rw [hx] at hu ⊢
      unfold unsc at hu ⊢
      split
      · exact ⟨_, [], [], by simp; rfl, fun c hc => (List.mem_append.1 hc).elim (hD c) (dig_rep _ c), by simp [hne], .inl rfl, .inl rfl⟩
      · rename_i h1
        split
        · rename_i h2
          obtain ⟨n, hn⟩ : ∃ n : Nat, (n : Int) = D.length + x := ⟨((D.length : Int) + x).toNat, by omega⟩
          rw [show ((D.length : Int) + x).toNat = n by omega]
          exact ⟨D.take n, 46 :: D.drop n, [], by simp, fun c hc => hD c (List.mem_of_mem_take hc), by intro e; rw [List.take_eq_nil_iff] at e; rcases e with e | e; exact absurd e (by omega); exact hne e, .inr ⟨_, rfl, by intro e; have := congrArg List.length e; simp at this; omega, fun c hc => hD c (List.mem_of_mem_drop hc)⟩, .inl rfl⟩
        · rename_i h2
          split
          · rename_i h3
            exact ⟨[48], _, [], by simp; rfl, by decide, by simp, .inr ⟨_, rfl, by simp [hne], fun c hc => (List.mem_append.1 hc).elim (dig_rep _ c) (hD c)⟩, .inl rfl⟩
          · rename_i h3
            rw [if_neg h1, if_neg h2, if_neg h3] at hu
            exact absurd rfl hu
    · rcases List.mem_append.1 ht with ht | ht
      · simp only [List.mem_singleton] at ht
        subst ht
        exact ⟨_, rfl, D, [], _, rfl, hD, hne, .inl rfl, .inr ⟨X, rfl⟩⟩
      · unfold plain3 at ht
        split at ht
        case isFalse => simp at ht
        rename_i hc
        simp only [List.mem_singleton] at ht
        subst ht
        rw [upE_txt]
        exact ⟨_, rfl, D.take 1, 46 :: D.drop 1, _, rfl, fun c hc => hD c (List.mem_of_mem_take hc), by intro e; rw [List.take_eq_nil_iff] at e; rcases e with e | e; exact absurd e (by omega); exact hne e, .inr ⟨_, rfl, by intro e; have := congrArg List.length e; simp at this; omega, fun c hc => hD c (List.mem_of_mem_drop hc)⟩, .inr ⟨_, rfl⟩⟩

/-- No digit, point or e. -/
def stopR (r : Int) : Prop := nDg r = false ∧ r ≠ 46 ∧ r ≠ 101 ∧ r ≠ 69
theorem nDg_dig (c : UInt8) (h : dig c = true) : nDg (c.toNat : Int) = true := by
  rw [nDg_iff]
  unfold dig at h
  simp at h
  have h1 := h.1
  have h2 := h.2
  omega
theorem digN_app (W : List UInt8) (R : List Int) (hW : ∀ c ∈ W, dig c = true) (hR : nDg (R.getD 0 (-1)) = false) : digN (asI W ++ R) = W.length := by
  induction W with
  | nil =>
    cases R with
    | nil => rfl
    | cons a t => show digN (a :: t) = 0; rw [digN_cons]; simp at hR; simp [hR]
  | cons a t ih =>
    show digN ((a.toNat : Int) :: (asI t ++ R)) = _
    rw [digN_cons, if_pos (nDg_dig a (hW a (by simp))), ih (fun c hc => hW c (by simp [hc]))]
    simp; omega
theorem drop_asI (A : List UInt8) (R : List Int) (n : Nat) (h : A.length = n) : (asI A ++ R).drop n = R := List.drop_left' (by rw [asI_len]; exact h)
theorem head_dig (W : List UInt8) (R : List Int) (hW : ∀ c ∈ W, dig c = true) (h : W ≠ []) : nDg ((asI W ++ R).getD 0 (-1)) = true := by
  cases W with
  | nil => exact absurd rfl h
  | cons a t => show nDg (a.toNat : Int) = true; exact nDg_dig a (hW a (by simp))
theorem sgN_no (R : List Int) (h : nDg (R.getD 0 (-1)) = true) : sgN R = 0 := by
  unfold sgN
  rw [nDg_iff] at h
  rw [if_neg (by omega)]
theorem stop_neg : stopR (-1) := ⟨rfl, by decide, by decide, by decide⟩
theorem txt_parts (z : Int) : ∃ S V : List UInt8, txt z = S ++ V ∧ (S = [] ∨ S = [45]) ∧ V ≠ [] ∧ ∀ c ∈ V, dig c = true := by
  rcases txt_cases z with ⟨_, e⟩ | ⟨_, e⟩
  · exact ⟨[], _, by rw [e]; rfl, .inl rfl, decS_ne _, decS_dig _⟩
  · exact ⟨[45], _, by rw [e]; rfl, .inr rfl, decS_ne _, decS_dig _⟩
/-- How long a number is. -/
theorem nf_end (S u : List UInt8) (hS : S = [] ∨ S = [45] ∨ S = [43]) (hu : NF u) (R : List Int) (hR : stopR (R.getD 0 (-1))) :
    numB (asI S ++ (asI u ++ R)) = true ∧ numE (asI S ++ (asI u ++ R)) = S.length + u.length := by
  obtain ⟨W, P, X, rfl, hW, hW0, hP, hX⟩ := hu
  obtain ⟨r1, r2, r3, r4⟩ := hR
  rw [asI_append, asI_append]
  obtain ⟨Q, hQ⟩ : ∃ Q, asI X ++ R = Q := ⟨_, rfl⟩
  have hc : asI S ++ (asI W ++ (asI P ++ asI X) ++ R) = asI S ++ (asI W ++ (asI P ++ Q)) := by rw [← hQ]; simp
  rw [hc]
  have q1 : nDg (Q.getD 0 (-1)) = false ∧ Q.getD 0 (-1) ≠ 46 := by
    rcases hX with rfl | ⟨z, rfl⟩
    · rw [← hQ]; exact ⟨r1, r2⟩
    · rw [← hQ]; exact ⟨rfl, by show (101 : Int) ≠ 46; decide⟩
  obtain ⟨c, hcc⟩ : ∃ c, asI S ++ (asI W ++ (asI P ++ Q)) = c := ⟨_, rfl⟩
  rw [hcc]
  have d1 : c.drop S.length = asI W ++ (asI P ++ Q) := by rw [← hcc]; exact drop_asI S _ _ rfl
  have hsg : sgN c = S.length := by
    rcases hS with rfl | rfl | rfl
    · rw [← hcc]; exact sgN_no _ (head_dig W _ hW hW0)
    · rw [← hcc]; rfl
    · rw [← hcc]; rfl
  have hd := head_dig W (asI P ++ Q) hW hW0
  have hB : numB c = true := by
    unfold numB
    rw [hsg]
    have : c.getD S.length (-1) = (c.drop S.length).getD 0 (-1) := by rw [drop_getD, Nat.add_zero]
    rw [this, d1, hd]; rfl
  have hp0 : nDg ((asI P ++ Q).getD 0 (-1)) = false := by
    rcases hP with rfl | ⟨F, rfl, _, _⟩
    · exact q1.1
    · rfl
  have h1 : num1 c = S.length + W.length := by
    unfold num1
    rw [hsg, d1, digN_app W _ hW hp0]
  have d2 : c.drop (S.length + W.length) = asI P ++ Q := by rw [← List.drop_drop, d1]; exact drop_asI W _ _ rfl
  have h2 : num2 c = S.length + W.length + P.length := by
    unfold num2
    rw [h1, d2]
    rcases hP with rfl | ⟨F, rfl, hF, hF2⟩
    · rw [if_neg]
      · simp
      · intro hh
        unfold fracB at hh
        simp only [Bool.and_eq_true, decide_eq_true_eq] at hh
        exact q1.2 hh.1
    · have hf : fracB (asI (46 :: F) ++ Q) = true := by
        unfold fracB
        have := head_dig F Q hF2 hF
        rw [Bool.and_eq_true]
        refine ⟨rfl, ?_⟩
        have e : (asI (46 :: F) ++ Q).getD 1 (-1) = (asI F ++ Q).getD 0 (-1) := by show ((46 : Int) :: (asI F ++ Q)).getD 1 (-1) = _; simp [List.getD]
        rw [e]; exact this
      rw [if_pos hf]
      have d3 : c.drop (S.length + W.length + 1) = asI F ++ Q := by rw [← List.drop_drop, d2]; rfl
      rw [d3, digN_app F Q hF2 q1.1]
      simp; omega
  have d3 : c.drop (S.length + W.length + P.length) = Q := by rw [← List.drop_drop, d2]; exact drop_asI P _ _ rfl
  refine ⟨hB, ?_⟩
  have g : c.getD (num2 c) (-1) = Q.getD 0 (-1) := by rw [h2, ← d3, drop_getD, Nat.add_zero]
  unfold numE
  rw [g]
  rcases hX with rfl | ⟨z, rfl⟩
  · have : Q = R := by rw [← hQ]; rfl
    rw [this, if_neg (by rintro (h | h); exact r3 h; exact r4 h), h2]
    simp; omega
  · have hQ2 : Q = 101 :: (asI (txt z) ++ R) := by rw [← hQ]; rfl
    rw [if_pos (by rw [hQ2]; exact .inl rfl)]
    obtain ⟨Z, V, hz, hZ, hV, hV2⟩ := txt_parts z
    have d4 : c.drop (num2 c + 1) = asI Z ++ (asI V ++ R) := by
      rw [h2, ← List.drop_drop, d3, hQ2, hz, asI_append, List.append_assoc]; rfl
    have hv := head_dig V R hV2 hV
    have hz2 : sgN (asI Z ++ (asI V ++ R)) = Z.length := by
      rcases hZ with rfl | rfl
      · exact sgN_no _ hv
      · rfl
    have d5 : c.drop (num2 c + 1 + Z.length) = asI V ++ R := by rw [← List.drop_drop, d4]; exact drop_asI Z _ _ rfl
    rw [d4, hz2, d5, digN_app V R hV2 r1]
    have g2 : c.getD (num2 c + 1 + Z.length) (-1) = (asI V ++ R).getD 0 (-1) := by rw [← d5, drop_getD]; rfl
    rw [g2, if_pos hv, h2, hz]
    simp; omega
theorem dig_pl (c : UInt8) (h : dig c = true) : Pl c ∧ c ≠ 69 := by
  have := nDg_dig c h
  rw [nDg_iff] at this
  exact ⟨⟨by omega, fun e => by subst e; exact absurd this (by decide), fun e => by subst e; exact absurd this (by decide), fun e => by subst e; exact absurd this (by decide)⟩, fun e => by subst e; exact absurd this (by decide)⟩
theorem nf_pl (u : List UInt8) (h : NF u) : ∀ c ∈ u, Pl c ∧ c ≠ 69 := by
  obtain ⟨W, P, X, rfl, hW, hW0, hP, hX⟩ := h
  intro c hc
  rcases List.mem_append.1 hc with hc | hc
  · exact dig_pl c (hW c hc)
  · rcases List.mem_append.1 hc with hc | hc
    · rcases hP with rfl | ⟨F, rfl, _, hF⟩
      · simp at hc
      · rcases List.mem_cons.1 hc with rfl | hc
        · exact ⟨⟨by decide, by decide, by decide, by decide⟩, by decide⟩
        · exact dig_pl c (hF c hc)
    · rcases hX with rfl | ⟨z, rfl⟩
      · simp at hc
      · rcases List.mem_cons.1 hc with rfl | hc
        · exact ⟨⟨by decide, by decide, by decide, by decide⟩, by decide⟩
        · obtain ⟨Z, V, hz, hZ, hV, hV2⟩ := txt_parts z
          rw [hz] at hc
          rcases List.mem_append.1 hc with hc | hc
          · rcases hZ with rfl | rfl
            · simp at hc
            · simp at hc; subst hc; exact ⟨⟨by decide, by decide, by decide, by decide⟩, by decide⟩
          · exact dig_pl c (hV2 c hc)
theorem nf_head (u : List UInt8) (h : NF u) : ∃ a t, u = a :: t ∧ dig a = true := by
  obtain ⟨W, P, X, rfl, hW, hW0, hP, hX⟩ := h
  cases W with
  | nil => exact absurd rfl hW0
  | cons a t => exact ⟨a, _, rfl, hW a (by simp)⟩
/-- Whole as the law has it. -/
def whl (l : List UInt8) : Bool := l.all fun c => !(c == 46 || c == 101)
theorem whole_whl (l : List UInt8) (h : ∀ c ∈ l, c ≠ 69) : wholeL l = whl l := by
  unfold wholeL whl
  rw [Bool.eq_iff_iff, List.all_eq_true, List.all_eq_true]
  constructor
  · intro hh c hc
    have := hh c hc
    simp at this ⊢; exact ⟨this.1.1, this.1.2⟩
  · intro hh c hc
    have := hh c hc
    have h2 := h c hc
    simp at this ⊢; exact ⟨this, h2⟩
theorem way_num (c : List Int) (h : numB c = true) (h0 : (48 ≤ c.getD 0 (-1) ∧ c.getD 0 (-1) ≤ 57) ∨ c.getD 0 (-1) = 43 ∨ c.getD 0 (-1) = 45) : wayT c = 5 := by
  unfold wayT
  have a1 : stC [47, 42] c = false := by
    cases hh : stC [47, 42] c with
    | false => rfl
    | true =>
      obtain ⟨t, rfl⟩ := (stC_iff _ _).1 hh
      simp at h0
  have a2 : isBl (c.getD 0 (-1)) = false := by
    cases hh : isBl (c.getD 0 (-1)) with
    | false => rfl
    | true => rw [isBl_iff] at hh; omega
  rw [a1, a2, if_neg (by simp), if_neg (by simp), if_neg (by omega), if_neg (by intro hh; omega), if_pos h]
/-- The token of a number that is written, and what stands behind. -/
theorem num_tk (S u : List UInt8) (hS : S = [] ∨ S = [45] ∨ S = [43]) (hu : NF u) (R : List Int) (hR : stopR (R.getD 0 (-1))) :
    tkC (asI S ++ (asI u ++ R)) = (if begN R then ({ numT0 (S ++ u) with kind := 12, unit := encZs (takeN R).1 }, S.length + u.length + (takeN R).2)
      else if R.getD 0 (-1) = 37 then ({ numT0 (S ++ u) with kind := 11 }, S.length + u.length + 1) else (numT0 (S ++ u), S.length + u.length)) := by
  obtain ⟨hb, he⟩ := nf_end S u hS hu R hR
  obtain ⟨a, t, hat, ha⟩ := nf_head u hu
  have hw := way_num _ hb (by
    have := nDg_dig a ha
    rw [nDg_iff] at this
    rcases hS with rfl | rfl | rfl
    · rw [hat]; left; exact this
    · right; right; rfl
    · right; left; rfl)
  have hp : ∀ x ∈ S ++ u, x.toNat < 128 := by
    intro x hx
    rcases List.mem_append.1 hx with hx | hx
    · rcases hS with rfl | rfl | rfl
      · simp at hx
      · simp at hx; subst hx; decide
      · simp at hx; subst hx; decide
    · exact (nf_pl u hu x hx).1.1
  have e1 : (asI S ++ (asI u ++ R)).drop (S.length + u.length) = R := by rw [← List.append_assoc, ← asI_append]; exact drop_asI _ _ _ (by simp)
  have e2 : (asI S ++ (asI u ++ R)).take (S.length + u.length) = asI (S ++ u) := by rw [← List.append_assoc, ← asI_append]; exact List.take_left' (by rw [asI_len]; simp)
  have e3 : (asI S ++ (asI u ++ R)).getD (S.length + u.length) (-1) = R.getD 0 (-1) := by rw [← e1, drop_getD, Nat.add_zero, e1]
  unfold tkC
  rw [hw]
  show numT _ = _
  unfold numT
  rw [he, e1, e2, e3, encZs_asI _ hp]
theorem rn_head (l : List UInt8) (h : ∀ x ∈ l, Pl x) (h0 : l ≠ []) : ∃ T, tksC (rn l 0) = ((tkC (asI l)).1, 0) :: T ∧ ((tkC (asI l)).2 = l.length → T = []) := by
  have hp := rn_plain l h
  have hl : 0 < l.length := List.length_pos_iff.2 h0
  have e := rn_in l 0 hl
  have hlen : (rn l 0).length = l.length := by
    have := congrArg List.length hp
    rw [List.length_map, asI_len] at this; exact this
  obtain ⟨L, hL⟩ : ∃ L, rn l 0 = L := ⟨_, rfl⟩
  rw [hL] at e hp hlen ⊢
  have hLl : 0 < L.length := by omega
  have h2 := lexC_in L 0 hLl
  have hg : ∀ (T : List (Int × Int)) x T' (hT : T = x :: T') (h0 : 0 < T.length), T[0] = x := by rintro T x T' rfl h0; rfl
  rw [List.drop_zero, List.drop_zero, Nat.zero_add, hg L _ _ e hLl, hp] at h2
  refine ⟨_, h2, fun h3 => ?_⟩
  rw [h3, List.drop_eq_nil_of_le (by omega), lexC_nil]
/-- What stands behind, of the law's seven. -/
def ntail (e : Nat) : List UInt8 := [[], [37], [112, 120], [41], [32, 49], [45, 45, 62], [43, 49]].getD e []
def nkind (e : Nat) : Int := [10, 11, 12, 10, 10, 12, 10].getD e 0
theorem number_tks (ng : Bool) (D E t : List UInt8) (ht : t ∈ plainN ng D E) (e : Nat) (he : e < 7) :
    ∃ x T, tksC (rn (t ++ ntail e) 0) = (x, 0) :: T ∧ x.kind = nkind e ∧ x.num = (ng, D, E) ∧ x.flag = whl t ∧ x.sign = false ∧ x.text = [] := by
  obtain ⟨u, rfl, hu⟩ := nf_plain ng D E t ht
  have hb := plain_back ng D E _ ht
  have hS : sgl ng = [] ∨ sgl ng = [45] ∨ sgl ng = [43] := by cases ng <;> simp [sgl]
  have hsp : ∀ c ∈ sgl ng, Pl c ∧ c ≠ 69 := by
    cases ng
    · simp [sgl]
    · intro c hc; simp [sgl] at hc; subst hc; exact ⟨⟨by decide, by decide, by decide, by decide⟩, by decide⟩
  have hall : ∀ c ∈ sgl ng ++ u, Pl c ∧ c ≠ 69 := fun c hc => (List.mem_append.1 hc).elim (hsp c) (nf_pl u hu c)
  have htl : ∀ e : Fin 7, (∀ c ∈ ntail e.val, c.toNat < 128 ∧ c ≠ 0 ∧ c ≠ 12 ∧ c ≠ 13) ∧ nDg ((asI (ntail e.val)).getD 0 (-1)) = false ∧ (asI (ntail e.val)).getD 0 (-1) ≠ 46 ∧ (asI (ntail e.val)).getD 0 (-1) ≠ 101 ∧ (asI (ntail e.val)).getD 0 (-1) ≠ 69 := by decide +kernel
  obtain ⟨t1, t2⟩ := htl ⟨e, he⟩
  have hR : stopR ((asI (ntail e)).getD 0 (-1)) := t2
  have hk := num_tk (sgl ng) u hS hu (asI (ntail e)) hR
  rw [← asI_append, ← asI_append] at hk
  have hne : sgl ng ++ (u ++ ntail e) ≠ [] := by
    obtain ⟨a, t, hat, _⟩ := nf_head u hu
    rw [hat]; simp
  obtain ⟨T, h1, _⟩ := rn_head (sgl ng ++ (u ++ ntail e)) (by
    intro c hc
    rw [← List.append_assoc] at hc
    rcases List.mem_append.1 hc with hc | hc
    · exact (hall c hc).1
    · exact t1 c hc) hne
  rw [List.append_assoc]
  refine ⟨_, T, h1, ?_⟩
  rw [hk]
  have hn : (numT0 (sgl ng ++ u)).num = (ng, D, E) := by show (readN (sgl ng ++ u)).1 = _; rw [hb]
  have hf : (numT0 (sgl ng ++ u)).flag = whl (sgl ng ++ u) := whole_whl _ (fun c hc => (hall c hc).2)
  have hsg : (numT0 (sgl ng ++ u)).sign = false := by
    show ((sgl ng ++ u).head? == some 43) = false
    obtain ⟨a, t, hat, ha⟩ := nf_head u hu
    cases ng
    · rw [hat]
      show (some a == some (43 : UInt8)) = false
      have : a ≠ 43 := by intro e; subst e; exact absurd ha (by decide)
      simp [this]
    · rfl
  have hkk : ∀ e : Fin 7, (if begN (asI (ntail e.val)) then (12 : Int) else if (asI (ntail e.val)).getD 0 (-1) = 37 then 11 else 10) = nkind e.val := by decide +kernel
  have hkk := hkk ⟨e, he⟩
  simp only at hkk
  split
  · rename_i hbg
    rw [if_pos hbg] at hkk
    exact ⟨hkk, hn, hf, hsg, rfl⟩
  · rename_i hbg
    rw [if_neg hbg] at hkk
    split
    · rename_i h37
      rw [if_pos h37] at hkk
      exact ⟨hkk, hn, hf, hsg, rfl⟩
    · rename_i h37
      rw [if_neg h37] at hkk
      exact ⟨hkk, hn, hf, hsg, rfl⟩
theorem readN_plus (u : List UInt8) (h : NF u) : readN (43 :: u) = readN u := by
  obtain ⟨a, t, hat, ha⟩ := nf_head u h
  have e : csign (43 :: u) = csign u := by
    rw [csign_plus, csign_dig u (by rw [hat]; intro c hc; simp at hc; subst hc; exact .inl ha)]
  unfold readN divW
  rw [e]
theorem plus_tks (D E t : List UInt8) (ht : t ∈ plainN false D E) :
    tksC (rn (43 :: t) 0) = [({ kind := 10, num := (false, D, E), flag := whl t, sign := true }, 0)] := by
  obtain ⟨u, e, hu⟩ := nf_plain false D E t ht
  have hb := plain_back false D E _ ht
  have e' : t = u := by rw [e]; rfl
  subst e'
  have hk := num_tk [43] t (.inr (.inr rfl)) hu [] stop_neg
  rw [List.append_nil, ← asI_append] at hk
  obtain ⟨T, h1, h2⟩ := rn_head ([43] ++ t) (by
    intro c hc
    rcases List.mem_append.1 hc with hc | hc
    · simp at hc; subst hc; exact ⟨by decide, by decide, by decide, by decide⟩
    · exact (nf_pl t hu c hc).1) (by simp)
  rw [if_neg (by decide), if_neg (by decide)] at hk
  have hk2 : tkC (asI ([43] ++ t)) = (numT0 ([43] ++ t), [43].length + t.length) := hk
  have hT : T = [] := h2 (by rw [hk2]; simp; omega)
  subst hT
  rw [show (43 :: t) = [43] ++ t from rfl, h1, hk2]
  have e1 : (readN ([43] ++ t)).1 = (false, D, E) := by rw [show [43] ++ t = 43 :: t from rfl, readN_plus t hu, hb]
  have e2 : wholeL ([43] ++ t) = whl t := by
    rw [show whl t = whl ([43] ++ t) by unfold whl; simp]
    apply whole_whl
    intro c hc
    rcases List.mem_append.1 hc with hc | hc
    · simp at hc; subst hc; decide
    · exact (nf_pl t hu c hc).2
  have e3 : numT0 ([43] ++ t) = { kind := 10, num := (false, D, E), flag := whl t, sign := true } := by
    unfold numT0
    rw [e1, e2]
    rfl
  rw [e3]
end Go.Proofs.YtbmfoedglhfcaaaGreatDoor.M

/- Plain numbers and lists: how a token of CSS is written, and which may be. Nothing of the program is imported. -/
namespace Go.Proofs.YtbmfoedglhfcaaaGreatDoor.M
open Go.Lib
set_option linter.unusedVariables false
set_option linter.unusedSimpArgs false

/-- The signs that stand for themselves. -/
def sigS (k : Int) : List UInt8 := if k = 14 then [60, 33, 45, 45] else if k = 15 then [45, 45, 62] else if k = 16 then [58] else if k = 17 then [59] else if k = 18 then [44] else if k = 19 then [123] else if k = 20 then [125] else if k = 21 then [40] else if k = 22 then [41] else if k = 23 then [91] else if k = 24 then [93] else []
/-- UTF-8 without a byte 0. -/
def cleanS (s : List UInt8) : Bool := (validAll s).2 && !s.contains 0
/-- Is it a kind of numbers? -/
def isNum (k : Int) : Prop := k = 10 ∨ k = 11 ∨ k = 12
instance (k : Int) : Decidable (isNum k) := by unfold isNum; infer_instance
/-- A token with what its kind lists alone. -/
def onlyT (t : CT) : CT :=
  if isNum t.kind then { kind := t.kind, num := t.num, flag := t.flag, sign := t.sign, unit := if t.kind = 12 then t.unit else [] }
  else { kind := t.kind, flag := if t.kind = 4 then t.flag else false, text := if sigS t.kind = [] then t.text else [] }
/-- Has a number's text a point or an e? -/
def hasPE (s : List UInt8) : Bool := s.any fun c => c == 46 || c == 101
/-- Without the nought ahead of a point. -/
def cut0 (s : List UInt8) : List UInt8 := if s.take 2 = [48, 46] then s.drop 1 else s
def less3 (b s : List UInt8) : List UInt8 := if hasPE s = true ∧ (b = [] ∨ s.length < b.length) then s else b
def shortS (D E : List UInt8) : List UInt8 := if D = [] then [46, 48] else ((plainN false D E).map cut0).foldl less3 []
def wholeS (D E : List UInt8) : List UInt8 := if D = [] then [48] else if (intD E).2 = true ∧ 0 ≤ (intD E).1 ∧ (intD E).1 ≤ 20000 then D ++ List.replicate (intD E).1.toNat 48 else []
def sgS (ng sign : Bool) (t : List UInt8) : List UInt8 := if t = [] then [] else if ng then 45 :: t else if sign then 43 :: t else t
/-- How a number is written. -/
def numS (n : NumV) (whole sign : Bool) : List UInt8 := if rightN n.2.1 n.2.2 = true then sgS n.1 sign (if whole then wholeS n.2.1 n.2.2 else shortS n.2.1 n.2.2) else []
/-- Does a unit begin as an exponent might? -/
def e3 (s : List UInt8) : Bool := (decide (s.getD 0 0 = 101) || decide (s.getD 0 0 = 69)) && dig (if s.getD 1 0 = 45 then s.getD 2 0 else s.getD 1 0)
def unitS (s : List UInt8) : List UInt8 := if e3 s then encZs (numN (byte s 0)) ++ encZs (spR (pn (s.drop 1) 0)) else encZs (spF (pn s 0))
def urlB (c : UInt8) : List UInt8 := if c = 34 ∨ c = 39 ∨ c = 40 ∨ c = 41 ∨ c = 92 ∨ c = 32 then [92, c] else if c.toNat < 32 ∨ c = 127 then encZs (numN c.toNat) else [c]
def urlS (s : List UInt8) : List UInt8 := [117, 114, 108, 40] ++ (s.flatMap urlB ++ [41])
def hashS (t : CT) : List UInt8 := 35 :: (if t.flag then encZs (spF (pn t.text 0)) else encZs (spR (pn t.text 0)))
/-- How a token is written. -/
def spellT (t : CT) : List UInt8 :=
  if t.kind = 1 then encZs (spF (pn t.text 0))
  else if t.kind = 2 then encZs (spF (pn t.text 0)) ++ [40]
  else if t.kind = 3 then 64 :: encZs (spF (pn t.text 0))
  else if t.kind = 4 then hashS t
  else if t.kind = 5 then qText (pn t.text 0)
  else if t.kind = 7 then urlS t.text
  else if t.kind = 10 then numS t.num t.flag t.sign
  else if t.kind = 11 then numS t.num t.flag t.sign ++ [37]
  else if t.kind = 12 then numS t.num t.flag t.sign ++ unitS t.unit
  else if t.kind = 6 ∨ t.kind = 8 ∨ t.kind = 9 ∨ t.kind = 13 then t.text
  else if t.kind = 25 then 47 :: 42 :: (t.text ++ [42, 47])
  else sigS t.kind
/-- Does a token end ahead of a line's end alone? -/
def lineT (t : CT) : Bool := decide (t.kind = 6) || (decide (t.kind = 9) && decide (t.text = [92]))
def urlF (t : CT) : Bool := decide (t.kind = 2) && decide (lowL t.text = [117, 114, 108])
/-- What a row of tokens wants behind it. -/
def tailS (l : List CT) : List UInt8 := match l.getLast? with
  | none => []
  | some t => if lineT t then [10] else if urlF t then [34, 34] else []
def tailT (l : List CT) : List CT := match l.getLast? with
  | none => []
  | some t => if lineT t then [{ kind := 13, text := [10] }] else if urlF t then [{ kind := 5 }] else []
/-- Is a text read as these tokens? -/
def readsT (s : List UInt8) (l : List CT) : Bool := decide ((tksC (rn (s ++ tailS l) 0)).map Prod.fst = l ++ tailT l)
def backT (t : CT) : Bool := readsT (spellT t) [t]
def numOk (t : CT) : Bool := decide (numS t.num t.flag t.sign ≠ []) && !(t.sign && t.num.1) && backT t
/-- Which tokens may be. -/
def rightK (t : CT) : Bool :=
  if t.kind = 1 ∨ t.kind = 2 ∨ t.kind = 3 then decide (t.text ≠ [])
  else if t.kind = 4 then decide (t.text ≠ []) && backT t
  else if t.kind = 10 ∨ t.kind = 11 then numOk t
  else if t.kind = 12 then decide (t.unit ≠ []) && numOk t
  else if t.kind = 13 then decide (t.text = [32]) || decide (t.text = [10])
  else if t.kind = 6 ∨ t.kind = 8 ∨ t.kind = 9 ∨ t.kind = 25 then backT t
  else if t.kind = 5 ∨ t.kind = 7 then true
  else decide (sigS t.kind ≠ [])
def rightT (t : CT) : Bool := cleanS t.text && cleanS t.unit && decide (t = onlyT t) && rightK t
end Go.Proofs.YtbmfoedglhfcaaaGreatDoor.M

/- Plain numbers and lists: the shortest text of a number, as the program and as the page find it. Nothing of the program is imported. -/
namespace Go.Proofs.YtbmfoedglhfcaaaGreatDoor.M
open Go.Lib
set_option linter.unusedVariables false
set_option linter.unusedSimpArgs false

theorem fold3 (l : List (List UInt8)) : ∀ b, b ≠ [] → l.foldl less3 b = (l.filter hasPE).foldl less2 b := by
  induction l with
  | nil => intro b _; rfl
  | cons a t ih =>
    intro b hb
    rw [List.foldl_cons, List.filter_cons]
    by_cases h : hasPE a = true
    · rw [if_pos h, List.foldl_cons]
      have e : less3 b a = less2 b a := by
        unfold less3 less2
        by_cases h2 : a.length < b.length
        · rw [if_pos ⟨h, .inr h2⟩, if_pos h2]
        · rw [if_neg (by rintro ⟨_, h3 | h3⟩; exact hb h3; exact h2 h3), if_neg h2]
      rw [e]
      refine ih _ ?_
      unfold less2
      split
      · intro e; subst e; simp [hasPE] at h
      · exact hb
    · rw [if_neg h]
      have e : less3 b a = b := by unfold less3; rw [if_neg (fun hh => h hh.1)]
      rw [e]; exact ih b hb
theorem fold3_nil (l : List (List UInt8)) : l.foldl less3 [] = shortN (l.filter hasPE) := by
  induction l with
  | nil => rfl
  | cons a t ih =>
    rw [List.foldl_cons, List.filter_cons]
    by_cases h : hasPE a = true
    · rw [if_pos h]
      have e : less3 [] a = a := by unfold less3; rw [if_pos ⟨h, .inl rfl⟩]
      rw [e]
      exact fold3 t a (by intro e; subst e; simp [hasPE] at h)
    · rw [if_neg h]
      have e : less3 [] a = [] := by unfold less3; rw [if_neg (fun hh => h hh.1)]
      rw [e]; exact ih
theorem cut0_pe (s : List UInt8) : hasPE (cut0 s) = hasPE s := by
  unfold cut0
  split
  · rename_i h
    match s, h with
    | [], h => simp at h
    | [a], h => simp at h
    | a :: b :: t, h =>
      simp at h
      obtain ⟨rfl, rfl⟩ := h
      rfl
  · rfl
theorem cut0_len (s : List UInt8) : (cut0 s).length ≤ s.length := by
  unfold cut0; split <;> simp
/-- What the page looks at: those with a point or an e, without the nought ahead. -/
def someP (D E : List UInt8) : List (List UInt8) := ((plainN false D E).filter hasPE).map cut0
def moreP (D E : List UInt8) : List (List UInt8) := if (intD E).2 = true ∧ 0 ≤ (intD E).1 ∧ (intD E).1 ≤ 20 then [D ++ (List.replicate (intD E).1.toNat 48 ++ [46, 48])] else []
theorem map_filter (l : List (List UInt8)) : (l.map cut0).filter hasPE = (l.filter hasPE).map cut0 := by
  induction l with
  | nil => rfl
  | cons a t ih =>
    rw [List.map_cons, List.filter_cons, List.filter_cons, cut0_pe, ih]
    split <;> simp
theorem short_page (D E : List UInt8) (h : D ≠ []) : shortS D E = shortN (someP D E) := by
  unfold shortS someP
  rw [if_neg h, fold3_nil, map_filter]
theorem exp_mem (D E : List UInt8) (h : D ≠ []) (hr : rightN D E = true) : cut0 (D ++ 101 :: E) ∈ someP D E := by
  unfold someP
  refine List.mem_map.2 ⟨_, List.mem_filter.2 ⟨?_, ?_⟩, rfl⟩
  · unfold plainN
    rw [if_pos hr, if_neg h]
    simp [sgl]
  · simp [hasPE]
theorem some_ne (D E : List UInt8) (h : D ≠ []) (hr : rightN D E = true) : someP D E ≠ [] := List.ne_nil_of_mem (exp_mem D E h hr)
theorem some_pos (D E : List UInt8) : ∀ s ∈ someP D E, hasPE s = true ∧ s ≠ [] := by
  intro s hs
  unfold someP at hs
  obtain ⟨x, hx, rfl⟩ := List.mem_map.1 hs
  have := (List.mem_filter.1 hx).2
  rw [← cut0_pe] at this
  exact ⟨this, by intro e; rw [e] at this; simp [hasPE] at this⟩
theorem short_pe (D E : List UInt8) (hr : rightN D E = true) : hasPE (shortS D E) = true ∧ shortS D E ≠ [] := by
  by_cases h : D = []
  · unfold shortS; rw [if_pos h]; exact ⟨rfl, by simp⟩
  · rw [short_page D E h]
    exact some_pos D E _ (short_mem _ (some_ne D E h hr))
theorem txt_small : ∀ n : Fin 21, (txt (n.val : Int)).length ≤ n.val + 1 := by decide +kernel
theorem shortN_snoc (l : List (List UInt8)) (e : List UInt8) (h : l ≠ []) (hle : (shortN l).length ≤ e.length) : shortN (l ++ [e]) = shortN l := by
  cases l with
  | nil => exact absurd rfl h
  | cons a t =>
    show (t ++ [e]).foldl less2 a = t.foldl less2 a
    rw [List.foldl_append]
    have h2 : (t.foldl less2 a).length ≤ e.length := hle
    show (if e.length < (t.foldl less2 a).length then e else t.foldl less2 a) = _
    rw [if_neg (by omega)]
/-- The number with .0 is never shorter. -/
theorem more_page (D E : List UInt8) (h : D ≠ []) (hr : rightN D E = true) : shortN (someP D E ++ moreP D E) = shortS D E := by
  rw [short_page D E h]
  unfold moreP
  split
  · rename_i hc
    obtain ⟨hc1, hc2, hc3⟩ := hc
    refine shortN_snoc _ _ (some_ne D E h hr) ?_
    have h1 := short_le _ _ (exp_mem D E h hr)
    have h2 := cut0_len (D ++ 101 :: E)
    rcases right_ex D E hr with ⟨rfl, rfl⟩ | ⟨m, X, hm, hD, hE⟩
    · exact absurd rfl h
    · have hX : (intD E).1 = X := by
        rw [hE] at hc1 ⊢
        unfold intD at hc1 ⊢
        split at hc1
        · rename_i hh; rw [if_pos hh]; exact (val_txt X).1
        · simp at hc1
      rw [hX] at hc2 hc3 ⊢
      have h3 := txt_small ⟨X.toNat, by omega⟩
      simp only at h3
      rw [show ((X.toNat : Nat) : Int) = X by omega, ← hE] at h3
      simp at h2 ⊢
      omega
  · rw [List.append_nil]
theorem numS_page (D E : List UInt8) (h : D ≠ []) (hr : rightN D E = true) (ng sign : Bool) :
    numS (ng, D, E) false sign = (if ng then [45] else if sign then [43] else []) ++ shortN (someP D E ++ moreP D E) := by
  unfold numS
  simp only
  rw [if_pos hr, more_page D E h hr]
  simp only [Bool.false_eq_true, if_false]
  unfold sgS
  rw [if_neg (short_pe D E hr).2]
  cases ng <;> cases sign <;> rfl
end Go.Proofs.YtbmfoedglhfcaaaGreatDoor.M

/- Plain numbers and lists: a number as it is written, ahead of what stands behind it, is one token. Nothing of the program is imported. -/
namespace Go.Proofs.YtbmfoedglhfcaaaGreatDoor.M
open Go.Lib
set_option linter.unusedVariables false
set_option linter.unusedSimpArgs false

/-- Of what a number that is written is made, behind its sign; nothing may stand ahead of its point. -/
def NG (t : List UInt8) : Prop := ∃ W P X : List UInt8, ∃ F, ∃ z, t = W ++ (P ++ X) ∧ (∀ c ∈ W, dig c = true) ∧ (∀ c ∈ F, dig c = true) ∧ ((P = [] ∧ F = [] ∧ W ≠ []) ∨ (P = 46 :: F ∧ F ≠ [])) ∧ ExpAt X z ∧ (X = [] ∨ X = 101 :: txt z)
/-- What may stand behind a number. -/
def expB (R : List Int) : Bool := (decide (R.getD 0 (-1) = 101) || decide (R.getD 0 (-1) = 69)) && nDg (R.getD (1 + sgN (R.drop 1)) (-1))
def stopN (R : List Int) : Prop := nDg (R.getD 0 (-1)) = false ∧ R.getD 0 (-1) ≠ 46 ∧ expB R = false
def sgO (S : List UInt8) (ng : Bool) : Prop := (S = [] ∧ ng = false) ∨ (S = [45] ∧ ng = true) ∨ (S = [43] ∧ ng = false)
theorem ng_read (u : List UInt8) (h : NG u) : ∃ v e, ∀ S ng, sgO S ng → readN (S ++ u) = ((ng, nz v e), true) := by
  obtain ⟨W, P, X, F, z, rfl, hW, hF, hP, hX, _⟩ := h
  exact ⟨_, _, fun S ng hS => read_form S ng hS W F P X z hW hF hP hX⟩
theorem ng_head (u : List UInt8) (h : NG u) : ∃ a t, u = a :: t ∧ (dig a = true ∨ a = 46) := by
  obtain ⟨W, P, X, F, z, rfl, hW, hF, hP, hX, _⟩ := h
  cases W with
  | nil =>
    rcases hP with ⟨_, _, h3⟩ | ⟨rfl, _⟩
    · exact absurd rfl h3
    · exact ⟨46, _, rfl, .inr rfl⟩
  | cons a t => exact ⟨a, _, rfl, .inl (hW a (by simp))⟩
theorem ng_pl (u : List UInt8) (h : NG u) : ∀ c ∈ u, Pl c ∧ c ≠ 69 := by
  obtain ⟨W, P, X, F, z, rfl, hW, hF, hP, hX, hX2⟩ := h
  intro c hc
  rcases List.mem_append.1 hc with hc | hc
  · exact dig_pl c (hW c hc)
  · rcases List.mem_append.1 hc with hc | hc
    · rcases hP with ⟨rfl, _, _⟩ | ⟨rfl, _⟩
      · simp at hc
      · rcases List.mem_cons.1 hc with rfl | hc
        · exact ⟨⟨by decide, by decide, by decide, by decide⟩, by decide⟩
        · exact dig_pl c (hF c hc)
    · rcases hX2 with rfl | rfl
      · simp at hc
      · rcases List.mem_cons.1 hc with rfl | hc
        · exact ⟨⟨by decide, by decide, by decide, by decide⟩, by decide⟩
        · obtain ⟨Z, V, hz, hZ, hV, hV2⟩ := txt_parts z
          rw [hz] at hc
          rcases List.mem_append.1 hc with hc | hc
          · rcases hZ with rfl | rfl
            · simp at hc
            · simp at hc; subst hc; exact ⟨⟨by decide, by decide, by decide, by decide⟩, by decide⟩
          · exact dig_pl c (hV2 c hc)
/-- How long a number is. -/
theorem ng_end (S u : List UInt8) (hS : S = [] ∨ S = [45] ∨ S = [43]) (hu : NG u) (R : List Int) (hR : stopN R) :
    numB (asI S ++ (asI u ++ R)) = true ∧ numE (asI S ++ (asI u ++ R)) = S.length + u.length := by
  obtain ⟨W, P, X, F, z, rfl, hW, hF, hP, _, hX⟩ := hu
  obtain ⟨r1, r2, r3⟩ := hR
  rw [asI_append, asI_append]
  obtain ⟨Q, hQ⟩ : ∃ Q, asI X ++ R = Q := ⟨_, rfl⟩
  have hc : asI S ++ (asI W ++ (asI P ++ asI X) ++ R) = asI S ++ (asI W ++ (asI P ++ Q)) := by rw [← hQ]; simp
  rw [hc]
  have q1 : nDg (Q.getD 0 (-1)) = false ∧ Q.getD 0 (-1) ≠ 46 := by
    rcases hX with rfl | rfl
    · rw [← hQ]; exact ⟨r1, r2⟩
    · rw [← hQ]; exact ⟨rfl, by show (101 : Int) ≠ 46; decide⟩
  obtain ⟨c, hcc⟩ : ∃ c, asI S ++ (asI W ++ (asI P ++ Q)) = c := ⟨_, rfl⟩
  rw [hcc]
  have d1 : c.drop S.length = asI W ++ (asI P ++ Q) := by rw [← hcc]; exact drop_asI S _ _ rfl
  have hhead : nDg ((asI W ++ (asI P ++ Q)).getD 0 (-1)) = true ∨ ((asI W ++ (asI P ++ Q)).getD 0 (-1) = 46 ∧ W = [] ∧ P = 46 :: F ∧ F ≠ []) := by
    by_cases hW0 : W = []
    · subst hW0
      rcases hP with ⟨_, _, h3⟩ | ⟨rfl, h2⟩
      · exact absurd rfl h3
      · exact .inr ⟨rfl, rfl, rfl, h2⟩
    · exact .inl (head_dig W _ hW hW0)
  have hsg : sgN c = S.length := by
    rcases hS with rfl | rfl | rfl
    · rw [← hcc]
      show sgN (asI W ++ (asI P ++ Q)) = 0
      unfold sgN
      rcases hhead with h | h
      · rw [nDg_iff] at h; rw [if_neg (by omega)]
      · rw [h.1]; rfl
    · rw [← hcc]; rfl
    · rw [← hcc]; rfl
  have hfr : W = [] → fracB (asI P ++ Q) = true := by
    intro hW0
    rcases hP with ⟨_, _, h3⟩ | ⟨rfl, h2⟩
    · exact absurd hW0 h3
    · unfold fracB
      have := head_dig F Q hF h2
      rw [Bool.and_eq_true]
      refine ⟨rfl, ?_⟩
      have e : (asI (46 :: F) ++ Q).getD 1 (-1) = (asI F ++ Q).getD 0 (-1) := by show ((46 : Int) :: (asI F ++ Q)).getD 1 (-1) = _; simp [List.getD]
      rw [e]; exact this
  have hB : numB c = true := by
    unfold numB
    rw [hsg]
    have e : c.getD S.length (-1) = (c.drop S.length).getD 0 (-1) := by rw [drop_getD, Nat.add_zero]
    rw [e, d1]
    rcases hhead with h | ⟨_, h, _, _⟩
    · rw [h]; rfl
    · have := hfr h
      subst h
      rw [show asI [] ++ (asI P ++ Q) = asI P ++ Q from rfl, this, Bool.or_true]
  have hp0 : nDg ((asI P ++ Q).getD 0 (-1)) = false := by
    rcases hP with ⟨rfl, _, _⟩ | ⟨rfl, _⟩
    · exact q1.1
    · rfl
  have h1 : num1 c = S.length + W.length := by
    unfold num1
    rw [hsg, d1, digN_app W _ hW hp0]
  have d2 : c.drop (S.length + W.length) = asI P ++ Q := by rw [← List.drop_drop, d1]; exact drop_asI W _ _ rfl
  have h2 : num2 c = S.length + W.length + P.length := by
    unfold num2
    rw [h1, d2]
    rcases hP with ⟨rfl, _, _⟩ | ⟨rfl, hF0⟩
    · rw [if_neg]
      · simp
      · intro hh
        unfold fracB at hh
        simp only [Bool.and_eq_true, decide_eq_true_eq] at hh
        exact q1.2 hh.1
    · have hf : fracB (asI (46 :: F) ++ Q) = true := by
        unfold fracB
        have := head_dig F Q hF hF0
        rw [Bool.and_eq_true]
        refine ⟨rfl, ?_⟩
        have e : (asI (46 :: F) ++ Q).getD 1 (-1) = (asI F ++ Q).getD 0 (-1) := by show ((46 : Int) :: (asI F ++ Q)).getD 1 (-1) = _; simp [List.getD]
        rw [e]; exact this
      rw [if_pos hf]
      have d3 : c.drop (S.length + W.length + 1) = asI F ++ Q := by rw [← List.drop_drop, d2]; rfl
      rw [d3, digN_app F Q hF q1.1]
      simp; omega
  have d3 : c.drop (S.length + W.length + P.length) = Q := by rw [← List.drop_drop, d2]; exact drop_asI P _ _ rfl
  refine ⟨hB, ?_⟩
  have g : c.getD (num2 c) (-1) = Q.getD 0 (-1) := by rw [h2, ← d3, drop_getD, Nat.add_zero]
  unfold numE
  rw [g]
  rcases hX with rfl | rfl
  · have : Q = R := by rw [← hQ]; rfl
    subst this
    by_cases he : Q.getD 0 (-1) = 101 ∨ Q.getD 0 (-1) = 69
    · rw [if_pos he]
      have d4 : c.drop (num2 c + 1) = Q.drop 1 := by rw [h2, ← List.drop_drop, d3]
      have g2 : c.getD (num2 c + 1 + sgN (c.drop (num2 c + 1))) (-1) = Q.getD (1 + sgN (Q.drop 1)) (-1) := by
        have e : ∀ k, Q.getD k (-1) = c.getD (num2 c + k) (-1) := fun k => by rw [h2, ← d3, drop_getD]
        rw [d4, e, Nat.add_assoc]
      rw [g2, if_neg, h2]
      · simp; omega
      · unfold expB at r3
        simp only [Bool.and_eq_false_iff] at r3
        rcases r3 with r3 | r3
        · simp at r3; rcases he with he | he
          · exact absurd he r3.1
          · exact absurd he r3.2
        · rw [r3]; simp
    · rw [if_neg he, h2]
      simp; omega
  · have hQ2 : Q = 101 :: (asI (txt z) ++ R) := by rw [← hQ]; rfl
    rw [if_pos (by rw [hQ2]; exact .inl rfl)]
    obtain ⟨Z, V, hz, hZ, hV, hV2⟩ := txt_parts z
    have d4 : c.drop (num2 c + 1) = asI Z ++ (asI V ++ R) := by
      rw [h2, ← List.drop_drop, d3, hQ2, hz, asI_append, List.append_assoc]; rfl
    have hv := head_dig V R hV2 hV
    have hz2 : sgN (asI Z ++ (asI V ++ R)) = Z.length := by
      rcases hZ with rfl | rfl
      · exact sgN_no _ hv
      · rfl
    have d5 : c.drop (num2 c + 1 + Z.length) = asI V ++ R := by rw [← List.drop_drop, d4]; exact drop_asI Z _ _ rfl
    rw [d4, hz2, d5, digN_app V R hV2 r1]
    have g2 : c.getD (num2 c + 1 + Z.length) (-1) = (asI V ++ R).getD 0 (-1) := by rw [← d5, drop_getD]; rfl
    rw [g2, if_pos hv, h2, hz]
    simp; omega
/-- Which way a token goes that begins as a number. -/
theorem way_num2 (c : List Int) (h : numB c = true) (h0 : (48 ≤ c.getD 0 (-1) ∧ c.getD 0 (-1) ≤ 57) ∨ c.getD 0 (-1) = 43 ∨ c.getD 0 (-1) = 45 ∨ c.getD 0 (-1) = 46) : wayT c = 5 := by
  unfold wayT
  have a1 : stC [47, 42] c = false := by
    cases hh : stC [47, 42] c with
    | false => rfl
    | true =>
      obtain ⟨t, rfl⟩ := (stC_iff _ _).1 hh
      simp at h0
  have a2 : isBl (c.getD 0 (-1)) = false := by
    cases hh : isBl (c.getD 0 (-1)) with
    | false => rfl
    | true => rw [isBl_iff] at hh; omega
  rw [a1, a2, if_neg (by simp), if_neg (by simp), if_neg (by omega), if_neg (by intro hh; omega), if_pos h]
theorem ng_tk (S u : List UInt8) (hS : S = [] ∨ S = [45] ∨ S = [43]) (hu : NG u) (R : List Int) (hR : stopN R) :
    tkC (asI (S ++ u) ++ R) = (if begN R then ({ numT0 (S ++ u) with kind := 12, unit := encZs (takeN R).1 }, (S ++ u).length + (takeN R).2)
      else if R.getD 0 (-1) = 37 then ({ numT0 (S ++ u) with kind := 11 }, (S ++ u).length + 1) else (numT0 (S ++ u), (S ++ u).length)) := by
  rw [asI_append, List.append_assoc]
  obtain ⟨hb, he⟩ := ng_end S u hS hu R hR
  obtain ⟨a, t, hat, ha⟩ := ng_head u hu
  have hw := way_num2 _ hb (by
    rcases hS with rfl | rfl | rfl
    · rw [hat]
      rcases ha with ha | rfl
      · left
        have := nDg_dig a ha
        rw [nDg_iff] at this
        exact this
      · right; right; right; rfl
    · right; right; left; rfl
    · right; left; rfl)
  have hp : ∀ x ∈ S ++ u, x.toNat < 128 := by
    intro x hx
    rcases List.mem_append.1 hx with hx | hx
    · rcases hS with rfl | rfl | rfl
      · simp at hx
      · simp at hx; subst hx; decide
      · simp at hx; subst hx; decide
    · exact (ng_pl u hu x hx).1.1
  have e1 : (asI S ++ (asI u ++ R)).drop (S.length + u.length) = R := by rw [← List.append_assoc, ← asI_append]; exact drop_asI _ _ _ (by simp)
  have e2 : (asI S ++ (asI u ++ R)).take (S.length + u.length) = asI (S ++ u) := by rw [← List.append_assoc, ← asI_append]; exact List.take_left' (by rw [asI_len]; simp)
  have e3 : (asI S ++ (asI u ++ R)).getD (S.length + u.length) (-1) = R.getD 0 (-1) := by rw [← e1, drop_getD, Nat.add_zero, e1]
  unfold tkC
  rw [hw]
  show numT _ = _
  unfold numT
  rw [he, e1, e2, e3, encZs_asI _ hp, List.length_append]
/-- Of what the texts of a number are made. -/
theorem ng_nf (t : List UInt8) (h : NF t) : NG t := by
  obtain ⟨W, P, X, e, hW, hW0, hP, hX⟩ := h
  rcases hX with rfl | ⟨z, rfl⟩
  · rcases hP with rfl | ⟨F, rfl, hF0, hF⟩
    · exact ⟨W, [], [], [], 0, e, hW, by simp, .inl ⟨rfl, rfl, hW0⟩, .inl ⟨rfl, rfl⟩, .inl rfl⟩
    · exact ⟨W, 46 :: F, [], F, 0, e, hW, hF, .inr ⟨rfl, hF0⟩, .inl ⟨rfl, rfl⟩, .inl rfl⟩
  · rcases hP with rfl | ⟨F, rfl, hF0, hF⟩
    · exact ⟨W, [], _, [], z, e, hW, by simp, .inl ⟨rfl, rfl, hW0⟩, expAt_txt z, .inr rfl⟩
    · exact ⟨W, 46 :: F, _, F, z, e, hW, hF, .inr ⟨rfl, hF0⟩, expAt_txt z, .inr rfl⟩
/-- Without the nought ahead it is the same number. -/
theorem ng_cut (t : List UInt8) (h : NG t) : NG (cut0 t) ∧ readN (cut0 t) = readN t := by
  unfold cut0
  split
  case isFalse => exact ⟨h, rfl⟩
  rename_i hc
  obtain ⟨W, P, X, F, z, rfl, hW, hF, hP, hX, hX2⟩ := h
  match W, hW, hP, hc with
  | [], _, hP, hc =>
    rcases hP with ⟨_, _, h3⟩ | ⟨rfl, _⟩
    · exact absurd rfl h3
    · simp at hc
  | a :: b :: W, hW, hP, hc =>
    simp at hc
    have := hW b (by simp)
    rw [hc.2] at this
    exact absurd this (by decide)
  | [a], hW, hP, hc =>
    have ha : a = 48 := by
      rcases hP with ⟨rfl, _, _⟩ | ⟨rfl, _⟩
      · rcases hX2 with rfl | rfl
        · simp at hc
        · simp at hc
      · simp at hc; exact hc
    subst ha
    rcases hP with ⟨rfl, rfl, _⟩ | ⟨rfl, hF0⟩
    · rcases hX2 with rfl | rfl
      · simp at hc
      · simp at hc
    · refine ⟨⟨[], 46 :: F, X, F, z, rfl, by simp, hF, .inr ⟨rfl, hF0⟩, hX, hX2⟩, ?_⟩
      have h1 := read_form [] false (.inl ⟨rfl, rfl⟩) [48] F (46 :: F) X z hW hF (.inr ⟨rfl, hF0⟩) hX
      have h2 := read_form [] false (.inl ⟨rfl, rfl⟩) [] F (46 :: F) X z (by simp) hF (.inr ⟨rfl, hF0⟩) hX
      rw [List.nil_append] at h1 h2
      show readN ((46 :: F) ++ X) = readN ([48] ++ (46 :: F ++ X))
      rw [h1, show (46 :: F) ++ X = [] ++ ((46 :: F) ++ X) from rfl, h2]
      have := dval_lead 1 F
      rw [show List.replicate 1 (48 : UInt8) = [48] from rfl] at this
      rw [this, List.nil_append]
theorem wholeL_pe (l : List UInt8) (h : ∀ c ∈ l, c ≠ 69) : wholeL l = !hasPE l := by
  rw [whole_whl l h]
  unfold whl hasPE
  rw [List.not_any_eq_all_not]
/-- What is written is that number, ahead of whatever sign. -/
theorem numS_ng (n : NumV) (whole : Bool) (h : rightN n.2.1 n.2.2 = true) (t : List UInt8) (ht : (if whole then wholeS n.2.1 n.2.2 else shortS n.2.1 n.2.2) = t) (h0 : t ≠ []) :
    NG t ∧ wholeL t = whole ∧ ∀ S ng, sgO S ng → readN (S ++ t) = ((ng, n.2.1, n.2.2), true) := by
  obtain ⟨ng0, D, E⟩ := n
  simp only at h ht ⊢
  have fin : ∀ t, NG t → readN t = ((false, D, E), true) → wholeL t = whole → NG t ∧ wholeL t = whole ∧ ∀ S ng, sgO S ng → readN (S ++ t) = ((ng, D, E), true) := by
    intro t h1 h2 h3
    refine ⟨h1, h3, fun S ng hS => ?_⟩
    obtain ⟨v, e, hr⟩ := ng_read t h1
    have := hr [] false (.inl ⟨rfl, rfl⟩)
    rw [List.nil_append, h2] at this
    simp only [Prod.mk.injEq] at this
    rw [hr S ng hS]
    rw [← this.1.2]
  cases whole with
  | true =>
    simp only [if_true] at ht
    unfold wholeS at ht
    split at ht
    · rename_i hD
      subst ht
      subst hD
      have hE : E = [] := by
        unfold rightN at h
        rw [if_pos rfl] at h
        simpa using h
      subst hE
      exact fin _ ⟨[48], [], [], [], 0, rfl, by decide, by simp, .inl ⟨rfl, rfl, by simp⟩, .inl ⟨rfl, rfl⟩, .inl rfl⟩ (by decide +kernel) rfl
    · rename_i hD
      split at ht
      · rename_i hx
        obtain ⟨hx1, hx2, hx3⟩ := hx
        subst ht
        rcases right_ex D E h with ⟨rfl, _⟩ | ⟨m, X, hm, rfl, rfl⟩
        · exact absurd rfl hD
        · have hX : (intD (txt X)).1 = X := by
            unfold intD at hx1 ⊢
            split at hx1
            · rename_i hh; rw [if_pos hh]; exact (val_txt X).1
            · simp at hx1
          rw [hX] at hx2 hx3 ⊢
          have hW : ∀ c ∈ canon m ++ List.replicate X.toNat 48, dig c = true := fun c hc => (List.mem_append.1 hc).elim (canon_dig m c) (dig_rep _ c)
          have hne : canon m ++ List.replicate X.toNat 48 ≠ [] := by simp [hD]
          refine fin _ ⟨_, [], [], [], 0, by simp, hW, by simp, .inl ⟨rfl, rfl, hne⟩, .inl ⟨rfl, rfl⟩, .inl rfl⟩ ?_ ?_
          · have h1 := read_form [] false (.inl ⟨rfl, rfl⟩) (canon m ++ List.replicate X.toNat 48) [] [] [] 0 hW (by simp) (.inl ⟨rfl, rfl, hne⟩) (.inl ⟨rfl, rfl⟩)
            simp only [List.nil_append, List.append_nil, List.length_nil] at h1
            rw [h1, dval_zeros, dval_canon, show ((0 : Int) - ((0 : Nat) : Int)) = 0 from rfl, nz_pow, Int.zero_add, show ((X.toNat : Nat) : Int) = X by omega, nz_core m X hm]
          · unfold wholeL
            rw [List.all_eq_true]
            intro c hc
            have := (dig_pl c (hW c hc))
            have h2 := nDg_dig c (hW c hc)
            rw [nDg_iff] at h2
            have a1 : c ≠ 46 := fun e => by subst e; exact absurd h2.1 (by decide)
            have a2 : c ≠ 101 := fun e => by subst e; exact absurd h2.2 (by decide)
            simp [a1, a2, this.2]
      · exact absurd ht.symm h0
  | false =>
    simp only [Bool.false_eq_true, if_false] at ht
    subst ht
    by_cases hD : D = []
    · subst hD
      have hE : E = [] := by
        unfold rightN at h
        rw [if_pos rfl] at h
        simpa using h
      subst hE
      exact fin _ ⟨[], [46, 48], [], [48], 0, rfl, by simp, by decide, .inr ⟨rfl, by simp⟩, .inl ⟨rfl, rfl⟩, .inl rfl⟩ (by decide +kernel) rfl
    · have hm := short_mem _ (some_ne D E hD h)
      rw [← short_page D E hD] at hm
      have hpe := (some_pos D E _ hm).1
      unfold someP at hm
      obtain ⟨x, hx, hxe⟩ := List.mem_map.1 hm
      have hx1 := (List.mem_filter.1 hx).1
      obtain ⟨u, hu1, hu⟩ := nf_plain false D E x hx1
      have hu2 : x = u := by rw [hu1]; rfl
      subst hu2
      obtain ⟨c1, c2⟩ := ng_cut x (ng_nf x hu)
      rw [hxe] at c1 c2
      refine fin _ c1 (by rw [c2]; exact plain_back false D E x hx1) ?_
      rw [wholeL_pe _ (fun c hc => (ng_pl _ c1 c hc).2), hpe]; rfl
/-- The token of a number that is written, and what stands behind. -/
theorem numS_tk (n : NumV) (whole sign : Bool) (T : List UInt8) (hT : numS n whole sign = T) (h0 : T ≠ []) (hs : ¬ (sign = true ∧ n.1 = true)) (R : List Int) (hR : stopN R) :
    (∀ c ∈ T, Pl c) ∧ tkC (asI T ++ R) = (if begN R then ({ kind := 12, num := n, flag := whole, sign := sign, unit := encZs (takeN R).1 }, T.length + (takeN R).2)
      else if R.getD 0 (-1) = 37 then ({ kind := 11, num := n, flag := whole, sign := sign }, T.length + 1) else ({ kind := 10, num := n, flag := whole, sign := sign }, T.length)) := by
  unfold numS at hT
  split at hT
  case isFalse => exact absurd hT.symm h0
  rename_i hr
  obtain ⟨t, ht⟩ : ∃ t, (if whole then wholeS n.2.1 n.2.2 else shortS n.2.1 n.2.2) = t := ⟨_, rfl⟩
  rw [ht] at hT
  unfold sgS at hT
  split at hT
  case isTrue => exact absurd hT.symm h0
  rename_i ht0
  obtain ⟨g1, g2, g3⟩ := numS_ng n whole hr t ht ht0
  obtain ⟨ng, D, E⟩ := n
  have key : ∃ S, sgO S ng ∧ T = S ++ t ∧ (S.head? == some 43) = sign ∧ (S = [] → sign = false) := by
    cases ng with
    | true =>
      simp only [if_true] at hT
      refine ⟨[45], .inr (.inl ⟨rfl, rfl⟩), hT.symm, ?_, by simp⟩
      cases sign with
      | true => exact absurd ⟨rfl, rfl⟩ hs
      | false => rfl
    | false =>
      simp only [Bool.false_eq_true, if_false] at hT
      cases sign with
      | true => exact ⟨[43], .inr (.inr ⟨rfl, rfl⟩), hT.symm, rfl, by simp⟩
      | false => exact ⟨[], .inl ⟨rfl, rfl⟩, hT.symm, rfl, by simp⟩
  obtain ⟨S, hS, rfl, hS2, hS3⟩ := key
  have hS4 : S = [] ∨ S = [45] ∨ S = [43] := by rcases hS with ⟨h, _⟩ | ⟨h, _⟩ | ⟨h, _⟩ <;> simp [h]
  have hpl : ∀ c ∈ S ++ t, Pl c ∧ c ≠ 69 := by
    intro x hx
    rcases List.mem_append.1 hx with hx | hx
    · rcases hS4 with rfl | rfl | rfl
      · simp at hx
      · simp at hx; subst hx; exact ⟨⟨by decide, by decide, by decide, by decide⟩, by decide⟩
      · simp at hx; subst hx; exact ⟨⟨by decide, by decide, by decide, by decide⟩, by decide⟩
    · exact ng_pl t g1 x hx
  refine ⟨fun c hc => (hpl c hc).1, ?_⟩
  rw [ng_tk S t hS4 g1 R hR]
  have e1 : (readN (S ++ t)).1 = (ng, D, E) := by rw [g3 S ng hS]
  have e2 : wholeL (S ++ t) = whole := by
    rw [wholeL_pe _ (fun c hc => (hpl c hc).2), ← g2, wholeL_pe t (fun c hc => (ng_pl t g1 c hc).2)]
    unfold hasPE
    rw [List.any_append]
    rcases hS4 with rfl | rfl | rfl <;> rfl
  have e3 : ((S ++ t).head? == some 43) = sign := by
    rcases hS4 with rfl | rfl | rfl
    · rw [hS3 rfl]
      obtain ⟨a, u, hat, ha⟩ := ng_head t g1
      rw [hat]
      show (some a == some (43 : UInt8)) = false
      have : a ≠ 43 := by
        intro e; subst e
        rcases ha with ha | ha
        · exact absurd ha (by decide)
        · exact absurd ha (by decide)
      simp [this]
    · exact hS2
    · exact hS2
  have e4 : numT0 (S ++ t) = { kind := 10, num := (ng, D, E), flag := whole, sign := sign } := by
    unfold numT0
    rw [e1, e2, e3]
  rw [e4]
end Go.Proofs.YtbmfoedglhfcaaaGreatDoor.M

/- Plain numbers and lists: a token that may be is read as it is written. Nothing of the program is imported. -/
namespace Go.Proofs.YtbmfoedglhfcaaaGreatDoor.M
open Go.Lib
set_option linter.unusedVariables false
set_option linter.unusedSimpArgs false

theorem one_tk (X : List UInt8) (c : List Int) (t : CT) (hX : X ≠ []) (hc : (rn X 0).map Prod.fst = c) (ht : tkC c = (t, c.length)) : (tksC (rn X 0)).map Prod.fst = [t] := by
  have e := tks_head X (List.length_pos_iff.2 hX) t c.length (by rw [hc]; exact ht)
  have hl : (rn X 0).length = c.length := by rw [← hc, List.length_map]
  rw [e, List.drop_eq_nil_of_le (by omega), lexC_nil]; rfl
theorem two_tk (X : List UInt8) (c d : List Int) (t u : CT) (hX : X ≠ []) (hc : (rn X 0).map Prod.fst = c ++ d) (ht : tkC (c ++ d) = (t, c.length)) (hd : d ≠ []) (hu : tkC d = (u, d.length)) : (tksC (rn X 0)).map Prod.fst = [t, u] := by
  have e := tks_head X (List.length_pos_iff.2 hX) t c.length (by rw [hc]; exact ht)
  obtain ⟨L, hL⟩ : ∃ L, rn X 0 = L := ⟨_, rfl⟩
  rw [hL] at hc e ⊢
  have hl : L.length = c.length + d.length := by have := congrArg List.length hc; simpa using this
  have hd0 : 0 < d.length := List.length_pos_iff.2 hd
  have hi := lexC_in L c.length (by omega)
  rw [show L.map Prod.fst = c ++ d from hc, List.drop_left' rfl, hu] at hi
  simp only at hi
  rw [List.drop_eq_nil_of_le (show L.length ≤ c.length + d.length by omega), lexC_nil] at hi
  rw [e, hi]; rfl
/-- A clean text is its code points, written. -/
theorem clean_at (l : List UInt8) (hz : ∀ x ∈ l, x ≠ 0) (f : Nat) : ∀ p, l.length ≤ p + f → (valid f l p).2 = true → encZs (pn l p) = l.drop p := by
  induction f with
  | zero => intro p hp _; rw [pn_out l p (by omega), List.drop_eq_nil_of_le (by omega)]; rfl
  | succ f ih =>
    intro p hp h
    by_cases hl : l.length ≤ p
    · rw [pn_out l p hl, List.drop_eq_nil_of_le hl]; rfl
    · unfold valid at h
      rw [if_neg hl] at h
      split at h
      case isFalse => simp at h
      rename_i hn
      rw [nx_ok] at hn
      have h0 : 0 < (l.drop p).length := by rw [List.length_drop]; omega
      have hi := dec_inv (l.drop p) h0 hn
      have hd0 : (dec (l.drop p)).1 ≠ 0 := by
        intro e
        have := dec_low (l.drop p) (by omega)
        rw [e] at this
        have hb := this.2
        unfold byte at hb
        have hg : (l.drop p).getD 0 0 = l[p] := by simp [List.getD, show p < l.length by omega]
        rw [hg] at hb
        exact hz l[p] (List.getElem_mem _) (UInt8.toNat_inj.1 (by rw [← hb]; rfl))
      have hw : 1 ≤ (dec (l.drop p)).2 := by
        have h2 := dec_width (l.drop p)
        omega
      rw [pn_in l p (by omega), encZs_cons, ih _ (by omega) h]
      have hp2 : ptv (l.drop p) = ((dec (l.drop p)).1 : Int) := by unfold ptv; rw [if_neg hd0]
      rw [hp2]
      conv => rhs; rw [hi]
      rw [List.drop_drop]
theorem clean_self (s : List UInt8) (h : cleanS s = true) : encZs (pn s 0) = s := by
  unfold cleanS at h
  simp only [Bool.and_eq_true, Bool.not_eq_true'] at h
  have hz : ∀ x ∈ s, x ≠ 0 := by
    intro x hx e
    subst e
    have := h.2
    simp only [List.contains_eq_any_beq, List.any_eq_false] at this
    have := this 0 hx
    simp at this
  exact clean_at s hz s.length 0 (by omega) h.1
theorem pn_okP (s : List UInt8) : ∀ r ∈ pn s 0, okP r := pn_ok s s.length 0 (by omega)
theorem pn_ne (s : List UInt8) (h : s ≠ []) : pn s 0 ≠ [] := by
  rw [pn_in s 0 (List.length_pos_iff.2 h)]; simp
/-- How a name begins. -/
theorem begN_head (c : List Int) (h : begN c = true) : ∃ r t, c = r :: t ∧ (nSt r = true ∨ r = 92 ∨ (r = 45 ∧ (nSt (t.getD 0 (-1)) = true ∨ t.getD 0 (-1) = 45 ∨ t.getD 0 (-1) = 92))) := by
  cases c with
  | nil => simp [begN] at h
  | cons r t =>
    refine ⟨r, t, rfl, ?_⟩
    simp only [begN] at h
    by_cases h45 : r = 45
    · rw [if_pos h45] at h
      simp only [Bool.or_eq_true, decide_eq_true_eq] at h
      rcases h with (h | h) | h
      · exact .inr (.inr ⟨h45, .inl h⟩)
      · exact .inr (.inr ⟨h45, .inr (.inl h)⟩)
      · cases t with
        | nil => simp [esB] at h
        | cons x u =>
          simp only [esB, Bool.and_eq_true, decide_eq_true_eq] at h
          exact .inr (.inr ⟨h45, .inr (.inr h.1)⟩)
    · rw [if_neg h45] at h
      simp only [Bool.or_eq_true] at h
      rcases h with h | h
      · exact .inl h
      · simp only [esB, Bool.and_eq_true, decide_eq_true_eq] at h
        exact .inr (.inl h.1)
theorem nSt_far (x : Int) (h : nSt x = true) : nDg x = false ∧ x ≠ 43 ∧ x ≠ 45 ∧ x ≠ 46 ∧ x ≠ 47 ∧ x ≠ 60 ∧ x ≠ 32 ∧ x ≠ 9 ∧ x ≠ 10 ∧ x ≠ 34 ∧ x ≠ 39 ∧ x ≠ 35 := by
  rw [nSt_iff] at h; rw [nDg_not]; omega
theorem numB_name (c : List Int) (h : begN c = true) : numB c = false := by
  obtain ⟨r, t, rfl, h3⟩ := begN_head c h
  clear h
  unfold numB sgN fracB
  simp only [List.getD_cons_zero]
  rcases h3 with h | rfl | ⟨rfl, h⟩
  · obtain ⟨a, b, c, d, _⟩ := nSt_far r h
    rw [if_neg (by omega)]; simp [a, d]
  · simp [nDg]
  · rw [if_pos (.inr rfl)]
    obtain ⟨y, hy⟩ : ∃ y, t.getD 0 (-1) = y := ⟨_, rfl⟩
    have e1 : ((45 : Int) :: t).getD 1 (-1) = y := by rw [← hy]; simp [List.getD]
    have e2 : (((45 : Int) :: t).drop 1).getD 0 (-1) = y := by rw [← hy]; rfl
    rw [e1, e2]
    rw [hy] at h
    have h3 : nDg y = false ∧ y ≠ 46 := by
      rcases h with h | rfl | rfl
      · exact ⟨(nSt_far y h).1, (nSt_far y h).2.2.2.1⟩
      · exact ⟨rfl, by decide⟩
      · exact ⟨rfl, by decide⟩
    rw [h3.1]; simp [h3.2]
theorem stC_no (a : Int) (s : List Int) (r : Int) (t : List Int) (h : a ≠ r) : stC (a :: s) (r :: t) = false := by simp [stC, List.isPrefixOf, h]
theorem way_name (c : List Int) (h : begN c = true) (h2 : stC [45, 45, 62] c = false) : wayT c = 8 := by
  have hn := numB_name c h
  obtain ⟨r, t, rfl, h3⟩ := begN_head c h
  have h4 : r ≠ 47 ∧ r ≠ 60 ∧ r ≠ 32 ∧ r ≠ 9 ∧ r ≠ 10 ∧ r ≠ 34 ∧ r ≠ 39 ∧ r ≠ 35 := by
    rcases h3 with h | rfl | ⟨rfl, _⟩
    · have := nSt_far r h; omega
    · decide
    · decide
  have hb : isBl r = false := by rw [isBl_not]; omega
  unfold wayT
  rw [stC_no 47 _ r t (by omega), List.getD_cons_zero, hb, if_neg (by simp), if_neg (by simp), if_neg (by omega), if_neg (by intro hh; exact h4.2.2.2.2.2.2.2 hh.1), hn, if_neg (by simp), h2, if_neg (by simp), stC_no 60 _ r t (by omega), if_neg (by simp), if_pos h]
/-- A name's end is no end of a comment of old. -/
theorem no_cdc (ps : List Int) (hok : ∀ r ∈ ps, okP r) (R : List Int) (h1 : takeN R = ([], 0)) (h2 : R.getD 0 (-1) ≠ 62) : stC [45, 45, 62] (spF ps ++ R) = false := by
  cases h : stC [45, 45, 62] (spF ps ++ R) with
  | false => rfl
  | true =>
    obtain ⟨t, ht⟩ := (stC_iff _ _).1 h
    have ht2 : spF ps ++ R = 45 :: 45 :: 62 :: t := ht
    have a := takeN_spF ps hok R
    rw [h1, ht2, takeN_in _ _ (by decide), takeN_in _ _ (by decide), takeN_out 62 t (by simp [esB]) (by decide)] at a
    simp only [Prod.mk.injEq] at a
    have hl : (spF ps).length = 2 := by omega
    have hd := congrArg (List.drop 2) ht2
    rw [List.drop_left' hl] at hd
    rw [hd] at h2
    exact absurd rfl h2
theorem ident_tk (ps : List Int) (hok : ∀ r ∈ ps, okP r) (h0 : ps ≠ []) : tkC (spF ps) = ({ kind := 1, text := encZs ps }, (spF ps).length) := by
  have hb := begN_spF ps hok h0 []
  have hn := no_cdc ps hok [] takeN_nil (by decide)
  have ht := takeN_spF ps hok []
  rw [takeN_nil] at ht
  simp only [List.append_nil, Nat.add_zero] at hb hn ht
  unfold tkC
  rw [way_name _ hb hn]
  show namT _ = _
  unfold namT
  rw [ht, if_neg]
  simp [List.getD]
theorem takeN_par (R : List Int) : takeN (40 :: R) = ([], 0) := takeN_out 40 R (by simp [esB]) (by decide)
theorem func_tk (ps : List Int) (hok : ∀ r ∈ ps, okP r) (h0 : ps ≠ []) (R : List Int) (hu : lowL (encZs ps) = [117, 114, 108] → ∃ T, R = 34 :: T) :
    tkC (spF ps ++ 40 :: R) = ({ kind := 2, text := encZs ps }, (spF ps ++ [40]).length) := by
  have hb := begN_spF ps hok h0 (40 :: R)
  have hn := no_cdc ps hok (40 :: R) (takeN_par R) (by simp)
  have ht := takeN_spF ps hok (40 :: R)
  rw [takeN_par] at ht
  simp only [List.append_nil, Nat.add_zero] at ht
  unfold tkC
  rw [way_name _ hb hn]
  show namT _ = _
  have hg : (spF ps ++ 40 :: R).getD (spF ps).length (-1) = 40 := by simp [List.getD]
  unfold namT
  rw [ht, if_pos hg, if_neg]
  · simp
  · rintro ⟨h1, h2, _⟩
    obtain ⟨T, rfl⟩ := hu h1
    apply h2
    have hd : (spF ps ++ 40 :: 34 :: T).drop ((spF ps).length + 1) = 34 :: T := by
      rw [← List.drop_drop, List.drop_left' rfl]; rfl
    have hnE : nameE (spF ps ++ 40 :: 34 :: T) = (spF ps).length + 1 := by
      unfold nameE
      rw [ht]
      simp only
      rw [hd, blN_cons, if_neg (by decide)]
    rw [hnE]
    have := drop_getD (spF ps ++ 40 :: 34 :: T) ((spF ps).length + 1) 0 (-1)
    rw [hd, Nat.add_zero] at this
    rw [← this]; rfl
theorem at_tk (ps : List Int) (hok : ∀ r ∈ ps, okP r) (h0 : ps ≠ []) : tkC (64 :: spF ps) = ({ kind := 3, text := encZs ps }, (64 :: spF ps).length) := by
  have hb := begN_spF ps hok h0 []
  have ht := takeN_spF ps hok []
  rw [takeN_nil] at ht
  simp only [List.append_nil, Nat.add_zero] at hb ht
  have hw : wayT (64 :: spF ps) = 9 := by
    unfold wayT
    rw [stC_no 47 _ 64 _ (by decide), if_neg (by simp), List.getD_cons_zero, if_neg (by decide), if_neg (by decide), if_neg (by simp), if_neg (by simp [numB, sgN, nDg, fracB]), stC_no 45 _ 64 _ (by decide), if_neg (by simp), stC_no 60 _ 64 _ (by decide), if_neg (by simp), if_neg (by simp [begN, esB, nSt]), if_pos ⟨rfl, hb⟩]
  unfold tkC
  rw [hw]
  show (({ kind := 3, text := encZs (takeN ((64 :: spF ps).drop 1)).1 } : CT), 1 + (takeN ((64 :: spF ps).drop 1)).2) = _
  rw [List.drop_succ_cons, List.drop_zero, ht]
  simp; omega
theorem text_tk (q : Int) (hq : Mk q) (ps : List Int) : tkC (qF q ps) = ({ kind := 5, text := encZs ps }, (qF q ps).length) := by
  have hs := strT_qB q hq ps q [] (.inl hq)
  rw [strT_end] at hs
  simp only [List.append_nil] at hs
  have hc : qF q ps = q :: (qB q ps ++ [q]) := by simp [qF]
  rw [hc]
  unfold tkC
  rw [mk_way q hq]
  show txtT _ = _
  unfold txtT
  simp only [List.getD_cons_zero, List.drop_succ_cons, List.drop_zero]
  rw [hs]
  simp; omega
theorem qF_okr (q : Int) (hq : Mk q) (ps : List Int) (hp : ∀ r ∈ ps, okP r) : ∀ r ∈ qF q ps, Okr r := by
  intro r hr
  simp only [qF, List.mem_append, List.mem_cons, List.mem_nil_iff, or_false] at hr
  rcases hr with (rfl | hr) | rfl
  · exact mk_okr _ hq
  · exact qB_okr q hq ps hp r hr
  · exact mk_okr _ hq
/-- A url's text, as code points. -/
def urlP (r : Int) : List Int := if r = 34 ∨ r = 39 ∨ r = 40 ∨ r = 41 ∨ r = 92 ∨ r = 32 then [92, r] else if r < 32 ∨ r = 127 then numN r else [r]
theorem urlP_okr (r : Int) (h : okP r) : ∀ c ∈ urlP r, Okr c := by
  obtain ⟨hc, h1⟩ := h
  unfold urlP
  split
  · rename_i hs
    intro c hm
    simp only [List.mem_cons, List.mem_nil_iff, or_false] at hm
    rcases hm with rfl | rfl
    · decide
    · exact ⟨hc, by omega, by omega, by omega⟩
  · split
    · rename_i hs
      exact numN_okr r (by omega) (by omega)
    · rename_i hs
      intro c hm
      simp only [List.mem_singleton] at hm
      subst hm
      exact ⟨hc, by omega, by omega, by omega⟩
theorem urlT_P (r : Int) (h : okP r) (t : List Int) : urlT false false (urlP r ++ t) = ((urlT false false t).1, r :: (urlT false false t).2.1, (urlP r).length + (urlT false false t).2.2) := by
  obtain ⟨hc, h1⟩ := h
  unfold urlP
  split
  · rename_i hs
    have hx : isX r = false := by rw [isX_not]; omega
    have he : esB (92 :: r :: t) = true := by simp [esB]; omega
    have hv : escV (r :: t) = (r, 1) := by simp [escV, hx]
    show urlT false false (92 :: r :: t) = _
    rw [urlT, if_neg (by decide), if_pos he, hv]
    simp <;> omega
  · rename_i hs
    split
    · rename_i h2
      have he := esB_num r (by omega) (by omega) t
      have e : numN r ++ t = 92 :: (hexd r ++ 32 :: t) := by simp [numN]
      rw [e] at he ⊢
      rw [urlT, if_neg (by decide), if_pos he, escV_num r h1 (by omega)]
      have hd : (hexd r ++ 32 :: t).drop ((hexd r).length + 1) = t := by
        rw [show hexd r ++ 32 :: t = (hexd r ++ [32]) ++ t by simp]
        exact List.drop_left' (by simp)
      simp only [hd]
      simp [numN]; omega
    · rename_i h2
      have he : esB (r :: t) = false := by simp [esB]; omega
      have hb : isBl r = false := by rw [isBl_not]; omega
      have hu : inU r = true := by
        unfold inU
        simp only [Bool.and_eq_true, Bool.not_eq_true', Bool.or_eq_false_iff, decide_eq_false_iff_not, decide_eq_true_eq, Bool.or_eq_true]
        omega
      show urlT false false (r :: t) = _
      rw [urlT, if_neg (by omega), if_neg (by rw [he]; simp), if_neg (by rw [hb]; simp), hu]
      simp
theorem urlT_all (ps : List Int) (h : ∀ r ∈ ps, okP r) : urlT false false (ps.flatMap urlP ++ [41]) = (false, ps, (ps.flatMap urlP ++ [41]).length) := by
  induction ps with
  | nil => rw [List.flatMap_nil, List.nil_append, urlT_close]; rfl
  | cons a t ih =>
    rw [List.flatMap_cons, List.append_assoc, urlT_P a (h a (by simp)), ih (fun r hr => h r (by simp [hr]))]
    simp <;> omega
theorem urlP_head (ps : List Int) (h : ∀ r ∈ ps, okP r) : ∃ a u, ps.flatMap urlP ++ [41] = a :: u ∧ isBl a = false ∧ a ≠ 34 ∧ a ≠ 39 := by
  cases ps with
  | nil => exact ⟨41, [], rfl, by decide, by decide, by decide⟩
  | cons r t =>
    have h1 := (h r (by simp)).2
    rw [List.flatMap_cons, List.append_assoc]
    unfold urlP
    split
    · exact ⟨92, _, rfl, by decide, by decide, by decide⟩
    · rename_i hs
      split
      · exact ⟨92, _, rfl, by decide, by decide, by decide⟩
      · rename_i h2
        exact ⟨r, _, rfl, by rw [isBl_not]; omega, by omega, by omega⟩
theorem url_tk (ps : List Int) (h : ∀ r ∈ ps, okP r) : tkC (nmI false ++ 40 :: (ps.flatMap urlP ++ [41])) = ({ kind := 7, text := encZs ps }, (nmI false ++ 40 :: (ps.flatMap urlP ++ [41])).length) := by
  have h1 := urlT_all ps h
  obtain ⟨a, u, hau, hb, h34, h39⟩ := urlP_head ps h
  obtain ⟨Q, hQ⟩ : ∃ Q, ps.flatMap urlP ++ [41] = Q := ⟨_, rfl⟩
  rw [hQ] at h1 hau ⊢
  unfold tkC
  rw [nm_way]
  show namT _ = _
  have ht := nm_take false Q
  have hnE : nameE (nmI false ++ 40 :: Q) = 4 := by
    unfold nameE
    rw [ht]
    show 3 + 1 + blN Q = 4
    rw [hau, blN_cons, if_neg (by rw [hb]; simp)]
  have hg : (nmI false ++ 40 :: Q).getD 4 (-1) = a := by rw [hau]; rfl
  unfold namT
  rw [ht, if_pos (by rfl), hnE, hg, if_pos ⟨by decide +kernel, h34, h39⟩]
  unfold urlK
  have hd : (nmI false ++ 40 :: Q).drop 4 = Q := rfl
  rw [hd, h1]
  simp [nmI]; omega
theorem urlB_P (r : Int) (h : okP r) : (enc r).flatMap urlB = encZs (urlP r) := by
  obtain ⟨hc, h1⟩ := h
  by_cases ha : r < 128
  · have e := enc_ascii r (by omega) ha
    have hn : r.toNat.toUInt8.toNat = r.toNat := by simp [Nat.toUInt8, UInt8.toNat_ofNat']; omega
    obtain ⟨c, hcc⟩ : ∃ c, r.toNat.toUInt8 = c := ⟨_, rfl⟩
    rw [hcc] at e hn
    have hr : r = (c.toNat : Int) := by omega
    have e3 : encZs [92] = [92] := by decide +kernel
    rw [e, List.flatMap_cons, List.flatMap_nil, List.append_nil]
    unfold urlB urlP
    have hi : (c = 34 ∨ c = 39 ∨ c = 40 ∨ c = 41 ∨ c = 92 ∨ c = 32) ↔ (r = 34 ∨ r = 39 ∨ r = 40 ∨ r = 41 ∨ r = 92 ∨ r = 32) := by
      have hh : ∀ k : UInt8, c = k ↔ r = (k.toNat : Int) := fun k => by
        rw [hr]
        constructor
        · intro e; rw [e]
        · intro e; exact UInt8.toNat_inj.1 (by omega)
      rw [hh 34, hh 39, hh 40, hh 41, hh 92, hh 32]; rfl
    have hj : (c.toNat < 32 ∨ c = 127) ↔ (r < 32 ∨ r = 127) := by
      have hh : c = 127 ↔ r = 127 := by
        rw [hr]
        constructor
        · intro e; rw [e]; rfl
        · intro e; exact UInt8.toNat_inj.1 (by have : (127 : UInt8).toNat = 127 := rfl; omega)
      rw [hh, hr]
      omega
    by_cases h2 : r = 34 ∨ r = 39 ∨ r = 40 ∨ r = 41 ∨ r = 92 ∨ r = 32
    · rw [if_pos (hi.2 h2), if_pos h2, encZs_cons, encZs_cons, encZs_nil, List.append_nil, e]
      have : enc 92 = [92] := by decide +kernel
      rw [this]; rfl
    · rw [if_neg (fun h => h2 (hi.1 h)), if_neg h2]
      by_cases h3 : r < 32 ∨ r = 127
      · rw [if_pos (hj.2 h3), if_pos h3, hr]
      · rw [if_neg (fun h => h3 (hj.1 h)), if_neg h3, encZs_cons, encZs_nil, List.append_nil, e]
  · have hb := enc_big r hc (by omega)
    have hP : urlP r = [r] := by unfold urlP; rw [if_neg (by omega), if_neg (by omega)]
    rw [hP, encZs_cons, encZs_nil, List.append_nil]
    have key : ∀ L : List UInt8, (∀ c ∈ L, 128 ≤ c.toNat) → L.flatMap urlB = L := by
      intro L
      induction L with
      | nil => intro _; rfl
      | cons a t ih =>
        intro hL
        have ha2 := hL a (by simp)
        have hne : ∀ k : UInt8, k.toNat < 128 → a ≠ k := fun k hk e => by rw [e] at ha2; omega
        rw [List.flatMap_cons, ih (fun c hc => hL c (by simp [hc]))]
        unfold urlB
        rw [if_neg (by rintro (h | h | h | h | h | h) <;> exact hne _ (by decide) h), if_neg (by rintro (h | h); omega; exact hne _ (by decide) h)]; rfl
    exact key _ hb
theorem urlS_P (ps : List Int) (h : ∀ r ∈ ps, okP r) : (encZs ps).flatMap urlB = encZs (ps.flatMap urlP) := by
  induction ps with
  | nil => rfl
  | cons a t ih => rw [encZs_cons, List.flatMap_append, urlB_P a (h a (by simp)), ih (fun r hr => h r (by simp [hr])), List.flatMap_cons, encZs_append]
theorem urlS_enc (s : List UInt8) (h : cleanS s = true) : urlS s = encZs (nmI false ++ 40 :: ((pn s 0).flatMap urlP ++ [41])) := by
  have e1 := urlS_P (pn s 0) (pn_okP s)
  rw [clean_self s h] at e1
  unfold urlS
  rw [e1, encZs_append, encZs_cons, encZs_append]
  have a1 : encZs (nmI false) = [117, 114, 108] := by decide +kernel
  have a2 : enc 40 = [40] := by decide +kernel
  have a3 : encZs [41] = [41] := by decide +kernel
  rw [a1, a2, a3]; rfl
theorem url_okr (ps : List Int) (h : ∀ r ∈ ps, okP r) : ∀ c ∈ nmI false ++ 40 :: (ps.flatMap urlP ++ [41]), Okr c := by
  intro c hc
  rcases List.mem_append.1 hc with hc | hc
  · have : ∀ c ∈ nmI false, Okr c := by decide +kernel
    exact this c hc
  · rcases List.mem_cons.1 hc with rfl | hc
    · decide
    · rcases List.mem_append.1 hc with hc | hc
      · obtain ⟨r, hr, hm⟩ := List.mem_flatMap.1 hc
        exact urlP_okr r (h r hr) c hm
      · simp at hc; subst hc; decide
theorem encZs_ne (c : List Int) (h : c ≠ []) : encZs c ≠ [] := by
  have := (encZs_len c).1
  intro e
  rw [e] at this
  exact h (List.length_eq_zero_iff.1 (by simpa using this))
theorem spF_ne (ps : List Int) (hok : ∀ r ∈ ps, okP r) (h0 : ps ≠ []) : spF ps ≠ [] := by
  intro e
  have := begN_spF ps hok h0 []
  rw [e] at this
  simp [begN] at this
theorem reads_iff (s : List UInt8) (l : List CT) : readsT s l = true ↔ (tksC (rn (s ++ tailS l) 0)).map Prod.fst = l ++ tailT l := by unfold readsT; exact decide_eq_true_iff
theorem tail_no (t : CT) (h1 : lineT t = false) (h2 : urlF t = false) : tailS [t] = [] ∧ tailT [t] = [] := by simp [tailS, tailT, h1, h2]
theorem back_no (t : CT) (h1 : lineT t = false) (h2 : urlF t = false) (h : (tksC (rn (spellT t) 0)).map Prod.fst = [t]) : backT t = true := by
  unfold backT
  rw [reads_iff, (tail_no t h1 h2).1, (tail_no t h1 h2).2, List.append_nil, List.append_nil]; exact h
theorem sign_tks : ∀ k : Fin 11, (tksC (rn (sigS (14 + k.val)) 0)).map Prod.fst = [{ kind := 14 + k.val }] := by decide +kernel
theorem str_tk : tkC [34, 34] = ({ kind := 5 }, 2) := by decide +kernel
/-- What may be is read back. -/
theorem right_back (t : CT) (h : rightT t = true) : backT t = true := by
  unfold rightT at h
  simp only [Bool.and_eq_true, decide_eq_true_eq] at h
  obtain ⟨⟨⟨hc1, hc2⟩, ho⟩, hk⟩ := h
  obtain ⟨k, text, unit, num, flag, sign⟩ := t
  simp only at hc1 hc2 ho
  have hok := pn_okP text
  have hcl := clean_self text hc1
  unfold rightK at hk
  simp only at hk
  split at hk
  · -- names
    rename_i h123
    simp only [decide_eq_true_eq] at hk
    have hne := pn_ne text hk
    have hokr := spF_okr (pn text 0) hok
    have hone : ({ kind := k, text := text, unit := unit, num := num, flag := flag, sign := sign } : CT) = { kind := k, text := text } := by
      rw [ho]
      unfold onlyT
      rcases h123 with rfl | rfl | rfl <;> rfl
    rw [hone]
    rcases h123 with rfl | rfl | rfl
    · refine back_no _ rfl rfl ?_
      show (tksC (rn (encZs (spF (pn text 0))) 0)).map Prod.fst = _
      refine one_tk _ _ _ (encZs_ne _ (spF_ne _ hok hne)) (rn_encZs _ hokr) ?_
      rw [ident_tk _ hok hne, hcl]
    · have hS : spellT { kind := 2, text := text } = encZs (spF (pn text 0) ++ [40]) := by
        rw [encZs_append]; rfl
      have hokr2 : ∀ c ∈ spF (pn text 0) ++ [40], Okr c := by
        intro c hc
        rcases List.mem_append.1 hc with hc | hc
        · exact hokr c hc
        · simp at hc; subst hc; decide
      unfold backT
      rw [reads_iff, hS]
      by_cases hu : lowL text = [117, 114, 108]
      · have a1 : tailS [{ kind := 2, text := text }] = encZs [34, 34] := by simp [tailS, lineT, urlF, hu]; decide +kernel
        have a2 : tailT [{ kind := 2, text := text }] = [{ kind := 5 }] := by simp [tailT, lineT, urlF, hu]
        rw [a1, a2, ← encZs_append]
        refine two_tk _ (spF (pn text 0) ++ [40]) [34, 34] _ _ (encZs_ne _ (by simp)) (rn_encZs _ ?_) ?_ (by simp) str_tk
        · intro c hc
          rcases List.mem_append.1 hc with hc | hc
          · exact hokr2 c hc
          · simp at hc; subst hc; decide
        · rw [List.append_assoc]
          have := func_tk (pn text 0) hok hne [34, 34] (fun _ => ⟨_, rfl⟩)
          rw [hcl] at this
          exact this
      · have a1 : tailS [{ kind := 2, text := text }] = [] := by simp [tailS, lineT, urlF, hu]
        have a2 : tailT [{ kind := 2, text := text }] = [] := by simp [tailT, lineT, urlF, hu]
        rw [a1, a2, List.append_nil, List.append_nil]
        refine one_tk _ _ _ (encZs_ne _ (by simp)) (rn_encZs _ hokr2) ?_
        have := func_tk (pn text 0) hok hne [] (by rw [hcl]; intro e; exact absurd e hu)
        rw [hcl] at this
        exact this
    · refine back_no _ rfl rfl ?_
      have hS : spellT { kind := 3, text := text } = encZs (64 :: spF (pn text 0)) := by
        rw [encZs_cons, show enc 64 = [64] by decide +kernel]; rfl
      rw [hS]
      refine one_tk _ _ _ (encZs_ne _ (by simp)) (rn_encZs _ ?_) ?_
      · intro c hc
        rcases List.mem_cons.1 hc with rfl | hc
        · decide
        · exact hokr c hc
      · rw [at_tk _ hok hne, hcl]
  · rename_i h123
    split at hk
    · simp only [Bool.and_eq_true] at hk; exact hk.2
    · rename_i h4
      have hnum : ∀ t : CT, numOk t = true → backT t = true := by
        intro t ht
        unfold numOk at ht
        simp only [Bool.and_eq_true] at ht
        exact ht.2
      split at hk
      · exact hnum _ hk
      · rename_i h10
        split at hk
        · simp only [Bool.and_eq_true] at hk; exact hnum _ hk.2
        · rename_i h12
          have hone : ({ kind := k, text := text, unit := unit, num := num, flag := flag, sign := sign } : CT) = { kind := k, text := if sigS k = [] then text else [] } := by
            conv => lhs; rw [ho]
            unfold onlyT
            rw [if_neg (by unfold isNum; intro hh; simp only at hh; rcases hh with hh | hh | hh; exact h10 (.inl hh); exact h10 (.inr hh); exact h12 hh)]
            simp only
            rw [if_neg h4]
          split at hk
          · rename_i h13
            subst h13
            rw [hone]
            simp only [Bool.or_eq_true, decide_eq_true_eq] at hk
            rcases hk with rfl | rfl
            · decide +kernel
            · decide +kernel
          · split at hk
            · exact hk
            · rename_i h6
              split at hk
              · rename_i h57
                have hs0 : sigS k = [] := by rcases h57 with rfl | rfl <;> rfl
                rw [hone, hs0]
                simp only [if_true]
                rcases h57 with rfl | rfl
                · refine back_no _ rfl rfl ?_
                  show (tksC (rn (qText (pn text 0)) 0)).map Prod.fst = _
                  unfold qText
                  have fin : ∀ q, Mk q → (tksC (rn (encZs (qF q (pn text 0))) 0)).map Prod.fst = [{ kind := 5, text := text }] := by
                    intro q hq
                    refine one_tk _ _ _ (encZs_ne _ (by simp [qF])) (rn_encZs _ (qF_okr q hq _ hok)) ?_
                    rw [text_tk q hq, hcl]
                  split
                  · exact fin 39 (.inr rfl)
                  · exact fin 34 (.inl rfl)
                · refine back_no _ rfl rfl ?_
                  show (tksC (rn (urlS text) 0)).map Prod.fst = _
                  rw [urlS_enc text hc1]
                  refine one_tk _ _ _ (encZs_ne _ (by simp [nmI])) (rn_encZs _ (url_okr _ hok)) ?_
                  rw [url_tk _ hok, hcl]
              · rename_i h57
                simp only [decide_eq_true_eq] at hk
                rw [hone, if_neg hk]
                have hkk : ∃ j : Fin 11, k = 14 + j.val := by
                  have : 14 ≤ k ∧ k ≤ 24 := by
                    apply Classical.byContradiction
                    intro hh
                    apply hk
                    unfold sigS
                    repeat rw [if_neg (by omega)]
                  exact ⟨⟨(k - 14).toNat, by omega⟩, by simp; omega⟩
                obtain ⟨j, rfl⟩ := hkk
                have hj := sign_tks j
                have hb : ∀ j : Fin 11, lineT { kind := 14 + j.val } = false ∧ urlF { kind := 14 + j.val } = false ∧ spellT { kind := 14 + j.val } = sigS (14 + j.val) := by decide +kernel
                obtain ⟨b1, b2, b3⟩ := hb j
                exact back_no _ b1 b2 (by rw [b3]; exact hj)
end Go.Proofs.YtbmfoedglhfcaaaGreatDoor.M

/- Plain numbers and lists: numbers with a unit are read back. Nothing of the program is imported. -/
namespace Go.Proofs.YtbmfoedglhfcaaaGreatDoor.M
open Go.Lib
set_option linter.unusedVariables false
set_option linter.unusedSimpArgs false

/-- A unit's code points, as they are written. -/
def unitR (u : List UInt8) : List Int := if e3 u then numN (byte u 0) ++ spR (pn (u.drop 1) 0) else spF (pn u 0)
theorem unitR_enc (u : List UInt8) : encZs (unitR u) = unitS u := by unfold unitR unitS; split <;> simp [encZs_append]
theorem sp_first (b : Int) (h : okP b) (t : List Int) : (sp b ++ t).getD 0 (-1) = 92 ∨ ((sp b ++ t).getD 0 (-1) = b ∧ nIn b = true ∧ sp b = [b]) := by
  have h1 := h.2
  unfold sp
  split
  · exact .inl rfl
  · split
    · rename_i hi; exact .inr ⟨rfl, hi, rfl⟩
    · exact .inl rfl
theorem e3_parts (u : List UInt8) (h : e3 u = true) : ∃ c t, u = c :: t ∧ (c = 101 ∨ c = 69) := by
  unfold e3 at h
  simp only [Bool.and_eq_true, Bool.or_eq_true, decide_eq_true_eq] at h
  cases u with
  | nil => simp at h
  | cons c t => exact ⟨c, t, rfl, h.1⟩
theorem u8_int (c : UInt8) (k : UInt8) (h : (c.toNat : Int) = (k.toNat : Int)) : c = k := UInt8.toNat_inj.1 (by omega)
theorem spR_first (t : List UInt8) : (spR (pn t 0)).getD 0 (-1) = 92 ∨ (t = [] ∧ spR (pn t 0) = []) ∨ ∃ c v, t = c :: v ∧ ((128 ≤ (spR (pn t 0)).getD 0 (-1)) ∨ ((spR (pn t 0)).getD 0 (-1) = (c.toNat : Int) ∧ spR (pn t 0) = (c.toNat : Int) :: spR (pn v 0))) := by
  cases t with
  | nil => exact .inr (.inl ⟨rfl, by rw [pn_out [] 0 (by simp)]; rfl⟩)
  | cons c v =>
    have hok := pn_okP (c :: v)
    obtain ⟨a, w, hp⟩ : ∃ a w, pn (c :: v) 0 = a :: w := ⟨_, _, pn_in (c :: v) 0 (by simp)⟩
    rw [hp] at hok ⊢
    have he : spR (a :: w) = sp a ++ spR w := by simp [spR]
    rw [he]
    rcases sp_first a (hok a (by simp)) (spR w) with h | ⟨h, hi, hs⟩
    · exact .inl h
    · by_cases ha : a < 128
      · obtain ⟨e1, e2⟩ := pn_head c v a w hp ha
        refine .inr (.inr ⟨c, v, rfl, .inr ⟨by rw [h, e1], ?_⟩⟩)
        rw [hs, e1, e2]; rfl
      · exact .inr (.inr ⟨c, v, rfl, .inl (by rw [h]; omega)⟩)
theorem dig_nDg (c : UInt8) (h : nDg (c.toNat : Int) = true) : dig c = true := by
  rw [nDg_iff] at h
  unfold dig
  simp; omega
theorem unit_stop (u : List UInt8) (h0 : u ≠ []) : begN (unitR u) = true ∧ stopN (unitR u) := by
  have hok := pn_okP u
  unfold unitR
  split
  · rename_i h3
    obtain ⟨c, t, rfl, hc⟩ := e3_parts u h3
    have hb : (byte (c :: t) 0 : Int) = (c.toNat : Int) := by rw [byte0]
    have hr : 0 ≤ (c.toNat : Int) ∧ (c.toNat : Int) < 256 := by have := c.toNat_lt; omega
    rw [hb]
    exact ⟨begN_num _ hr.1 hr.2 _, rfl, by show (92 : Int) ≠ 46; decide, rfl⟩
  · rename_i h3
    have hne := pn_ne u h0
    have hb := begN_spF (pn u 0) hok hne []
    rw [List.append_nil] at hb
    refine ⟨hb, ?_⟩
    have hn := numB_name _ hb
    obtain ⟨r, t, hrt, hc⟩ := begN_head _ hb
    have hr1 : nDg r = false ∧ r ≠ 46 := by
      rcases hc with h | rfl | ⟨rfl, _⟩
      · exact ⟨(nSt_far r h).1, (nSt_far r h).2.2.2.1⟩
      · exact ⟨rfl, by decide⟩
      · exact ⟨rfl, by decide⟩
    refine ⟨by rw [hrt]; exact hr1.1, by rw [hrt]; exact hr1.2, ?_⟩
    cases hx : expB (spF (pn u 0)) with
    | false => rfl
    | true =>
      exfalso
      unfold expB at hx
      simp only [Bool.and_eq_true, Bool.or_eq_true, decide_eq_true_eq] at hx
      obtain ⟨hx1, hx2⟩ := hx
      obtain ⟨a, w, hp⟩ : ∃ a w, pn u 0 = a :: w := by
        cases hh : pn u 0 with
        | nil => exact absurd hh hne
        | cons a w => exact ⟨a, w, rfl⟩
      have hoka := hok a (by rw [hp]; simp)
      have ha : a = 101 ∨ a = 69 := by
        rw [hp, spF_cons] at hx1
        split at hx1
        · rename_i hd
          have : (numN a ++ spR w).getD 0 (-1) = 92 := rfl
          rw [this] at hx1; omega
        · split at hx1
          · rename_i h45
            subst h45
            cases w with
            | nil => simp at hx1
            | cons b v =>
              simp only at hx1
              split at hx1 <;> simp at hx1
          · have he : spR (a :: w) = sp a ++ spR w := by simp [spR]
            rw [he] at hx1
            rcases sp_first a hoka (spR w) with h | ⟨h, _, _⟩
            · rw [h] at hx1; omega
            · rw [h] at hx1; exact hx1
      cases u with
      | nil => exact absurd rfl h0
      | cons c t =>
        obtain ⟨e1, e2⟩ := pn_head c t a w hp (by omega)
        have hcc : c = 101 ∨ c = 69 := by
          rcases ha with ha | ha
          · exact .inl (u8_int c 101 (by rw [← e1, ha]; rfl))
          · exact .inr (u8_int c 69 (by rw [← e1, ha]; rfl))
        have hsp : spF (pn (c :: t) 0) = a :: spR (pn t 0) := by
          rw [hp, spF_cons, if_neg (by rw [nDg_iff]; omega), if_neg (by omega), e2]
          have hs : sp a = [a] := by
            unfold sp
            rw [if_neg (by omega), if_pos (by rw [nIn_iff]; omega)]
          simp [spR, hs]
        rw [hsp] at hx2
        have hd : (a :: spR (pn t 0)).drop 1 = spR (pn t 0) := rfl
        rw [hd] at hx2
        have hg : ∀ k, (a :: spR (pn t 0)).getD (1 + k) (-1) = (spR (pn t 0)).getD k (-1) := fun k => by rw [Nat.add_comm]; rfl
        rw [hg] at hx2
        apply h3
        unfold e3
        simp only [Bool.and_eq_true, Bool.or_eq_true, decide_eq_true_eq]
        refine ⟨by simpa using hcc, ?_⟩
        rcases spR_first t with h | ⟨h, h2⟩ | ⟨d, v, rfl, h⟩
        · have hs : sgN (spR (pn t 0)) = 0 := by unfold sgN; rw [h]; rfl
          rw [hs, h] at hx2; simp [nDg] at hx2
        · rw [h2] at hx2; simp [nDg, sgN] at hx2
        · rcases h with h | ⟨h, h2⟩
          · have hs : sgN (spR (pn (d :: v) 0)) = 0 := by unfold sgN; rw [if_neg (by omega)]
            rw [hs, nDg_iff] at hx2; omega
          · by_cases h45 : d = 45
            · subst h45
              have hs : sgN (spR (pn (45 :: v) 0)) = 1 := by unfold sgN; rw [h]; rfl
              rw [hs, h2] at hx2
              have hx3 : nDg ((spR (pn v 0)).getD 0 (-1)) = true := hx2
              rcases spR_first v with k | ⟨_, k2⟩ | ⟨x, y, rfl, k⟩
              · rw [k] at hx3; simp [nDg] at hx3
              · rw [k2] at hx3; simp [nDg] at hx3
              · rcases k with k | ⟨k, _⟩
                · rw [nDg_iff] at hx3; omega
                · rw [k] at hx3
                  have := dig_nDg x hx3
                  simpa using this
            · by_cases h43 : d = 43
              · -- a plus is never written bare
                subst h43
                exfalso
                have hok2 := pn_okP (43 :: v)
                have hp2 := pn_ascii 43 v (by decide) (by decide)
                rw [hp2] at h2
                have : spR (((43 : UInt8).toNat : Int) :: pn v 0) = [92, 43] ++ spR (pn v 0) := by
                  have : sp ((43 : UInt8).toNat : Int) = [92, 43] := by decide +kernel
                  show sp _ ++ spR (pn v 0) = _
                  rw [this]
                rw [this] at h2
                simp at h2
              · have hs : sgN (spR (pn (d :: v) 0)) = 0 := by
                  unfold sgN
                  rw [h, if_neg]
                  rintro (hh | hh)
                  · exact h43 (u8_int d 43 (by rw [hh]; rfl))
                  · exact h45 (u8_int d 45 (by rw [hh]; rfl))
                rw [hs, h] at hx2
                have := dig_nDg d hx2
                simp [h45]; exact this
theorem unit_take (u : List UInt8) (h0 : u ≠ []) : takeN (unitR u) = (pn u 0, (unitR u).length) := by
  have hok := pn_okP u
  unfold unitR
  split
  · rename_i h3
    obtain ⟨c, t, rfl, hc⟩ := e3_parts u h3
    have hb : (byte (c :: t) 0 : Int) = (c.toNat : Int) := by rw [byte0]
    have hcr : 1 ≤ (c.toNat : Int) ∧ (c.toNat : Int) < 128 := by rcases hc with rfl | rfl <;> decide
    have hp := pn_ascii c t (by omega) (by omega)
    rw [hb, List.drop_succ_cons, List.drop_zero, takeN_num _ hcr.1 hcr.2]
    have h2 := takeN_spR (pn t 0) (pn_okP t) []
    rw [takeN_nil] at h2
    simp only [List.append_nil, Nat.add_zero] at h2
    rw [h2, hp]
    simp
  · have h2 := takeN_spF (pn u 0) hok []
    rw [takeN_nil] at h2
    simp only [List.append_nil, Nat.add_zero] at h2
    exact h2
theorem unit_okr (u : List UInt8) : ∀ c ∈ unitR u, Okr c := by
  unfold unitR
  split
  · rename_i h3
    obtain ⟨c, t, rfl, hc⟩ := e3_parts u h3
    have hb : (byte (c :: t) 0 : Int) = (c.toNat : Int) := by rw [byte0]
    rw [hb]
    intro x hx
    rcases List.mem_append.1 hx with hx | hx
    · exact numN_okr _ (by omega) (by have := c.toNat_lt; omega) x hx
    · exact spR_okr _ (pn_okP _) x hx
  · exact spF_okr _ (pn_okP u)
theorem stop_nil : stopN [] := ⟨rfl, by decide, rfl⟩
theorem stop_37 : stopN [37] := ⟨rfl, by decide, rfl⟩
/-- The token of a text that begins as a number that is written. -/
theorem numS_tks (n : NumV) (whole sign : Bool) (T : List UInt8) (hT : numS n whole sign = T) (h0 : T ≠ []) (hs : ¬ (sign = true ∧ n.1 = true)) (R : List Int) (hR : stopN R) (hok : ∀ r ∈ R, Okr r) (t : CT)
    (ht : (if begN R then (({ kind := 12, num := n, flag := whole, sign := sign, unit := encZs (takeN R).1 } : CT), T.length + (takeN R).2)
      else if R.getD 0 (-1) = 37 then ({ kind := 11, num := n, flag := whole, sign := sign }, T.length + 1) else ({ kind := 10, num := n, flag := whole, sign := sign }, T.length)) = (t, T.length + R.length)) :
    (tksC (rn (T ++ encZs R) 0)).map Prod.fst = [t] := by
  obtain ⟨hpl, hk⟩ := numS_tk n whole sign T hT h0 hs R hR
  rw [ht] at hk
  refine one_tk _ (asI T ++ R) t (by simp [h0]) ?_ (by rw [hk]; simp [asI])
  rw [rn_plain_join T _ hpl, List.map_append, rn_plain T hpl, List.map_map]
  congr 1
  exact rn_encZs R hok
theorem onlyT_num (t : CT) (h : t = onlyT t) (hk : isNum t.kind) : t = { kind := t.kind, num := t.num, flag := t.flag, sign := t.sign, unit := if t.kind = 12 then t.unit else [] } := by
  conv => lhs; rw [h]
  unfold onlyT
  rw [if_pos hk]
theorem num_ok (t : CT) (h : t = onlyT t) (hk : isNum t.kind) (h0 : numS t.num t.flag t.sign ≠ []) (hs : ¬ (t.sign = true ∧ t.num.1 = true)) (hu : t.kind = 12 → t.unit ≠ [] ∧ cleanS t.unit = true) : numOk t = true := by
  unfold numOk
  simp only [Bool.and_eq_true, decide_eq_true_eq]
  refine ⟨⟨h0, ?_⟩, ?_⟩
  · cases h1 : t.sign with
    | false => rfl
    | true =>
      cases h2 : t.num.1 with
      | false => rfl
      | true => exact absurd ⟨h1, h2⟩ hs
  · have e := onlyT_num t h hk
    obtain ⟨k, text, unit, num, flag, sign⟩ := t
    simp only at e hk h0 hs hu
    rw [e]
    rcases hk with rfl | rfl | rfl
    · refine back_no _ rfl rfl ?_
      have := numS_tks num flag sign _ rfl h0 hs [] stop_nil (by simp) _ rfl
      rw [encZs_nil, List.append_nil] at this
      exact this
    · refine back_no _ rfl rfl ?_
      have := numS_tks num flag sign _ rfl h0 hs [37] stop_37 (by decide) _ rfl
      rw [show encZs [37] = [37] by decide +kernel] at this
      exact this
    · refine back_no _ rfl rfl ?_
      obtain ⟨hu1, hu2⟩ := hu rfl
      obtain ⟨b1, b2⟩ := unit_stop unit hu1
      have b3 := unit_take unit hu1
      have := numS_tks num flag sign _ rfl h0 hs (unitR unit) b2 (unit_okr unit) { kind := 12, num := num, flag := flag, sign := sign, unit := unit } (by rw [if_pos b1, b3]; simp only; rw [clean_self unit hu2])
      rw [unitR_enc] at this
      exact this
/-- A number with a unit may be. -/
theorem dim_right (n : NumV) (hr : rightN n.2.1 n.2.2 = true) (u : List UInt8) (h0 : u ≠ []) (hu : cleanS u = true) : rightT { kind := 12, num := n, unit := u } = true := by
  have hT : numS n false false ≠ [] := by
    unfold numS
    rw [if_pos hr]
    have := (short_pe n.2.1 n.2.2 hr).2
    simp only [Bool.false_eq_true, if_false]
    unfold sgS
    rw [if_neg this]
    split <;> simp [this]
  have ho : ({ kind := 12, num := n, unit := u } : CT) = onlyT { kind := 12, num := n, unit := u } := by
    unfold onlyT
    rw [if_pos (.inr (.inr rfl))]
    simp
  have hk := num_ok _ ho (.inr (.inr rfl)) hT (by simp) (fun _ => ⟨h0, hu⟩)
  unfold rightT
  simp only [Bool.and_eq_true, decide_eq_true_eq]
  refine ⟨⟨⟨by decide +kernel, hu⟩, ho⟩, ?_⟩
  unfold rightK
  simp [h0, hk]
end Go.Proofs.YtbmfoedglhfcaaaGreatDoor.M
