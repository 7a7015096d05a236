/- Plain numbers and lists: the numbers of chapter 5, read. -/
import Derived.Test.YtfclkackfamdlaaGreatDoorDMath6
namespace Go.Proofs.YtfclkackfamdlaaGreatDoor.M
set_option linter.unusedVariables false
set_option linter.unusedSimpArgs false

/-- A sign is cut off: is it a minus, and what is left. -/
def csign (s : List UInt8) : Bool × List UInt8 := if s.head? = some 43 then (false, s.tail) else (isNeg s, unsign s)
def dg (s : List UInt8) : List UInt8 := s.takeWhile dig
def rs (s : List UInt8) : List UInt8 := s.dropWhile dig
abbrev Parts := Bool × List UInt8 × List UInt8 × Bool × Bool × List UInt8
def zeroP : Parts := (false, [], [], false, false, [])
/-- What stands behind the digits, and the point. -/
def divE (n : Bool) (w f s : List UInt8) : Parts × Bool :=
  if s.head? = some 101 ∨ s.head? = some 69 then
    ((n, w, f, true, (csign s.tail).1, dg (csign s.tail).2), (rs (csign s.tail).2).isEmpty && !(dg (csign s.tail).2).isEmpty)
  else ((n, w, f, false, false, []), s.isEmpty)
/-- The parts of a number's text, and is it one? -/
def divW (s : List UInt8) : Parts × Bool :=
  if (rs (csign s).2).head? = some 46 then
    if dg (rs (csign s).2).tail = [] then (zeroP, false) else divE (csign s).1 (dg (csign s).2) (dg (rs (csign s).2).tail) (rs (rs (csign s).2).tail)
  else if dg (csign s).2 = [] then (zeroP, false) else divE (csign s).1 (dg (csign s).2) [] (rs (csign s).2)
def rstrip (l : List UInt8) : List UInt8 := (l.reverse.dropWhile (· == 48)).reverse
def expV (p : Parts) : Int := if p.2.2.2.2.1 then -(dval p.2.2.2.2.2 : Int) else dval p.2.2.2.2.2
/-- Digits times ten to a power, with no noughts at either end. -/
def norm (L : List UInt8) (e : Int) : List UInt8 × List UInt8 :=
  if rstrip (strip L) = [] then ([], []) else (rstrip (strip L), txt (e + ((strip L).length - (rstrip (strip L)).length - (0 : Int))))
abbrev NumV := Bool × List UInt8 × List UInt8
/-- Which number a text is. -/
def readN (s : List UInt8) : NumV × Bool :=
  if (divW s).2 then (((divW s).1.1, norm ((divW s).1.2.1 ++ (divW s).1.2.2.1) (expV (divW s).1 - (divW s).1.2.2.1.length)), true) else ((false, [], []), false)
/-- The same, off the number. -/
def nz (v : Nat) (e : Int) : List UInt8 × List UInt8 := if h0 : v = 0 then ([], []) else if v % 10 = 0 then nz (v / 10) (e + 1) else (canon v, txt e)
theorem nz_zero (e : Int) : nz 0 e = ([], []) := by rw [nz, dif_pos rfl]
theorem nz_ten (v : Nat) (e : Int) : nz (10 * v) e = nz v (e + 1) := by
  by_cases h : v = 0
  · subst h; rw [Nat.mul_zero, nz_zero, nz_zero]
  · rw [nz, dif_neg (by omega), if_pos (by omega), show 10 * v / 10 = v by omega]
theorem nz_pow (k : Nat) : ∀ (v : Nat) (e : Int), nz (v * 10 ^ k) e = nz v (e + k) := by
  induction k with
  | zero => intro v e; simp
  | succ k ih =>
    intro v e
    rw [show v * 10 ^ (k + 1) = 10 * (v * 10 ^ k) by rw [Nat.pow_succ]; rw [← Nat.mul_assoc, Nat.mul_comm]]
    rw [nz_ten, ih]
    congr 1; omega
theorem nz_core (m : Nat) (e : Int) (h : m % 10 ≠ 0) : nz m e = (canon m, txt e) := by
  rw [nz, dif_neg (by intro h0; subst h0; exact h rfl), if_neg h]
theorem core_ex (v : Nat) (h : v ≠ 0) : ∃ m k, m % 10 ≠ 0 ∧ v = m * 10 ^ k := by
  induction v using Nat.strongRecOn with
  | ind v ih =>
    by_cases h1 : v % 10 = 0
    · obtain ⟨m, k, hm, hv⟩ := ih (v / 10) (by omega) (by omega)
      refine ⟨m, k + 1, hm, ?_⟩
      rw [Nat.pow_succ, ← Nat.mul_assoc, ← hv]; omega
    · exact ⟨v, 0, h1, by simp⟩
theorem canon_inj (a b : Nat) (h : canon a = canon b) : a = b := by
  have := congrArg dval h
  rwa [dval_canon, dval_canon] at this
theorem txt_inj (a b : Int) (h : txt a = txt b) : a = b := by
  have := congrArg valD h
  rwa [(val_txt a).1, (val_txt b).1] at this
/-- Two are one just if they are worth the same. -/
theorem nz_eq (a b N : Nat) (i k : Nat) : nz a ((i : Int) - N) = nz b ((k : Int) - N) ↔ a * 10 ^ i = b * 10 ^ k := by
  have key : ∀ (a i : Nat), nz a ((i : Int) - N) = nz (a * 10 ^ i) (-(N : Int)) := fun a i => by rw [nz_pow]; congr 1; omega
  rw [key, key]
  constructor
  · intro h
    obtain ⟨x, hx⟩ : ∃ x, a * 10 ^ i = x := ⟨_, rfl⟩
    obtain ⟨y, hy⟩ : ∃ x, b * 10 ^ k = x := ⟨_, rfl⟩
    rw [hx, hy] at h ⊢
    by_cases h0 : x = 0
    · subst h0
      rw [nz_zero] at h
      by_cases h1 : y = 0
      · exact h1.symm
      · obtain ⟨m, j, hm, rfl⟩ := core_ex y h1
        rw [nz_pow, nz_core _ _ hm] at h
        simp only [Prod.mk.injEq] at h
        exact absurd h.1.symm (canon_ne m (by intro h0; subst h0; exact hm rfl))
    · obtain ⟨m, j, hm, rfl⟩ := core_ex x h0
      by_cases h1 : y = 0
      · subst h1
        rw [nz_zero, nz_pow, nz_core _ _ hm] at h
        simp only [Prod.mk.injEq] at h
        exact absurd h.1 (canon_ne m (by intro h0; subst h0; exact hm rfl))
      · obtain ⟨m', j', hm', rfl⟩ := core_ex y h1
        rw [nz_pow, nz_pow, nz_core _ _ hm, nz_core _ _ hm'] at h
        simp only [Prod.mk.injEq] at h
        have e1 := canon_inj _ _ h.1
        have e2 := txt_inj _ _ h.2
        rw [e1, show j = j' by omega]
  · intro h; rw [h]
theorem rstrip_snoc (l : List UInt8) (c : UInt8) : rstrip (l ++ [c]) = if c = 48 then rstrip l else l ++ [c] := by
  unfold rstrip
  rw [List.reverse_append]
  by_cases h : c = 48
  · subst h; simp
  · rw [if_neg h]; simp [List.dropWhile_cons, h]
theorem canon_zeros (v : Nat) (k : Nat) : v ≠ 0 → canon (v * 10 ^ k) = canon v ++ List.replicate k 48 := by
  intro h
  induction k with
  | zero => simp
  | succ k ih =>
    rw [canon_pos _ (Nat.mul_ne_zero h (Nat.pos_iff_ne_zero.1 (Nat.pow_pos (by omega)))), show v * 10 ^ (k + 1) = 10 * (v * 10 ^ k) by rw [Nat.pow_succ, ← Nat.mul_assoc, Nat.mul_comm],
      show 10 * (v * 10 ^ k) / 10 = v * 10 ^ k by omega, ih, List.replicate_succ', List.append_assoc]
    congr 2
    simp [ofD, show (10 * (v * 10 ^ k)) % 10 = 0 by omega]
theorem rstrip_zeros (l : List UInt8) (k : Nat) : rstrip (l ++ List.replicate k 48) = rstrip l := by
  induction k with
  | zero => simp
  | succ k ih => rw [List.replicate_succ', ← List.append_assoc, rstrip_snoc, if_pos rfl, ih]
theorem rstrip_core (m : Nat) (h : m % 10 ≠ 0) : rstrip (canon m) = canon m := by
  rw [canon_pos m (by intro h0; subst h0; exact h rfl), rstrip_snoc, if_neg]
  intro e
  have := congrArg UInt8.toNat e
  rw [ofD_nat] at this
  simp at this; omega
theorem norm_nz (L : List UInt8) (e : Int) (h : ∀ c ∈ L, dig c = true) : norm L e = nz (dval L) e := by
  unfold norm
  rw [strip_canon L h]
  by_cases h0 : dval L = 0
  · rw [h0, canon_zero, nz_zero, if_pos (by rfl)]
  · obtain ⟨m, k, hm, hv⟩ := core_ex _ h0
    have hm0 : m ≠ 0 := by intro h0; subst h0; exact hm rfl
    rw [hv, nz_pow, nz_core _ _ hm, canon_zeros m k hm0, rstrip_zeros, rstrip_core m hm, if_neg (canon_ne m hm0)]
    simp only [List.length_append, List.length_replicate]
    congr 2
    omega
theorem dg_app (W R : List UInt8) (hW : ∀ c ∈ W, dig c = true) (hR : ∀ c, R.head? = some c → dig c = false) : dg (W ++ R) = W ∧ rs (W ++ R) = R := by
  unfold dg rs
  induction W with
  | nil =>
    cases R with
    | nil => exact ⟨rfl, rfl⟩
    | cons c t => have := hR c rfl; simp [List.takeWhile_cons, List.dropWhile_cons, this]
  | cons c W ih =>
    have h1 := hW c (by simp)
    have h2 := ih (fun x hx => hW x (by simp [hx]))
    simp [List.takeWhile_cons, List.dropWhile_cons, h1, h2]
theorem dg_dig (s : List UInt8) : ∀ c ∈ dg s, dig c = true := by
  intro c hc
  unfold dg at hc
  induction s with
  | nil => simp at hc
  | cons a s ih =>
    rw [List.takeWhile_cons] at hc
    split at hc
    · rename_i h; rcases List.mem_cons.1 hc with rfl | hc
      · exact h
      · exact ih hc
    · simp at hc
theorem dg_rs (s : List UInt8) : dg s ++ rs s = s := List.takeWhile_append_dropWhile
theorem rs_head (s : List UInt8) : ∀ c, (rs s).head? = some c → dig c = false := by
  intro c hc
  unfold rs at hc
  induction s with
  | nil => simp at hc
  | cons a s ih =>
    rw [List.dropWhile_cons] at hc
    split at hc
    · exact ih hc
    · rename_i h; simp at hc; subst hc; simpa using h
theorem txt_cases (z : Int) : (0 ≤ z ∧ txt z = decS z.natAbs) ∨ (z < 0 ∧ txt z = 45 :: decS z.natAbs) := by
  rcases Int.lt_or_le z 0 with h | h
  · right; refine ⟨h, ?_⟩
    have := txt_minus z.natAbs (by omega)
    rwa [show -(z.natAbs : Int) = z by omega] at this
  · left; refine ⟨h, ?_⟩
    have := txt_nat z.natAbs
    rwa [show ((z.natAbs : Nat) : Int) = z by omega] at this
theorem decS_dig (n : Nat) : ∀ c ∈ decS n, dig c = true := by
  unfold decS; split
  · intro c hc; simp at hc; subst hc; decide
  · exact canon_dig n
theorem dval_decS (n : Nat) : dval (decS n) = n := by
  unfold decS; split
  · rename_i h; subst h; decide
  · exact dval_canon n
theorem csign_dig (s : List UInt8) (h : ∀ c, s.head? = some c → dig c = true ∨ c = 46) : csign s = (false, s) := by
  unfold csign
  have n43 : s.head? ≠ some 43 := fun e => by rcases h _ e with h | h <;> exact absurd h (by decide)
  have n45 : s.head? ≠ some 45 := fun e => by rcases h _ e with h | h <;> exact absurd h (by decide)
  rw [if_neg n43]
  unfold isNeg unsign
  rw [if_neg n45]
  simp [n45]
theorem csign_minus (s : List UInt8) : csign (45 :: s) = (true, s) := by
  unfold csign
  rw [if_neg (by simp)]
  unfold isNeg unsign
  simp
theorem csign_plus (s : List UInt8) : csign (43 :: s) = (false, s) := by
  unfold csign; simp
theorem csign_txt (z : Int) : csign (txt z) = (decide (z < 0), decS z.natAbs) := by
  rcases txt_cases z with ⟨h, e⟩ | ⟨h, e⟩
  · rw [e, csign_dig _ (fun c hc => .inl (decS_dig _ c (by cases hd : decS z.natAbs with | nil => rw [hd] at hc; simp at hc | cons a t => rw [hd] at hc; simp at hc; subst hc; simp)))]
    simp; omega
  · rw [e, csign_minus]; simp [h]
theorem expV_txt (n : Bool) (w f : List UInt8) (b : Bool) (z : Int) : expV (n, w, f, b, decide (z < 0), decS z.natAbs) = z := by
  unfold expV
  simp only [dval_decS]
  by_cases h : z < 0
  · simp [h]; omega
  · simp [h]; omega
/-- What comes behind the digits. -/
def ExpAt (E : List UInt8) (X : Int) : Prop := (E = [] ∧ X = 0) ∨ ∃ c, (c = 101 ∨ c = 69) ∧ E = c :: txt X
theorem divE_at (n : Bool) (w f E : List UInt8) (X : Int) (h : ExpAt E X) : ∃ p, divE n w f E = ((n, w, f, p), true) ∧ expV (n, w, f, p) = X := by
  rcases h with ⟨rfl, rfl⟩ | ⟨c, hc, rfl⟩
  · refine ⟨(false, false, []), by unfold divE; simp, by unfold expV; rfl⟩
  · have h1 : (c :: txt X).head? = some 101 ∨ (c :: txt X).head? = some 69 := by rcases hc with rfl | rfl <;> simp
    have h2 := csign_txt X
    obtain ⟨h3, h4⟩ := dg_app (decS X.natAbs) [] (decS_dig _) (by simp)
    rw [List.append_nil] at h3 h4
    refine ⟨(true, decide (X < 0), decS X.natAbs), ?_, expV_txt _ _ _ _ _⟩
    unfold divE
    rw [if_pos h1]
    simp only [List.tail_cons, h2, h3, h4]
    simp [decS_ne]
theorem expAt_head (E : List UInt8) (X : Int) (h : ExpAt E X) : ∀ c, E.head? = some c → dig c = false ∧ c ≠ 46 := by
  rcases h with ⟨rfl, rfl⟩ | ⟨d, hd, rfl⟩
  · simp
  · intro c hc; simp at hc; subst hc; rcases hd with rfl | rfl <;> decide
/-- A text of that form is that number. -/
theorem read_form (sg : List UInt8) (ng : Bool) (hs : (sg = [] ∧ ng = false) ∨ (sg = [45] ∧ ng = true) ∨ (sg = [43] ∧ ng = false)) (W F P E : List UInt8) (X : Int) (hW : ∀ c ∈ W, dig c = true) (hF : ∀ c ∈ F, dig c = true)
    (hP : (P = [] ∧ F = [] ∧ W ≠ []) ∨ (P = 46 :: F ∧ F ≠ [])) (hE : ExpAt E X) :
    readN (sg ++ (W ++ (P ++ E))) = ((ng, nz (dval (W ++ F)) (X - F.length)), true) := by
  have hc : csign (sg ++ (W ++ (P ++ E))) = (ng, W ++ (P ++ E)) := by
    rcases hs with ⟨rfl, rfl⟩ | ⟨rfl, rfl⟩ | ⟨rfl, rfl⟩
    · rw [List.nil_append]
      apply csign_dig
      intro c hc
      cases W with
      | cons a t => simp at hc; subst hc; exact .inl (hW _ (by simp))
      | nil =>
        rcases hP with ⟨_, _, h⟩ | ⟨rfl, _⟩
        · exact absurd rfl h
        · simp at hc; exact .inr hc.symm
    · exact csign_minus _
    · exact csign_plus _
  have hd : dg (W ++ (P ++ E)) = W ∧ rs (W ++ (P ++ E)) = P ++ E := by
    apply dg_app _ _ hW
    intro c hc
    rcases hP with ⟨rfl, _⟩ | ⟨rfl, _⟩
    · rw [List.nil_append] at hc; exact (expAt_head E X hE c hc).1
    · simp at hc; subst hc; decide
  have hfin : ∃ p, divW (sg ++ (W ++ (P ++ E))) = ((ng, W, F, p), true) ∧ expV (ng, W, F, p) = X := by
    unfold divW
    rw [hc]
    simp only [hd.1, hd.2]
    rcases hP with ⟨rfl, rfl, hne⟩ | ⟨rfl, hne⟩
    · rw [List.nil_append, if_neg (fun e => (expAt_head E X hE _ e).2 rfl), if_neg hne]
      exact divE_at _ _ _ _ _ hE
    · have h2 := dg_app F E hF (fun c hc => (expAt_head E X hE c hc).1)
      rw [if_pos (by simp)]
      simp only [List.cons_append, List.tail_cons, h2.1, h2.2]
      rw [if_neg hne]
      exact divE_at _ _ _ _ _ hE
  obtain ⟨p, h1, h2⟩ := hfin
  unfold readN
  rw [h1]
  simp only [h2, if_true]
  rw [norm_nz _ _ (by intro c hc; exact (List.mem_append.1 hc).elim (hW c) (hF c))]
end Go.Proofs.YtfclkackfamdlaaGreatDoor.M
