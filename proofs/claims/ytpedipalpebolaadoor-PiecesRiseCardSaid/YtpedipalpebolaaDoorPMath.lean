/- Plain numbers and lists: pieces, and the segments that they come to. Nothing of the program is imported. -/
import Derived.Test.YtpedipalpebolaaDoorLMath3
namespace Go.Proofs.YtpedipalpebolaaDoor.M

theorem pdec_low (c : UInt8) (t : List UInt8) (h : c.toNat < 128) : dec (c :: t) = (c.toNat, 1) := by
  unfold dec byte Go.Lib.decodeN
  simp [h]
theorem punits_low (r : Nat) (h : r < 65536) : unitsOf r = 1 := by unfold unitsOf; rw [if_neg (by omega)]
theorem pat_cons (pre : List UInt8) (c : UInt8) (t : List UInt8) : byte (pre ++ c :: t) pre.length = c.toNat := by rw [byte_at]; simp [byte]
theorem pat_next (pre : List UInt8) (c : UInt8) (t : List UInt8) : byte (pre ++ c :: t) (pre.length + 1) = byte t 0 := by
  unfold byte
  simp [List.getD, List.getElem?_append_right]
def PNoLF (t : List UInt8) : Prop := t = [] ∨ byte t 0 ≠ 10
theorem pstep_plain (pre : List UInt8) (c : UInt8) (t : List UInt8) (k col : Nat) (h : c.toNat < 128) (h1 : c.toNat ≠ 10) (h2 : c.toNat ≠ 13 ∨ (t ≠ [] ∧ byte t 0 = 10)) :
    stepP (pre ++ c :: t) (pre.length, k, col) = ((pre ++ [c]).length, k, col + 1) := by
  have he : endsAt (pre ++ c :: t) pre.length = false := by
    unfold endsAt
    rw [pat_cons]
    rcases h2 with h2 | ⟨h2, h3⟩
    · rw [if_neg h2, beq_eq_false_iff_ne]; exact h1
    · by_cases h13 : c.toNat = 13
      · rw [if_pos h13, pat_next, h3]
        have : 0 < t.length := List.length_pos_iff.2 h2
        rw [Bool.or_eq_false_iff]
        refine ⟨?_, by simp⟩
        rw [beq_eq_false_iff_ne]; simp; omega
      · rw [if_neg h13, beq_eq_false_iff_ne]; exact h1
  unfold stepP
  simp only [he]
  rw [List.drop_left, pdec_low c t h, punits_low _ (by omega)]
  simp
theorem pstep_end (pre : List UInt8) (c : UInt8) (t : List UInt8) (k col : Nat) (h : c.toNat = 10 ∨ (c.toNat = 13 ∧ PNoLF t)) :
    stepP (pre ++ c :: t) (pre.length, k, col) = ((pre ++ [c]).length, k + 1, 0) := by
  have he : endsAt (pre ++ c :: t) pre.length = true := by
    unfold endsAt
    rw [pat_cons]
    rcases h with h | ⟨h, h3⟩
    · rw [if_neg (by omega), h]; rfl
    · rw [if_pos h, pat_next]
      rcases h3 with h3 | h3
      · subst h3; simp
      · rw [Bool.or_eq_true]; right; simpa using h3
  unfold stepP
  simp only [he, if_true]
  rw [List.drop_left, pdec_low c t (by omega)]
  simp

/-- The reading stands there. -/
def Rch (l : List UInt8) (f o k c : Nat) : Prop := l.length ≤ o + f ∧ ∀ t, o ≤ t → goP l l.length t (0, 0, 0) = goP l f t (o, k, c)
theorem Rch.start (l : List UInt8) : Rch l l.length 0 0 0 := ⟨by omega, fun _ _ => rfl⟩
theorem Rch.at {l : List UInt8} {f o k c : Nat} (h : Rch l f o k c) : atP l o = (k, c) := by
  unfold atP
  rw [h.2 o (Nat.le_refl _), goP_stop l f o (o, k, c) (Nat.le_refl _)]
theorem Rch.step {l : List UInt8} {f o k c o2 k2 c2 : Nat} (h : Rch l f o k c) (ho : o < l.length) (hs : stepP l (o, k, c) = (o2, k2, c2)) : Rch l (f - 1) o2 k2 c2 := by
  have h1 := stepP_off l (o, k, c)
  rw [hs] at h1
  simp only at h1
  have h2 := h.1
  refine ⟨by omega, fun t ht => ?_⟩
  rw [h.2 t (by omega), goP_step l f t (o, k, c) (by simp only; omega) (by omega), hs]
/-- Within what is read at once, all places are the one behind it. -/
theorem Rch.within {l : List UInt8} {f o k c o2 k2 c2 : Nat} (h : Rch l f o k c) (ho : o < l.length) (hs : stepP l (o, k, c) = (o2, k2, c2)) (t : Nat) (h1 : o < t) (h2 : t ≤ o2) : atP l t = (k2, c2) := by
  have h3 := h.1
  unfold atP
  rw [h.2 t (by omega), goP_step l f t (o, k, c) h1 (by omega), hs, goP_stop l _ t (o2, k2, c2) h2]
theorem goP_fuel (l : List UInt8) (f g t : Nat) (s : Nat × Nat × Nat) (hf : t ≤ s.1 + f) (hg : t ≤ s.1 + g) : goP l f t s = goP l g t s := by
  induction f generalizing g s with
  | zero => rw [goP_stop l 0 t s (by omega), goP_stop l g t s (by omega)]
  | succ f ih =>
    by_cases h : s.1 < t
    · have h1 := stepP_off l s
      rw [goP_step l _ t s h (by omega), goP_step l g t s h (by omega)]
      exact ih _ _ (by omega) (by omega)
    · rw [goP_stop l _ t s (by omega), goP_stop l g t s (by omega)]

abbrev Pcs := List (List UInt8 × Int)
abbrev Sg := Nat × Nat × Nat × Nat
def textP (L : Pcs) : List UInt8 := L.flatMap (·.1)
def okP (src : List UInt8) (p : List UInt8 × Int) : Bool := !p.1.isEmpty && decide (0 ≤ p.2) && decide (p.2 ≤ (src.length : Int))
def segOf (all src : List UInt8) (a : Nat) (p : List UInt8 × Int) : Sg := ((atP all a).1, (atP all a).2, (atP src p.2.toNat).1, (atP src p.2.toNat).2)
def segsP (all src : List UInt8) : Nat → Pcs → List Sg
  | _, [] => []
  | a, p :: r => if okP src p then segOf all src a p :: segsP all src (a + p.1.length) r else segsP all src (a + p.1.length) r
theorem textP_cons (p : List UInt8 × Int) (r : Pcs) : textP (p :: r) = p.1 ++ textP r := rfl
theorem textP_append (a b : Pcs) : textP (a ++ b) = textP a ++ textP b := by simp [textP]
theorem textP_take_le (L : Pcs) (i : Nat) : (textP (L.take i)).length ≤ (textP L).length := by
  have e : textP L = textP (L.take i) ++ textP (L.drop i) := by rw [← textP_append, List.take_append_drop]
  rw [e, List.length_append]; omega
theorem textP_take_succ (L : Pcs) (i : Nat) (h : i < L.length) : textP (L.take (i + 1)) = textP (L.take i) ++ (L[i]).1 := by
  rw [List.take_succ_eq_append_getElem h, textP_append]; simp [textP]
theorem segsP_append (all src : List UInt8) (L K : Pcs) (a : Nat) : segsP all src a (L ++ K) = segsP all src a L ++ segsP all src (a + (textP L).length) K := by
  induction L generalizing a with
  | nil => simp [segsP, textP]
  | cons p r ih =>
    simp only [List.cons_append, segsP, textP_cons, List.length_append, ih, Nat.add_assoc]
    split <;> simp
theorem segsP_take_succ (all src : List UInt8) (L : Pcs) (i : Nat) (h : i < L.length) :
    segsP all src 0 (L.take (i + 1)) = segsP all src 0 (L.take i) ++ if okP src L[i] then [segOf all src (textP (L.take i)).length L[i]] else [] := by
  rw [List.take_succ_eq_append_getElem h, segsP_append, Nat.zero_add]
  congr 1
theorem segsP_len (all src : List UInt8) (L : Pcs) (a : Nat) : (segsP all src a L).length = (L.filter (okP src)).length := by
  induction L generalizing a with
  | nil => rfl
  | cons p r ih =>
    unfold segsP
    rw [List.filter_cons]
    split <;> simp [ih]
theorem segsP_le (all src : List UInt8) (L : Pcs) (a : Nat) : (segsP all src a L).length ≤ L.length := by
  rw [segsP_len]; exact List.length_filter_le _ _
theorem atP_small (l : List UInt8) (t : Nat) (ht : t ≤ l.length) : (atP l t).1 ≤ l.length ∧ (atP l t).2 ≤ 2 * l.length := goP_small l _ t _ (by simp) ht (by simp) (by simp)

theorem segs_small (all src : List UInt8) (L : Pcs) (a : Nat) (h : a + (textP L).length ≤ all.length) : ∀ s ∈ segsP all src a L, s.1 ≤ all.length := by
  induction L generalizing a with
  | nil => simp [segsP]
  | cons p r ih =>
    rw [textP_cons, List.length_append] at h
    have h1 := ih (a + p.1.length) (by omega)
    have h2 := (atP_small all a (by omega)).1
    unfold segsP
    split
    · intro s hs
      rcases List.mem_cons.1 hs with rfl | hs
      · exact h2
      · exact h1 s hs
    · exact h1
/-- What the pieces of the law are made of. -/
def Word (x : List UInt8) : Prop := ∃ r rs, x = encs (r :: rs) ∧ ∀ y ∈ (r :: rs : List Nat), isCP (y : Int) = true
def Lt2 (a b : Nat × Nat) : Prop := a.1 < b.1 ∨ (a.1 = b.1 ∧ a.2 < b.2)
def pos (s : Sg) : Nat × Nat := (s.1, s.2.1)
theorem Lt2.of_le {a b c : Nat × Nat} (h : Lt2 a b) (k : Later b c) : Lt2 a c := by unfold Lt2 Later at *; omega
theorem Lt2.later {a b : Nat × Nat} (h : Lt2 a b) : Later a b := by unfold Lt2 Later at *; omega
theorem rch_enc (l post : List UInt8) (r f o k c : Nat) (hr : isCP (r : Int) = true) (h : Rch l f o k c) (hd : l.drop o = enc r ++ post) :
    ∃ f2 k2 c2, Rch l f2 (o + (enc r).length) k2 c2 ∧ Lt2 (k, c) (k2, c2) ∧ l.drop (o + (enc r).length) = post := by
  have hp := enc_pos r
  have ho : o < l.length := by
    have := congrArg List.length hd
    rw [List.length_drop, List.length_append] at this; omega
  have h2 : dec (l.drop o) = (r, wid r) := by rw [hd]; exact dec_enc r hr _
  obtain ⟨o2, k2, c2, hst⟩ : ∃ o2 k2 c2, stepP l (o, k, c) = (o2, k2, c2) := ⟨_, _, _, rfl⟩
  have h3 := stepP_strict l (o, k, c)
  rw [hst] at h3
  have h4 : o2 = o + (enc r).length := by
    rw [enc_len r hr]
    unfold stepP at hst
    simp only [h2] at hst
    split at hst <;> (simp only [Prod.mk.injEq] at hst; omega)
  subst h4
  exact ⟨f - 1, k2, c2, h.step ho hst, h3, by rw [← List.drop_drop, hd, List.drop_left]⟩
theorem rch_encs (l post : List UInt8) (rs : List Nat) (f o k c : Nat) (hr : ∀ y ∈ rs, isCP (y : Int) = true) (h : Rch l f o k c) (hd : l.drop o = encs rs ++ post) :
    ∃ f2 k2 c2, Rch l f2 (o + (encs rs).length) k2 c2 ∧ (rs ≠ [] → Lt2 (k, c) (k2, c2)) ∧ (rs = [] → (k, c) = (k2, c2)) ∧ l.drop (o + (encs rs).length) = post := by
  induction rs generalizing f o k c with
  | nil => exact ⟨f, k, c, by simpa [encs] using h, fun h => absurd rfl h, fun _ => rfl, by simpa [encs] using hd⟩
  | cons r rs ih =>
    have e : encs (r :: rs) = enc r ++ encs rs := by simp [encs]
    rw [e, List.append_assoc] at hd
    obtain ⟨f1, k1, c1, h1, h2, h3⟩ := rch_enc l _ r f o k c (hr r (by simp)) h hd
    obtain ⟨f2, k2, c2, h4, h5, h6, h7⟩ := ih f1 _ k1 c1 (fun y hy => hr y (by simp [hy])) h1 h3
    rw [e, List.length_append, ← Nat.add_assoc]
    refine ⟨f2, k2, c2, h4, fun _ => ?_, fun h => by simp at h, h7⟩
    by_cases hn : rs = []
    · rw [← h6 hn]; exact h2
    · exact h2.of_le (h5 hn).later
theorem segsP_rise (l src : List UInt8) (L : Pcs) (f a k c : Nat) (hw : ∀ p ∈ L, Word p.1) (h : Rch l f a k c) (hd : l.drop a = textP L) :
    (segsP l src a L).Pairwise (fun x y => Lt2 (pos x) (pos y)) ∧ ∀ s ∈ segsP l src a L, Later (k, c) (pos s) := by
  induction L generalizing f a k c with
  | nil => simp [segsP]
  | cons p r ih =>
    obtain ⟨q, qs, hq, hcp⟩ := hw p (by simp)
    rw [textP_cons, hq] at hd
    obtain ⟨f2, k2, c2, h1, h2, _, h3⟩ := rch_encs l _ (q :: qs) f a k c hcp h hd
    have h4 := h2 (by simp)
    obtain ⟨i1, i2⟩ := ih f2 _ k2 c2 (fun x hx => hw x (by simp [hx])) h1 h3
    have i3 : ∀ s ∈ segsP l src (a + (encs (q :: qs)).length) r, Lt2 (k, c) (pos s) := fun s hs => h4.of_le (i2 s hs)
    have hat := h.at
    have hs : pos (segOf l src a p) = (k, c) := by unfold pos segOf; rw [hat]
    unfold segsP
    rw [hq]
    split
    · refine ⟨List.pairwise_cons.2 ⟨fun y hy => ?_, i1⟩, fun s hs2 => ?_⟩
      · rw [hs]; exact i3 y hy
      · rcases List.mem_cons.1 hs2 with rfl | hs2
        · rw [hs]; exact Later.refl _
        · exact (i3 s hs2).later
    · exact ⟨i1, fun s hs => (i3 s hs).later⟩
/-- Segments of words rise. -/
theorem words_rise (src : List UInt8) (L : Pcs) (hw : ∀ p ∈ L, Word p.1) (i j : Nat) (hij : i < j) (hj : j < (segsP (textP L) src 0 L).length) :
    Lt2 (pos ((segsP (textP L) src 0 L)[i])) (pos ((segsP (textP L) src 0 L)[j])) := by
  have h := (segsP_rise (textP L) src L _ 0 0 0 hw (Rch.start _) rfl).1
  exact List.pairwise_iff_getElem.1 h i j _ hj hij

/-- What stands ahead turns but the offsets and lines. -/
theorem byte_pre (pre l : List UInt8) (p : Nat) : byte (pre ++ l) (pre.length + p) = byte l p := by
  unfold byte
  congr 1
  simp [List.getD, List.getElem?_append_right]
theorem endsAt_pre (pre l : List UInt8) (p : Nat) : endsAt (pre ++ l) (pre.length + p) = endsAt l p := by
  unfold endsAt
  rw [byte_pre, Nat.add_assoc, byte_pre, List.length_append]
  have : (pre.length + (p + 1) == pre.length + l.length) = (p + 1 == l.length) := by rw [Bool.eq_iff_iff]; simp
  rw [this]
def shP (m d : Nat) (s : Nat × Nat × Nat) : Nat × Nat × Nat := (m + s.1, s.2.1 + d, s.2.2)
theorem stepP_pre (pre l : List UInt8) (d : Nat) (s : Nat × Nat × Nat) : stepP (pre ++ l) (shP pre.length d s) = shP pre.length d (stepP l s) := by
  unfold stepP shP
  simp only
  rw [endsAt_pre]
  have hd : (pre ++ l).drop (pre.length + s.1) = l.drop s.1 := by rw [← List.drop_drop, List.drop_left]
  rw [hd]
  split <;> simp <;> omega
theorem goP_pre (pre l : List UInt8) (d f t : Nat) (s : Nat × Nat × Nat) : goP (pre ++ l) f (pre.length + t) (shP pre.length d s) = shP pre.length d (goP l f t s) := by
  induction f generalizing s with
  | zero => rfl
  | succ f ih =>
    by_cases h : s.1 < t
    · rw [goP_step _ _ _ _ (by unfold shP; simp only; omega) (by omega), goP_step l _ t s h (by omega), stepP_pre]
      exact ih _
    · rw [goP_stop _ _ _ _ (by unfold shP; simp only; omega), goP_stop l _ t s (by omega)]
theorem rch_plain (pre x post : List UInt8) (f k c : Nat) (hx : ∀ y ∈ x, y.toNat < 128 ∧ y.toNat ≠ 10 ∧ y.toNat ≠ 13) (h : Rch (pre ++ (x ++ 10 :: post)) f pre.length k c) :
    ∃ f2, Rch (pre ++ (x ++ 10 :: post)) f2 (pre.length + x.length + 1) (k + 1) 0 := by
  induction x generalizing pre f c with
  | nil =>
    simp only [List.nil_append] at h ⊢
    have hs := pstep_end pre 10 post k c (.inl rfl)
    rw [List.length_append] at hs
    exact ⟨f - 1, h.step (by simp) hs⟩
  | cons y x ih =>
    obtain ⟨y1, y2, y3⟩ := hx y (by simp)
    have hs := pstep_plain pre y (x ++ 10 :: post) k c y1 y2 (.inl y3)
    have h2 := h.step (by simp) hs
    have e : pre ++ (y :: x ++ 10 :: post) = (pre ++ [y]) ++ (x ++ 10 :: post) := by simp
    rw [e] at h2 ⊢
    obtain ⟨f2, h3⟩ := ih (pre ++ [y]) (f - 1) _ (fun z hz => hx z (by simp [hz])) h2
    refine ⟨f2, ?_⟩
    have e2 : (pre ++ [y]).length + x.length + 1 = pre.length + (y :: x).length + 1 := by simp; omega
    rwa [e2] at h3
theorem atP_ahead (x l : List UInt8) (hx : ∀ y ∈ x, y.toNat < 128 ∧ y.toNat ≠ 10 ∧ y.toNat ≠ 13) (t : Nat) (ht : t ≤ l.length) :
    atP ((x ++ [10]) ++ l) ((x ++ [10]).length + t) = ((atP l t).1 + 1, (atP l t).2) := by
  have e : (x ++ [10]) ++ l = [] ++ (x ++ 10 :: l) := by simp
  obtain ⟨f2, h⟩ := rch_plain [] x l _ 0 0 hx (Rch.start _)
  rw [← e] at h
  have e2 : ([] : List UInt8).length + x.length + 1 = (x ++ [10]).length := by simp
  rw [e2, Nat.zero_add] at h
  have h1 := h.2 ((x ++ [10]).length + t) (by omega)
  have h2 := goP_pre (x ++ [10]) l 1 f2 t (0, 0, 0)
  have h3 := h.1
  rw [List.length_append (as := x ++ [10]) (bs := l)] at h3
  have h4 := goP_fuel l f2 l.length t (0, 0, 0) (by simp only; omega) (by simp only; omega)
  unfold atP
  rw [h1]
  rw [← h4]
  exact congrArg Prod.snd h2
def down (s : Sg) : Sg := (s.1 + 1, s.2.1, s.2.2.1, s.2.2.2)
theorem segsP_ahead (x l src : List UInt8) (hx : ∀ y ∈ x, y.toNat < 128 ∧ y.toNat ≠ 10 ∧ y.toNat ≠ 13) (L : Pcs) (a : Nat) (ha : a + (textP L).length ≤ l.length) :
    segsP ((x ++ [10]) ++ l) src ((x ++ [10]).length + a) L = (segsP l src a L).map down := by
  induction L generalizing a with
  | nil => rfl
  | cons p r ih =>
    rw [textP_cons, List.length_append] at ha
    unfold segsP
    rw [Nat.add_assoc, ih (a + p.1.length) (by omega)]
    have : segOf ((x ++ [10]) ++ l) src ((x ++ [10]).length + a) p = down (segOf l src a p) := by
      unfold segOf down
      rw [atP_ahead x l hx a (by omega)]
    rw [this]
    split <;> simp
/-- The law: behind a whole line the same segments come, a line further on. -/
theorem segs_ahead (x src : List UInt8) (hx : ∀ y ∈ x, y.toNat < 128 ∧ y.toNat ≠ 10 ∧ y.toNat ≠ 13) (L : Pcs) :
    segsP (textP ((x ++ [10], -1) :: L)) src 0 ((x ++ [10], -1) :: L) = (segsP (textP L) src 0 L).map down := by
  have h := segsP_ahead x (textP L) src hx L 0 (by omega)
  have e : okP src (x ++ [10], -1) = false := by simp [okP]
  rw [textP_cons]
  show (if okP src (x ++ [10], -1) then _ else _) = _
  rw [e, Nat.zero_add]
  simpa using h
end Go.Proofs.YtpedipalpebolaaDoor.M
