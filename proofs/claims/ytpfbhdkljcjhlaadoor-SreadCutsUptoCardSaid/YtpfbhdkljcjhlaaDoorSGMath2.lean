/- What a text of mappings tells, and that what begins as written mappings is the beginning of the segments (plain lists; nothing of the program). -/
import Derived.Test.YtpfbhdkljcjhlaaDoorSGMath
import Derived.Lib.Split
import Derived.Lib.SplitLaws
namespace Go.Proofs.YtpfbhdkljcjhlaaDoor.M
open Go.Proofs.YtpfbhdkljcjhlaaDoor
set_option linter.unusedVariables false
set_option linter.unusedSimpArgs false

/-- The parts of a text at a byte. -/
def cut (c : UInt8) (t : List UInt8) : List (List UInt8) := Go.Lib.split t [c]
/-- One line's parts, behind a segment and what has been read. -/
def rdParts : S4 → List S4 → List (List UInt8) → Option (S4 × List S4)
  | last, out, [] => some (last, out)
  | last, out, p :: ps => if (segV p last).2 = true then rdParts (segV p last).1 (out ++ [(segV p last).1]) ps else none
/-- The lines, from one on. -/
def rdLines : Nat → S4 → List S4 → List (List UInt8) → Option (List S4)
  | _, _, out, [] => some out
  | n, last, out, t :: ts => if t = [] then rdLines (n + 1) ((n : Int), 0, last.2.2) out ts else
    match rdParts ((n : Int), 0, last.2.2) out (cut 44 t) with
    | none => none
    | some p => rdLines (n + 1) p.1 p.2 ts
def rdAll (t : List UInt8) : Option (List S4) := rdLines 0 (0, 0, 0, 0) [] (cut 59 t)
def okM (t : List UInt8) (o : List S4) : Bool := maps o == some t
/-- The segments of a text. -/
def readM (t : List UInt8) : Option (List S4) := match rdAll t with
  | none => none
  | some o => if okM t o = true then some o else none
theorem readM_maps (t : List UInt8) (o : List S4) (h : readM t = some o) : maps o = some t := by
  unfold readM at h
  split at h
  · exact absurd h (by simp)
  · split at h
    · rename_i hk
      simp only [Option.some.injEq] at h
      subst h
      simpa [okM] using hk
    · exact absurd h (by simp)
/-- What is to be reckoned still, behind j parts. -/
def PAt (last : S4) (out : List S4) (ps : List (List UInt8)) (j : Nat) (l2 : S4) (o2 : List S4) : Prop := rdParts last out ps = rdParts l2 o2 (ps.drop j)
theorem pat_start (last : S4) (out : List S4) (ps : List (List UInt8)) : PAt last out ps 0 last out := by unfold PAt; rw [List.drop_zero]
theorem pat_step {last : S4} {out : List S4} {ps : List (List UInt8)} {j : Nat} {l2 : S4} {o2 : List S4} (h : PAt last out ps j l2 o2) (hj : j < ps.length) (r : S4) (hr : segV ps[j] l2 = (r, true)) : PAt last out ps (j + 1) r (o2 ++ [r]) := by
  unfold PAt at *
  rw [h, List.drop_eq_getElem_cons hj]
  conv => lhs; unfold rdParts
  rw [hr]; rfl
theorem pat_bad {last : S4} {out : List S4} {ps : List (List UInt8)} {j : Nat} {l2 : S4} {o2 : List S4} (h : PAt last out ps j l2 o2) (hj : j < ps.length) (hr : (segV ps[j] l2).2 = false) : rdParts last out ps = none := by
  rw [h, List.drop_eq_getElem_cons hj]
  conv => lhs; unfold rdParts
  rw [hr]; rfl
theorem pat_end {last : S4} {out : List S4} {ps : List (List UInt8)} {l2 : S4} {o2 : List S4} (h : PAt last out ps ps.length l2 o2) : rdParts last out ps = some (l2, o2) := by
  rw [h, List.drop_length]; rfl
/-- Likewise behind i lines. -/
def LAt (t : List UInt8) (ts : List (List UInt8)) (i : Nat) (last : S4) (out : List S4) : Prop := cut 59 t = ts ∧ rdAll t = rdLines i last out (ts.drop i)
theorem lat_start (t : List UInt8) (ts : List (List UInt8)) (h : cut 59 t = ts) : LAt t ts 0 (0, 0, 0, 0) [] := ⟨h, by rw [List.drop_zero, ← h]; rfl⟩
theorem lat_void {t : List UInt8} {ts : List (List UInt8)} {i : Nat} {last : S4} {out : List S4} (h : LAt t ts i last out) (hi : i < ts.length) (he : ts[i] = []) : LAt t ts (i + 1) ((i : Int), 0, last.2.2) out := by
  refine ⟨h.1, ?_⟩
  rw [h.2, List.drop_eq_getElem_cons hi]
  conv => lhs; unfold rdLines
  rw [if_pos he]
theorem lat_line {t : List UInt8} {ts : List (List UInt8)} {i : Nat} {last l2 : S4} {out o2 : List S4} (h : LAt t ts i last out) (hi : i < ts.length) (he : ts[i] ≠ []) (hp : rdParts ((i : Int), 0, last.2.2) out (cut 44 ts[i]) = some (l2, o2)) : LAt t ts (i + 1) l2 o2 := by
  refine ⟨h.1, ?_⟩
  rw [h.2, List.drop_eq_getElem_cons hi]
  conv => lhs; unfold rdLines
  rw [if_neg he, hp]
theorem lat_bad {t : List UInt8} {ts : List (List UInt8)} {i : Nat} {last : S4} {out : List S4} (h : LAt t ts i last out) (hi : i < ts.length) (he : ts[i] ≠ []) (hp : rdParts ((i : Int), 0, last.2.2) out (cut 44 ts[i]) = none) : readM t = none := by
  have : rdAll t = none := by
    rw [h.2, List.drop_eq_getElem_cons hi]
    conv => lhs; unfold rdLines
    rw [if_neg he, hp]
  unfold readM; rw [this]
theorem lat_end {t : List UInt8} {ts : List (List UInt8)} {last : S4} {out : List S4} (h : LAt t ts ts.length last out) : rdAll t = some out := by
  rw [h.2, List.drop_length]; rfl
theorem readM_yes (t : List UInt8) (o : List S4) (h : rdAll t = some o) (hm : maps o = some t) : readM t = some o := by
  unfold readM; rw [h]; simp [okM, hm]
theorem readM_no (t : List UInt8) (o : List S4) (h : rdAll t = some o) (hm : maps o ≠ some t) : readM t = none := by
  unfold readM; rw [h]; simp [okM, hm]

/-- Runs of separators. -/
theorem sep_all (fst : Bool) (last x : S4) : ∀ c ∈ sepS fst last x, isSep c = true := by
  unfold sepS
  split
  · intro c hc; simp at hc; subst hc; rfl
  · intro c hc; rw [List.eq_of_mem_replicate hc]; rfl
theorem run_cut (p : UInt8 → Bool) (a b r s : List UInt8) (ha : ∀ c ∈ a, p c = true) (hb : ∀ c ∈ b, p c = true) (hr : ∀ c u, r = c :: u → p c = false) (hs : ∀ c u, s = c :: u → p c = false) (hr0 : r ≠ []) (hs0 : s ≠ []) (h : a ++ r = b ++ s) : a = b ∧ r = s := by
  induction a generalizing b with
  | nil =>
    cases b with
    | nil => exact ⟨rfl, h⟩
    | cons c b =>
      have := hr c (b ++ s) (by simpa using h)
      rw [hb c (by simp)] at this
      exact absurd this (by decide)
  | cons c a ih =>
    cases b with
    | nil =>
      have := hs c (a ++ r) (by simpa using h.symm)
      rw [ha c (by simp)] at this
      exact absurd this (by decide)
    | cons d b =>
      simp only [List.cons_append, List.cons.injEq] at h
      obtain ⟨rfl, h⟩ := h
      obtain ⟨rfl, h2⟩ := ih b (fun x hx => ha x (by simp [hx])) (fun x hx => hb x (by simp [hx])) h
      exact ⟨rfl, h2⟩
theorem text_cut (a b : Int) (r s : List UInt8) (ha : -1099511627776 ≤ a ∧ a ≤ 1099511627776) (hb : -1099511627776 ≤ b ∧ b ≤ 1099511627776) (h : V.text a ++ r = V.text b ++ s) : a = b ∧ r = s := by
  have e1 := V.get_text a ha.1 ha.2 r
  have e2 := V.get_text b hb.1 hb.2 s
  rw [h, e2] at e1
  simp only [Option.some.injEq, Prod.mk.injEq] at e1
  obtain ⟨rfl, _⟩ := e1
  exact ⟨rfl, List.append_cancel_left h⟩
theorem four_cut (a b c a' b' c' : Int) (r s : List UInt8) (h1 : -1099511627776 ≤ a ∧ a ≤ 1099511627776) (h2 : -1099511627776 ≤ b ∧ b ≤ 1099511627776) (h3 : -1099511627776 ≤ c ∧ c ≤ 1099511627776) (h4 : -1099511627776 ≤ a' ∧ a' ≤ 1099511627776) (h5 : -1099511627776 ≤ b' ∧ b' ≤ 1099511627776) (h6 : -1099511627776 ≤ c' ∧ c' ≤ 1099511627776)
    (h : four a b c ++ r = four a' b' c' ++ s) : a = a' ∧ b = b' ∧ c = c' ∧ r = s := by
  unfold four at h
  simp only [List.append_assoc] at h
  obtain ⟨e1, h⟩ := text_cut _ _ _ _ h1 h4 h
  have h := List.append_cancel_left h
  obtain ⟨e2, h⟩ := text_cut _ _ _ _ h2 h5 h
  obtain ⟨e3, h⟩ := text_cut _ _ _ _ h3 h6 h
  exact ⟨e1, e2, e3, h⟩
theorem four_head (a b c : Int) (r : List UInt8) : ∀ x u, four a b c ++ r = x :: u → isSep x = false := by
  intro x u h
  cases hf : four a b c with
  | nil => exact absurd hf (four_pos a b c)
  | cons y t =>
    rw [hf] at h
    simp only [List.cons_append, List.cons.injEq] at h
    obtain ⟨rfl, _⟩ := h
    exact four_sep a b c y (by rw [hf]; simp)
theorem chunk_cut (fst : Bool) (last x y : S4) (r s : List UInt8) (hl : 0 ≤ last.1 ∧ 0 ≤ last.2.1 ∧ last.2.1 ≤ 1073741824 ∧ 0 ≤ last.2.2.1 ∧ last.2.2.1 ≤ 1073741824 ∧ 0 ≤ last.2.2.2 ∧ last.2.2.2 ≤ 1073741824) (hf : fst = true → last.1 = 0) (hx : goodS fst last x = true) (hy : goodS fst last y = true) (h : chunk fst last x ++ r = chunk fst last y ++ s) : x = y ∧ r = s := by
  obtain ⟨x1, x2⟩ := good_parts _ _ _ hx
  obtain ⟨y1, y2⟩ := good_parts _ _ _ hy
  have x3 := (okS_iff x).1 x1
  have y3 := (okS_iff y).1 y1
  have lx : last.1 ≤ x.1 := by
    cases fst with
    | true => have := hf rfl; omega
    | false => have := x2 rfl; omega
  have ly : last.1 ≤ y.1 := by
    cases fst with
    | true => have := hf rfl; omega
    | false => have := y2 rfl; omega
  unfold chunk at h
  rw [List.append_assoc, List.append_assoc] at h
  obtain ⟨e1, e2⟩ := run_cut isSep _ _ _ _ (sep_all _ _ _) (sep_all _ _ _) (four_head _ _ _ _) (four_head _ _ _ _) (by have := four_pos (x.2.1 - colOf last x) (x.2.2.1 - last.2.2.1) (x.2.2.2 - last.2.2.2); simp [this]) (by have := four_pos (y.2.1 - colOf last y) (y.2.2.1 - last.2.2.1) (y.2.2.2 - last.2.2.2); simp [this]) h
  have e0 : x.1 = y.1 := by
    unfold sepS at e1
    split at e1
    · rename_i g1
      split at e1
      · rename_i g2; omega
      · rename_i g2
        obtain ⟨n, hn⟩ : ∃ n, (y.1 - last.1).toNat = n := ⟨_, rfl⟩
        rw [hn] at e1
        cases n with
        | zero => simp at e1
        | succ n => rw [List.replicate_succ] at e1; simp at e1
    · rename_i g1
      split at e1
      · rename_i g2
        obtain ⟨n, hn⟩ : ∃ n, (x.1 - last.1).toNat = n := ⟨_, rfl⟩
        rw [hn] at e1
        cases n with
        | zero => simp at e1
        | succ n => rw [List.replicate_succ] at e1; simp at e1
      · have := congrArg List.length e1
        simp only [List.length_replicate] at this
        omega
  have ec : colOf last x = colOf last y := by unfold colOf; rw [e0]
  have ck : 0 ≤ colOf last y ∧ colOf last y ≤ 1073741824 := by unfold colOf; split <;> omega
  obtain ⟨f1, f2, f3, f4⟩ := four_cut _ _ _ _ _ _ _ _ (by omega) (by omega) (by omega) (by omega) (by omega) (by omega) e2
  refine ⟨?_, f4⟩
  obtain ⟨a, b, c, d⟩ := x
  obtain ⟨a', b', c', d'⟩ := y
  simp only at e0 f1 f2 f3 ec ⊢
  simp only [Prod.mk.injEq]
  omega
theorem mapsG_pre (fst : Bool) (last : S4) (m l : List S4) (a r : List UInt8) (hl : 0 ≤ last.1 ∧ 0 ≤ last.2.1 ∧ last.2.1 ≤ 1073741824 ∧ 0 ≤ last.2.2.1 ∧ last.2.2.1 ≤ 1073741824 ∧ 0 ≤ last.2.2.2 ∧ last.2.2.2 ≤ 1073741824) (hf : fst = true → last.1 = 0)
    (h1 : mapsG fst last m = some a) (h2 : mapsG fst last l = some (a ++ r)) : ∃ k, l = m ++ k := by
  induction m generalizing fst last l a with
  | nil => exact ⟨l, rfl⟩
  | cons x m ih =>
    unfold mapsG at h1
    split at h1
    · rename_i hg
      obtain ⟨b, hb, rfl⟩ := Option.map_eq_some_iff.1 h1
      cases l with
      | nil =>
        simp only [mapsG, Option.some.injEq] at h2
        have := four_pos (x.2.1 - colOf last x) (x.2.2.1 - last.2.2.1) (x.2.2.2 - last.2.2.2)
        unfold chunk at h2
        simp [this] at h2
      | cons y l =>
        unfold mapsG at h2
        split at h2
        · rename_i hg2
          obtain ⟨c, hc, he⟩ := Option.map_eq_some_iff.1 h2
          rw [List.append_assoc] at he
          obtain ⟨rfl, rfl⟩ := chunk_cut fst last y x c (b ++ r) hl hf hg2 hg he
          have h3 := (okS_iff y).1 (good_parts _ _ _ hg).1
          obtain ⟨k, rfl⟩ := ih false y l b (by omega) (fun h => absurd h (by decide)) hb hc
          exact ⟨k, rfl⟩
        · exact absurd h2 (by simp)
    · exact absurd h1 (by simp)
/-- What was read of a beginning of written mappings is a beginning of the segments. -/
theorem maps_pre (m l : List S4) (a r : List UInt8) (h1 : maps m = some a) (h2 : maps l = some (a ++ r)) : ∃ k, l = m ++ k :=
  mapsG_pre true (0, 0, 0, 0) m l a r (by decide) (fun _ => rfl) h1 h2

/-- A part of a text cut at a byte is no longer than the text. -/
theorem splitK_le (c : UInt8) (k : Nat) (s : List UInt8) : ∀ p ∈ Go.Lib.splitK [c] 0 k s, p.length ≤ s.length := by
  induction k generalizing s with
  | zero => intro p hp; simp [Go.Lib.splitK] at hp; subst hp; omega
  | succ k ih =>
    intro p hp
    unfold Go.Lib.splitK at hp
    split at hp
    · simp at hp; subst hp; omega
    · simp only [List.mem_cons] at hp
      rcases hp with rfl | hp
      · rw [List.length_take]; omega
      · have := ih _ p hp
        rw [List.length_drop] at this
        omega
theorem cut_le (c : UInt8) (s : List UInt8) : ∀ p ∈ cut c s, p.length ≤ s.length := splitK_le c _ s
theorem segV_b (t : List UInt8) (s : S4) (hs : B4 (s.2.1, 0, s.2.2.1, s.2.2.2)) (h : (segV t s).2 = true) : (segV t s).1.1 = s.1 ∧ 0 ≤ (segV t s).1.2.1 ∧ (segV t s).1.2.1 ≤ 1073741824 ∧ 0 ≤ (segV t s).1.2.2.1 ∧ (segV t s).1.2.2.1 ≤ 1073741824 ∧ 0 ≤ (segV t s).1.2.2.2 ∧ (segV t s).1.2.2.2 ≤ 1073741824 := by
  have key : ∀ k m a, k ≤ 4 → segSt t s k = some (m, a) → B4 m := by
    intro k
    induction k with
    | zero => intro m a _ h; simp only [segSt, Option.some.injEq, Prod.mk.injEq] at h; obtain ⟨rfl, _⟩ := h; exact hs
    | succ k ih =>
      intro m a hk h
      unfold segSt at h
      split at h
      · exact absurd h (by simp)
      · rename_i m2 a2 h2
        split at h
        · rename_i hg
          simp only [Option.some.injEq, Prod.mk.injEq] at h
          obtain ⟨rfl, _⟩ := h
          exact put4_b _ _ _ (ih m2 a2 (by omega) h2) hg.2.1 hg.2.2
        · exact absurd h (by simp)
  unfold segV at h ⊢
  split
  · rename_i hn; rw [hn] at h; exact absurd h (by simp)
  · rename_i m a hm
    obtain ⟨b0, _, b2, b3⟩ := key 4 m a (by omega) hm
    exact ⟨rfl, b0.1, b0.2, b2.1, b2.2, b3.1, b3.2⟩
end Go.Proofs.YtpfbhdkljcjhlaaDoor.M
