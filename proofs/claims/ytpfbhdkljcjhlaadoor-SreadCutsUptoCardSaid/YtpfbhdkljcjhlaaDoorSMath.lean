/- Plain numbers and lists: how segments are written as mappings. Nothing of the program is imported. -/
import Derived.Test.YtpfbhdkljcjhlaaDoorVqMath
namespace Go.Proofs.YtpfbhdkljcjhlaaDoor.M
set_option linter.unusedVariables false
set_option linter.unusedSimpArgs false

abbrev S4 := Int × Int × Int × Int
def okS (s : S4) : Bool := decide (0 ≤ s.1) && decide (s.1 ≤ 100000) && (decide (0 ≤ s.2.1) && decide (s.2.1 ≤ 1073741824)) && (decide (0 ≤ s.2.2.1) && decide (s.2.2.1 ≤ 1073741824)) && (decide (0 ≤ s.2.2.2) && decide (s.2.2.2 ≤ 1073741824))
theorem okS_iff (s : S4) : okS s = true ↔ (0 ≤ s.1 ∧ s.1 ≤ 100000 ∧ 0 ≤ s.2.1 ∧ s.2.1 ≤ 1073741824 ∧ 0 ≤ s.2.2.1 ∧ s.2.2.1 ≤ 1073741824 ∧ 0 ≤ s.2.2.2 ∧ s.2.2.2 ≤ 1073741824) := by
  simp [okS, and_assoc]
def befS (a b : S4) : Bool := decide (a.1 < b.1) || (decide (a.1 = b.1) && decide (a.2.1 < b.2.1))
theorem befS_iff (a b : S4) : befS a b = true ↔ (a.1 < b.1 ∨ (a.1 = b.1 ∧ a.2.1 < b.2.1)) := by simp [befS]
def colOf (last x : S4) : Int := if x.1 = last.1 then last.2.1 else 0
def sepS (fst : Bool) (last x : S4) : List UInt8 := if fst = false ∧ x.1 = last.1 then [44] else List.replicate (x.1 - last.1).toNat 59
def four (a b c : Int) : List UInt8 := V.text a ++ V.text 0 ++ V.text b ++ V.text c
def chunk (fst : Bool) (last x : S4) : List UInt8 := sepS fst last x ++ four (x.2.1 - colOf last x) (x.2.2.1 - last.2.2.1) (x.2.2.2 - last.2.2.2)
def goodS (fst : Bool) (last x : S4) : Bool := okS x && (fst || befS last x)
def mapsG : Bool → S4 → List S4 → Option (List UInt8)
  | _, _, [] => some []
  | fst, last, x :: r => if goodS fst last x then (mapsG false x r).map (chunk fst last x ++ ·) else none
def maps (l : List S4) : Option (List UInt8) := mapsG true (0, 0, 0, 0) l
/-- The segment ahead of the i-th one, or nought. -/
def lastOf (l : List S4) (i : Nat) : S4 := if i = 0 then (0, 0, 0, 0) else l.getD (i - 1) (0, 0, 0, 0)
theorem lastOf_succ (l : List S4) (i : Nat) (h : i < l.length) : lastOf l (i + 1) = l[i] := by simp [lastOf, h]
/-- What has been written, and what is still to come. -/
def At (l : List S4) (i : Nat) (acc : List UInt8) : Prop := maps l = (mapsG (decide (i = 0)) (lastOf l i) (l.drop i)).map (acc ++ ·)
theorem at_start (l : List S4) : At l 0 [] := by
  unfold At maps lastOf
  simp
theorem at_bad (l : List S4) (i : Nat) (acc : List UInt8) (h : At l i acc) (hi : i < l.length) (hg : goodS (decide (i = 0)) (lastOf l i) l[i] = false) : maps l = none := by
  rw [h, List.drop_eq_getElem_cons hi]
  unfold mapsG
  rw [hg]; rfl
theorem at_step (l : List S4) (i : Nat) (acc : List UInt8) (h : At l i acc) (hi : i < l.length) (hg : goodS (decide (i = 0)) (lastOf l i) l[i] = true) : At l (i + 1) (acc ++ chunk (decide (i = 0)) (lastOf l i) l[i]) := by
  have h2 := h
  unfold At at h2 ⊢
  rw [h2, List.drop_eq_getElem_cons hi, lastOf_succ l i hi]
  conv => lhs; unfold mapsG
  rw [hg]
  simp only [if_true, Option.map_map]
  have : decide (i + 1 = 0) = false := by simp
  rw [this]
  congr 1
  funext x
  simp
theorem at_end (l : List S4) (acc : List UInt8) (h : At l l.length acc) : maps l = some acc := by
  rw [h, List.drop_length]
  simp [mapsG]
theorem four_len (a b c : Int) : (four a b c).length ≤ 36 := by
  have := V.text_len a
  have := V.text_len 0
  have := V.text_len b
  have := V.text_len c
  unfold four
  simp only [List.length_append]
  omega
theorem chunk_len (fst : Bool) (last x : S4) (h : last.1 ≤ x.1) : ((chunk fst last x).length : Int) ≤ (x.1 - last.1) + 37 := by
  have h1 := four_len (x.2.1 - colOf last x) (x.2.2.1 - last.2.2.1) (x.2.2.2 - last.2.2.2)
  unfold chunk
  rw [List.length_append]
  unfold sepS
  split
  · simp only [List.length_cons, List.length_nil]; omega
  · rw [List.length_replicate]; omega
theorem good_parts (fst : Bool) (last x : S4) (h : goodS fst last x = true) : okS x = true ∧ (fst = false → last.1 < x.1 ∨ (last.1 = x.1 ∧ last.2.1 < x.2.1)) := by
  simp only [goodS, Bool.and_eq_true, Bool.or_eq_true] at h
  refine ⟨h.1, fun hf => ?_⟩
  rcases h.2 with h2 | h2
  · rw [hf] at h2; exact absurd h2 (by decide)
  · exact (befS_iff _ _).1 h2
theorem last_ok (l : List S4) (i : Nat) (acc : List UInt8) (h : i = 0 ∨ okS (lastOf l i) = true) : 0 ≤ (lastOf l i).1 ∧ (lastOf l i).1 ≤ 100000 ∧ 0 ≤ (lastOf l i).2.1 ∧ (lastOf l i).2.1 ≤ 1073741824 ∧ 0 ≤ (lastOf l i).2.2.1 ∧ (lastOf l i).2.2.1 ≤ 1073741824 ∧ 0 ≤ (lastOf l i).2.2.2 ∧ (lastOf l i).2.2.2 ≤ 1073741824 := by
  rcases h with h | h
  · subst h; simp [lastOf]
  · have := (okS_iff _).1 h; omega

/-- Further down. -/
def downS (d : Int) (x : S4) : S4 := (x.1 + d, x.2.1, x.2.2.1, x.2.2.2)
def srcS (d : Int) (x : S4) : S4 := (x.1, x.2.1, x.2.2.1 + d, x.2.2.2)
theorem mapsG_down (d : Int) (h0 : 0 ≤ d) (last : S4) (l : List S4) (h : ∀ x ∈ l, x.1 + d ≤ 100000) (acc : List UInt8) (hm : mapsG false last l = some acc) : mapsG false (downS d last) (l.map (downS d)) = some acc := by
  induction l generalizing last acc with
  | nil => simpa [mapsG] using hm
  | cons x r ih =>
    have hx := h x (by simp)
    unfold mapsG at hm
    split at hm
    · rename_i hg
      obtain ⟨k, hk, rfl⟩ := Option.map_eq_some_iff.1 hm
      have e := ih x (fun y hy => h y (by simp [hy])) k hk
      have hg2 : goodS false (downS d last) (downS d x) = true := by
        obtain ⟨h1, h2⟩ := good_parts _ _ _ hg
        have h3 := (okS_iff x).1 h1
        have h4 := h2 rfl
        simp only [goodS, Bool.and_eq_true, Bool.or_eq_true]
        refine ⟨(okS_iff _).2 ?_, .inr ((befS_iff _ _).2 ?_)⟩
        · simp only [downS]; omega
        · simp only [downS]; omega
      have hc : chunk false (downS d last) (downS d x) = chunk false last x := by
        unfold chunk sepS colOf downS
        have e1 : (x.1 + d = last.1 + d) ↔ (x.1 = last.1) := by omega
        simp only [e1, show x.1 + d - (last.1 + d) = x.1 - last.1 by omega]
      simp only [List.map_cons]
      unfold mapsG
      rw [if_pos hg2, e, hc]; rfl
    · simp at hm
theorem maps_down (d : Int) (h0 : 0 ≤ d) (l : List S4) (h : ∀ x ∈ l, x.1 + d ≤ 100000) (hn : l ≠ []) (acc : List UInt8) (hm : maps l = some acc) : maps (l.map (downS d)) = some (List.replicate d.toNat 59 ++ acc) := by
  cases l with
  | nil => exact absurd rfl hn
  | cons x r =>
    have hx := h x (by simp)
    unfold maps at hm ⊢
    unfold mapsG at hm
    split at hm
    · rename_i hg
      obtain ⟨k, hk, rfl⟩ := Option.map_eq_some_iff.1 hm
      have e := mapsG_down d h0 x r (fun y hy => h y (by simp [hy])) k hk
      obtain ⟨h1, _⟩ := good_parts _ _ _ hg
      have h3 := (okS_iff x).1 h1
      have hg2 : goodS true (0, 0, 0, 0) (downS d x) = true := by
        simp only [goodS, Bool.and_eq_true, Bool.or_eq_true]
        refine ⟨(okS_iff _).2 ?_, .inl trivial⟩
        simp only [downS]; omega
      have hc : chunk true (0, 0, 0, 0) (downS d x) = List.replicate d.toNat 59 ++ chunk true (0, 0, 0, 0) x := by
        unfold chunk sepS colOf downS
        simp only [Bool.true_eq_false, false_and, if_false, ite_self]
        rw [← List.append_assoc, List.replicate_append_replicate]
        congr 2
        simp only [Int.sub_zero]; omega
      simp only [List.map_cons]
      unfold mapsG
      rw [if_pos hg2, e, hc]
      simp
    · simp at hm
theorem mapsG_src (d : Int) (h0 : 0 ≤ d) (last : S4) (l : List S4) (h : ∀ x ∈ l, x.2.2.1 + d ≤ 1073741824) (acc : List UInt8) (hm : mapsG false last l = some acc) : mapsG false (srcS d last) (l.map (srcS d)) = some acc := by
  induction l generalizing last acc with
  | nil => simpa [mapsG] using hm
  | cons x r ih =>
    have hx := h x (by simp)
    unfold mapsG at hm
    split at hm
    · rename_i hg
      obtain ⟨k, hk, rfl⟩ := Option.map_eq_some_iff.1 hm
      have e := ih x (fun y hy => h y (by simp [hy])) k hk
      have hg2 : goodS false (srcS d last) (srcS d x) = true := by
        obtain ⟨h1, h2⟩ := good_parts _ _ _ hg
        have h3 := (okS_iff x).1 h1
        have h4 := h2 rfl
        simp only [goodS, Bool.and_eq_true, Bool.or_eq_true]
        refine ⟨(okS_iff _).2 ?_, .inr ((befS_iff _ _).2 ?_)⟩
        · simp only [srcS]; omega
        · simp only [srcS]; omega
      have hc : chunk false (srcS d last) (srcS d x) = chunk false last x := by
        unfold chunk sepS colOf srcS
        simp only [show x.2.2.1 + d - (last.2.2.1 + d) = x.2.2.1 - last.2.2.1 by omega]
      simp only [List.map_cons]
      unfold mapsG
      rw [if_pos hg2, e, hc]; rfl
    · simp at hm
/-- Behind the first segment. -/
def isSep (c : UInt8) : Bool := c == 59 || c == 44
def tailS (l : List UInt8) : List UInt8 := (l.dropWhile (· == 59)).dropWhile (fun c => !isSep c)
theorem letter_sep : ∀ d, d < 64 → isSep (V.letter d) = false := by decide +kernel
theorem text_sep (n : Int) : ∀ c ∈ V.text n, isSep c = false := by
  intro c hc
  unfold V.text at hc
  obtain ⟨d, hd, rfl⟩ := List.mem_map.1 hc
  exact letter_sep d (V.digs_lt _ _ d hd)
theorem four_sep (a b c : Int) : ∀ x ∈ four a b c, isSep x = false := by
  intro x hx
  unfold four at hx
  simp only [List.mem_append] at hx
  rcases hx with ((h | h) | h) | h
  · exact text_sep _ x h
  · exact text_sep _ x h
  · exact text_sep _ x h
  · exact text_sep _ x h
theorem four_pos (a b c : Int) : four a b c ≠ [] := by
  have := V.text_pos a
  unfold four
  intro h
  have h2 := congrArg List.length h
  simp only [List.length_append, List.length_nil] at h2
  omega
theorem mapsG_head (last : S4) (l : List S4) (acc : List UInt8) (hm : mapsG false last l = some acc) : acc = [] ∨ ∃ c t, acc = c :: t ∧ isSep c = true := by
  cases l with
  | nil => left; simpa [mapsG] using hm.symm
  | cons x r =>
    unfold mapsG at hm
    split at hm
    · rename_i hg
      obtain ⟨k, hk, rfl⟩ := Option.map_eq_some_iff.1 hm
      right
      obtain ⟨_, h2⟩ := good_parts _ _ _ hg
      have h3 := h2 rfl
      unfold chunk sepS
      by_cases he : x.1 = last.1
      · rw [if_pos ⟨rfl, he⟩]; exact ⟨44, _, rfl, rfl⟩
      · rw [if_neg (fun h => he h.2)]
        obtain ⟨n, hn⟩ : ∃ n, (x.1 - last.1).toNat = n + 1 := ⟨(x.1 - last.1).toNat - 1, by omega⟩
        rw [hn, List.replicate_succ]
        exact ⟨59, _, rfl, rfl⟩
    · simp at hm
theorem tail_first (k : Nat) (t rest : List UInt8) (ht : ∀ c ∈ t, isSep c = false) (h0 : t ≠ []) (hr : rest = [] ∨ ∃ c u, rest = c :: u ∧ isSep c = true) : tailS (List.replicate k 59 ++ t ++ rest) = rest := by
  have e1 : (List.replicate k (59 : UInt8) ++ t ++ rest).dropWhile (· == 59) = t ++ rest := by
    induction k with
    | zero =>
      cases t with
      | nil => exact absurd rfl h0
      | cons c u =>
        have hc := ht c (by simp)
        have : (c == 59) = false := by
          simp only [isSep, Bool.or_eq_false_iff] at hc; exact hc.1
        simp [List.dropWhile_cons, this]
    | succ k ih => rw [List.replicate_succ]; simpa [List.dropWhile_cons] using ih
  unfold tailS
  rw [e1]
  clear e1 h0
  induction t with
  | nil =>
    rw [List.nil_append]
    rcases hr with rfl | ⟨c, u, rfl, hc⟩
    · rfl
    · simp [List.dropWhile_cons, hc]
  | cons c u ih =>
    have hc := ht c (by simp)
    rw [List.cons_append, List.dropWhile_cons]
    simp only [hc, Bool.not_false, if_true]
    exact ih (fun x hx => ht x (by simp [hx]))
/-- Where it comes from turns nothing behind the first segment. -/
theorem maps_src (d : Int) (h0 : 0 ≤ d) (l : List S4) (h : ∀ x ∈ l, x.2.2.1 + d ≤ 1073741824) (hn : l ≠ []) (acc : List UInt8) (hm : maps l = some acc) : ∃ acc2, maps (l.map (srcS d)) = some acc2 ∧ tailS acc2 = tailS acc := by
  cases l with
  | nil => exact absurd rfl hn
  | cons x r =>
    have hx := h x (by simp)
    unfold maps at hm ⊢
    unfold mapsG at hm
    split at hm
    · rename_i hg
      obtain ⟨k, hk, rfl⟩ := Option.map_eq_some_iff.1 hm
      have e := mapsG_src d h0 x r (fun y hy => h y (by simp [hy])) k hk
      obtain ⟨h1, _⟩ := good_parts _ _ _ hg
      have h3 := (okS_iff x).1 h1
      have hg2 : goodS true (0, 0, 0, 0) (srcS d x) = true := by
        simp only [goodS, Bool.and_eq_true, Bool.or_eq_true]
        refine ⟨(okS_iff _).2 ?_, .inl trivial⟩
        simp only [srcS]; omega
      refine ⟨chunk true (0, 0, 0, 0) (srcS d x) ++ k, ?_, ?_⟩
      · simp only [List.map_cons]
        unfold mapsG
        rw [if_pos hg2, e]; rfl
      · have hk2 := mapsG_head x r k hk
        unfold chunk sepS
        simp only [Bool.true_eq_false, false_and, if_false]
        rw [tail_first _ _ _ (four_sep _ _ _) (four_pos _ _ _) hk2, tail_first _ _ _ (four_sep _ _ _) (four_pos _ _ _) hk2]
    · simp at hm
end Go.Proofs.YtpfbhdkljcjhlaaDoor.M
