/- Plain numbers and lists: a code point by its number; texts between marks. Nothing of the program is imported. -/
import Derived.Test.YtkaojigdogeliaaDoorEMath3
namespace Go.Proofs.YtkaojigdogeliaaDoor.M
open Go.Lib
set_option linter.unusedVariables false
set_option linter.unusedSimpArgs false

/-- The digits of a number in base 16. -/
def hx16 (n : Nat) : List Nat := if h : n = 0 then [] else hx16 (n / 16) ++ [n % 16]
termination_by n
decreasing_by omega
theorem hx16_zero : hx16 0 = [] := by rw [hx16, dif_pos rfl]
theorem hx16_pos (n : Nat) (h : 0 < n) : hx16 n = hx16 (n / 16) ++ [n % 16] := by rw [hx16, dif_neg (by omega)]
theorem hx16_lt (m n : Nat) (hm : n ≤ m) : ∀ d ∈ hx16 n, d < 16 := by
  induction m generalizing n with
  | zero => obtain rfl : n = 0 := by omega
            rw [hx16_zero]; simp
  | succ m ih =>
    by_cases h : n = 0
    · subst h; rw [hx16_zero]; simp
    · rw [hx16_pos n (by omega)]
      intro d hd
      rcases List.mem_append.1 hd with hd | hd
      · exact ih (n / 16) (by omega) d hd
      · obtain rfl := List.mem_singleton.1 hd; omega
theorem hx16_len (k n : Nat) (h : n < 16 ^ k) : (hx16 n).length ≤ k := by
  induction k generalizing n with
  | zero => obtain rfl : n = 0 := by simp at h; omega
            rw [hx16_zero]; simp
  | succ k ih =>
    by_cases h0 : n = 0
    · subst h0; rw [hx16_zero]; simp
    · rw [hx16_pos n (by omega)]
      have := ih (n / 16) (by rw [Nat.pow_succ] at h; omega)
      simp; omega
theorem hx16_ne (n : Nat) (h : 0 < n) : hx16 n ≠ [] := by rw [hx16_pos n h]; simp
/-- A digit of base 16, great or small. -/
def dgG (g : Bool) (n : Nat) : Int := if n < 10 then 48 + n else if g then 55 + n else 87 + n
theorem dgG_fin : ∀ g : Bool, ∀ n : Fin 16, isX (dgG g n.val) = true ∧ xv (dgG g n.val) = (n.val : Int) ∧ Okr (dgG g n.val) ∧ 48 ≤ dgG g n.val ∧ dgG g n.val ≤ 102 := by decide +kernel
theorem dgG_ok (g : Bool) (n : Nat) (h : n < 16) : isX (dgG g n) = true ∧ xv (dgG g n) = (n : Int) ∧ Okr (dgG g n) ∧ 48 ≤ dgG g n ∧ dgG g n ≤ 102 := dgG_fin g ⟨n, h⟩
def escS (g : Bool) (r z : Nat) : List Int := List.replicate z 48 ++ (hx16 r).map (dgG g)
theorem hexVal_snoc (l : List Int) (c : Int) : hexVal (l ++ [c]) = 16 * hexVal l + xv c := by simp [hexVal, List.foldl_append]
theorem hexVal_zeros (z : Nat) (l : List Int) : hexVal (List.replicate z 48 ++ l) = hexVal l := by
  induction z with
  | zero => simp
  | succ z ih =>
    rw [List.replicate_succ, List.cons_append, ← ih]
    show List.foldl _ (16 * 0 + xv 48) _ = _
    rfl
theorem hexVal_hx (g : Bool) (m n : Nat) (hm : n ≤ m) : hexVal ((hx16 n).map (dgG g)) = (n : Int) := by
  induction m generalizing n with
  | zero => obtain rfl : n = 0 := by omega
            rw [hx16_zero]; rfl
  | succ m ih =>
    by_cases h : n = 0
    · subst h; rw [hx16_zero]; rfl
    · rw [hx16_pos n (by omega), List.map_append, List.map_cons, List.map_nil, hexVal_snoc, ih (n / 16) (by omega), (dgG_ok g (n % 16) (by omega)).2.1]
      omega
theorem escS_ok (g : Bool) (r z : Nat) : ∀ c ∈ escS g r z, isX c = true ∧ Okr c ∧ c ≠ 10 := by
  intro c hc
  rcases List.mem_append.1 hc with hc | hc
  · obtain ⟨_, rfl⟩ := List.mem_replicate.1 hc; exact ⟨by decide, by decide, by decide⟩
  · obtain ⟨d, hd, rfl⟩ := List.mem_map.1 hc
    have := dgG_ok g d (hx16_lt r r (Nat.le_refl _) d hd)
    exact ⟨this.1, this.2.2.1, by omega⟩
theorem hexRun_all (n : Nat) (L t : List Int) (hL : ∀ c ∈ L, isX c = true) (hn : L.length ≤ n) (ht : ∀ c u, t = c :: u → isX c = false) : hexRun n (L ++ t) = L := by
  induction L generalizing n with
  | nil =>
    cases t with
    | nil => cases n <;> rfl
    | cons c u => exact hexRun_stop n c u (ht c u rfl)
  | cons a L ih =>
    cases n with
    | zero => simp at hn
    | succ n => rw [List.cons_append, hexRun_go n a _ (hL a (by simp)), ih n (fun c hc => hL c (by simp [hc])) (by simpa using hn)]
/-- What may stand behind the number. -/
def eB (k : Nat) : List Int := if k = 0 then [32] else if k = 1 then [9] else if k = 2 then [10] else []
theorem eB_fin : ∀ k : Fin 4, (∀ c ∈ eB k.val, Okr c) ∧ (eB k.val).length ≤ 1 ∧ ∃ c u, eB k.val ++ [40] = c :: u ∧ isX c = false ∧ ((isBl c = true ∧ eB k.val = [c] ∧ u = [40]) ∨ (isBl c = false ∧ eB k.val = [])) := by
  intro k
  refine ⟨?_, ?_, ?_⟩
  · revert k; decide +kernel
  · revert k; decide +kernel
  · match k with
    | 0 => exact ⟨32, [40], rfl, by decide, .inl ⟨by decide, rfl, rfl⟩⟩
    | 1 => exact ⟨9, [40], rfl, by decide, .inl ⟨by decide, rfl, rfl⟩⟩
    | 2 => exact ⟨10, [40], rfl, by decide, .inl ⟨by decide, rfl, rfl⟩⟩
    | 3 => exact ⟨40, [], rfl, by decide, .inr ⟨by decide, rfl⟩⟩
def escT (g : Bool) (r z k : Nat) : List Int := 92 :: (escS g r z ++ (eB k ++ [40]))
theorem escT_take (g : Bool) (r z k : Nat) (h0 : 0 < r) (hcp : isCP r = true) (hz : (escS g r z).length ≤ 6) (hk : k < 4) :
    takeN (escT g r z k) = ([(r : Int)], (escT g r z k).length - 1) ∧ begN (escT g r z k) = true := by
  obtain ⟨_, _, c, u, e, hx, hb⟩ := eB_fin ⟨k, hk⟩
  simp only at e hx hb
  have hall := escS_ok g r z
  have hval : hexVal (escS g r z) = r := by unfold escS; rw [hexVal_zeros, hexVal_hx g r r (Nat.le_refl _)]
  have hne : escS g r z ≠ [] := by unfold escS; have := hx16_ne r h0; simp [this]
  have hrun := hexRun_all 6 (escS g r z) (eB k ++ [40]) (fun c hc => (hall c hc).1) hz (fun c' u' h' => by rw [e] at h'; simp at h'; rw [← h'.1]; exact hx)
  obtain ⟨a, v, ea⟩ : ∃ a v, escS g r z = a :: v := by
    cases hs : escS g r z with
    | nil => exact absurd hs hne
    | cons a v => exact ⟨a, v, rfl⟩
  have ha := hall a (by rw [ea]; simp)
  have hes : esB (escT g r z k) = true := by unfold escT; rw [ea]; simp [esB, ha.2.2]
  refine ⟨?_, ?_⟩
  · have hev : escV (escS g r z ++ (eB k ++ [40])) = ((r : Int), (escS g r z).length + (eB k).length) := by
      unfold escV
      rw [ea] at hrun hval ⊢
      simp only [List.cons_append] at hrun ⊢
      rw [if_pos ha.1, hrun, hval, okX_self r hcp (by omega)]
      have hg : (a :: (v ++ (eB k ++ [40]))).getD (a :: v).length (-1) = c := by
        rw [← List.cons_append, e]
        simp only [List.getD]
        rw [List.getElem?_append_right (by omega)]; simp
      rw [hg]
      rcases hb with ⟨hb, he, _⟩ | ⟨hb, he⟩
      · rw [if_pos hb, he]; rfl
      · rw [if_neg (by simp [hb]), he]; rfl
    unfold escT at hes ⊢
    rw [takeN_esc _ _ hes, hev]
    simp only
    have hdr : (escS g r z ++ (eB k ++ [40])).drop ((escS g r z).length + (eB k).length) = [40] := by
      rw [← List.append_assoc]; exact List.drop_left' (by simp)
    rw [hdr, takeN_out 40 [] (by decide) (by decide)]
    simp; omega
  · unfold escT at hes ⊢
    simp only [begN]
    rw [if_neg (by decide), hes]; simp
theorem escT_okr (g : Bool) (r z k : Nat) (hk : k < 4) : ∀ c ∈ escT g r z k, Okr c := by
  intro c hc
  unfold escT at hc
  simp only [List.mem_cons, List.mem_append, List.mem_nil_iff, or_false] at hc
  rcases hc with rfl | hc | hc | rfl
  · decide
  · exact (escS_ok g r z c hc).2.1
  · exact (eB_fin ⟨k, hk⟩).1 c hc
  · decide

/-! Texts between marks -/
/-- The scan of what is between the marks; b: is a backslash ahead? -/
def okQ (q : UInt8) : Bool → List UInt8 → Bool
  | b, [] => !b
  | b, c :: t => c ≠ 10 && c ≠ 12 && c ≠ 13 && (c ≠ q || b) && okQ q (c = 92 && !b) t
theorem enc_big (r : Int) (h : isCP r = true) (h2 : 128 ≤ r) : ∀ c ∈ enc r, 128 ≤ c.toNat := by
  rw [isCP_iff] at h
  obtain ⟨n, rfl⟩ : ∃ n : Nat, r = (n : Int) := ⟨r.toNat, by omega⟩
  by_cases h3 : n < 2048
  · rw [enc_two n (by omega) h3]
    intro c hc
    simp only [List.mem_cons, List.mem_nil_iff, or_false] at hc
    rcases hc with rfl | rfl <;> rw [toU8 _ (by omega)] <;> omega
  · by_cases h4 : n < 65536
    · rw [enc_three n (by omega)]
      intro c hc
      simp only [List.mem_cons, List.mem_nil_iff, or_false] at hc
      rcases hc with rfl | rfl | rfl <;> rw [toU8 _ (by omega)] <;> omega
    · rw [enc_four n (by omega) (by omega)]
      intro c hc
      simp only [List.mem_cons, List.mem_nil_iff, or_false] at hc
      rcases hc with rfl | rfl | rfl | rfl <;> rw [toU8 _ (by omega)] <;> omega
theorem u8_ne (c : UInt8) (n : Nat) (hn : n < 256) (h : c.toNat ≠ n) : c ≠ n.toUInt8 := by
  intro e; apply h; rw [e, toU8 n hn]
theorem okQ_big (q : UInt8) (hq : q.toNat < 128) (l t : List UInt8) (h : ∀ c ∈ l, 128 ≤ c.toNat) : okQ q false (l ++ t) = okQ q false t := by
  induction l with
  | nil => rfl
  | cons c l ih =>
    have hc := h c (by simp)
    have h1 : c ≠ 10 := by intro e; rw [e] at hc; revert hc; decide
    have h2 : c ≠ 12 := by intro e; rw [e] at hc; revert hc; decide
    have h3 : c ≠ 13 := by intro e; rw [e] at hc; revert hc; decide
    have h4 : c ≠ q := by intro e; rw [e] at hc; omega
    have h5 : c ≠ 92 := by intro e; rw [e] at hc; revert hc; decide
    rw [List.cons_append, okQ]
    simp [h1, h2, h3, h4, h5]
    exact ih (fun c hc => h c (by simp [hc]))
theorem okQ_one (q c : UInt8) (t : List UInt8) (h1 : c ≠ 10) (h2 : c ≠ 12) (h3 : c ≠ 13) (h4 : c ≠ q) (h5 : c ≠ 92) : okQ q false (c :: t) = okQ q false t := by
  rw [okQ]; simp [h1, h2, h3, h4, h5]
theorem okQ_back (q c : UInt8) (t : List UInt8) (hq : q ≠ 92) (h1 : c ≠ 10) (h2 : c ≠ 12) (h3 : c ≠ 13) : okQ q false (92 :: c :: t) = okQ q false t := by
  rw [okQ, okQ]; simp [h1, h2, h3, Ne.symm hq]
theorem u8_lit (c : UInt8) (k : UInt8) (h : c.toNat ≠ k.toNat) : c ≠ k := fun e => h (by rw [e])
theorem okQ_asc (q : UInt8) (r : Int) (h0 : 0 ≤ r) (h : r < 128) (t : List UInt8) (h1 : r ≠ 10) (h2 : r ≠ 12) (h3 : r ≠ 13) (h4 : r ≠ q.toNat) (h5 : r ≠ 92) : okQ q false (enc r ++ t) = okQ q false t := by
  have e := toU8 r.toNat (by omega)
  rw [enc_ascii r h0 h]
  refine okQ_one q _ t (u8_lit _ _ ?_) (u8_lit _ _ ?_) (u8_lit _ _ ?_) (u8_lit _ _ ?_) (u8_lit _ _ ?_) <;> rw [e]
  · show r.toNat ≠ 10; omega
  · show r.toNat ≠ 12; omega
  · show r.toNat ≠ 13; omega
  · omega
  · show r.toNat ≠ 92; omega
theorem okQ_esc (q : UInt8) (hq : q ≠ 92) (r : Int) (h0 : 0 ≤ r) (h : r < 128) (t : List UInt8) (h1 : r ≠ 10) (h2 : r ≠ 12) (h3 : r ≠ 13) : okQ q false (enc 92 ++ (enc r ++ t)) = okQ q false t := by
  have e := toU8 r.toNat (by omega)
  rw [enc_ascii r h0 h, show enc 92 = [92] from by rw [enc_ascii 92 (by decide) (by decide)]; rfl]
  refine okQ_back q _ t hq (u8_lit _ _ ?_) (u8_lit _ _ ?_) (u8_lit _ _ ?_) <;> rw [e]
  · show r.toNat ≠ 10; omega
  · show r.toNat ≠ 12; omega
  · show r.toNat ≠ 13; omega
theorem okQ_hex (q : UInt8) (hq : q = 34 ∨ q = 39) (L : List Int) (hL : ∀ c ∈ L, 48 ≤ c ∧ c ≤ 102 ∧ (c ≤ 57 ∨ 97 ≤ c)) (t : List UInt8) : okQ q false (encZs L ++ t) = okQ q false t := by
  induction L with
  | nil => rfl
  | cons a L ih =>
    have ha := hL a (by simp)
    have hqn : q.toNat = 34 ∨ q.toNat = 39 := by rcases hq with rfl | rfl; exact .inl rfl; exact .inr rfl
    rw [encZs_cons, List.append_assoc, okQ_asc q a (by omega) (by omega) _ (by omega) (by omega) (by omega) (by omega) (by omega)]
    exact ih (fun c hc => hL c (by simp [hc]))
theorem okQ_qt (q : UInt8) (hq : q = 34 ∨ q = 39) (r n : Int) (h : okP r) (t : List UInt8) : okQ q false (encZs (qt q.toNat r n) ++ t) = okQ q false t := by
  have hqn : q.toNat = 34 ∨ q.toNat = 39 := by rcases hq with rfl | rfl; exact .inl rfl; exact .inr rfl
  have hq92 : q ≠ 92 := by rcases hq with rfl | rfl <;> decide
  unfold qt
  split
  · rename_i hr
    rw [encZs_cons, encZs_cons, encZs_nil, List.append_nil, List.append_assoc]
    exact okQ_esc q hq92 r (by omega) (by omega) t (by omega) (by omega) (by omega)
  · split
    · rename_i hr
      obtain ⟨hd, _, _⟩ := hexd_ok r (by omega) (by omega)
      obtain ⟨a, u, ea, _, _⟩ := hexd_head r (by omega) (by omega)
      have ha := hd a (by rw [ea]; simp)
      have hu : ∀ c ∈ u, 48 ≤ c ∧ c ≤ 102 ∧ (c ≤ 57 ∨ 97 ≤ c) := fun c hc => by
        have := hd c (by rw [ea]; simp [hc]); exact ⟨this.2.1, this.2.2.1, this.2.2.2.1⟩
      rw [ea]
      simp only [List.cons_append]
      rw [encZs_cons, encZs_cons, List.append_assoc, List.append_assoc, okQ_esc q hq92 a (by omega) (by omega) _ (by omega) (by omega) (by omega), encZs_append, List.append_assoc, okQ_hex q hq u hu]
      split
      · rw [encZs_cons, encZs_nil, List.append_nil]
        exact okQ_asc q 32 (by decide) (by decide) t (by decide) (by decide) (by decide) (by omega) (by decide)
      · rfl
    · rename_i hn1 hn2
      rw [encZs_cons, encZs_nil, List.append_nil]
      by_cases hb : r < 128
      · exact okQ_asc q r (by have := h.2; omega) hb t (by omega) (by omega) (by omega) (by omega) (by omega)
      · exact okQ_big q (by omega) _ t (enc_big r h.1 (by omega))
theorem okQ_qB (q : UInt8) (hq : q = 34 ∨ q = 39) (l : List Int) (h : ∀ r ∈ l, okP r) : okQ q false (encZs (qB q.toNat l)) = true := by
  induction l with
  | nil => rfl
  | cons a l ih =>
    rw [qB, encZs_append, okQ_qt q hq a _ (h a (by simp))]
    exact ih (fun r hr => h r (by simp [hr]))
/-- How many bytes of it are this one. -/
def cntB (q : UInt8) (s : List UInt8) : Nat := (s.filter fun c => c = q).length
theorem cntB_append (q : UInt8) (a b : List UInt8) : cntB q (a ++ b) = cntB q a + cntB q b := by simp [cntB]
theorem cnt_enc (q : UInt8) (hq : q.toNat < 128) (r : Int) (h : isCP r = true) : cntB q (enc r) = if r = q.toNat then 1 else 0 := by
  have hh := (isCP_iff r).1 h
  by_cases hb : r < 128
  · rw [enc_ascii r (by omega) hb]
    by_cases he : r = q.toNat
    · rw [if_pos he]
      have : r.toNat.toUInt8 = q := u8_of q _ (by omega)
      simp [cntB, this]
    · rw [if_neg he]
      have : r.toNat.toUInt8 ≠ q := u8_lit _ _ (by rw [toU8 _ (by omega)]; omega)
      simp [cntB, this]
  · rw [if_neg (by omega)]
    have := enc_big r h (by omega)
    unfold cntB
    rw [List.length_eq_zero_iff, List.filter_eq_nil_iff]
    intro c hc
    have := this c hc
    simp; intro e; rw [e] at this; omega
theorem len_qt (r n : Int) (h : okP r) : (encZs (qt 34 r n)).length + cntB 39 (enc r) = (encZs (qt 39 r n)).length + cntB 34 (enc r) := by
  rw [cnt_enc 39 (by decide) r h.1, cnt_enc 34 (by decide) r h.1]
  show _ + (if r = 39 then 1 else 0) = _ + if r = 34 then 1 else 0
  have e92 : (enc 92).length = 1 := by rw [enc_ascii 92 (by decide) (by decide)]; rfl
  unfold qt
  by_cases h1 : r = 34
  · subst h1
    simp [encZs, e92]
    omega
  · by_cases h2 : r = 39
    · subst h2
      simp [encZs, e92]
      omega
    · by_cases h3 : r = 92
      · subst h3; simp
      · simp [h1, h2, h3]
theorem len_qB (l : List Int) (h : ∀ r ∈ l, okP r) : (encZs (qB 34 l)).length + cntB 39 (encZs l) = (encZs (qB 39 l)).length + cntB 34 (encZs l) := by
  induction l with
  | nil => rfl
  | cons a l ih =>
    have h1 := len_qt a (l.getD 0 0) (h a (by simp))
    have h2 := ih (fun r hr => h r (by simp [hr]))
    rw [qB, qB, encZs_append, encZs_append, encZs_cons, cntB_append, cntB_append, List.length_append, List.length_append]
    omega
theorem encq : enc 34 = [34] ∧ enc 39 = [39] := by
  constructor
  · rw [enc_ascii 34 (by decide) (by decide)]; rfl
  · rw [enc_ascii 39 (by decide) (by decide)]; rfl
theorem qF_bytes (q : UInt8) (hq : q = 34 ∨ q = 39) (l : List Int) : encZs (qF q.toNat l) = q :: (encZs (qB q.toNat l) ++ [q]) := by
  rcases hq with rfl | rfl
  · show encZs (34 :: qB 34 l ++ [34]) = _
    rw [List.cons_append, encZs_cons, encZs_append, encZs_cons, encZs_nil, encq.1]; rfl
  · show encZs (39 :: qB 39 l ++ [39]) = _
    rw [List.cons_append, encZs_cons, encZs_append, encZs_cons, encZs_nil, encq.2]; rfl
/-- What is written between marks. -/
theorem qText_form (l : List Int) (h : ∀ r ∈ l, okP r) : ∃ q B, (q = (34 : UInt8) ∨ q = 39) ∧ qText l = q :: (B ++ [q]) ∧ okQ q false B = true ∧ (q = 34 ↔ cntB 34 (encZs l) ≤ cntB 39 (encZs l)) := by
  have hl := len_qB l h
  have e1 := qF_bytes 34 (.inl rfl) l
  have e2 := qF_bytes 39 (.inr rfl) l
  change encZs (qF 34 l) = 34 :: (encZs (qB 34 l) ++ [34]) at e1
  change encZs (qF 39 l) = 39 :: (encZs (qB 39 l) ++ [39]) at e2
  unfold qText
  rw [e1, e2]
  simp only [List.length_cons, List.length_append, List.length_nil]
  split
  · exact ⟨39, encZs (qB 39 l), .inr rfl, rfl, okQ_qB 39 (.inr rfl) l h, by constructor; intro hh; exact absurd hh (by decide); intro hh; omega⟩
  · exact ⟨34, encZs (qB 34 l), .inl rfl, rfl, okQ_qB 34 (.inl rfl) l h, by constructor; intro _; omega; intro _; rfl⟩
end Go.Proofs.YtkaojigdogeliaaDoor.M
